/-
  The walk of the reference's Move.
-/
import Derived.Test.YtclbaepgodeoiaaRefWrite
namespace Go.Proofs.Ytclbaepgodeoiaa
open Go.RowKit Go.Maps
namespace Sl
variable {w : World} {br : Nat} {q : Int} {a : Option Addr} {cap : Nat} {K : List Int} {W : Int → Int}

def wordVals (F : Nat → Int) (n : Nat) : List Value := (List.range n).map fun j : Nat => .int .u64 (F j)
theorem wordVals_succ (F : Nat → Int) (n : Nat) : wordVals F (n + 1) = wordVals F n ++ [.int .u64 (F n)] := by simp [wordVals, List.range_succ]

theorem run_ixw (g len cap : Nat) (i : Nat) (hi : i < len) (w' : World) : (Instr.indexAt 62 (.slice (some ⟨g, 0, none⟩) len cap) (.int .i64 (i : Int))).run Try.prog w' = .ok (.pointer (some ⟨g, i, none⟩)) w' := by
  have hel : Try.prog.elem 62 = 35 := by kernel_rfl
  have hsz : (sizeOf 35).run Try.prog w' = .ok 1 w' := by kernel_rfl
  have hu : Try.prog.underlying 62 = some (.slice (Try.prog.elem 62)) := by kernel_rfl
  rw [run_indexAt_slice w' 62 _ len cap .i64 i hu, if_pos (by omega), hel, hsz]
  simp only [Result.andThen_ok, Int.toNat_natCast, Nat.mul_one]
  rw [Go.WideShapes.add_plain, Nat.zero_add]

/-- A slice of n words, in a block from B on. -/
structure WordsAt (w : World) (B : Nat) (a : Option Addr) (cap n : Nat) (F : Nat → Int) : Prop where
  ix : ∀ i : Nat, i < n → ∃ g, B ≤ g ∧ g < w.heap.size ∧ (∀ w', (Instr.indexAt 62 (.slice a n cap) (.int .i64 (i : Int))).run Try.prog w' = .ok (.pointer (some ⟨g, i, none⟩)) w') ∧ w.cell? ⟨g, i, none⟩ = some (.int .u64 (F i))

theorem words_of_row {B n : Nat} {v : Value} {F : Nat → Int} (h : w.ownsRow B 35 1 v n (wordVals F n)) : ∃ a cap, v = .slice a n cap ∧ WordsAt w B a cap n F := by
  rcases h.2 with ⟨hv, h0⟩ | ⟨g, cap, cur, hv, hbase, hbk, h1, h2, h3, h4⟩
  · exact ⟨none, 0, by rw [hv, h0], ⟨fun i hi => by omega⟩⟩
  · refine ⟨some ⟨g, 0, none⟩, cap, hv, ⟨fun i hi => ⟨g, hbase, lt_of_get hbk, fun w' => run_ixw g _ _ i hi w', ?_⟩⟩⟩
    have h5 : (cur.toList.take (n * 1))[i]? = some (.int .u64 (F i)) := by
      rw [h4]
      simp [wordVals, hi]
    rw [List.getElem?_take_of_lt (by omega)] at h5
    simp only [World.cell?, hbk]
    simpa using h5

theorem row_stays {w' : World} {base n size : Nat} {e : TypeId} {v : Value} {xs : List Value} (h : w.ownsRow base e size v n xs) (hb : Below w.heap.size w w') : w'.ownsRow base e size v n xs :=
  ⟨h.1, h.2.imp id fun ⟨g, c, cur, h1, h2, h3, r⟩ => ⟨g, c, cur, h1, h2, (hb.block g (lt_of_get h3)).trans h3, r⟩⟩

theorem WordsAt.rstep {w' : World} {B n : Nat} {F : Nat → Int} (h : WordsAt w B a cap n F) (hs : RStep br w w') (hb : br < B) : WordsAt w' B a cap n F := ⟨fun i hi => by
  obtain ⟨g, h1, h2, h3, h4⟩ := h.ix i hi
  refine ⟨g, h1, Nat.lt_of_lt_of_le h2 hs.size, h3, ?_⟩
  have e := hs.kept g h2 (by omega)
  simp only [World.cell?] at h4 ⊢
  rw [e]
  exact h4⟩

theorem laid_succ (W : Int → Int) (to : Int) (F : Nat → Int) (i : Nat) : upd (laid W to F i) (to + i) (F i) = laid W to F (i + 1) := by
  funext x
  simp only [upd, laid]
  by_cases e : x = to + i
  · subst e
    rw [if_pos rfl, if_pos (by omega), show (to + (i : Int) - to).toNat = i from by omega]
  · rw [if_neg e]
    by_cases h : to ≤ x ∧ x < to + i
    · rw [if_pos h, if_pos (by omega)]
    · rw [if_neg h, if_neg (by omega)]

theorem rMove_arg (to fr n : Int) (w : World) (hno : ¬ (isSpanB to n = true ∧ isSpanB fr n = true)) (v : Value) :
    Calls Try.prog 30 #[v, .int .i64 to, .int .i64 fr, .int .i64 n] w fun e w' => e = .returned (.int .i64 2) ∧ w = w' := by
  simp [isSpanB] at hno
  by_cases h1 : n < 0
  · clear hno; go_enter Try.func30, Try.ntmps30; go_wp2; go_ret; exact ⟨rfl, rfl⟩
  by_cases h2 : 262144 < n
  · clear hno; go_enter Try.func30, Try.ntmps30; go_wp2; go_ret; exact ⟨rfl, rfl⟩
  by_cases h3 : to < 0
  · clear hno; go_enter Try.func30, Try.ntmps30; go_wp2; go_ret; exact ⟨rfl, rfl⟩
  by_cases h4 : fr < 0
  · clear hno; go_enter Try.func30, Try.ntmps30; go_wp2; go_ret; exact ⟨rfl, rfl⟩
  by_cases h5 : 67108864 ≤ to
  · clear hno; go_enter Try.func30, Try.ntmps30; go_wp2; go_ret; exact ⟨rfl, rfl⟩
  by_cases h6 : 67108864 ≤ fr
  · clear hno; go_enter Try.func30, Try.ntmps30; go_wp2; go_ret; exact ⟨rfl, rfl⟩
  by_cases h7 : 67108864 - n < to
  · clear hno; go_enter Try.func30, Try.ntmps30; go_wp2; go_ret; exact ⟨rfl, rfl⟩
  have h8 : 67108864 - n < fr := by omega
  clear hno; go_enter Try.func30, Try.ntmps30; go_wp2; go_ret; exact ⟨rfl, rfl⟩

set_option maxHeartbeats 1500000 in
set_option maxRecDepth 100000 in
theorem rMove_any (h : Ref w br q a cap K W) (to fr n : Int) (h1 : isSpanB to n = true) (h2 : isSpanB fr n = true) :
    Calls Try.prog 30 #[.pointer (some ⟨br, 0, none⟩), .int .i64 to, .int .i64 fr, .int .i64 n] w fun e w' => (e = .returned (.int .i64 5) ∧ (∃ j : Int, 0 ≤ j ∧ j < n ∧ (rdE K (fr + j) ≠ 0 ∨ rdE K (to + j) ≠ 0)) ∧ Below w.heap.size w w') ∨ (e = .returned (.int .i64 0) ∧ (∀ j : Int, 0 ≤ j → j < n → rdE K (fr + j) = 0 ∧ rdE K (to + j) = 0) ∧ ∃ a' cap', Ref w' br q a' cap' K (mv W to fr n) ∧ RStep br w w' ∧ ∀ k, (Value.slice a' K.length cap').ownBlock = some k → w.heap.size ≤ k ∨ (Value.slice a K.length cap).ownBlock = some k) := by
  have b1 : 0 ≤ to ∧ to < 67108864 ∧ 0 ≤ n ∧ n ≤ 262144 ∧ to + n ≤ 67108864 := by simpa [isSpanB] using h1
  have b2 : 0 ≤ fr ∧ fr < 67108864 ∧ 0 ≤ n ∧ n ≤ 262144 ∧ fr + n ≤ 67108864 := by simpa [isSpanB] using h2
  have hl := h.len
  have hi : (Try.prog.info? 35).map (fun i => (i.zero, i.size, i.bytes)) = some (some (.int .u64 0), 1, 8) := by kernel_rfl
  obtain ⟨i0, hi1, hz0, hz1, hz2⟩ := info_parts hi
  have HI : Aside (Try.prog.info? 35 = some i0 ∧ i0.zero = some (.int .u64 0) ∧ i0.size = 1 ∧ i0.bytes = 8) := ⟨hi1, hz0, hz1, hz2⟩
  have HR : Aside (Ref w br q a cap K W) := h
  clear h h1 h2 hi hi1 hz0 hz1 hz2
  go_enter Try.func30, Try.ntmps30
  go_wp2
  go_loopg [8, 9, 10, 11, 12, 13, 14] n.toNat (fun gh _ t9 t10 _ _ _ _ wx => ∃ i : Nat, (i : Int) + gh = n ∧ t10 = .int .i64 i ∧ wx.ownsRow w.heap.size 35 1 t9 i (wordVals (fun j : Nat => W (fr + j)) i) ∧ Aside (∀ j : Nat, j < i → rdE K (fr + j) = 0 ∧ rdE K (to + j) = 0) ∧ Below w.heap.size w wx)
  case atStart => exact ⟨0, by omega, rfl, by simpa [wordVals] using World.ownsRow_nil _ w.heap.size 35 1, fun j hj => by omega, Below.refl _ _⟩
  case round =>
    obtain ⟨i, hig, rfl, hown, HA, hbel⟩ := hrel
    by_cases hlt : (i : Int) < n
    · have hRx := HR.out.below hbel
      have c0 := hRx.c0
      have c1 := hRx.c1
      have hbrx := hRx.lt
      obtain ⟨g, hrow, _⟩ := ref_form hRx
      have hrd1 := rRead_any hrow q (fr + i) hl
      have HRW : Aside _ := hrow
      have hszx := hbel.size
      clear hRx hrow
      by_cases e1 : rdE K (fr + i) = 0
      · have HV : Hid (rdV K W (fr + i) = W (fr + i)) := by simp [rdV, e1, Hid]
        rw [e1, HV.out] at hrd1
        go_wp2_with fail
        refine hrd1.mono ?_
        rintro e w2 ⟨rfl, hb2⟩
        have hb2' : Below w.heap.size w w2 := hbel.trans (hb2.mono hszx)
        have hR2 := HR.out.below hb2'
        have d0 := hR2.c0
        have d1 := hR2.c1
        have hrd2 := rRead_any (HRW.out.stays hb2 HRW.out.lt) q (to + i) hl
        have hsz2 := hb2'.size
        have hown2 : w2.ownsRow w.heap.size 35 1 u9 i (wordVals (fun j : Nat => W (fr + j)) i) := row_stays hown hb2
        clear hR2 c0 c1 hrd1
        by_cases e2 : rdE K (to + i) = 0
        · rw [e2] at hrd2
          go_wp2_with fail
          refine hrd2.mono ?_
          rintro e w3 ⟨rfl, hb3⟩
          have hb3' : Below w.heap.size w w3 := hb2'.trans (hb3.mono hsz2)
          have hown3 : w3.ownsRow w.heap.size 35 1 u9 i (wordVals (fun j : Nat => W (fr + j)) i) := row_stays hown2 hb3
          have hsz3 := hb3'.size
          obtain ⟨hi1, hz0, hz1, hz2⟩ := HI.out
          have HE : Aside _ := And.intro e1 e2
          clear hrd2 e1 e2 d0 d1
          go_wp2_with (at_builtin; refine wpList_append_own _ rfl _ _ 62 rfl w.heap.size 35 i0 (.int .u64 0) 1 8 Try.underlying62 hi1 hz0 hz1 hz2 rfl (by decide) _ _ _ rfl (hown3.alloc _) ⟨w3.heap.size, 0, none⟩ 1 1 [.int .u64 (W (fr + i))] rfl rfl (cell_one_new _ _ _) (ints_oneCell .u64 [W (fr + i)]) (by unfold maxLen; omega) (by omega) (by simp; omega) ?_; intro v' w5 hown' hgrow hnil)
          go_roundg (n - (i + 1)).toNat
          case measure => omega
          case rel =>
            have hb5 : Below w.heap.size w w5 := (hb3'.alloc (by omega) _).grown hgrow (by simp; omega) (fun k hk => (hown3.lt k hk).1)
            refine ⟨i + 1, by omega, by go_num, by rw [wordVals_succ]; exact hown', fun j hj => ?_, hb5⟩
            by_cases ej : j = i
            · rw [ej]; exact HE.out
            · exact HA.out j (by omega)
        · have hd : (rdE K (to + i) != 0) = true := by simpa using e2
          have HE : Aside _ := e2
          clear e2
          go_wp2_with fail
          refine hrd2.mono ?_
          rintro e w3 ⟨rfl, hb3⟩
          go_wp2
          go_ret
          exact Or.inl ⟨rfl, ⟨i, by omega, hlt, Or.inr HE.out⟩, hb2'.trans (hb3.mono hsz2)⟩
      · have hd : (rdE K (fr + i) != 0) = true := by simpa using e1
        have HE : Aside _ := e1
        clear e1
        go_wp2_with fail
        refine hrd1.mono ?_
        rintro e w2 ⟨rfl, hb2⟩
        have hb2' : Below w.heap.size w w2 := hbel.trans (hb2.mono hszx)
        have hR2 := HR.out.below hb2'
        have d0 := hR2.c0
        have d1 := hR2.c1
        have hrd2 := rRead_any (HRW.out.stays hb2 HRW.out.lt) q (to + i) hl
        clear hR2 c0 c1 hrd1
        go_wp2_with fail
        refine hrd2.mono ?_
        rintro e w3 ⟨rfl, hb3⟩
        go_wp2
        go_ret
        exact Or.inl ⟨rfl, ⟨i, by omega, hlt, Or.inl HE.out⟩, hb2'.trans (hb3.mono hb2'.size)⟩
    · obtain ⟨av, capv, hv, hwd⟩ := words_of_row hown
      rw [hv]
      have HWD : Aside _ := hwd
      have hbr := HR.out.lt
      have HRx : Aside _ := HR.out.below hbel
      clear hown hv hwd
      go_wp2
      go_loopg [15] n.toNat (fun gh t wx => ∃ (k : Nat) (a' : Option Addr) (cap' : Nat), (k : Int) + gh = n ∧ t = .int .i64 k ∧ Ref wx br q a' cap' K (laid W to (fun j : Nat => W (fr + j)) k) ∧ RStep br w wx ∧ Aside (WordsAt wx w.heap.size av capv i (fun j : Nat => W (fr + j))) ∧ Aside (∀ b, (Value.slice a' K.length cap').ownBlock = some b → w.heap.size ≤ b ∨ (Value.slice a K.length cap).ownBlock = some b))
      case atStart => exact ⟨0, a, cap, by omega, rfl, by rw [laid_zero]; exact HRx.out, RStep.of_below hbel, HWD.out, fun b hb => Or.inr hb⟩
      case round =>
        clear HRx HWD hbel
        obtain ⟨k, a', cap', hkg, rfl, hRef, hRS, HWD, HOB⟩ := hrel
        by_cases hkl : (k : Int) < n
        · obtain ⟨g, hg0, hg1, hix, hcl⟩ := HWD.out.ix k (by omega)
          have hwr := rWrite_ok hRef (to + k) (W (fr + k)) ((HA.out k (by omega)).2)
          rw [laid_succ] at hwr
          have HRS : Aside _ := hRS
          have hszr := hRS.size
          clear hRef hRS
          go_wp2_with fail
          refine hwr.mono ?_
          rintro e w5 ⟨rfl, a5, cap5, hRef5, hRS5, hob5⟩
          have H5 : Aside _ := And.intro hRef5 (And.intro hRS5 hob5)
          clear hRef5 hRS5 hob5
          go_wp2
          go_roundg (n - (k + 1)).toNat
          case measure => omega
          case rel =>
            obtain ⟨r1, r2, r3⟩ := H5.out
            exact ⟨k + 1, a5, cap5, by omega, by go_num, r1, HRS.out.trans r2, HWD.out.rstep r2 hbr, fun b hb => Or.inl (by have := r3 b hb; omega)⟩
        · have hk : k = n.toNat := by omega
          have HRef : Aside (Ref wr br q a' cap' K (mv W to fr n)) := by
            rw [← laid_mv _ _ _ _ b1.2.2.1, ← hk]
            exact hRef
          have HRS : Aside _ := hRS
          clear hRef hRS
          go_wp2
          go_ret
          exact Or.inr ⟨rfl, fun j h1 h2 => by have := HA.out j.toNat (by omega); rw [show ((j.toNat : Nat) : Int) = j from by omega] at this; exact this, a', cap', HRef.out, HRS.out, HOB.out⟩

end Sl
end Go.Proofs.Ytclbaepgodeoiaa
