/-
  The walk of the reference's Release.
-/
import Derived.Test.YtclbaepgodeoiaaRefClaim
namespace Go.Proofs.Ytclbaepgodeoiaa
open Go.RowKit Go.Maps
namespace Sl
variable {w : World} {br : Nat} {q : Int} {a : Option Addr} {cap : Nat} {K : List Int} {W : Int → Int}

def allK (K : List Int) (p n : Int) : Prop := ∀ x, p ≤ x → x < p + n → x ∈ K

theorem RowAt.range {g : Nat} (h : RowAt w g a cap K W) {i : Nat} {N : Int} (hi : K[i]? = some N) : w.rangeAt g (i * 65) (pageArr W N).toList := by
  intro j v hv
  rw [Array.getElem?_toList] at hv
  have hj : j < 65 := by
    have := (Array.getElem?_eq_some_iff.1 hv).1
    rw [pageArr_size] at this
    exact this
  by_cases h0 : j = 0
  · subst h0
    rw [pageArr_zero] at hv
    cases hv
    exact h.num i N hi
  · obtain ⟨m, rfl⟩ : ∃ m, j = 1 + m := ⟨j - 1, by omega⟩
    rw [pageArr_word _ _ _ (by omega)] at hv
    cases hv
    have := h.word i N m hi (by omega)
    rw [Nat.add_assoc] at this
    exact this

theorem wpList_load_page {ops : Array Oper} {rest : List Oper} {ac : Act} {w : World} {Q : Exit → Act → World → Prop} {d : Option Tmp} {ty : TypeId} {ps : String} {af : Array Edge} {x : Operand} (g o : Nat) (W : Int → Int) (N : Int) (hc : w.rangeAt g o (pageArr W N).toList) (hx : ac.eval x = .pointer (some ⟨g, o, none⟩))
    (h : wpList Try.prog ops Q rest (ac.put d (.agg (pageArr W N))) w) : wpList Try.prog ops Q ({ dst := d, op := Op.load 49 x, type := ty, pos := ps, after := af, guard := none } :: rest) ac w := by
  have hi : (Try.prog.info? 49).map (·.size) = some (pageArr W N).toList.length := by
    rw [Array.length_toList, pageArr_size]
    kernel_rfl
  refine wpList_load_mid rfl 49 x rfl g o hx (pageArr W N).toList _ hc Try.underlying49 rfl hi ?_
  rw [Array.toArray_toList]
  exact h

theorem wpList_append_one {ops : Array Oper} {rest : List Oper} {o : Oper} {ac : Act} {Q : Exit → Act → World → Prop} (w : World) (hgd : o.guard = none) (s x : Operand)
    (ho : o.op = .call { callee := .builtin .append, args := #[s, x], argTypes := #[28, 28] })
    (base : Nat) (v : Value) (n : Nat) (xs : List Value) (hs : ac.eval s = v) (hown : w.ownsRow base 49 65 v n xs)
    (cells : Array Value) (hsz : cells.toList.length = 1 * 65) (hone : ∀ u ∈ cells.toList, u.oneCell' = true) (w0 : World) (hw : w = w0.alloc (.cells cells 49)) (hx : ac.eval x = .slice (some ⟨w0.heap.size, 0, none⟩) 1 1) (hb : n + 1 ≤ 100000) (hbase : base ≤ w.heap.size)
    (h : ∀ v' w', w'.ownsRow base 49 65 v' (n + 1) (xs ++ cells.toList) → w.grownBy w' v.ownBlock → wpList Try.prog ops Q rest (ac.put o.dst v') w') :
    wpList Try.prog ops Q (o :: rest) ac w := by
  obtain ⟨i0, hi, hsz2, hby, z, hz, hzs⟩ := info_page
  refine wpList_append_own_at w hgd s x 28 ho base 49 i0 z 65 520 Try.underlying28 hi hz hsz2 hby hzs (by decide) v n xs hs hown ⟨w0.heap.size, 0, none⟩ 1 1 cells.toList hx hsz ?_ hone (by unfold maxLen; omega) (by omega) hbase (fun v' w' r1 r2 _ _ => h v' w' r1 r2)
  intro j u hu
  rw [Go.WideShapes.add_plain, Nat.zero_add, hw, World.cell?_alloc_new, ← Array.getElem?_toList]
  exact hu

/-- Which pages stay. -/
def keepP (p n N : Int) : Bool := decide (N < p ∨ p + n ≤ N)

theorem filter_succ {p n N : Int} {i : Nat} (h : K[i]? = some N) : (K.take (i + 1)).filter (keepP p n) = if keepP p n N = true then (K.take i).filter (keepP p n) ++ [N] else (K.take i).filter (keepP p n) := by
  have hi := (List.getElem?_eq_some_iff.1 h).1
  have he := (List.getElem?_eq_some_iff.1 h).2
  rw [List.take_succ_eq_append_getElem hi, List.filter_append, he]
  cases hk : keepP p n N <;> simp [hk]

theorem filter_len {p n : Int} (i : Nat) : ((K.take i).filter (keepP p n)).length ≤ i := Nat.le_trans (List.length_filter_le _ _) (List.length_take_le _ _)

set_option maxHeartbeats 1500000 in
set_option maxRecDepth 100000 in
theorem rRel_any (h : Ref w br q a cap K W) (p n : Int) (hok : isPageB p = true ∧ isCountB n = true ∧ isPageB (p + n - 1) = true) (K' : List Int) (hK' : K'.Pairwise (fun x y => x < y)) (hmem : ∀ x, x ∈ K' ↔ x ∈ K ∧ ¬ (p ≤ x ∧ x < p + n)) (hl' : K'.length ≤ 4096) :
    Calls Try.prog 27 #[.pointer (some ⟨br, 0, none⟩), .int .i64 p, .int .i64 n] w fun e w' => (e = .returned (.int .i64 5) ∧ ¬ allK K p n ∧ Below w.heap.size w w') ∨ (e = .returned (.int .i64 0) ∧ allK K p n ∧ ∃ a' cap', Ref w' br q a' cap' K' (zr W p n) ∧ RStep br w w' ∧ ∀ k, (Value.slice a' K'.length cap').ownBlock = some k → w.heap.size ≤ k) := by
  obtain ⟨h1, h2, h3⟩ := hok
  simp [isPageB] at h1 h3
  simp [isCountB] at h2
  have hl := h.len
  have HR : Aside (Ref w br q a cap K W) := h
  have HK : Aside (K'.Pairwise (fun x y => x < y) ∧ (∀ x, x ∈ K' ↔ x ∈ K ∧ ¬ (p ≤ x ∧ x < p + n)) ∧ K'.length ≤ 4096) := ⟨hK', hmem, hl'⟩
  clear h hK' hmem hl'
  go_enter Try.func27, Try.ntmps27
  go_wp2
  go_loopg [6, 7] n.toNat (fun gh _ t wx => ∃ i : Int, p ≤ i ∧ i + gh = p + n ∧ t = .int .i64 i ∧ Aside (∀ x, p ≤ x → x < i → x ∈ K) ∧ Below w.heap.size w wx)
  case atStart => exact ⟨p, by omega, by omega, rfl, fun x h1 h2 => by omega, Below.refl _ _⟩
  case round =>
    obtain ⟨i, hi0, hig, rfl, HA, hbel⟩ := hrel
    have hR2 := HR.out.below hbel
    have c0 := hR2.c0
    have c1 := hR2.c1
    by_cases hlt : i < p + n
    · obtain ⟨g, hrow, _⟩ := ref_form hR2
      have hat := rAt_any hrow q i hl
      go_wp2_with fail
      refine hat.mono ?_
      rintro e w2 ⟨(⟨j, rfl, hj⟩ | ⟨rfl, hno⟩), rfl⟩
      · have HJ : Aside (i ∈ K) := List.mem_of_getElem? hj
        clear hj
        go_wp2
        go_roundg (p + n - (i + 1)).toNat
        case measure => omega
        case rel =>
          refine ⟨i + 1, by omega, by omega, by go_num, fun x h1 h2 => ?_, hbel.alloc hbel.size _⟩
          by_cases e : x = i
          · rw [e]; exact HJ.out
          · exact HA.out x h1 (by omega)
      · have HN : Aside _ := hno
        clear hno
        go_wp2
        go_ret
        exact Or.inl ⟨rfl, fun hall => HN.out (hall i hi0 hlt), hbel.alloc hbel.size _⟩
    · obtain rfl : i = p + n := by omega
      go_wp2
      go_loopg [8, 9] K.length (fun gh t8 t9 wx => ∃ j : Nat, j + gh = K.length ∧ t9 = .int .i64 j ∧ wx.ownsRow w.heap.size 49 65 t8 ((K.take j).filter (keepP p n)).length (flat W ((K.take j).filter (keepP p n))) ∧ Below w.heap.size w wx)
      case atStart => exact ⟨0, by omega, rfl, by simpa [flat_nil] using World.ownsRow_nil _ _ _ _, hbel⟩
      case round =>
        obtain ⟨j, hjg, rfl, hown, hbx⟩ := hrel
        clear hbel hR2 c0 c1
        have hRx := HR.out.below hbx
        have c1 := hRx.c1
        have hbrx := hRx.lt
        have hszx := hbx.size
        by_cases hjl : j < K.length
        · obtain ⟨N, hN⟩ := get_lt hjl
          obtain ⟨g, hrow, _⟩ := ref_form hRx
          have hix := hrow.ix j hjl
          have hc := hrow.num j N hN
          have HRG : Aside _ := hrow.range hN
          have HFS : Aside _ := filter_succ (p := p) (n := n) hN
          have hfl := filter_len (K := K) (p := p) (n := n) j
          clear hN hrow
          by_cases hk1 : N < p
          · have HKP : Aside (keepP p n N = true) := by simp [keepP, Aside]; omega
            go_wp2_with (first
              | ((with_reducible apply wpList_load_page); (· exact HRG.out); (· rfl))
              | ((with_reducible refine wpList_one_page (pageArr W N) (pageArr_size _ _) ?_ ?_); · rfl)
              | (at_builtin; refine wpList_append_one _ rfl _ _ rfl w.heap.size _ _ _ rfl (hown.alloc _) (pageArr W N) (page_len _ _) (page_one _ _) wr rfl rfl (by omega) (by simp; omega) ?_; intro v2 w4 hown2 hgrow2))
            go_roundg (K.length - (j + 1))
            case measure => omega
            case rel =>
              refine ⟨j + 1, by omega, by go_num, ?_, (hbx.alloc hszx _).grown hgrow2 (by simp; omega) (fun k hk => (hown.lt k hk).1)⟩
              rw [HFS.out, if_pos HKP.out, flat_append, flat_one, List.length_append]
              exact hown2
          · by_cases hk2 : p + n ≤ N
            · have HKP : Aside (keepP p n N = true) := by simp [keepP, Aside]; omega
              go_wp2_with (first
                | ((with_reducible apply wpList_load_page); (· exact HRG.out); (· rfl))
                | ((with_reducible refine wpList_one_page (pageArr W N) (pageArr_size _ _) ?_ ?_); · rfl)
                | (at_builtin; refine wpList_append_one _ rfl _ _ rfl w.heap.size _ _ _ rfl (hown.alloc _) (pageArr W N) (page_len _ _) (page_one _ _) wr rfl rfl (by omega) (by simp; omega) ?_; intro v2 w4 hown2 hgrow2))
              go_roundg (K.length - (j + 1))
              case measure => omega
              case rel =>
                refine ⟨j + 1, by omega, by go_num, ?_, (hbx.alloc hszx _).grown hgrow2 (by simp; omega) (fun k hk => (hown.lt k hk).1)⟩
                rw [HFS.out, if_pos HKP.out, flat_append, flat_one, List.length_append]
                exact hown2
            · have HKP : Aside (keepP p n N = false) := by simp [keepP, Aside]; omega
              go_wp2
              go_roundg (K.length - (j + 1))
              case measure => omega
              case rel =>
                refine ⟨j + 1, by omega, by go_num, ?_, hbx⟩
                rw [HFS.out, if_neg (by rw [HKP.out]; decide)]
                exact hown
        · have hKK : (K.take j).filter (keepP p n) = K' := by
            rw [List.take_of_length_le (by omega)]
            refine rise_ext (HR.out.rise.sublist List.filter_sublist) HK.out.1 (fun x => ?_)
            rw [List.mem_filter, HK.out.2.1 x]
            simp [keepP]
            intro _
            omega
          rw [hKK] at hown
          obtain ⟨a2, cap2, hv2⟩ := row_form hown
          rw [hv2] at hown ⊢
          have hzr : flat W K' = flat (zr W p n) K' := flat_congr fun N hN m hm => by
            have := ((HK.out.2.1 N).1 hN).2
            simp only [zr]
            rw [if_neg (by omega)]
          rw [hzr] at hown
          have hfz := hRx.fz
          obtain ⟨a', cap', hv', hRef, hRS⟩ := HR.out.store hbx hown (fun k hk => (hown.lt k hk).1) HK.out.2.2 HK.out.1
          have HFIN : Aside (∃ a' cap', Ref (wr.setCell ⟨br, 1, none⟩ (.slice a2 K'.length cap2)) br q a' cap' K' (zr W p n) ∧ RStep br w (wr.setCell ⟨br, 1, none⟩ (.slice a2 K'.length cap2)) ∧ ∀ k, (Value.slice a' K'.length cap').ownBlock = some k → w.heap.size ≤ k) := ⟨a', cap', hRef, hRS, fun k hk => by rw [← hv'] at hk; exact (hown.lt k hk).1⟩
          clear hRef hRS hown hv2 hzr hKK hv'
          go_wp2
          go_ret
          exact Or.inr ⟨rfl, fun x h1 h2 => HA.out x h1 h2, HFIN.out⟩

theorem rRel_arg (h : Ref w br q a cap K W) (p n : Int) (hp : (Lit.int .i64 p).wf = true) (hno : ¬ (isPageB p = true ∧ isCountB n = true ∧ isPageB (p + n - 1) = true)) :
    Calls Try.prog 27 #[.pointer (some ⟨br, 0, none⟩), .int .i64 p, .int .i64 n] w fun e w' => e = .returned (.int .i64 2) ∧ w = w' := by
  have _h := h.len
  have hb := Go.bounds_i64 hp
  simp [isPageB, isCountB] at hno
  by_cases h1 : n < 1
  · go_enter Try.func27, Try.ntmps27
    go_wp2
    go_ret
    exact ⟨rfl, rfl⟩
  by_cases h2 : 4096 < n
  · go_enter Try.func27, Try.ntmps27
    go_wp2
    go_ret
    exact ⟨rfl, rfl⟩
  by_cases h3 : p < 0
  · go_enter Try.func27, Try.ntmps27
    go_wp2
    go_ret
    exact ⟨rfl, rfl⟩
  have h4 : 1048576 - n < p := by omega
  go_enter Try.func27, Try.ntmps27
  go_wp2
  go_ret
  exact ⟨rfl, rfl⟩

end Sl
end Go.Proofs.Ytclbaepgodeoiaa
