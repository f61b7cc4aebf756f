/-
  loftref06: Put.
-/
import Derived.Test.YtlmfojkhfipdnaaGreatDoorR1
import Derived.Test.YtlmfojkhfipdnaaGreatDoorD1
import Derived.Deep.RegionHeld3
import Derived.Deep.QuietTactic
namespace Go.Proofs.YtlmfojkhfipdnaaGreatDoor
open Go.RowKit Go.Maps
attribute [local go_sem ↓] Go.wp_at_zero Go.wp_at_succ
namespace Rs
open Hp (Kept K No entsR K.grownR)
open Hd (atL own_set)
variable {u0 : World × Nat} {w w' : World} {br : Nat} {q m z : Int} {E E' : List Hp.Re} {R R' : List Hd.Sl} {C C' : List Rc} {a : Option Addr} {cap : Nat}

theorem oper_appendW {P : Program} {o : Oper} {a : Act} {w w' : World} {K : Act → World → Prop} {Q : Exit → Act → World → Prop} {s x : Operand} {t : TypeId} {ops2 : Array Oper} (hg : o.guard = none) (hop : o.op = Op.call { callee := Callee.builtin Builtin.append, args := #[s, x], argTypes := #[t, t] })
    {v u v' : Value} (hs : a.eval s = v) (hx : a.eval x = u) (hrun : (Builtin.append_ #[t, t] o.type #[v, u]).run P w = .ok v' w') (hK : K (a.put o.dst v') w') : if Region.wanted o (yielded ops2 a.tmps) = true then Oper.wp P o a w K Q else K (a.put o.dst undef) w := by
  rw [if_pos (by simp [Region.wanted, hg])]
  unfold Oper.wp execOp
  simp only [hop, resolve, invoke, builtin, Sem.run_bind, Sem.run_pure, Result.andThen_ok, List.map_toArray, List.map_cons, List.map_nil, hs, hx, hrun]
  exact hK

theorem src_all {g : Nat} (h : ∀ (j : Nat) (u : Value), (recVals C)[j]? = some u → w.cell? ⟨g, j, none⟩ = some u) (ha : a = some ⟨g, 0, none⟩ ∨ (a = none ∧ C.length = 0 ∧ cap = 0)) : SrcR w a C.length (recVals C) := by
  have := src_lo h ha C.length (Nat.le_refl _)
  rwa [List.take_length] at this

theorem rform {base n sz : Nat} {t : TypeId} {v : Value} {xs : List Value} (h : w.ownsRow base t sz v n xs) (h0 : 0 < n) : ∃ g cp, v = .slice (some ⟨g, 0, none⟩) n cp ∧ base ≤ g ∧ (∀ j u, xs[j]? = some u → w.cell? ⟨g, j, none⟩ = some u) ∧ (∀ j, w.frozen? ⟨g, j, none⟩ = false) ∧ ∃ cs, w.heap[g]? = some (.cells cs t) := by
  rcases h.2 with ⟨_, e⟩ | ⟨g, cp, cur, e, hb, hg, h1, h2, h4, h5⟩
  · omega
  · subst e
    refine ⟨g, cp, rfl, hb, fun j u hu => ?_, fun j => by simp [World.frozen?, hg], _, hg⟩
    have := h.cells (g := g) rfl j u hu
    rw [Go.WideShapes.add_plain, Nat.zero_add] at this
    exact this

/-- Its records are stored anew, and blocks that are new turn. -/
theorem Sr.turn {v : Value} {base : Nat} (h : Sr u0 w br q m z E R C) (st : Kept (fun j => j = br) w w') {x0 x1 x2 x3 x4 x5 : Value} {t : TypeId} (h0 : w.heap[br]? = some (.cells #[x0, x1, x2, x3, x4, x5] t)) (hbr : w'.heap[br]? = some (.cells #[x0, x1, x2, x3, x4, v] t)) (hrow : w'.ownsRow base 108 2 v C'.length (recVals C')) (hw : ∀ (i : Nat) r, C'[i]? = some r → Wd w' r) (few : C'.length ≤ 65536) :
    Sr u0 w' br q m z E R C' := by
  obtain ⟨a1, c1, v2, a3, c3, h1, h2, h3⟩ := h.ex
  obtain ⟨a', cap', rfl⟩ := row_formR hrow
  have e := h1.s0
  rw [h0] at e
  injection e with e
  injection e with e1 e2
  subst e2
  simp only [Array.mk.injEq, List.cons.injEq, and_true] at e1
  obtain ⟨rfl, rfl, rfl, rfl, rfl, rfl⟩ := e1
  have off : ∀ (t : TypeId), t ≠ 37 → ∀ j cs, w.heap[j]? = some (.cells cs t) → ¬ (j = br) := fun t ht j cs hj e => by
    subst e
    exact ht (kind_ne hj h1.s0)
  exact ⟨⟨a1, c1, x4, a', cap', ⟨hbr, own_kept h1.row st (off _ (by decide))⟩, ⟨hbr, own_kept h2.row st (off _ (by decide)), h2.ap, h2.wf, h2.lo⟩, hrow.1, hrow.2.imp id fun ⟨g, c, cur, h1, _, r⟩ => ⟨g, c, cur, h1, Nat.zero_le _, r⟩⟩, hw, h.eo, few, h.fr.at st h1.s0 h2.lo⟩

/-- The struct at V, its row of records anew; what has turned since w. -/
abbrev Hh (w V : World) (br g cp n : Nat) (x0 x1 x2 x3 x4 : Value) : Prop := V.heap[br]? = some (.cells #[x0, x1, x2, x3, x4, .slice (some ⟨g, 0, none⟩) n cp] 37) ∧ Kept (fun j => j = br) w V

theorem rec_set : ∀ {C : List Rc} {i : Nat} {r r' : Rc}, C[i]? = some r → r'.h = r.h → (recVals C).set (i * 2 + 1) r'.v = recVals (C.set i r')
  | [], _, _, _, h, _ => by simp at h
  | u :: T, 0, r, r', h, e => by
    obtain rfl : u = r := by simpa using h
    show (recL u ++ recVals T).set 1 r'.v = recL r' ++ recVals T
    simp [recL, e]
  | u :: T, i + 1, r, r', h, e => by
    have ih := rec_set (C := T) (i := i) (r := r) (r' := r') (by simpa using h) e
    show (recL u ++ recVals T).set ((i + 1) * 2 + 1) r'.v = recL u ++ recVals (T.set i r')
    rw [← ih, show (i + 1) * 2 + 1 = (recL u).length + (i * 2 + 1) by simp [recL]; omega, List.set_append_right _ _ (by omega), Nat.add_sub_cancel_left]

theorem info_u64 : ∃ i0, Tryz.prog.info? 41 = some i0 ∧ i0.size = 1 ∧ i0.bytes = 8 ∧ ∃ z, i0.zero = some z ∧ z.cells.size = 1 := by
  have hi : (Tryz.prog.info? 41).map (fun i => (i.zero.map (fun z => z.cells.size), i.size, i.bytes)) = some (some 1, 1, 8) := by kernel_rfl
  obtain ⟨i0, h1, h2⟩ := Option.map_eq_some_iff.1 hi
  simp only [Prod.mk.injEq] at h2
  obtain ⟨h3, h4, h5⟩ := h2
  obtain ⟨z, h6, h7⟩ := Option.map_eq_some_iff.1 h3
  exact ⟨i0, h1, h4, h5, z, h6, h7⟩

theorem frz {w : World} {g : Nat} {cs : Array Value} {t : TypeId} (h : w.heap[g]? = some (.cells cs t)) (j : Nat) : w.frozen? ⟨g, j, none⟩ = false := by simp [World.frozen?, h]

/-- What the store of a word comes to: the records' row is of the call's own (from g5 on), the words are copied, a word is laid anew. -/
theorem put_end {w2 w6 : World} {g5 cp5 i kn : Nat} {r : Rc} {x0 x1 x2 x3 x4 x5 : Value} (S2 : Sr u0 w2 br q m z E R C) (B2 : w2.heap[br]? = some (.cells #[x0, x1, x2, x3, x4, x5] 37)) (H6 : Hh w2 w6 br g5 cp5 C.length x0 x1 x2 x3 x4) (O6 : w6.ownsRow w2.heap.size 108 2 (.slice (some ⟨g5, 0, none⟩) C.length cp5) C.length (recVals C)) (hri : C[i]? = some r) (hk : kn < r.ws.length) (hwl : r.ws.length ≤ 100000) {y : Int} (hy : 0 ≤ y ∧ y ≤ 18446744073709551615) :
    ∃ b c g8 cp8 w8, (∀ V, K w6 V → V.cell? ⟨g5, i * 2 + 1, none⟩ = some (.slice (some ⟨b, 0, none⟩) r.ws.length c)) ∧
      (Builtin.append_ #[87, 87] 87 #[.slice (some ⟨w6.heap.size, 0, none⟩) 0 0, .slice (some ⟨b, 0, none⟩) r.ws.length c]).run Tryz.prog (w6.drew.alloc (.cells #[] 41)) = .ok (.slice (some ⟨g8, 0, none⟩) r.ws.length cp8) w8 ∧
      K w6 w8 ∧ w8.frozen? ⟨g5, i * 2 + 1, none⟩ = false ∧ Hh w2 (w8.setCell ⟨g5, i * 2 + 1, none⟩ (.slice (some ⟨g8, 0, none⟩) r.ws.length cp8)) br g5 cp5 C.length x0 x1 x2 x3 x4 ∧
      (w8.setCell ⟨g5, i * 2 + 1, none⟩ (.slice (some ⟨g8, 0, none⟩) r.ws.length cp8)).cell? ⟨g5, i * 2 + 1, none⟩ = some (.slice (some ⟨g8, 0, none⟩) r.ws.length cp8) ∧
      (∃ u, (w8.setCell ⟨g5, i * 2 + 1, none⟩ (.slice (some ⟨g8, 0, none⟩) r.ws.length cp8)).cell? ⟨g8, kn, none⟩ = some u) ∧
      (w8.setCell ⟨g5, i * 2 + 1, none⟩ (.slice (some ⟨g8, 0, none⟩) r.ws.length cp8)).frozen? ⟨g8, kn, none⟩ = false ∧
      Sr u0 ((w8.setCell ⟨g5, i * 2 + 1, none⟩ (.slice (some ⟨g8, 0, none⟩) r.ws.length cp8)).setCell ⟨g8, kn, none⟩ (.int .u64 y)) br q m z E R (C.set i ⟨r.h, .slice (some ⟨g8, 0, none⟩) r.ws.length cp8, r.ws.set kn y⟩) := by
  have hi := (List.getElem?_eq_some_iff.1 hri).1
  have hbr2 : br < w2.heap.size := (Array.getElem?_eq_some_iff.1 B2).1
  have off : ∀ {V : World}, V.heap[br]? = some (.cells #[x0, x1, x2, x3, x4, x5] 37) → ∀ (t : TypeId), t ≠ 37 → ∀ j cs, V.heap[j]? = some (.cells cs t) → ¬ (j = br) := fun hb t ht j cs hj e => by
    subst e
    exact ht (kind_ne hj hb)
  obtain ⟨g5', cp5', hv5, hg5, hc5, _, cs5, hb5⟩ := rform O6 (by omega)
  injection hv5 with e1 e2 e3
  injection e1 with e1
  injection e1 with e1
  subst e1 e3
  -- the words of the record
  have hWd : Wd w6 r := (S2.ws i r hri).kept H6.2 (off B2 41 (by decide))
  obtain ⟨ad, b, c, ev, src, hkd⟩ := hWd
  obtain ⟨rfl, csb, hbb⟩ := hkd (by omega)
  have cell5 : w6.cell? ⟨g5, i * 2 + 1, none⟩ = some (.slice (some ⟨b, 0, none⟩) r.ws.length c) := by
    rw [← ev]
    exact hc5 _ _ (rec_at hri).2
  -- the copy
  have kA : K w6 (w6.drew.alloc (.cells #[] 41)) := ((K.refl w6).drew).alloc _
  have own0 : (w6.drew.alloc (.cells #[] 41)).ownsRow w6.heap.size 41 1 (.slice (some ⟨w6.heap.size, 0, none⟩) 0 0) 0 [] := World.ownsRow_lit (base := w6.heap.size) (e := 41) (size := 1) w6.drew #[] 0 (Nat.le_refl _) (by simp [maxLen]) rfl
  obtain ⟨i0, hi0, hsz, hby, z0, hz0, hzs⟩ := info_u64
  obtain ⟨v8, w8, hrun, own8, grow8, _, loc8⟩ := run_append_own_at (P := Tryz.prog) (w := w6.drew.alloc (.cells #[] 41)) w6.heap.size 87 87 41 i0 z0 1 8 Tryz.underlying87 hi0 hz0 hsz hby hzs (by decide) _ 0 [] own0 ⟨b, 0, none⟩ r.ws.length c (r.ws.map fun x => .int .u64 x) (by simp) (fun j u hu => by
      rw [List.getElem?_map] at hu
      obtain ⟨x, hx, rfl⟩ := Option.map_eq_some_iff.1 hu
      have := kA.cell (src.cell j x hx)
      rw [Nat.zero_add] at this
      rw [Go.WideShapes.add_plain, Nat.zero_add]
      exact this) (fun u hu => by
      obtain ⟨x, _, rfl⟩ := List.mem_map.1 hu
      rfl) (by unfold maxLen; omega) (by omega) (by show _ ≤ (w6.drew.alloc _).heap.size; exact Kept.size (w := w6) (w' := w6.drew.alloc (.cells #[] 41)) kA)
  rw [Nat.zero_add, List.nil_append] at own8
  have k8 : K w6 w8 := K.grownR kA grow8 (fun j hj => by cases hj; exact Nat.le_refl _)
  obtain ⟨g8, cp8, rfl, hg8, hc8, hz8, cs8, hb8⟩ := rform own8 (by omega)
  have lt5 : g5 < w6.heap.size := (Array.getElem?_eq_some_iff.1 hb5).1
  have hne : g8 ≠ g5 := by omega
  have b6 := H6.1
  have b8 : w8.heap[br]? = _ := k8.block b6
  have b9 : (w8.setCell ⟨g5, i * 2 + 1, none⟩ (.slice (some ⟨g8, 0, none⟩) r.ws.length cp8)).heap[br]? = _ := (Below.heap_setCell w8 ⟨g5, i * 2 + 1, none⟩ _ br (by show br ≠ g5; omega)).trans b8
  have st8 : Kept (fun j => j = br) w2 w8 := H6.2.trans (K.kept k8 _)
  have st9 : Kept (fun j => j = br) w2 (w8.setCell ⟨g5, i * 2 + 1, none⟩ (.slice (some ⟨g8, 0, none⟩) r.ws.length cp8)) := Kept.setCell st8 _ (.inr hg5)
  have lt2 : w2.heap.size ≤ w6.heap.size := Kept.size (w := w2) (w' := w6) H6.2
  have st10 : Kept (fun j => j = br) w2 ((w8.setCell ⟨g5, i * 2 + 1, none⟩ (.slice (some ⟨g8, 0, none⟩) r.ws.length cp8)).setCell ⟨g8, kn, none⟩ (.int .u64 y)) := Kept.setCell st9 _ (.inr (by show w2.heap.size ≤ g8; omega))
  have own9 := own_set (i := i * 2 + 1) (u := .slice (some ⟨g8, 0, none⟩) r.ws.length cp8) (own_kept O6 k8 (fun _ _ _ z => z))
  rw [show (Value.slice (some ⟨g8, 0, none⟩) r.ws.length cp8) = (Rc.mk r.h (.slice (some ⟨g8, 0, none⟩) r.ws.length cp8) (r.ws.set kn y)).v from rfl, rec_set (r' := ⟨r.h, .slice (some ⟨g8, 0, none⟩) r.ws.length cp8, r.ws.set kn y⟩) hri rfl] at own9
  have own10 := ownsRow_setCell_other own9 (a := ⟨g8, kn, none⟩) (by show some g5 ≠ some g8; intro e; injection e with e; omega) (.int .u64 y)
  have w9own := ownsRow_setCell_other own8 (a := ⟨g5, i * 2 + 1, none⟩) (by show some g8 ≠ some g5; intro e; injection e; omega) (.slice (some ⟨g8, 0, none⟩) r.ws.length cp8)
  have w10own := own_set (i := kn) (u := .int .u64 y) w9own
  obtain ⟨g9, cp9, hv9, _, hc9, hz9, cs9, hb9⟩ := rform w9own (by omega)
  obtain ⟨g10, cp10, hv10, _, hc10, hz10, cs10, hb10⟩ := rform w10own (by omega)
  injection hv9 with e1 e2 e3
  injection e1 with e1
  injection e1 with e1
  subst e1 e3
  injection hv10 with e1 e2 e3
  injection e1 with e1
  injection e1 with e1
  subst e1 e3
  have b10 : ((w8.setCell ⟨g5, i * 2 + 1, none⟩ (.slice (some ⟨g8, 0, none⟩) r.ws.length cp8)).setCell ⟨g8, kn, none⟩ (.int .u64 y)).heap[br]? = _ := (Below.heap_setCell _ ⟨g8, kn, none⟩ _ br (by show br ≠ g8; omega)).trans b9
  obtain ⟨g11, cp11, hv11, _, hc11, _⟩ := rform own9 (by rw [show C.length = C.length from rfl]; omega)
  injection hv11 with e1 e2 e3
  injection e1 with e1
  injection e1 with e1
  subst e1 e3
  refine ⟨b, c, g8, cp8, w8, fun V k => k.cell cell5, hrun, k8, frz (k8.block hb5) _, ⟨b9, st9⟩, ?_, ?_, hz9 kn, ?_⟩
  · exact hc11 _ _ (rec_at (R := C.set i ⟨r.h, .slice (some ⟨g8, 0, none⟩) r.ws.length cp8, r.ws.set kn y⟩) (by rw [List.getElem?_set_self hi])).2
  · obtain ⟨x, hx⟩ : ∃ x, r.ws[kn]? = some x := ⟨_, List.getElem?_eq_getElem hk⟩
    exact ⟨_, hc9 kn _ (by rw [List.getElem?_map, hx]; rfl)⟩
  · refine Sr.turn S2 st10 B2 b10 (by rw [List.length_set]; exact own10) (fun j t ht => ?_) (by rw [List.length_set]; exact S2.few)
    by_cases e : j = i
    · subst e
      rw [List.getElem?_set_self hi] at ht
      obtain rfl := Option.some.inj ht
      refine ⟨some ⟨g8, 0, none⟩, g8, cp8, by simp, ⟨fun n hn w' => ?_, fun n u hu => ?_, fun u hu => ?_, ?_⟩, fun _ => ⟨rfl, _, hb10⟩⟩
      · rw [Nat.zero_add]
        exact Tx.ixW0 g8 _ cp8 n hn w'
      · rw [Nat.zero_add]
        refine hc10 n _ ?_
        have : (r.ws.map fun x => Value.int .u64 x).set kn (.int .u64 y) = (r.ws.set kn y).map fun x => Value.int .u64 x := by rw [List.map_set]
        rw [this, List.getElem?_map, hu]
        rfl
      · rcases List.mem_or_eq_of_mem_set hu with h | h
        · exact src.us u h
        · rw [h]
          exact hy
      · show (r.ws.set kn y).length ≤ maxLen
        rw [List.length_set]
        exact src.max
    · rw [List.getElem?_set_ne (by omega)] at ht
      exact (S2.ws j t ht).kept st10 (off B2 41 (by decide))

end Rs
end Go.Proofs.YtlmfojkhfipdnaaGreatDoor

/-
  loftref06: Make, where it makes nothing.
-/
namespace Go.Proofs.YtlmfojkhfipdnaaGreatDoor
open Go.RowKit Go.Maps
attribute [local go_sem ↓] Go.wp_at_zero Go.wp_at_succ
namespace Rs
open Hp (Kept K No allocL entsR reVals)
open Hd (openL)
variable {u0 : World × Nat} {w w' : World} {br : Nat} {q m z : Int} {E E' : List Hp.Re} {R R' : List Hd.Sl} {C C' : List Rc}

set_option maxHeartbeats 2000000 in
theorem rMake_arg (h : Sr u0 w br q m z E R C) (n : Int) (hn : n < 0 ∨ 3998 < n) : Calls Tryz.prog 21 #[rp br, .int .i64 n] w fun e w' => e = .returned (.tuple #[.int .u64 0, .int .i64 2]) ∧ Sr u0 w' br q m z E R C := by
  have HS : Aside _ := h
  clear h
  by_cases h0 : n < 0
  · clear hn
    go_enter Tryz.func21, Tryz.ntmps21
    go_wp2_with fail
    go_ret2
    exact ⟨rfl, HS.out⟩
  · have h1 : 3998 < n := by omega
    clear hn
    go_enter Tryz.func21, Tryz.ntmps21
    go_wp2_with fail
    go_ret2
    exact ⟨rfl, HS.out⟩

/-- The heap's row as it was is still there. -/
abbrev Old (w : World) (a1 : Option Addr) (c1 : Nat) (E : List Hp.Re) : Prop := w.ownsRow 0 176 36 (.slice a1 E.length c1) E.length (reVals E)

/-- The heap is put back. -/
theorem Sr.back {a1 : Option Addr} {c1 : Nat} (h : Sr u0 w br q m z E' R C) (ho : Old w a1 c1 E) (eo : Hp.Eo E) : Sr u0 ((w.setCell ⟨br, 0, none⟩ (.int .i64 q)).setCell ⟨br, 1, none⟩ (.slice a1 E.length c1)) br q m z E R C := by
  obtain ⟨a2, c2, v2, a3, c3, h1, h2, h3⟩ := h.ex
  have hb := h1.s0
  have hb1 := heap_setCell_same w br 0 _ _ (.int .i64 q) hb
  have hb2 := heap_setCell_same _ br 1 _ _ (.slice a1 E.length c1) hb1
  have st : Kept (fun j => j = br) w ((w.setCell ⟨br, 0, none⟩ (.int .i64 q)).setCell ⟨br, 1, none⟩ (.slice a1 E.length c1)) := Kept.setCell (O := fun j => j = br) (Kept.setCell (O := fun j => j = br) (Kept.refl (fun j => j = br) w) (p := ⟨br, 0, none⟩) _ (.inl rfl)) (p := ⟨br, 1, none⟩) _ (.inl rfl)
  have off : ∀ (t : TypeId), t ≠ 37 → ∀ j cs, w.heap[j]? = some (.cells cs t) → ¬ (j = br) := fun t ht j cs hj e => by
    subst e
    exact ht (kind_ne hj hb)
  have hs : ((w.setCell ⟨br, 0, none⟩ (.int .i64 q)).setCell ⟨br, 1, none⟩ (.slice a1 E.length c1)).heap[br]? = some (.cells #[.int .i64 q, .slice a1 E.length c1, .int .i64 m, .int .u32 z, v2, .slice a3 C.length c3] 37) := by
    rw [hb2]
    rfl
  exact ⟨⟨a1, c1, v2, a3, c3, ⟨hs, own_kept ho st (off _ (by decide))⟩, ⟨hs, own_kept h2.row st (off _ (by decide)), h2.ap, h2.wf, h2.lo⟩, own_kept h3 st (off _ (by decide))⟩, fun i r hr => (h.ws i r hr).kept st (off _ (by decide)), eo, h.few, h.fr.at st hb h2.lo⟩

/-- Alloc, told of the store. -/
theorem Sr.alloc (h : Sr u0 w br q m z E R C) (x : Int) {a er : Int} {L' : List Hp.Pg} (ha : allocL q (entsR E) x = (a, er, L')) (heo : ∀ E', entsR E' = L' → Hp.Eo E') :
    ∃ a1 c1, w.cell? ⟨br, 0, none⟩ = some (.int .i64 q) ∧ w.cell? ⟨br, 1, none⟩ = some (.slice a1 E.length c1) ∧ br < w.heap.size ∧ ∀ w1, K w w1 → Calls Tryz.prog 54 #[rp br, .int .i64 x] w1 fun e w' => e = .returned (.tuple #[.int .i64 a, .int .i64 er]) ∧ ∃ E', entsR E' = L' ∧ Sr u0 w' br q m z E' R C ∧ Old w' a1 c1 E ∧ Kept (fun j => j = br) w1 w' := by
  obtain ⟨a1, c1, v2, a3, c3, h1, h2, h3⟩ := h.ex
  refine ⟨a1, c1, (six h1.s0).1, (six h1.s0).2.1, h1.lt, fun w1 k => ?_⟩
  have := Hp.rAlloc_call (h1.keep k) h.eo x
  rw [ha] at this
  refine this.mono ?_
  rintro e w2 ⟨he, E', hE, hp⟩
  have off : ∀ (t : TypeId), t ≠ 37 → ∀ j cs, w1.heap[j]? = some (.cells cs t) → ¬ (j = br) := fun t ht j cs hj e => by
    subst e
    exact ht (kind_ne hj (h1.keep k).s0)
  refine ⟨he, E', hE, Sr.heap (h1.keep k) (h2.keep k) (own_kept h3 k (fun _ _ _ z => z)) (h.keep k).ws h.few (h.keep k).fr hp (heo E' hE), ?_, ?_⟩
  · obtain ⟨_, _, _, st⟩ := hp
    exact own_kept (own_kept h1.row k (fun _ _ _ z => z)) st (off _ (by decide))
  · obtain ⟨_, _, _, st⟩ := hp
    exact st

/-- Open, told of the store. -/
theorem Sr.opened (h : Sr u0 w br q m z E R C) (a : Int) (a1 : a ≤ 9223372036854775807) {x er : Int} {R' : List Hd.Sl} (ho : openL m z R a = (x, er, R')) : Calls Tryz.prog 55 #[.pointer (some ⟨br, 2, none⟩), .int .i64 a] w fun e w' => e = .returned (.tuple #[.int .u64 x, .int .i64 er]) ∧ Sr u0 w' br q m z E R' C ∧ (∀ a1 c1 E0, Old w a1 c1 E0 → Old w' a1 c1 E0) ∧ w.heap.size ≤ w'.heap.size ∧ (∀ (b : Nat) (cs : Array Value), w.heap[b]? = some (.cells cs 31) → w'.heap[b]? = some (.cells cs 31)) := by
  obtain ⟨a1', c1', v2, a3, c3, h1, h2, h3⟩ := h.ex
  have := Hd.rOpen_any h2 a a1
  rw [ho] at this
  refine this.mono ?_
  rintro e w2 ⟨he, hp⟩
  have st : Kept (Hd.foot br v2) w w2 := by
    obtain ⟨_, _, st, _⟩ := hp
    exact st
  have off : ∀ (t : TypeId), t ≠ 37 → t ≠ 181 → ∀ j cs, w.heap[j]? = some (.cells cs t) → ¬ Hd.foot br v2 j := fun t ht hs j cs hj e => by
    rcases e with rfl | e
    · exact ht (kind_ne hj h1.s0)
    · obtain ⟨ds, hd⟩ := own_kind h2.row e
      exact hs (kind_ne hj hd)
  exact ⟨he, Sr.table h1 h2 h3 h.ws h.few h.fr hp h.eo, fun a1 c1 E0 o => own_kept o st (off _ (by decide) (by decide)), Kept.size (w := w) (w' := w2) st, fun b cs hb => st.block hb (off _ (by decide) (by decide) b cs hb)⟩

set_option maxRecDepth 100000 in
set_option maxHeartbeats 2000000 in
theorem rMake_noroom (h : Sr u0 w br q m z E R C) (n : Int) (n0 : 0 ≤ n) (n1 : n ≤ 3998) {a er : Int} {L' : List Hp.Pg} (ha : allocL q (entsR E) (n + 2) = (a, er, L')) (he : er ≠ 0) (heo : ∀ E', entsR E' = L' → Hp.Eo E') : Calls Tryz.prog 21 #[rp br, .int .i64 n] w fun e w' => e = .returned (.tuple #[.int .u64 0, .int .i64 er]) ∧ ∃ E', entsR E' = L' ∧ Sr u0 w' br q m z E' R C := by
  obtain ⟨a1, c1, d0, d1, hlt, ca⟩ := h.alloc (n + 2) ha heo
  have CA : Aside _ := ca
  have hne : (er != 0) = true := by simpa using he
  have hne2 : (er == 0) = false := by simpa using he
  clear ca ha heo h he
  go_enter Tryz.func21, Tryz.ntmps21
  go_wp2_with (go_at_call 54; refine (CA.out _ (((K.refl _).alloc _))).mono ?_; rintro e w2 ⟨rfl, E', HE⟩; have HE2 : Aside _ := HE; clear HE)
  go_ret2
  exact ⟨rfl, E', HE2.out.1, HE2.out.2.1⟩

end Rs
end Go.Proofs.YtlmfojkhfipdnaaGreatDoor

/-
  loftref06: Make, where no slot is free: the heap is put back.
-/
namespace Go.Proofs.YtlmfojkhfipdnaaGreatDoor
open Go.RowKit Go.Maps
attribute [local go_sem ↓] Go.wp_at_zero Go.wp_at_succ
namespace Rs
open Hp (Kept K No allocL entsR reVals)
open Hd (openL)
variable {u0 : World × Nat} {w w' : World} {br : Nat} {q m z : Int} {E E' : List Hp.Re} {R R' : List Hd.Sl} {C C' : List Rc}

set_option maxRecDepth 100000 in
set_option maxHeartbeats 2000000 in
theorem rMake_full (h : Sr u0 w br q m z E R C) (n : Int) (n0 : 0 ≤ n) (n1 : n ≤ 3998) {a : Int} {L' : List Hp.Pg} (ha : allocL q (entsR E) (n + 2) = (a, 0, L')) (heo : ∀ E', entsR E' = L' → Hp.Eo E') (a1 : a ≤ 9223372036854775807) {x er : Int} {R' : List Hd.Sl} (ho : openL m z R a = (x, er, R')) (he : er ≠ 0) : Calls Tryz.prog 21 #[rp br, .int .i64 n] w fun e w' => e = .returned (.tuple #[.int .u64 0, .int .i64 er]) ∧ Sr u0 w' br q m z E R' C := by
  have EO : Aside _ := h.eo
  obtain ⟨aa, cc, d0, d1, hlt, ca⟩ := h.alloc (n + 2) ha heo
  have CA : Aside _ := ca
  have hne : (er != 0) = true := by simpa using he
  have hne2 : (er == 0) = false := by simpa using he
  have CO : Aside (∀ w2 E', Sr u0 w2 br q m z E' R C → Calls Tryz.prog 55 #[.pointer (some ⟨br, 2, none⟩), .int .i64 a] w2 fun e w' => e = .returned (.tuple #[.int .u64 x, .int .i64 er]) ∧ Sr u0 w' br q m z E' R' C ∧ (∀ a1 c1 E0, Old w2 a1 c1 E0 → Old w' a1 c1 E0) ∧ w2.heap.size ≤ w'.heap.size ∧ (∀ (b : Nat) (cs : Array Value), w2.heap[b]? = some (.cells cs 31) → w'.heap[b]? = some (.cells cs 31))) := fun w2 E' s => s.opened a a1 ho
  have BX : (w.alloc (.cells #[.int .i64 q, .slice aa E.length cc] 31)).heap[w.heap.size]? = some (.cells #[.int .i64 q, .slice aa E.length cc] 31) := World.alloc_heap_new _ _
  have BXA : Aside _ := BX
  have hnb : w.heap.size ≠ br := by omega
  clear ca ha heo h he ho BX
  go_enter Tryz.func21, Tryz.ntmps21
  go_wp2_with fail
  refine (CA.out _ ((K.refl _).alloc _)).mono ?_
  rintro e w2 ⟨rfl, E', HE⟩
  have HE2 : Aside _ := HE
  have b2 : w2.heap[w.heap.size]? = some (.cells #[.int .i64 q, .slice aa E.length cc] 31) := HE.2.2.2.block BXA.out hnb
  have cx := CO.out w2 E' HE.2.1
  have B2 : Aside _ := b2
  clear HE d0 d1 b2
  go_wp2_with fail
  refine cx.mono ?_
  rintro e w3 ⟨rfl, S3, hold, _, hkb⟩
  have b3 := hkb _ _ B2.out
  have O3 : Aside _ := hold _ _ _ HE2.out.2.2.1
  have S3A : Aside _ := S3
  obtain ⟨a4, c4, v4, a5, c5, g1, g2, g3⟩ := S3.ex
  obtain ⟨e0, e1, _⟩ := six g1.s0
  have f0 : w3.frozen? ⟨br, 0, none⟩ = false := frz g1.s0 0
  have f1 : w3.frozen? ⟨br, 1, none⟩ = false := frz g1.s0 1
  have k0 : w3.cell? ⟨w.heap.size, 0, none⟩ = some (.int .i64 q) := by simp [World.cell?, b3]
  have k1 : w3.cell? ⟨w.heap.size, 1, none⟩ = some (.slice aa E.length cc) := by simp [World.cell?, b3]
  clear hold hkb S3 cx g1 g2 g3 b3
  go_wp2_with fail
  go_ret2
  exact ⟨rfl, Sr.back S3A.out O3.out EO.out⟩

end Rs
end Go.Proofs.YtlmfojkhfipdnaaGreatDoor

/-
  A region that draws its order and ends with ONE store (operation z) that waits for all that is taken ahead: the condition on the world is asked behind every operation but z, so it may speak of the cell that z turns.
-/
namespace Go.Proofs.YtlmfojkhfipdnaaGreatDoor
open Go.RowKit
namespace Rs
variable {P : Program} {ops : Array Oper} {Q : Exit → Act → World → Prop} {md : Region.Mode} {S : World → Prop} {z : Nat}

def wpAnyZ (z : Nat) (P : Program) (md : Region.Mode) (ops : Array Oper) (Q : Exit → Act → World → Prop) (S : World → Prop) : Nat → Array Bool → Act → World → Prop
  | 0, l, a, w => Region.ready md ops l = [] ∧ Q .normal a w
  | n + 1, l, a, w => (Region.ready md ops l = [] → Q .normal a w) ∧ ∀ i ∈ Region.ready md ops l, wpOp P ops Q i (fun a' w' => (i ≠ z → S w') ∧ wpAnyZ z P md ops Q S n (l.setIfInBounds i true) a' w') a w

theorem any_of_Z : ∀ (n : Nat) (l : Array Bool) (a : Act) (w : World), wpAnyZ z P md ops Q S n l a w → wpAny P md ops Q n l a w
  | 0, _, _, _, h => h
  | n + 1, _, _, _, h => ⟨h.1, fun i hi => wpOp_mono (fun a' w' h' => any_of_Z n _ a' w' h'.2) (h.2 i hi)⟩

/-- Operation z waits for i. -/
def waits (md : Region.Mode) (ops : Array Oper) (z i : Nat) : Bool := match ops[z]? with
  | none => false
  | some o => o.after.any fun e => Region.binds md e && e.on == i

theorem Z_first {i : Nat} {oi : Oper} {v : Value} (hi : ops[i]? = some oi) (hs : Region.noSelect ops = true) (hw : waits md ops z i = true) (hQ : ∀ c a w, Q (.panic c) (a.put oi.dst v) w → Q (.panic c) a w) :
    ∀ (n : Nat) (l : Array Bool) (a : Act) (w : World), (∀ j oj, ops[j]? = some oj → j ≠ i → l.getD j true = false → (∀ e ∈ oj.after, Region.binds md e = true → e.on ≠ i) → oi.apart ops oj = true) →
      i ∈ Region.ready md ops l → YieldsIf P ops S oi v a → S w → wpAnyZ z P md ops Q S n (l.setIfInBounds i true) (a.put oi.dst v) w → wpAnyZ z P md ops Q S (n + 1) l a w := by
  intro n
  induction n with
  | zero =>
    intro l a w _ hr hy hS H
    refine ⟨fun e => absurd hr (by rw [e]; exact List.not_mem_nil), fun j hj => ?_⟩
    by_cases e : j = i
    · rw [e]
      exact hy.wpOp hi hS ⟨fun _ => hS, H⟩
    · have hc := ready_mono hj e
      rw [H.1] at hc
      exact absurd hc List.not_mem_nil
  | succ n ih =>
    intro l a w hf hr hy hS H
    refine ⟨fun e => absurd hr (by rw [e]; exact List.not_mem_nil), fun j hj => ?_⟩
    by_cases e : j = i
    · rw [e]
      exact hy.wpOp hi hS ⟨fun _ => hS, H⟩
    · obtain ⟨un, oj, hoj, hall⟩ := mem_ready.1 hj
      have li := (mem_ready.1 hr).1
      have no : ∀ x ∈ oj.after, Region.binds md x = true → x.on ≠ i := fun x hx hb hxi => by
        have h1 := hall x hx hb
        rw [hxi] at h1
        by_cases hl : i < l.size
        · simp [hl] at li h1
          rw [li] at h1
          cases h1
        · simp [Array.getElem?_eq_none (Nat.le_of_not_lt hl)] at li
      have hjz : j ≠ z := fun ez => by
        subst ez
        unfold waits at hw
        rw [hoj] at hw
        obtain ⟨k, hk, hb⟩ := Array.any_eq_true.1 hw
        simp only [Bool.and_eq_true, beq_iff_eq] at hb
        exact no _ (Array.getElem_mem hk) hb.1 hb.2
      have h2 := wpOp_putIf hoj (hf j oj hoj e un no) (fun cs b => Region.noSelect_spec hs i oi cs b hi) (fun cs b => Region.noSelect_spec hs j oj cs b hoj) hQ hy (H.2 j (ready_mono hj e))
      refine wpOp_mono (fun a' w' h3 => ⟨fun _ => h3.2.1 hjz, ih (l.setIfInBounds j true) a' w' (fun k ok hk hki hun hno => hf k ok hk hki ?_ hno) (ready_mono hr (Ne.symm e)) h3.1 (h3.2.1 hjz) ?_⟩) h2
      · by_cases ejk : j = k
        · rw [← ejk]
          exact un
        · rwa [getD_set_ne true ejk] at hun
      · rw [Array.setIfInBounds_comm _ _ e]
        exact h3.2.2

theorem Z_take {i : Nat} {oi : Oper} {v : Value} {n : Nat} {l : Array Bool} {a : Act} {w : World} (hi : ops[i]? = some oi) (hs : Region.noSelect ops = true) (hf : Region.free md ops l i = true) (hr : (Region.ready md ops l).contains i = true) (hw : waits md ops z i = true) (hQ : ∀ c a w, Q (.panic c) (a.put oi.dst v) w → Q (.panic c) a w) (hy : YieldsIf P ops S oi v a) (hS : S w)
    (h : wpAnyZ z P md ops Q S n (l.setIfInBounds i true) (a.put oi.dst v) w) : wpAnyZ z P md ops Q S (n + 1) l a w :=
  Z_first hi hs hw hQ n l a w (Region.free_spec hi hf) (by simpa using hr) hy hS h

/-- The operations that may come up, one premise each. -/
def AllZ (z : Nat) (P : Program) (md : Region.Mode) (ops : Array Oper) (Q : Exit → Act → World → Prop) (S : World → Prop) (n : Nat) (l : Array Bool) (a : Act) (w : World) (rs : List Nat) : Prop :=
  ∀ i ∈ rs, wpOp P ops Q i (fun a' w' => (i ≠ z → S w') ∧ wpAnyZ z P md ops Q S n (l.setIfInBounds i true) a' w') a w
theorem AllZ.nil {n : Nat} {l : Array Bool} {a : Act} {w : World} : AllZ z P md ops Q S n l a w [] := fun _ h => absurd h List.not_mem_nil
theorem AllZ.cons {n : Nat} {l : Array Bool} {a : Act} {w : World} {i : Nat} {o : Oper} {rs : List Nat} (ho : ops[i]? = some o)
    (h : ∀ K' : Act → World → Prop, Shut (∀ a w, (i ≠ z → S w) → ((i ≠ z → S w) → wpAnyZ z P md ops Q S n (l.setIfInBounds i true) a w) → K' a w) → if Region.wanted o (yielded ops a.tmps) = true then Oper.wp P o a w K' Q else K' (a.put o.dst undef) w)
    (hs : AllZ z P md ops Q S n l a w rs) : AllZ z P md ops Q S n l a w (i :: rs) := fun j hj => by
  rcases List.mem_cons.1 hj with e | hj
  · rw [e]
    exact wpOp_step ho (fun K' hK => h K' (fun a w hS hW => hK a w ⟨hS, hW hS⟩))
  · exact hs j hj
theorem Z_ready {rs : List Nat} {n : Nat} {l : Array Bool} {a : Act} {w : World} (hr : Region.ready md ops l = rs) (hne : rs ≠ []) (h : AllZ z P md ops Q S n l a w rs) : wpAnyZ z P md ops Q S (n + 1) l a w :=
  ⟨fun e => absurd (hr ▸ e) hne, hr ▸ h⟩
theorem Z_done {l : Array Bool} {a : Act} {w : World} (hr : Region.ready md ops l = []) (h : Q .normal a w) : ∀ n, wpAnyZ z P md ops Q S n l a w
  | 0 => ⟨hr, h⟩
  | _ + 1 => ⟨fun _ => h, by rw [hr]; exact fun i hi => absurd hi List.not_mem_nil⟩
theorem Z_region (z : Nat) (S : World → Prop) {id : Nat} {a : Act} {w : World} (hm : P.follows .mixedOrders = true) (hS : S w.drew) (h : S w.drew → wpAnyZ z P .any ops Q S ops.size (Array.replicate ops.size false) a w.drew) : (Code.region id ops true).wp P Q a w :=
  wp_region_any hm (any_of_Z _ _ _ _ (h hS))

end Rs
end Go.Proofs.YtlmfojkhfipdnaaGreatDoor
