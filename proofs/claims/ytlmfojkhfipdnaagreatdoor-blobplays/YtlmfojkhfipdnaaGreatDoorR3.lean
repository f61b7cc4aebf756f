/-
  loftref06: what the steps of Make's last statement leave, one lemma each, no walk.
-/
import Derived.Test.YtlmfojkhfipdnaaGreatDoorR2
import Derived.Test.YtlmfojkhfipdnaaGreatDoorX2
import Derived.Laws.OwnMore
namespace Go.Proofs.YtlmfojkhfipdnaaGreatDoor
open Go.RowKit Go.Maps
namespace Rs
open Hp (Kept K No K.grownR)
variable {u0 : World × Nat} {w w' V V' : World} {br : Nat} {q m z : Int} {E E' : List Hp.Re} {R R' : List Hd.Sl} {C C' : List Rc}

theorem oper_makeW {P : Program} {o : Oper} {a : Act} {w w' : World} {K : Act → World → Prop} {Q : Exit → Act → World → Prop} {s x : Operand} {t : TypeId} {ops2 : Array Oper} (hg : o.guard = none) (hop : o.op = Op.makeSlice t s x)
    {v u v' : Value} (hs : a.eval s = v) (hx : a.eval x = u) (hrun : (Instr.makeSlice t v u).run P w = .ok v' w') (hK : K (a.put o.dst v') w') : if Region.wanted o (yielded ops2 a.tmps) = true then Oper.wp P o a w K Q else K (a.put o.dst undef) w := by
  rw [if_pos (by simp [Region.wanted, hg])]
  unfold Oper.wp
  simp only [execOp, hop, hs, hx, Sem.run_bind, hrun, Result.andThen_ok]
  exact hK
theorem oper_buildW {P : Program} {o : Oper} {a : Act} {w w' : World} {K : Act → World → Prop} {Q : Exit → Act → World → Prop} {x : Operand} {t : TypeId} {ops2 : Array Oper} (hg : o.guard = none) (hop : o.op = Op.buildSlice t 1 #[(0, x)])
    {u v' : Value} (hx : a.eval x = u) (hrun : (Instr.buildSlice t 1 #[(0, u)]).run P w = .ok v' w') (hK : K (a.put o.dst v') w') : if Region.wanted o (yielded ops2 a.tmps) = true then Oper.wp P o a w K Q else K (a.put o.dst undef) w := by
  rw [if_pos (by simp [Region.wanted, hg])]
  unfold Oper.wp
  simp only [execOp, hop, List.map_toArray, List.map_cons, List.map_nil, hx, Sem.run_bind, hrun, Result.andThen_ok]
  exact hK

/-- Blocks stand; an empty block of records aside. -/
def Kp (V V' : World) : Prop := ∀ (g : Nat) (o : Obj), V.heap[g]? = some o → o ≠ .cells #[] 108 → V'.heap[g]? = some o
theorem Kp.ofK (k : K V V') : Kp V V' := fun _ _ h _ => k.block h
theorem own_kp {B n sz : Nat} {v : Value} {xs : List Value} (h : V.ownsRow B 41 sz v n xs) (k : Kp V V') : V'.ownsRow B 41 sz v n xs := by
  obtain ⟨h1, h2⟩ := h
  refine ⟨h1, ?_⟩
  rcases h2 with h2 | ⟨g, cap, cur, e, hb, hg, rest⟩
  · exact .inl h2
  · exact .inr ⟨g, cap, cur, e, hb, k g _ hg (by intro e; injection e with _ e; exact absurd e (by decide)), rest⟩

theorem mk1 (k : K w V) : K w (V.alloc (.cells #[] 108)) ∧ K V (V.alloc (.cells #[] 108)) ∧ (V.alloc (.cells #[] 108)).ownsRow w.heap.size 108 2 (.slice (some ⟨V.heap.size, 0, none⟩) 0 0) 0 [] ∧ (V.alloc (.cells #[] 108)).heap[V.heap.size]? = some (.cells #[] 108) :=
  ⟨k.alloc _, (K.refl V).alloc _, World.ownsRow_lit (base := w.heap.size) (e := 108) (size := 2) V #[] 0 (Kept.size (w := w) (w' := V) k) (by simp [maxLen]) rfl, World.alloc_heap_new _ _⟩

theorem mk6 (k : K w V) {gA : Nat} (own : V.ownsRow w.heap.size 108 2 (.slice (some ⟨gA, 0, none⟩) 0 0) 0 []) (hA : V.heap[gA]? = some (.cells #[] 108)) {a3 : Option Addr} {c3 : Nat} (src : SrcR V a3 C.length (recVals C)) (one : ∀ u ∈ recVals C, u.oneCell' = true) (few : C.length ≤ 65536) :
    ∃ v6 V', (Builtin.append_ #[35, 35] 35 #[.slice (some ⟨gA, 0, none⟩) 0 0, .slice a3 C.length c3]).run Tryz.prog V = .ok v6 V' ∧ K w V' ∧ Kp V V' ∧ V'.ownsRow w.heap.size 108 2 v6 C.length (recVals C) ∧ v6.ownBlock.isSome = true := by
  obtain ⟨i0, hi, hsz, hby, z, hz, hzs⟩ := info_refrec
  rcases src with ⟨rfl, h0, hn⟩ | ⟨ad, rfl, hc⟩
  · rw [h0, hn]
    exact ⟨_, V, run_append_nil gA 0 0 c3 (Nat.le_refl _) 35 V, k, Kp.ofK (K.refl V), own, rfl⟩
  · obtain ⟨v', V', hr, h2, h3, h4, h5⟩ := run_append_own_at (P := Tryz.prog) (w := V) w.heap.size 35 35 108 i0 z 2 32 Tryz.underlying35 hi hz hsz hby hzs (by decide) _ 0 [] own ad C.length c3 (recVals C) (rec_len C) hc one (by unfold maxLen; omega) (by omega) (Kept.size (w := w) (w' := V) k)
    rw [Nat.zero_add, List.nil_append] at h2
    refine ⟨v', V', hr, K.grownR k h3 (fun j hj => ?_), fun g o hg ho => ?_, h2, by rcases h5 with e | e <;> (rw [e]; rfl)⟩
    · cases hj
      rcases own.2 with ⟨e, _⟩ | ⟨g, cap, cur, e, hb, _⟩
      · cases e
      · cases e
        exact hb
    · rw [h3.block g (Array.getElem?_eq_some_iff.1 hg).1 (fun e => ?_)]
      · exact hg
      · have : g = gA := Option.some.inj e
        subst this
        rw [hA] at hg
        injection hg with hg
        exact ho hg.symm

theorem mk9 (k : K w V) (n : Nat) (hn : n ≤ 3998) : ∃ V', (Instr.makeSlice 87 (.int .i64 (n : Int)) (.int .i64 (n : Int))).run Tryz.prog V = .ok (.slice (some ⟨V.heap.size, 0, none⟩) n n) V' ∧ K w V' ∧ K V V' ∧ V'.ownsRow w.heap.size 41 1 (.slice (some ⟨V.heap.size, 0, none⟩) n n) n ((List.replicate n (0 : Int)).map fun x => .int .u64 x) := by
  have hi : (Tryz.prog.info? 41).map (fun i => (i.zero, i.size, i.bytes)) = some (some (.int .u64 0), 1, 8) := by kernel_rfl
  obtain ⟨i0, h1, h2⟩ := Option.map_eq_some_iff.1 hi
  simp only [Prod.mk.injEq] at h2
  obtain ⟨h3, h4, h5⟩ := h2
  obtain ⟨V', hr, ho, hg⟩ := run_makeSlice_full (P := Tryz.prog) (w := V) w.heap.size 87 41 i0 (.int .u64 0) 1 Tryz.underlying87 h1 h3 h4 .i64 .i64 n (by omega) (by rw [h5]; omega) (by unfold maxLen; omega) (Kept.size (w := w) (w' := V) k)
  rw [show (madeCells (Value.int .u64 0).cells (n * 1)).toList = (List.replicate n (0 : Int)).map fun x => Value.int .u64 x from Tx.made_row n] at ho
  exact ⟨V', hr, K.grownR k hg (fun j hj => by cases hj), K.grownR (K.refl V) hg (fun j hj => by cases hj), ho⟩

theorem run_buildSlice_rec (v x : Value) (w : World) : (Instr.buildSlice 35 1 #[(0, .agg #[v, x])]).run Tryz.prog w = .ok (.slice (some ⟨w.heap.size, 0, none⟩) 1 1) (w.alloc (.cells #[v, x] 108)) := by
  have hs : (sizeOf 108).run Tryz.prog w = .ok 2 w := by kernel_rfl
  obtain ⟨i0, hi, _, _, z, hz, hzs⟩ := info_refrec
  have hzv : (zeroValue 108).run Tryz.prog w = .ok z w := by simp [zeroValue, typeInfo, hi, hz]
  have hf : Instr.fill (fun i => some (i * 2, 2)) ((Array.range (1 * 2)).map (z.cells[· % z.cells.size]!)) [(0, .agg #[v, x])] = some #[v, x] := by
    have hc : (Value.agg #[v, x]).cells = #[v, x] := rfl
    simp only [Instr.fill, hc]
    rw [hzs]
    simp [Array.range, Array.zipIdx]
    rfl
  simp only [Instr.buildSlice, Sem.run_bind, run_underlying Tryz.underlying35, Result.andThen_ok, hs]
  simp [hzv, hf, newRow, Result.andThen]

theorem mk11 (k : K w V) (v x : Value) : K w (V.alloc (.cells #[v, x] 108)) ∧ K V (V.alloc (.cells #[v, x] 108)) ∧ (V.alloc (.cells #[v, x] 108)).heap[V.heap.size]? = some (.cells #[v, x] 108) :=
  ⟨k.alloc _, (K.refl V).alloc _, World.alloc_heap_new _ _⟩

theorem mk12 (k : K w V) {v6 : Value} (own : V.ownsRow w.heap.size 108 2 v6 C.length (recVals C)) {gC n : Nat} {r : Rc} (hC : V.heap[gC]? = some (.cells #[.int .u64 r.h, r.v] 108)) (h9 : r.v.oneCell' = true) (few : C.length < 65536) (o9 : V.ownsRow w.heap.size 41 1 r.v n (r.ws.map fun x => .int .u64 x)) :
    ∃ a c V', (Builtin.append_ #[35, 35] 35 #[v6, .slice (some ⟨gC, 0, none⟩) 1 1]).run Tryz.prog V = .ok (.slice a (C ++ [r]).length c) V' ∧ K w V' ∧ V'.ownsRow w.heap.size 108 2 (.slice a (C ++ [r]).length c) (C ++ [r]).length (recVals (C ++ [r])) ∧ V'.ownsRow w.heap.size 41 1 r.v n (r.ws.map fun x => .int .u64 x) := by
  obtain ⟨i0, hi, hsz, hby, z, hz, hzs⟩ := info_refrec
  obtain ⟨v', V', hr, h2, h3, h4, h5⟩ := run_append_own_at (P := Tryz.prog) (w := V) w.heap.size 35 35 108 i0 z 2 32 Tryz.underlying35 hi hz hsz hby hzs (by decide) _ C.length (recVals C) own ⟨gC, 0, none⟩ 1 1 (recL r) rfl (fun j u hu => by
    rw [Go.WideShapes.add_plain, Nat.zero_add]
    simp only [World.cell?, hC]
    simpa [recL] using hu) (fun u hu => by
    simp only [recL, List.mem_cons, List.not_mem_nil, or_false] at hu
    rcases hu with rfl | rfl
    · rfl
    · exact h9) (by unfold maxLen; omega) (by omega) (Kept.size (w := w) (w' := V) k)
  have e : recVals (C ++ [r]) = recVals C ++ recL r := by rw [rec_app]; simp [recVals]
  have e2 : (C ++ [r]).length = C.length + 1 := by simp
  obtain ⟨a, c, rfl⟩ := row_formR h2
  rw [e, e2]
  refine ⟨a, c, V', hr, K.grownR k h3 (fun j hj => (World.ownsRow.lt own j hj.symm).1), h2, ?_⟩
  obtain ⟨o1, o2⟩ := o9
  refine ⟨o1, o2.imp id fun ⟨g, cap, cur, ev, hb, hg, rest⟩ => ⟨g, cap, cur, ev, hb, ?_, rest⟩⟩
  rw [h3.block g (Array.getElem?_eq_some_iff.1 hg).1 (fun e => ?_)]
  · exact hg
  · obtain ⟨ds, hd⟩ := own_kind own e
    exact absurd (kind_ne hg hd) (by decide)

/-- A new record: its words are nought. -/
abbrev newR (x : Int) (v9 : Value) (n : Nat) : Rc := ⟨x, v9, List.replicate n 0⟩
/-- The store with the new record. -/
theorem mk_end {v9 : Value} {x : Int} {n : Nat} {a : Option Addr} {c : Nat} (h : Sr u0 w br q m z E R C) (k : K w V) (hv9 : ∃ g cp, v9 = .slice (some ⟨g, 0, none⟩) n cp) (own : V.ownsRow w.heap.size 108 2 (.slice a (C ++ [newR x v9 n]).length c) (C ++ [newR x v9 n]).length (recVals (C ++ [newR x v9 n]))) (o9 : V.ownsRow w.heap.size 41 1 v9 n ((List.replicate n (0 : Int)).map fun x => .int .u64 x)) (few : C.length < 65536) (hn : n ≤ 3998) :
    Sr u0 (V.setCell ⟨br, 5, none⟩ (.slice a (C ++ [newR x v9 n]).length c)) br q m z E R (C ++ [newR x v9 n]) := by
  refine Sr.recs h k own (fun j hj => (World.ownsRow.lt own j hj).1) (fun i r hr => ?_) (by simp; omega)
  obtain ⟨g, cp, rfl⟩ := hv9
  by_cases e : i < C.length
  · rw [List.getElem?_append_left e] at hr
    exact (h.ws i r hr).kept k (fun _ _ _ z => z)
  · rw [List.getElem?_append_right (by omega)] at hr
    have hr2 := List.mem_of_getElem? hr
    obtain rfl : r = ⟨x, .slice (some ⟨g, 0, none⟩) n cp, List.replicate n 0⟩ := by simpa using hr2
    have hlen : (List.replicate n (0 : Int)).length = n := List.length_replicate
    refine ⟨some ⟨g, 0, none⟩, g, cp, by simp, ⟨fun j hj w' => ?_, fun j u hu => ?_, fun u hu => ?_, by simp [maxLen]; omega⟩, fun h0 => ⟨rfl, ?_⟩⟩
    · rw [Nat.zero_add]
      exact Tx.ixW0 g _ cp j hj w'
    · have hj := (List.getElem?_eq_some_iff.1 hu).1
      rw [hlen] at hj
      obtain ⟨g2, cp2, hv, _, hc, _⟩ := rform o9 (by omega)
      injection hv with e1 _ _
      injection e1 with e1
      injection e1 with e1
      subst e1
      rw [Nat.zero_add]
      exact hc j _ (by rw [List.getElem?_map, hu]; rfl)
    · have := List.eq_of_mem_replicate hu
      omega
    · obtain ⟨g2, cp2, hv, _, _, _, hb⟩ := rform o9 (by simpa using h0)
      injection hv with e1 _ _
      injection e1 with e1
      injection e1 with e1
      subst e1
      exact hb

end Rs
end Go.Proofs.YtlmfojkhfipdnaaGreatDoor

/-
  loftref06: Make, where it makes a record. The operations of region 11, which draws its order, are this seat's (mkmake.py).
-/
namespace Go.Proofs.YtlmfojkhfipdnaaGreatDoor
open Go.RowKit Go.Maps
attribute [local go_sem ↓] Go.wp_at_zero Go.wp_at_succ
namespace Rs
open Hp (Kept K No allocL entsR)
open Hd (openL)
variable {u0 : World × Nat} {w w' V V' : World} {br : Nat} {q m z : Int} {E E' : List Hp.Re} {R R' : List Hd.Sl} {C C' : List Rc}

theorem own_kA {B n sz : Nat} {t : TypeId} {v : Value} {xs : List Value} (h : Aside (V.ownsRow B t sz v n xs)) (k : Aside (K V V')) : Aside (V'.ownsRow B t sz v n xs) := own_kept h.out k.out (fun _ _ _ z => z)
theorem own_kpA {B n sz : Nat} {v : Value} {xs : List Value} (h : Aside (V.ownsRow B 41 sz v n xs)) (k : Aside (Kp V V')) : Aside (V'.ownsRow B 41 sz v n xs) := own_kp h.out k.out
theorem hb_kA {g : Nat} {o : Obj} (h : Aside (V.heap[g]? = some o)) (k : Aside (K V V')) : Aside (V'.heap[g]? = some o) := Hp.K.block k.out h.out
theorem hc_kp {g : Nat} {u v : Value} {t : TypeId} (h : Aside (V.heap[g]? = some (.cells #[u, v] t))) (k : Aside (Kp V V')) : Aside (V'.heap[g]? = some (.cells #[u, v] t)) := k.out g _ h.out (by intro e; injection e with e _; simp at e)

set_option maxRecDepth 100000 in
set_option maxHeartbeats 8000000 in
theorem rMake_ok (h : Sr u0 w br q m z E R C) (n : Nat) (n1 : n ≤ 3998) {a : Int} {L' : List Hp.Pg} (ha : allocL q (entsR E) ((n : Int) + 2) = (a, 0, L')) (heo : ∀ E', entsR E' = L' → Hp.Eo E') (a1 : a ≤ 9223372036854775807) {x : Int} {R' : List Hd.Sl} (ho : openL m z R a = (x, 0, R')) (few : C.length < 65536) :
    Calls Tryz.prog 21 #[rp br, .int .i64 (n : Int)] w fun e w' => e = .returned (.tuple #[.int .u64 x, .int .i64 0]) ∧ ∃ E' v9, entsR E' = L' ∧ Sr u0 w' br q m z E' R' (C ++ [newR x v9 n]) := by
  obtain ⟨aa, cc, d0, d1, hlt, ca⟩ := h.alloc ((n : Int) + 2) ha heo
  have CA : Aside _ := ca
  have CO : Aside (∀ w2 E', Sr u0 w2 br q m z E' R C → Calls Tryz.prog 55 #[.pointer (some ⟨br, 2, none⟩), .int .i64 a] w2 fun e w' => e = .returned (.tuple #[.int .u64 x, .int .i64 0]) ∧ Sr u0 w' br q m z E' R' C) := fun w2 E' s => (s.opened a a1 ho).mono fun e w' hh => ⟨hh.1, hh.2.1⟩
  have HN : Aside (n ≤ 3998) := n1
  have FEW2 : Aside (C.length < 65536) := few
  have FEW : Aside (C.length ≤ 65536) := Nat.le_of_lt few
  clear ca ha heo h ho few
  go_enter Tryz.func21, Tryz.ntmps21
  go_wp2_with fail
  refine (CA.out _ ((K.refl _).alloc _)).mono ?_
  rintro e w2 ⟨rfl, E1, HEX⟩
  have HE : Aside _ := HEX
  have cx := CO.out w2 E1 HEX.2.1
  clear HEX d0 d1
  go_wp2_with fail
  refine cx.mono ?_
  rintro e w3 ⟨rfl, S3⟩
  have S3A : Aside _ := S3
  obtain ⟨a4, c4, v4, a5, c5, g1, g2, g3⟩ := S3.ex
  obtain ⟨g', hcell, hform, hcap⟩ := row_cells g3
  have SRC : Aside (∀ V, K w3 V → SrcR V a5 C.length (recVals C)) := fun V k => SrcR.keep (src_all hcell hform) k
  have O0 : Aside (∀ u ∈ recVals C, u.oneCell' = true) := rec_one _ (fun r hr => by
    obtain ⟨j, hj, e⟩ := List.mem_iff_getElem.1 hr
    exact (S3A.out.ws j r (by rw [List.getElem?_eq_getElem hj, e])).one)
  have B3 : Aside (w3.heap[br]? = some (.cells #[.int .i64 q, .slice a4 E1.length c4, .int .i64 m, .int .u32 z, v4, .slice a5 C.length c5] 37)) := g1.s0
  have E5 : Aside (w3.cell? ⟨br, 5, none⟩ = some (.slice a5 C.length c5)) := (six g1.s0).2.2.2.2.2
  clear S3 cx g1 g2 g3 hcell hform hcap
  go_wp2_with fail
  have kS : K w3 w3.drew := (K.refl w3).drew
  have KW0 : Aside (K w3 w3.drew) := kS
  refine Z_region 15 (fun V => K w3 V) (by kernel_rfl) kS (fun _ => ?_)
  generalize w3.drew = V0 at *
  refine Z_take (i := 0) (oi := { dst := some 48, op := Go.Op.move (Go.Operand.tmp 0), type := 46, pos := "ref.go:60", after := #[], guard := none }) (v := ?_) rfl (by kernel_rfl) (by kernel_rfl) (by kernel_rfl) (by kernel_rfl) (fun _ _ _ h => h) (Or.inl ⟨by rfl, ?_⟩) kS ?_
  rotate_left
  · intro w' hSw
    first | (go_simp; with_reducible rfl) | (go_simp; done)
  try simp only [Act.put, List.setIfInBounds_toArray, List.set_cons_zero, List.set_cons_succ]
  refine Z_take (i := 2) (oi := { dst := some 50, op := Go.Op.move (Go.Operand.tmp 0), type := 46, pos := "ref.go:60", after := #[], guard := none }) (v := ?_) rfl (by kernel_rfl) (by kernel_rfl) (by kernel_rfl) (by kernel_rfl) (fun _ _ _ h => h) (Or.inl ⟨by rfl, ?_⟩) kS ?_
  rotate_left
  · intro w' hSw
    first | (go_simp; with_reducible rfl) | (go_simp; done)
  try simp only [Act.put, List.setIfInBounds_toArray, List.set_cons_zero, List.set_cons_succ]
  refine Z_take (i := 3) (oi := { dst := some 51, op := Go.Op.nilCheck (Go.Operand.tmp 50), type := 0, pos := "ref.go:60", after := #[{ on := 2, ground := Go.Ground.data }], guard := none }) (v := ?_) rfl (by kernel_rfl) (by kernel_rfl) (by kernel_rfl) (by kernel_rfl) (fun _ _ _ h => h) (Or.inl ⟨by rfl, ?_⟩) kS ?_
  rotate_left
  · intro w' hSw
    first | (go_simp; with_reducible rfl) | (go_simp; done)
  try simp only [Act.put, List.setIfInBounds_toArray, List.set_cons_zero, List.set_cons_succ]
  refine Z_take (i := 4) (oi := { dst := some 52, op := Go.Op.fieldAddr 37 (Go.Operand.tmp 51) 2, type := 0, pos := "ref.go:60", after := #[{ on := 3, ground := Go.Ground.data }], guard := none }) (v := ?_) rfl (by kernel_rfl) (by kernel_rfl) (by kernel_rfl) (by kernel_rfl) (fun _ _ _ h => h) (Or.inl ⟨by rfl, ?_⟩) kS ?_
  rotate_left
  · intro w' hSw
    first | (go_simp; with_reducible rfl) | (go_simp; done)
  try simp only [Act.put, List.setIfInBounds_toArray, List.set_cons_zero, List.set_cons_succ]
  refine Z_take (i := 5) (oi := { dst := some 53, op := Go.Op.load 35 (Go.Operand.tmp 52), type := 35, pos := "ref.go:60", after := #[{ on := 4, ground := Go.Ground.data }], guard := none }) (v := ?_) rfl (by kernel_rfl) (by kernel_rfl) (by kernel_rfl) (by kernel_rfl) (fun _ _ _ h => h) (Or.inl ⟨by rfl, ?_⟩) kS ?_
  rotate_left
  · intro w' hSw
    have h5 := Hp.K.cell hSw E5.out
    first | (go_simp; with_reducible rfl) | (go_simp; done)
  try simp only [Act.put, List.setIfInBounds_toArray, List.set_cons_zero, List.set_cons_succ]
  refine Z_take (i := 7) (oi := { dst := some 55, op := Go.Op.move (Go.Operand.tmp 9), type := 49, pos := "ref.go:60", after := #[], guard := none }) (v := ?_) rfl (by kernel_rfl) (by kernel_rfl) (by kernel_rfl) (by kernel_rfl) (fun _ _ _ h => h) (Or.inl ⟨by rfl, ?_⟩) kS ?_
  rotate_left
  · intro w' hSw
    first | (go_simp; with_reducible rfl) | (go_simp; done)
  try simp only [Act.put, List.setIfInBounds_toArray, List.set_cons_zero, List.set_cons_succ]
  refine Z_take (i := 8) (oi := { dst := some 56, op := Go.Op.move (Go.Operand.tmp 1), type := 3, pos := "ref.go:60", after := #[], guard := none }) (v := ?_) rfl (by kernel_rfl) (by kernel_rfl) (by kernel_rfl) (by kernel_rfl) (fun _ _ _ h => h) (Or.inl ⟨by rfl, ?_⟩) kS ?_
  rotate_left
  · intro w' hSw
    first | (go_simp; with_reducible rfl) | (go_simp; done)
  try simp only [Act.put, List.setIfInBounds_toArray, List.set_cons_zero, List.set_cons_succ]
  refine Z_ready (rs := [1, 9]) (by kernel_rfl) (by simp) ?_
  clear kS
  refine AllZ.cons (o := { dst := some 49, op := Go.Op.buildSlice 35 0 #[], type := 35, pos := "ref.go:60", after := #[], guard := none }) rfl (fun KK hK => ?_) (AllZ.cons (o := { dst := some 57, op := Go.Op.makeSlice 87 (Go.Operand.tmp 56) (Go.Operand.tmp 56), type := 87, pos := "ref.go:60", after := #[{ on := 8, ground := Go.Ground.data }, { on := 8, ground := Go.Ground.data }], guard := none }) rfl (fun KK hK => ?_) AllZ.nil)
  · have M := mk1 KW0.out
    have KW1 : Aside (K w3 (V0.alloc (.cells #[] 108))) := M.1
    have OA : Aside ((V0.alloc (.cells #[] 108)).ownsRow w3.heap.size 108 2 (.slice (some ⟨V0.heap.size, 0, none⟩) 0 0) 0 []) := M.2.2.1
    have HA : Aside ((V0.alloc (.cells #[] 108)).heap[V0.heap.size]? = some (.cells #[] 108)) := M.2.2.2
    have KP0 : Aside (Kp V0 (V0.alloc (.cells #[] 108))) := Kp.ofK M.2.1
    clear M
    go_simp
    refine hK.out _ _ (fun _ => KW1.out) (fun _ => ?_)
    have kS := KW1.out
    clear hK KK
    try simp only [Act.put, List.setIfInBounds_toArray, List.set_cons_zero, List.set_cons_succ]
    generalize V0.alloc (.cells #[] 108) = V1 at *
    generalize V0.heap.size = gA at *
    clear KW0
    refine Z_ready (rs := [6, 9]) (by kernel_rfl) (by simp) ?_
    clear kS
    refine AllZ.cons (o := { dst := some 54, op := Go.Op.call { callee := Go.Callee.builtin Go.Builtin.append, args := #[Go.Operand.tmp 49, Go.Operand.tmp 53], argTypes := #[35, 35] }, type := 35, pos := "ref.go:60", after := #[{ on := 1, ground := Go.Ground.data }, { on := 5, ground := Go.Ground.data }], guard := none }) rfl (fun KK hK => ?_) (AllZ.cons (o := { dst := some 57, op := Go.Op.makeSlice 87 (Go.Operand.tmp 56) (Go.Operand.tmp 56), type := 87, pos := "ref.go:60", after := #[{ on := 8, ground := Go.Ground.data }, { on := 8, ground := Go.Ground.data }], guard := none }) rfl (fun KK hK => ?_) AllZ.nil)
    · obtain ⟨v6, V2, hrun, hk, hkp, ho, hs⟩ := mk6 KW1.out OA.out HA.out (SRC.out _ KW1.out) O0.out FEW.out
      have KW2 : Aside (K w3 V2) := hk
      have O6 : Aside (V2.ownsRow w3.heap.size 108 2 v6 C.length (recVals C)) := ho
      have KP1 : Aside (Kp V1 V2) := hkp
      refine oper_appendW rfl (by rfl) (by rfl) (by rfl) hrun ?_
      clear hrun hk hkp ho hs OA HA
      refine hK.out _ _ (fun _ => KW2.out) (fun _ => ?_)
      have kS := KW2.out
      clear hK KK
      try simp only [Act.put, List.setIfInBounds_toArray, List.set_cons_zero, List.set_cons_succ]
      clear KW1
      refine Z_ready (rs := [9]) (by kernel_rfl) (by simp) ?_
      clear kS
      refine AllZ.cons (o := { dst := some 57, op := Go.Op.makeSlice 87 (Go.Operand.tmp 56) (Go.Operand.tmp 56), type := 87, pos := "ref.go:60", after := #[{ on := 8, ground := Go.Ground.data }, { on := 8, ground := Go.Ground.data }], guard := none }) rfl (fun KK hK => ?_) AllZ.nil
      obtain ⟨V3, hrun, hk, hkk, ho⟩ := mk9 KW2.out n HN.out
      have KW3 : Aside (K w3 V3) := hk
      have O9 : Aside (V3.ownsRow w3.heap.size 41 1 (.slice (some ⟨V2.heap.size, 0, none⟩) n n) n ((List.replicate n (0 : Int)).map fun x => .int .u64 x)) := ho
      have KK2 : Aside (K V2 V3) := hkk
      refine oper_makeW rfl (by rfl) (by rfl) (by rfl) hrun ?_
      clear hrun hk hkk ho
      refine hK.out _ _ (fun _ => KW3.out) (fun _ => ?_)
      have kS := KW3.out
      clear hK KK
      try simp only [Act.put, List.setIfInBounds_toArray, List.set_cons_zero, List.set_cons_succ]
      generalize V2.heap.size = gB at *
      refine Z_take (i := 10) (oi := { dst := some 58, op := Go.Op.build 108 #[(0, Go.Operand.tmp 55), (1, Go.Operand.tmp 57)], type := 108, pos := "ref.go:60", after := #[{ on := 7, ground := Go.Ground.data }, { on := 9, ground := Go.Ground.data }], guard := none }) (v := ?_) rfl (by kernel_rfl) (by kernel_rfl) (by kernel_rfl) (by kernel_rfl) (fun _ _ _ h => h) (Or.inl ⟨by rfl, ?_⟩) kS ?_
      rotate_left
      · intro w' hSw
        first | (go_simp; with_reducible rfl) | (go_simp; done)
      try simp only [Act.put, List.setIfInBounds_toArray, List.set_cons_zero, List.set_cons_succ]
      have O6 := own_kA O6 KK2
      clear KW2
      refine Z_ready (rs := [11]) (by kernel_rfl) (by simp) ?_
      clear kS
      refine AllZ.cons (o := { dst := some 59, op := Go.Op.buildSlice 35 1 #[(0, Go.Operand.tmp 58)], type := 35, pos := "ref.go:60", after := #[{ on := 10, ground := Go.Ground.data }], guard := none }) rfl (fun KK hK => ?_) AllZ.nil
      have M := mk11 KW3.out (.int .u64 x) (.slice (some ⟨gB, 0, none⟩) n n)
      have KW4 : Aside (K w3 (V3.alloc (.cells #[.int .u64 x, .slice (some ⟨gB, 0, none⟩) n n] 108))) := M.1
      have HC : Aside ((V3.alloc (.cells #[.int .u64 x, .slice (some ⟨gB, 0, none⟩) n n] 108)).heap[V3.heap.size]? = some (.cells #[.int .u64 x, .slice (some ⟨gB, 0, none⟩) n n] 108)) := M.2.2
      have KK3 : Aside (K V3 (V3.alloc (.cells #[.int .u64 x, .slice (some ⟨gB, 0, none⟩) n n] 108))) := M.2.1
      clear M
      refine oper_buildW rfl (by rfl) (by rfl) (run_buildSlice_rec _ _ _) ?_
      refine hK.out _ _ (fun _ => KW4.out) (fun _ => ?_)
      have kS := KW4.out
      clear hK KK
      try simp only [Act.put, List.setIfInBounds_toArray, List.set_cons_zero, List.set_cons_succ]
      generalize V3.alloc (.cells #[.int .u64 x, .slice (some ⟨gB, 0, none⟩) n n] 108) = V4 at *
      generalize V3.heap.size = gC at *
      have O6 := own_kA O6 KK3
      have O9 := own_kA O9 KK3
      clear KW3
      obtain ⟨a7, c7, W, hrun, hk, ho, ho9⟩ := mk12 (r := newR x (.slice (some ⟨gB, 0, none⟩) n n) n) KW4.out O6.out HC.out rfl FEW2.out O9.out
      have KWW : Aside (K w3 W) := hk
      have SF : Aside _ := mk_end S3A.out hk ⟨_, _, rfl⟩ ho ho9 FEW2.out HN.out
      refine Z_ready (rs := [12]) (by kernel_rfl) (by simp) ?_
      clear kS
      refine AllZ.cons (o := { dst := some 60, op := Go.Op.call { callee := Go.Callee.builtin Go.Builtin.append, args := #[Go.Operand.tmp 54, Go.Operand.tmp 59], argTypes := #[35, 35] }, type := 35, pos := "ref.go:60", after := #[{ on := 6, ground := Go.Ground.data }, { on := 11, ground := Go.Ground.data }, { on := 6, ground := Go.Ground.chain }], guard := none }) rfl (fun KK hK => ?_) AllZ.nil
      refine oper_appendW rfl (by rfl) (by rfl) (by rfl) hrun ?_
      clear hrun hk ho ho9
      refine hK.out _ _ (fun _ => KWW.out) (fun _ => ?_)
      have kS := KWW.out
      clear hK KK
      try simp only [Act.put, List.setIfInBounds_toArray, List.set_cons_zero, List.set_cons_succ]
      refine Z_ready (rs := [13]) (by kernel_rfl) (by simp) ?_
      clear kS
      refine AllZ.cons (o := { dst := some 61, op := Go.Op.nilCheck (Go.Operand.tmp 48), type := 0, pos := "ref.go:60", after := #[{ on := 0, ground := Go.Ground.data }, { on := 0, ground := Go.Ground.phase }, { on := 1, ground := Go.Ground.phase }, { on := 2, ground := Go.Ground.phase }, { on := 3, ground := Go.Ground.phase }, { on := 4, ground := Go.Ground.phase }, { on := 5, ground := Go.Ground.phase }, { on := 6, ground := Go.Ground.phase }, { on := 7, ground := Go.Ground.phase }, { on := 8, ground := Go.Ground.phase }, { on := 9, ground := Go.Ground.phase }, { on := 10, ground := Go.Ground.phase }, { on := 11, ground := Go.Ground.phase }, { on := 12, ground := Go.Ground.phase }], guard := none }) rfl (fun KK hK => ?_) AllZ.nil
      go_simp
      refine hK.out _ _ (fun _ => KWW.out) (fun _ => ?_)
      have kS := KWW.out
      clear hK KK
      try simp only [Act.put, List.setIfInBounds_toArray, List.set_cons_zero, List.set_cons_succ]
      refine Z_take (i := 14) (oi := { dst := some 62, op := Go.Op.fieldAddr 37 (Go.Operand.tmp 61) 2, type := 0, pos := "ref.go:60", after := #[{ on := 13, ground := Go.Ground.data }, { on := 0, ground := Go.Ground.phase }, { on := 1, ground := Go.Ground.phase }, { on := 2, ground := Go.Ground.phase }, { on := 3, ground := Go.Ground.phase }, { on := 4, ground := Go.Ground.phase }, { on := 5, ground := Go.Ground.phase }, { on := 6, ground := Go.Ground.phase }, { on := 7, ground := Go.Ground.phase }, { on := 8, ground := Go.Ground.phase }, { on := 9, ground := Go.Ground.phase }, { on := 10, ground := Go.Ground.phase }, { on := 11, ground := Go.Ground.phase }, { on := 12, ground := Go.Ground.phase }], guard := none }) (v := ?_) rfl (by kernel_rfl) (by kernel_rfl) (by kernel_rfl) (by kernel_rfl) (fun _ _ _ h => h) (Or.inl ⟨by rfl, ?_⟩) kS ?_
      rotate_left
      · intro w' hSw
        first | (go_simp; with_reducible rfl) | (go_simp; done)
      try simp only [Act.put, List.setIfInBounds_toArray, List.set_cons_zero, List.set_cons_succ]
      refine Z_ready (rs := [15]) (by kernel_rfl) (by simp) ?_
      clear kS
      refine AllZ.cons (o := { dst := none, op := Go.Op.store 35 (Go.Operand.tmp 62) (Go.Operand.tmp 60), type := 0, pos := "ref.go:60", after := #[{ on := 14, ground := Go.Ground.data }, { on := 12, ground := Go.Ground.data }, { on := 12, ground := Go.Ground.chain }, { on := 0, ground := Go.Ground.phase }, { on := 1, ground := Go.Ground.phase }, { on := 2, ground := Go.Ground.phase }, { on := 3, ground := Go.Ground.phase }, { on := 4, ground := Go.Ground.phase }, { on := 5, ground := Go.Ground.phase }, { on := 6, ground := Go.Ground.phase }, { on := 7, ground := Go.Ground.phase }, { on := 8, ground := Go.Ground.phase }, { on := 9, ground := Go.Ground.phase }, { on := 10, ground := Go.Ground.phase }, { on := 11, ground := Go.Ground.phase }, { on := 12, ground := Go.Ground.phase }], guard := none }) rfl (fun KK hK => ?_) AllZ.nil
      have g5 := Hp.K.cell KWW.out E5.out
      have gz : W.frozen? ⟨br, 5, none⟩ = false := frz (Hp.K.block KWW.out B3.out) 5
      go_simp
      refine hK.out _ _ (fun h => absurd rfl h) (fun _ => ?_)
      clear hK KK g5 gz
      try simp only [Act.put, List.setIfInBounds_toArray, List.set_cons_zero, List.set_cons_succ]
      refine Z_done (by kernel_rfl) ?_ _
      go_wp2_with fail
      go_ret2
      have hSF := SF.out
      rw [List.length_append] at hSF
      exact ⟨rfl, E1, _, HE.out.1, hSF⟩
    · obtain ⟨V2, hrun, hk, hkk, ho⟩ := mk9 KW1.out n HN.out
      have KW2 : Aside (K w3 V2) := hk
      have O9 : Aside (V2.ownsRow w3.heap.size 41 1 (.slice (some ⟨V1.heap.size, 0, none⟩) n n) n ((List.replicate n (0 : Int)).map fun x => .int .u64 x)) := ho
      have KK1 : Aside (K V1 V2) := hkk
      refine oper_makeW rfl (by rfl) (by rfl) (by rfl) hrun ?_
      clear hrun hk hkk ho
      refine hK.out _ _ (fun _ => KW2.out) (fun _ => ?_)
      have kS := KW2.out
      clear hK KK
      try simp only [Act.put, List.setIfInBounds_toArray, List.set_cons_zero, List.set_cons_succ]
      generalize V1.heap.size = gB at *
      refine Z_take (i := 10) (oi := { dst := some 58, op := Go.Op.build 108 #[(0, Go.Operand.tmp 55), (1, Go.Operand.tmp 57)], type := 108, pos := "ref.go:60", after := #[{ on := 7, ground := Go.Ground.data }, { on := 9, ground := Go.Ground.data }], guard := none }) (v := ?_) rfl (by kernel_rfl) (by kernel_rfl) (by kernel_rfl) (by kernel_rfl) (fun _ _ _ h => h) (Or.inl ⟨by rfl, ?_⟩) kS ?_
      rotate_left
      · intro w' hSw
        first | (go_simp; with_reducible rfl) | (go_simp; done)
      try simp only [Act.put, List.setIfInBounds_toArray, List.set_cons_zero, List.set_cons_succ]
      have OA := own_kA OA KK1
      have HA := hb_kA HA KK1
      clear KW1
      refine Z_ready (rs := [6, 11]) (by kernel_rfl) (by simp) ?_
      clear kS
      refine AllZ.cons (o := { dst := some 54, op := Go.Op.call { callee := Go.Callee.builtin Go.Builtin.append, args := #[Go.Operand.tmp 49, Go.Operand.tmp 53], argTypes := #[35, 35] }, type := 35, pos := "ref.go:60", after := #[{ on := 1, ground := Go.Ground.data }, { on := 5, ground := Go.Ground.data }], guard := none }) rfl (fun KK hK => ?_) (AllZ.cons (o := { dst := some 59, op := Go.Op.buildSlice 35 1 #[(0, Go.Operand.tmp 58)], type := 35, pos := "ref.go:60", after := #[{ on := 10, ground := Go.Ground.data }], guard := none }) rfl (fun KK hK => ?_) AllZ.nil)
      · obtain ⟨v6, V3, hrun, hk, hkp, ho, hs⟩ := mk6 KW2.out OA.out HA.out (SRC.out _ KW2.out) O0.out FEW.out
        have KW3 : Aside (K w3 V3) := hk
        have O6 : Aside (V3.ownsRow w3.heap.size 108 2 v6 C.length (recVals C)) := ho
        have KP2 : Aside (Kp V2 V3) := hkp
        refine oper_appendW rfl (by rfl) (by rfl) (by rfl) hrun ?_
        clear hrun hk hkp ho hs OA HA
        refine hK.out _ _ (fun _ => KW3.out) (fun _ => ?_)
        have kS := KW3.out
        clear hK KK
        try simp only [Act.put, List.setIfInBounds_toArray, List.set_cons_zero, List.set_cons_succ]
        have O9 := own_kpA O9 KP2
        clear KW2
        refine Z_ready (rs := [11]) (by kernel_rfl) (by simp) ?_
        clear kS
        refine AllZ.cons (o := { dst := some 59, op := Go.Op.buildSlice 35 1 #[(0, Go.Operand.tmp 58)], type := 35, pos := "ref.go:60", after := #[{ on := 10, ground := Go.Ground.data }], guard := none }) rfl (fun KK hK => ?_) AllZ.nil
        have M := mk11 KW3.out (.int .u64 x) (.slice (some ⟨gB, 0, none⟩) n n)
        have KW4 : Aside (K w3 (V3.alloc (.cells #[.int .u64 x, .slice (some ⟨gB, 0, none⟩) n n] 108))) := M.1
        have HC : Aside ((V3.alloc (.cells #[.int .u64 x, .slice (some ⟨gB, 0, none⟩) n n] 108)).heap[V3.heap.size]? = some (.cells #[.int .u64 x, .slice (some ⟨gB, 0, none⟩) n n] 108)) := M.2.2
        have KK3 : Aside (K V3 (V3.alloc (.cells #[.int .u64 x, .slice (some ⟨gB, 0, none⟩) n n] 108))) := M.2.1
        clear M
        refine oper_buildW rfl (by rfl) (by rfl) (run_buildSlice_rec _ _ _) ?_
        refine hK.out _ _ (fun _ => KW4.out) (fun _ => ?_)
        have kS := KW4.out
        clear hK KK
        try simp only [Act.put, List.setIfInBounds_toArray, List.set_cons_zero, List.set_cons_succ]
        generalize V3.alloc (.cells #[.int .u64 x, .slice (some ⟨gB, 0, none⟩) n n] 108) = V4 at *
        generalize V3.heap.size = gC at *
        have O6 := own_kA O6 KK3
        have O9 := own_kA O9 KK3
        clear KW3
        obtain ⟨a7, c7, W, hrun, hk, ho, ho9⟩ := mk12 (r := newR x (.slice (some ⟨gB, 0, none⟩) n n) n) KW4.out O6.out HC.out rfl FEW2.out O9.out
        have KWW : Aside (K w3 W) := hk
        have SF : Aside _ := mk_end S3A.out hk ⟨_, _, rfl⟩ ho ho9 FEW2.out HN.out
        refine Z_ready (rs := [12]) (by kernel_rfl) (by simp) ?_
        clear kS
        refine AllZ.cons (o := { dst := some 60, op := Go.Op.call { callee := Go.Callee.builtin Go.Builtin.append, args := #[Go.Operand.tmp 54, Go.Operand.tmp 59], argTypes := #[35, 35] }, type := 35, pos := "ref.go:60", after := #[{ on := 6, ground := Go.Ground.data }, { on := 11, ground := Go.Ground.data }, { on := 6, ground := Go.Ground.chain }], guard := none }) rfl (fun KK hK => ?_) AllZ.nil
        refine oper_appendW rfl (by rfl) (by rfl) (by rfl) hrun ?_
        clear hrun hk ho ho9
        refine hK.out _ _ (fun _ => KWW.out) (fun _ => ?_)
        have kS := KWW.out
        clear hK KK
        try simp only [Act.put, List.setIfInBounds_toArray, List.set_cons_zero, List.set_cons_succ]
        refine Z_ready (rs := [13]) (by kernel_rfl) (by simp) ?_
        clear kS
        refine AllZ.cons (o := { dst := some 61, op := Go.Op.nilCheck (Go.Operand.tmp 48), type := 0, pos := "ref.go:60", after := #[{ on := 0, ground := Go.Ground.data }, { on := 0, ground := Go.Ground.phase }, { on := 1, ground := Go.Ground.phase }, { on := 2, ground := Go.Ground.phase }, { on := 3, ground := Go.Ground.phase }, { on := 4, ground := Go.Ground.phase }, { on := 5, ground := Go.Ground.phase }, { on := 6, ground := Go.Ground.phase }, { on := 7, ground := Go.Ground.phase }, { on := 8, ground := Go.Ground.phase }, { on := 9, ground := Go.Ground.phase }, { on := 10, ground := Go.Ground.phase }, { on := 11, ground := Go.Ground.phase }, { on := 12, ground := Go.Ground.phase }], guard := none }) rfl (fun KK hK => ?_) AllZ.nil
        go_simp
        refine hK.out _ _ (fun _ => KWW.out) (fun _ => ?_)
        have kS := KWW.out
        clear hK KK
        try simp only [Act.put, List.setIfInBounds_toArray, List.set_cons_zero, List.set_cons_succ]
        refine Z_take (i := 14) (oi := { dst := some 62, op := Go.Op.fieldAddr 37 (Go.Operand.tmp 61) 2, type := 0, pos := "ref.go:60", after := #[{ on := 13, ground := Go.Ground.data }, { on := 0, ground := Go.Ground.phase }, { on := 1, ground := Go.Ground.phase }, { on := 2, ground := Go.Ground.phase }, { on := 3, ground := Go.Ground.phase }, { on := 4, ground := Go.Ground.phase }, { on := 5, ground := Go.Ground.phase }, { on := 6, ground := Go.Ground.phase }, { on := 7, ground := Go.Ground.phase }, { on := 8, ground := Go.Ground.phase }, { on := 9, ground := Go.Ground.phase }, { on := 10, ground := Go.Ground.phase }, { on := 11, ground := Go.Ground.phase }, { on := 12, ground := Go.Ground.phase }], guard := none }) (v := ?_) rfl (by kernel_rfl) (by kernel_rfl) (by kernel_rfl) (by kernel_rfl) (fun _ _ _ h => h) (Or.inl ⟨by rfl, ?_⟩) kS ?_
        rotate_left
        · intro w' hSw
          first | (go_simp; with_reducible rfl) | (go_simp; done)
        try simp only [Act.put, List.setIfInBounds_toArray, List.set_cons_zero, List.set_cons_succ]
        refine Z_ready (rs := [15]) (by kernel_rfl) (by simp) ?_
        clear kS
        refine AllZ.cons (o := { dst := none, op := Go.Op.store 35 (Go.Operand.tmp 62) (Go.Operand.tmp 60), type := 0, pos := "ref.go:60", after := #[{ on := 14, ground := Go.Ground.data }, { on := 12, ground := Go.Ground.data }, { on := 12, ground := Go.Ground.chain }, { on := 0, ground := Go.Ground.phase }, { on := 1, ground := Go.Ground.phase }, { on := 2, ground := Go.Ground.phase }, { on := 3, ground := Go.Ground.phase }, { on := 4, ground := Go.Ground.phase }, { on := 5, ground := Go.Ground.phase }, { on := 6, ground := Go.Ground.phase }, { on := 7, ground := Go.Ground.phase }, { on := 8, ground := Go.Ground.phase }, { on := 9, ground := Go.Ground.phase }, { on := 10, ground := Go.Ground.phase }, { on := 11, ground := Go.Ground.phase }, { on := 12, ground := Go.Ground.phase }], guard := none }) rfl (fun KK hK => ?_) AllZ.nil
        have g5 := Hp.K.cell KWW.out E5.out
        have gz : W.frozen? ⟨br, 5, none⟩ = false := frz (Hp.K.block KWW.out B3.out) 5
        go_simp
        refine hK.out _ _ (fun h => absurd rfl h) (fun _ => ?_)
        clear hK KK g5 gz
        try simp only [Act.put, List.setIfInBounds_toArray, List.set_cons_zero, List.set_cons_succ]
        refine Z_done (by kernel_rfl) ?_ _
        go_wp2_with fail
        go_ret2
        have hSF := SF.out
        rw [List.length_append] at hSF
        exact ⟨rfl, E1, _, HE.out.1, hSF⟩
      · have M := mk11 KW2.out (.int .u64 x) (.slice (some ⟨gB, 0, none⟩) n n)
        have KW3 : Aside (K w3 (V2.alloc (.cells #[.int .u64 x, .slice (some ⟨gB, 0, none⟩) n n] 108))) := M.1
        have HC : Aside ((V2.alloc (.cells #[.int .u64 x, .slice (some ⟨gB, 0, none⟩) n n] 108)).heap[V2.heap.size]? = some (.cells #[.int .u64 x, .slice (some ⟨gB, 0, none⟩) n n] 108)) := M.2.2
        have KK2 : Aside (K V2 (V2.alloc (.cells #[.int .u64 x, .slice (some ⟨gB, 0, none⟩) n n] 108))) := M.2.1
        clear M
        refine oper_buildW rfl (by rfl) (by rfl) (run_buildSlice_rec _ _ _) ?_
        refine hK.out _ _ (fun _ => KW3.out) (fun _ => ?_)
        have kS := KW3.out
        clear hK KK
        try simp only [Act.put, List.setIfInBounds_toArray, List.set_cons_zero, List.set_cons_succ]
        generalize V2.alloc (.cells #[.int .u64 x, .slice (some ⟨gB, 0, none⟩) n n] 108) = V3 at *
        generalize V2.heap.size = gC at *
        have OA := own_kA OA KK2
        have HA := hb_kA HA KK2
        have O9 := own_kA O9 KK2
        clear KW2
        refine Z_ready (rs := [6]) (by kernel_rfl) (by simp) ?_
        clear kS
        refine AllZ.cons (o := { dst := some 54, op := Go.Op.call { callee := Go.Callee.builtin Go.Builtin.append, args := #[Go.Operand.tmp 49, Go.Operand.tmp 53], argTypes := #[35, 35] }, type := 35, pos := "ref.go:60", after := #[{ on := 1, ground := Go.Ground.data }, { on := 5, ground := Go.Ground.data }], guard := none }) rfl (fun KK hK => ?_) AllZ.nil
        obtain ⟨v6, V4, hrun, hk, hkp, ho, hs⟩ := mk6 KW3.out OA.out HA.out (SRC.out _ KW3.out) O0.out FEW.out
        have KW4 : Aside (K w3 V4) := hk
        have O6 : Aside (V4.ownsRow w3.heap.size 108 2 v6 C.length (recVals C)) := ho
        have KP3 : Aside (Kp V3 V4) := hkp
        refine oper_appendW rfl (by rfl) (by rfl) (by rfl) hrun ?_
        clear hrun hk hkp ho hs OA HA
        refine hK.out _ _ (fun _ => KW4.out) (fun _ => ?_)
        have kS := KW4.out
        clear hK KK
        try simp only [Act.put, List.setIfInBounds_toArray, List.set_cons_zero, List.set_cons_succ]
        have O9 := own_kpA O9 KP3
        have HC := hc_kp HC KP3
        clear KW3
        obtain ⟨a7, c7, W, hrun, hk, ho, ho9⟩ := mk12 (r := newR x (.slice (some ⟨gB, 0, none⟩) n n) n) KW4.out O6.out HC.out rfl FEW2.out O9.out
        have KWW : Aside (K w3 W) := hk
        have SF : Aside _ := mk_end S3A.out hk ⟨_, _, rfl⟩ ho ho9 FEW2.out HN.out
        refine Z_ready (rs := [12]) (by kernel_rfl) (by simp) ?_
        clear kS
        refine AllZ.cons (o := { dst := some 60, op := Go.Op.call { callee := Go.Callee.builtin Go.Builtin.append, args := #[Go.Operand.tmp 54, Go.Operand.tmp 59], argTypes := #[35, 35] }, type := 35, pos := "ref.go:60", after := #[{ on := 6, ground := Go.Ground.data }, { on := 11, ground := Go.Ground.data }, { on := 6, ground := Go.Ground.chain }], guard := none }) rfl (fun KK hK => ?_) AllZ.nil
        refine oper_appendW rfl (by rfl) (by rfl) (by rfl) hrun ?_
        clear hrun hk ho ho9
        refine hK.out _ _ (fun _ => KWW.out) (fun _ => ?_)
        have kS := KWW.out
        clear hK KK
        try simp only [Act.put, List.setIfInBounds_toArray, List.set_cons_zero, List.set_cons_succ]
        refine Z_ready (rs := [13]) (by kernel_rfl) (by simp) ?_
        clear kS
        refine AllZ.cons (o := { dst := some 61, op := Go.Op.nilCheck (Go.Operand.tmp 48), type := 0, pos := "ref.go:60", after := #[{ on := 0, ground := Go.Ground.data }, { on := 0, ground := Go.Ground.phase }, { on := 1, ground := Go.Ground.phase }, { on := 2, ground := Go.Ground.phase }, { on := 3, ground := Go.Ground.phase }, { on := 4, ground := Go.Ground.phase }, { on := 5, ground := Go.Ground.phase }, { on := 6, ground := Go.Ground.phase }, { on := 7, ground := Go.Ground.phase }, { on := 8, ground := Go.Ground.phase }, { on := 9, ground := Go.Ground.phase }, { on := 10, ground := Go.Ground.phase }, { on := 11, ground := Go.Ground.phase }, { on := 12, ground := Go.Ground.phase }], guard := none }) rfl (fun KK hK => ?_) AllZ.nil
        go_simp
        refine hK.out _ _ (fun _ => KWW.out) (fun _ => ?_)
        have kS := KWW.out
        clear hK KK
        try simp only [Act.put, List.setIfInBounds_toArray, List.set_cons_zero, List.set_cons_succ]
        refine Z_take (i := 14) (oi := { dst := some 62, op := Go.Op.fieldAddr 37 (Go.Operand.tmp 61) 2, type := 0, pos := "ref.go:60", after := #[{ on := 13, ground := Go.Ground.data }, { on := 0, ground := Go.Ground.phase }, { on := 1, ground := Go.Ground.phase }, { on := 2, ground := Go.Ground.phase }, { on := 3, ground := Go.Ground.phase }, { on := 4, ground := Go.Ground.phase }, { on := 5, ground := Go.Ground.phase }, { on := 6, ground := Go.Ground.phase }, { on := 7, ground := Go.Ground.phase }, { on := 8, ground := Go.Ground.phase }, { on := 9, ground := Go.Ground.phase }, { on := 10, ground := Go.Ground.phase }, { on := 11, ground := Go.Ground.phase }, { on := 12, ground := Go.Ground.phase }], guard := none }) (v := ?_) rfl (by kernel_rfl) (by kernel_rfl) (by kernel_rfl) (by kernel_rfl) (fun _ _ _ h => h) (Or.inl ⟨by rfl, ?_⟩) kS ?_
        rotate_left
        · intro w' hSw
          first | (go_simp; with_reducible rfl) | (go_simp; done)
        try simp only [Act.put, List.setIfInBounds_toArray, List.set_cons_zero, List.set_cons_succ]
        refine Z_ready (rs := [15]) (by kernel_rfl) (by simp) ?_
        clear kS
        refine AllZ.cons (o := { dst := none, op := Go.Op.store 35 (Go.Operand.tmp 62) (Go.Operand.tmp 60), type := 0, pos := "ref.go:60", after := #[{ on := 14, ground := Go.Ground.data }, { on := 12, ground := Go.Ground.data }, { on := 12, ground := Go.Ground.chain }, { on := 0, ground := Go.Ground.phase }, { on := 1, ground := Go.Ground.phase }, { on := 2, ground := Go.Ground.phase }, { on := 3, ground := Go.Ground.phase }, { on := 4, ground := Go.Ground.phase }, { on := 5, ground := Go.Ground.phase }, { on := 6, ground := Go.Ground.phase }, { on := 7, ground := Go.Ground.phase }, { on := 8, ground := Go.Ground.phase }, { on := 9, ground := Go.Ground.phase }, { on := 10, ground := Go.Ground.phase }, { on := 11, ground := Go.Ground.phase }, { on := 12, ground := Go.Ground.phase }], guard := none }) rfl (fun KK hK => ?_) AllZ.nil
        have g5 := Hp.K.cell KWW.out E5.out
        have gz : W.frozen? ⟨br, 5, none⟩ = false := frz (Hp.K.block KWW.out B3.out) 5
        go_simp
        refine hK.out _ _ (fun h => absurd rfl h) (fun _ => ?_)
        clear hK KK g5 gz
        try simp only [Act.put, List.setIfInBounds_toArray, List.set_cons_zero, List.set_cons_succ]
        refine Z_done (by kernel_rfl) ?_ _
        go_wp2_with fail
        go_ret2
        have hSF := SF.out
        rw [List.length_append] at hSF
        exact ⟨rfl, E1, _, HE.out.1, hSF⟩
  · obtain ⟨V1, hrun, hk, hkk, ho⟩ := mk9 KW0.out n HN.out
    have KW1 : Aside (K w3 V1) := hk
    have O9 : Aside (V1.ownsRow w3.heap.size 41 1 (.slice (some ⟨V0.heap.size, 0, none⟩) n n) n ((List.replicate n (0 : Int)).map fun x => .int .u64 x)) := ho
    have KK0 : Aside (K V0 V1) := hkk
    refine oper_makeW rfl (by rfl) (by rfl) (by rfl) hrun ?_
    clear hrun hk hkk ho
    refine hK.out _ _ (fun _ => KW1.out) (fun _ => ?_)
    have kS := KW1.out
    clear hK KK
    try simp only [Act.put, List.setIfInBounds_toArray, List.set_cons_zero, List.set_cons_succ]
    generalize V0.heap.size = gB at *
    refine Z_take (i := 10) (oi := { dst := some 58, op := Go.Op.build 108 #[(0, Go.Operand.tmp 55), (1, Go.Operand.tmp 57)], type := 108, pos := "ref.go:60", after := #[{ on := 7, ground := Go.Ground.data }, { on := 9, ground := Go.Ground.data }], guard := none }) (v := ?_) rfl (by kernel_rfl) (by kernel_rfl) (by kernel_rfl) (by kernel_rfl) (fun _ _ _ h => h) (Or.inl ⟨by rfl, ?_⟩) kS ?_
    rotate_left
    · intro w' hSw
      first | (go_simp; with_reducible rfl) | (go_simp; done)
    try simp only [Act.put, List.setIfInBounds_toArray, List.set_cons_zero, List.set_cons_succ]
    clear KW0
    refine Z_ready (rs := [1, 11]) (by kernel_rfl) (by simp) ?_
    clear kS
    refine AllZ.cons (o := { dst := some 49, op := Go.Op.buildSlice 35 0 #[], type := 35, pos := "ref.go:60", after := #[], guard := none }) rfl (fun KK hK => ?_) (AllZ.cons (o := { dst := some 59, op := Go.Op.buildSlice 35 1 #[(0, Go.Operand.tmp 58)], type := 35, pos := "ref.go:60", after := #[{ on := 10, ground := Go.Ground.data }], guard := none }) rfl (fun KK hK => ?_) AllZ.nil)
    · have M := mk1 KW1.out
      have KW2 : Aside (K w3 (V1.alloc (.cells #[] 108))) := M.1
      have OA : Aside ((V1.alloc (.cells #[] 108)).ownsRow w3.heap.size 108 2 (.slice (some ⟨V1.heap.size, 0, none⟩) 0 0) 0 []) := M.2.2.1
      have HA : Aside ((V1.alloc (.cells #[] 108)).heap[V1.heap.size]? = some (.cells #[] 108)) := M.2.2.2
      have KP1 : Aside (Kp V1 (V1.alloc (.cells #[] 108))) := Kp.ofK M.2.1
      clear M
      go_simp
      refine hK.out _ _ (fun _ => KW2.out) (fun _ => ?_)
      have kS := KW2.out
      clear hK KK
      try simp only [Act.put, List.setIfInBounds_toArray, List.set_cons_zero, List.set_cons_succ]
      generalize V1.alloc (.cells #[] 108) = V2 at *
      generalize V1.heap.size = gA at *
      have O9 := own_kpA O9 KP1
      clear KW1
      refine Z_ready (rs := [6, 11]) (by kernel_rfl) (by simp) ?_
      clear kS
      refine AllZ.cons (o := { dst := some 54, op := Go.Op.call { callee := Go.Callee.builtin Go.Builtin.append, args := #[Go.Operand.tmp 49, Go.Operand.tmp 53], argTypes := #[35, 35] }, type := 35, pos := "ref.go:60", after := #[{ on := 1, ground := Go.Ground.data }, { on := 5, ground := Go.Ground.data }], guard := none }) rfl (fun KK hK => ?_) (AllZ.cons (o := { dst := some 59, op := Go.Op.buildSlice 35 1 #[(0, Go.Operand.tmp 58)], type := 35, pos := "ref.go:60", after := #[{ on := 10, ground := Go.Ground.data }], guard := none }) rfl (fun KK hK => ?_) AllZ.nil)
      · obtain ⟨v6, V3, hrun, hk, hkp, ho, hs⟩ := mk6 KW2.out OA.out HA.out (SRC.out _ KW2.out) O0.out FEW.out
        have KW3 : Aside (K w3 V3) := hk
        have O6 : Aside (V3.ownsRow w3.heap.size 108 2 v6 C.length (recVals C)) := ho
        have KP2 : Aside (Kp V2 V3) := hkp
        refine oper_appendW rfl (by rfl) (by rfl) (by rfl) hrun ?_
        clear hrun hk hkp ho hs OA HA
        refine hK.out _ _ (fun _ => KW3.out) (fun _ => ?_)
        have kS := KW3.out
        clear hK KK
        try simp only [Act.put, List.setIfInBounds_toArray, List.set_cons_zero, List.set_cons_succ]
        have O9 := own_kpA O9 KP2
        clear KW2
        refine Z_ready (rs := [11]) (by kernel_rfl) (by simp) ?_
        clear kS
        refine AllZ.cons (o := { dst := some 59, op := Go.Op.buildSlice 35 1 #[(0, Go.Operand.tmp 58)], type := 35, pos := "ref.go:60", after := #[{ on := 10, ground := Go.Ground.data }], guard := none }) rfl (fun KK hK => ?_) AllZ.nil
        have M := mk11 KW3.out (.int .u64 x) (.slice (some ⟨gB, 0, none⟩) n n)
        have KW4 : Aside (K w3 (V3.alloc (.cells #[.int .u64 x, .slice (some ⟨gB, 0, none⟩) n n] 108))) := M.1
        have HC : Aside ((V3.alloc (.cells #[.int .u64 x, .slice (some ⟨gB, 0, none⟩) n n] 108)).heap[V3.heap.size]? = some (.cells #[.int .u64 x, .slice (some ⟨gB, 0, none⟩) n n] 108)) := M.2.2
        have KK3 : Aside (K V3 (V3.alloc (.cells #[.int .u64 x, .slice (some ⟨gB, 0, none⟩) n n] 108))) := M.2.1
        clear M
        refine oper_buildW rfl (by rfl) (by rfl) (run_buildSlice_rec _ _ _) ?_
        refine hK.out _ _ (fun _ => KW4.out) (fun _ => ?_)
        have kS := KW4.out
        clear hK KK
        try simp only [Act.put, List.setIfInBounds_toArray, List.set_cons_zero, List.set_cons_succ]
        generalize V3.alloc (.cells #[.int .u64 x, .slice (some ⟨gB, 0, none⟩) n n] 108) = V4 at *
        generalize V3.heap.size = gC at *
        have O6 := own_kA O6 KK3
        have O9 := own_kA O9 KK3
        clear KW3
        obtain ⟨a7, c7, W, hrun, hk, ho, ho9⟩ := mk12 (r := newR x (.slice (some ⟨gB, 0, none⟩) n n) n) KW4.out O6.out HC.out rfl FEW2.out O9.out
        have KWW : Aside (K w3 W) := hk
        have SF : Aside _ := mk_end S3A.out hk ⟨_, _, rfl⟩ ho ho9 FEW2.out HN.out
        refine Z_ready (rs := [12]) (by kernel_rfl) (by simp) ?_
        clear kS
        refine AllZ.cons (o := { dst := some 60, op := Go.Op.call { callee := Go.Callee.builtin Go.Builtin.append, args := #[Go.Operand.tmp 54, Go.Operand.tmp 59], argTypes := #[35, 35] }, type := 35, pos := "ref.go:60", after := #[{ on := 6, ground := Go.Ground.data }, { on := 11, ground := Go.Ground.data }, { on := 6, ground := Go.Ground.chain }], guard := none }) rfl (fun KK hK => ?_) AllZ.nil
        refine oper_appendW rfl (by rfl) (by rfl) (by rfl) hrun ?_
        clear hrun hk ho ho9
        refine hK.out _ _ (fun _ => KWW.out) (fun _ => ?_)
        have kS := KWW.out
        clear hK KK
        try simp only [Act.put, List.setIfInBounds_toArray, List.set_cons_zero, List.set_cons_succ]
        refine Z_ready (rs := [13]) (by kernel_rfl) (by simp) ?_
        clear kS
        refine AllZ.cons (o := { dst := some 61, op := Go.Op.nilCheck (Go.Operand.tmp 48), type := 0, pos := "ref.go:60", after := #[{ on := 0, ground := Go.Ground.data }, { on := 0, ground := Go.Ground.phase }, { on := 1, ground := Go.Ground.phase }, { on := 2, ground := Go.Ground.phase }, { on := 3, ground := Go.Ground.phase }, { on := 4, ground := Go.Ground.phase }, { on := 5, ground := Go.Ground.phase }, { on := 6, ground := Go.Ground.phase }, { on := 7, ground := Go.Ground.phase }, { on := 8, ground := Go.Ground.phase }, { on := 9, ground := Go.Ground.phase }, { on := 10, ground := Go.Ground.phase }, { on := 11, ground := Go.Ground.phase }, { on := 12, ground := Go.Ground.phase }], guard := none }) rfl (fun KK hK => ?_) AllZ.nil
        go_simp
        refine hK.out _ _ (fun _ => KWW.out) (fun _ => ?_)
        have kS := KWW.out
        clear hK KK
        try simp only [Act.put, List.setIfInBounds_toArray, List.set_cons_zero, List.set_cons_succ]
        refine Z_take (i := 14) (oi := { dst := some 62, op := Go.Op.fieldAddr 37 (Go.Operand.tmp 61) 2, type := 0, pos := "ref.go:60", after := #[{ on := 13, ground := Go.Ground.data }, { on := 0, ground := Go.Ground.phase }, { on := 1, ground := Go.Ground.phase }, { on := 2, ground := Go.Ground.phase }, { on := 3, ground := Go.Ground.phase }, { on := 4, ground := Go.Ground.phase }, { on := 5, ground := Go.Ground.phase }, { on := 6, ground := Go.Ground.phase }, { on := 7, ground := Go.Ground.phase }, { on := 8, ground := Go.Ground.phase }, { on := 9, ground := Go.Ground.phase }, { on := 10, ground := Go.Ground.phase }, { on := 11, ground := Go.Ground.phase }, { on := 12, ground := Go.Ground.phase }], guard := none }) (v := ?_) rfl (by kernel_rfl) (by kernel_rfl) (by kernel_rfl) (by kernel_rfl) (fun _ _ _ h => h) (Or.inl ⟨by rfl, ?_⟩) kS ?_
        rotate_left
        · intro w' hSw
          first | (go_simp; with_reducible rfl) | (go_simp; done)
        try simp only [Act.put, List.setIfInBounds_toArray, List.set_cons_zero, List.set_cons_succ]
        refine Z_ready (rs := [15]) (by kernel_rfl) (by simp) ?_
        clear kS
        refine AllZ.cons (o := { dst := none, op := Go.Op.store 35 (Go.Operand.tmp 62) (Go.Operand.tmp 60), type := 0, pos := "ref.go:60", after := #[{ on := 14, ground := Go.Ground.data }, { on := 12, ground := Go.Ground.data }, { on := 12, ground := Go.Ground.chain }, { on := 0, ground := Go.Ground.phase }, { on := 1, ground := Go.Ground.phase }, { on := 2, ground := Go.Ground.phase }, { on := 3, ground := Go.Ground.phase }, { on := 4, ground := Go.Ground.phase }, { on := 5, ground := Go.Ground.phase }, { on := 6, ground := Go.Ground.phase }, { on := 7, ground := Go.Ground.phase }, { on := 8, ground := Go.Ground.phase }, { on := 9, ground := Go.Ground.phase }, { on := 10, ground := Go.Ground.phase }, { on := 11, ground := Go.Ground.phase }, { on := 12, ground := Go.Ground.phase }], guard := none }) rfl (fun KK hK => ?_) AllZ.nil
        have g5 := Hp.K.cell KWW.out E5.out
        have gz : W.frozen? ⟨br, 5, none⟩ = false := frz (Hp.K.block KWW.out B3.out) 5
        go_simp
        refine hK.out _ _ (fun h => absurd rfl h) (fun _ => ?_)
        clear hK KK g5 gz
        try simp only [Act.put, List.setIfInBounds_toArray, List.set_cons_zero, List.set_cons_succ]
        refine Z_done (by kernel_rfl) ?_ _
        go_wp2_with fail
        go_ret2
        have hSF := SF.out
        rw [List.length_append] at hSF
        exact ⟨rfl, E1, _, HE.out.1, hSF⟩
      · have M := mk11 KW2.out (.int .u64 x) (.slice (some ⟨gB, 0, none⟩) n n)
        have KW3 : Aside (K w3 (V2.alloc (.cells #[.int .u64 x, .slice (some ⟨gB, 0, none⟩) n n] 108))) := M.1
        have HC : Aside ((V2.alloc (.cells #[.int .u64 x, .slice (some ⟨gB, 0, none⟩) n n] 108)).heap[V2.heap.size]? = some (.cells #[.int .u64 x, .slice (some ⟨gB, 0, none⟩) n n] 108)) := M.2.2
        have KK2 : Aside (K V2 (V2.alloc (.cells #[.int .u64 x, .slice (some ⟨gB, 0, none⟩) n n] 108))) := M.2.1
        clear M
        refine oper_buildW rfl (by rfl) (by rfl) (run_buildSlice_rec _ _ _) ?_
        refine hK.out _ _ (fun _ => KW3.out) (fun _ => ?_)
        have kS := KW3.out
        clear hK KK
        try simp only [Act.put, List.setIfInBounds_toArray, List.set_cons_zero, List.set_cons_succ]
        generalize V2.alloc (.cells #[.int .u64 x, .slice (some ⟨gB, 0, none⟩) n n] 108) = V3 at *
        generalize V2.heap.size = gC at *
        have OA := own_kA OA KK2
        have HA := hb_kA HA KK2
        have O9 := own_kA O9 KK2
        clear KW2
        refine Z_ready (rs := [6]) (by kernel_rfl) (by simp) ?_
        clear kS
        refine AllZ.cons (o := { dst := some 54, op := Go.Op.call { callee := Go.Callee.builtin Go.Builtin.append, args := #[Go.Operand.tmp 49, Go.Operand.tmp 53], argTypes := #[35, 35] }, type := 35, pos := "ref.go:60", after := #[{ on := 1, ground := Go.Ground.data }, { on := 5, ground := Go.Ground.data }], guard := none }) rfl (fun KK hK => ?_) AllZ.nil
        obtain ⟨v6, V4, hrun, hk, hkp, ho, hs⟩ := mk6 KW3.out OA.out HA.out (SRC.out _ KW3.out) O0.out FEW.out
        have KW4 : Aside (K w3 V4) := hk
        have O6 : Aside (V4.ownsRow w3.heap.size 108 2 v6 C.length (recVals C)) := ho
        have KP3 : Aside (Kp V3 V4) := hkp
        refine oper_appendW rfl (by rfl) (by rfl) (by rfl) hrun ?_
        clear hrun hk hkp ho hs OA HA
        refine hK.out _ _ (fun _ => KW4.out) (fun _ => ?_)
        have kS := KW4.out
        clear hK KK
        try simp only [Act.put, List.setIfInBounds_toArray, List.set_cons_zero, List.set_cons_succ]
        have O9 := own_kpA O9 KP3
        have HC := hc_kp HC KP3
        clear KW3
        obtain ⟨a7, c7, W, hrun, hk, ho, ho9⟩ := mk12 (r := newR x (.slice (some ⟨gB, 0, none⟩) n n) n) KW4.out O6.out HC.out rfl FEW2.out O9.out
        have KWW : Aside (K w3 W) := hk
        have SF : Aside _ := mk_end S3A.out hk ⟨_, _, rfl⟩ ho ho9 FEW2.out HN.out
        refine Z_ready (rs := [12]) (by kernel_rfl) (by simp) ?_
        clear kS
        refine AllZ.cons (o := { dst := some 60, op := Go.Op.call { callee := Go.Callee.builtin Go.Builtin.append, args := #[Go.Operand.tmp 54, Go.Operand.tmp 59], argTypes := #[35, 35] }, type := 35, pos := "ref.go:60", after := #[{ on := 6, ground := Go.Ground.data }, { on := 11, ground := Go.Ground.data }, { on := 6, ground := Go.Ground.chain }], guard := none }) rfl (fun KK hK => ?_) AllZ.nil
        refine oper_appendW rfl (by rfl) (by rfl) (by rfl) hrun ?_
        clear hrun hk ho ho9
        refine hK.out _ _ (fun _ => KWW.out) (fun _ => ?_)
        have kS := KWW.out
        clear hK KK
        try simp only [Act.put, List.setIfInBounds_toArray, List.set_cons_zero, List.set_cons_succ]
        refine Z_ready (rs := [13]) (by kernel_rfl) (by simp) ?_
        clear kS
        refine AllZ.cons (o := { dst := some 61, op := Go.Op.nilCheck (Go.Operand.tmp 48), type := 0, pos := "ref.go:60", after := #[{ on := 0, ground := Go.Ground.data }, { on := 0, ground := Go.Ground.phase }, { on := 1, ground := Go.Ground.phase }, { on := 2, ground := Go.Ground.phase }, { on := 3, ground := Go.Ground.phase }, { on := 4, ground := Go.Ground.phase }, { on := 5, ground := Go.Ground.phase }, { on := 6, ground := Go.Ground.phase }, { on := 7, ground := Go.Ground.phase }, { on := 8, ground := Go.Ground.phase }, { on := 9, ground := Go.Ground.phase }, { on := 10, ground := Go.Ground.phase }, { on := 11, ground := Go.Ground.phase }, { on := 12, ground := Go.Ground.phase }], guard := none }) rfl (fun KK hK => ?_) AllZ.nil
        go_simp
        refine hK.out _ _ (fun _ => KWW.out) (fun _ => ?_)
        have kS := KWW.out
        clear hK KK
        try simp only [Act.put, List.setIfInBounds_toArray, List.set_cons_zero, List.set_cons_succ]
        refine Z_take (i := 14) (oi := { dst := some 62, op := Go.Op.fieldAddr 37 (Go.Operand.tmp 61) 2, type := 0, pos := "ref.go:60", after := #[{ on := 13, ground := Go.Ground.data }, { on := 0, ground := Go.Ground.phase }, { on := 1, ground := Go.Ground.phase }, { on := 2, ground := Go.Ground.phase }, { on := 3, ground := Go.Ground.phase }, { on := 4, ground := Go.Ground.phase }, { on := 5, ground := Go.Ground.phase }, { on := 6, ground := Go.Ground.phase }, { on := 7, ground := Go.Ground.phase }, { on := 8, ground := Go.Ground.phase }, { on := 9, ground := Go.Ground.phase }, { on := 10, ground := Go.Ground.phase }, { on := 11, ground := Go.Ground.phase }, { on := 12, ground := Go.Ground.phase }], guard := none }) (v := ?_) rfl (by kernel_rfl) (by kernel_rfl) (by kernel_rfl) (by kernel_rfl) (fun _ _ _ h => h) (Or.inl ⟨by rfl, ?_⟩) kS ?_
        rotate_left
        · intro w' hSw
          first | (go_simp; with_reducible rfl) | (go_simp; done)
        try simp only [Act.put, List.setIfInBounds_toArray, List.set_cons_zero, List.set_cons_succ]
        refine Z_ready (rs := [15]) (by kernel_rfl) (by simp) ?_
        clear kS
        refine AllZ.cons (o := { dst := none, op := Go.Op.store 35 (Go.Operand.tmp 62) (Go.Operand.tmp 60), type := 0, pos := "ref.go:60", after := #[{ on := 14, ground := Go.Ground.data }, { on := 12, ground := Go.Ground.data }, { on := 12, ground := Go.Ground.chain }, { on := 0, ground := Go.Ground.phase }, { on := 1, ground := Go.Ground.phase }, { on := 2, ground := Go.Ground.phase }, { on := 3, ground := Go.Ground.phase }, { on := 4, ground := Go.Ground.phase }, { on := 5, ground := Go.Ground.phase }, { on := 6, ground := Go.Ground.phase }, { on := 7, ground := Go.Ground.phase }, { on := 8, ground := Go.Ground.phase }, { on := 9, ground := Go.Ground.phase }, { on := 10, ground := Go.Ground.phase }, { on := 11, ground := Go.Ground.phase }, { on := 12, ground := Go.Ground.phase }], guard := none }) rfl (fun KK hK => ?_) AllZ.nil
        have g5 := Hp.K.cell KWW.out E5.out
        have gz : W.frozen? ⟨br, 5, none⟩ = false := frz (Hp.K.block KWW.out B3.out) 5
        go_simp
        refine hK.out _ _ (fun h => absurd rfl h) (fun _ => ?_)
        clear hK KK g5 gz
        try simp only [Act.put, List.setIfInBounds_toArray, List.set_cons_zero, List.set_cons_succ]
        refine Z_done (by kernel_rfl) ?_ _
        go_wp2_with fail
        go_ret2
        have hSF := SF.out
        rw [List.length_append] at hSF
        exact ⟨rfl, E1, _, HE.out.1, hSF⟩
    · have M := mk11 KW1.out (.int .u64 x) (.slice (some ⟨gB, 0, none⟩) n n)
      have KW2 : Aside (K w3 (V1.alloc (.cells #[.int .u64 x, .slice (some ⟨gB, 0, none⟩) n n] 108))) := M.1
      have HC : Aside ((V1.alloc (.cells #[.int .u64 x, .slice (some ⟨gB, 0, none⟩) n n] 108)).heap[V1.heap.size]? = some (.cells #[.int .u64 x, .slice (some ⟨gB, 0, none⟩) n n] 108)) := M.2.2
      have KK1 : Aside (K V1 (V1.alloc (.cells #[.int .u64 x, .slice (some ⟨gB, 0, none⟩) n n] 108))) := M.2.1
      clear M
      refine oper_buildW rfl (by rfl) (by rfl) (run_buildSlice_rec _ _ _) ?_
      refine hK.out _ _ (fun _ => KW2.out) (fun _ => ?_)
      have kS := KW2.out
      clear hK KK
      try simp only [Act.put, List.setIfInBounds_toArray, List.set_cons_zero, List.set_cons_succ]
      generalize V1.alloc (.cells #[.int .u64 x, .slice (some ⟨gB, 0, none⟩) n n] 108) = V2 at *
      generalize V1.heap.size = gC at *
      have O9 := own_kA O9 KK1
      clear KW1
      refine Z_ready (rs := [1]) (by kernel_rfl) (by simp) ?_
      clear kS
      refine AllZ.cons (o := { dst := some 49, op := Go.Op.buildSlice 35 0 #[], type := 35, pos := "ref.go:60", after := #[], guard := none }) rfl (fun KK hK => ?_) AllZ.nil
      have M := mk1 KW2.out
      have KW3 : Aside (K w3 (V2.alloc (.cells #[] 108))) := M.1
      have OA : Aside ((V2.alloc (.cells #[] 108)).ownsRow w3.heap.size 108 2 (.slice (some ⟨V2.heap.size, 0, none⟩) 0 0) 0 []) := M.2.2.1
      have HA : Aside ((V2.alloc (.cells #[] 108)).heap[V2.heap.size]? = some (.cells #[] 108)) := M.2.2.2
      have KP2 : Aside (Kp V2 (V2.alloc (.cells #[] 108))) := Kp.ofK M.2.1
      clear M
      go_simp
      refine hK.out _ _ (fun _ => KW3.out) (fun _ => ?_)
      have kS := KW3.out
      clear hK KK
      try simp only [Act.put, List.setIfInBounds_toArray, List.set_cons_zero, List.set_cons_succ]
      generalize V2.alloc (.cells #[] 108) = V3 at *
      generalize V2.heap.size = gA at *
      have O9 := own_kpA O9 KP2
      have HC := hc_kp HC KP2
      clear KW2
      refine Z_ready (rs := [6]) (by kernel_rfl) (by simp) ?_
      clear kS
      refine AllZ.cons (o := { dst := some 54, op := Go.Op.call { callee := Go.Callee.builtin Go.Builtin.append, args := #[Go.Operand.tmp 49, Go.Operand.tmp 53], argTypes := #[35, 35] }, type := 35, pos := "ref.go:60", after := #[{ on := 1, ground := Go.Ground.data }, { on := 5, ground := Go.Ground.data }], guard := none }) rfl (fun KK hK => ?_) AllZ.nil
      obtain ⟨v6, V4, hrun, hk, hkp, ho, hs⟩ := mk6 KW3.out OA.out HA.out (SRC.out _ KW3.out) O0.out FEW.out
      have KW4 : Aside (K w3 V4) := hk
      have O6 : Aside (V4.ownsRow w3.heap.size 108 2 v6 C.length (recVals C)) := ho
      have KP3 : Aside (Kp V3 V4) := hkp
      refine oper_appendW rfl (by rfl) (by rfl) (by rfl) hrun ?_
      clear hrun hk hkp ho hs OA HA
      refine hK.out _ _ (fun _ => KW4.out) (fun _ => ?_)
      have kS := KW4.out
      clear hK KK
      try simp only [Act.put, List.setIfInBounds_toArray, List.set_cons_zero, List.set_cons_succ]
      have O9 := own_kpA O9 KP3
      have HC := hc_kp HC KP3
      clear KW3
      obtain ⟨a7, c7, W, hrun, hk, ho, ho9⟩ := mk12 (r := newR x (.slice (some ⟨gB, 0, none⟩) n n) n) KW4.out O6.out HC.out rfl FEW2.out O9.out
      have KWW : Aside (K w3 W) := hk
      have SF : Aside _ := mk_end S3A.out hk ⟨_, _, rfl⟩ ho ho9 FEW2.out HN.out
      refine Z_ready (rs := [12]) (by kernel_rfl) (by simp) ?_
      clear kS
      refine AllZ.cons (o := { dst := some 60, op := Go.Op.call { callee := Go.Callee.builtin Go.Builtin.append, args := #[Go.Operand.tmp 54, Go.Operand.tmp 59], argTypes := #[35, 35] }, type := 35, pos := "ref.go:60", after := #[{ on := 6, ground := Go.Ground.data }, { on := 11, ground := Go.Ground.data }, { on := 6, ground := Go.Ground.chain }], guard := none }) rfl (fun KK hK => ?_) AllZ.nil
      refine oper_appendW rfl (by rfl) (by rfl) (by rfl) hrun ?_
      clear hrun hk ho ho9
      refine hK.out _ _ (fun _ => KWW.out) (fun _ => ?_)
      have kS := KWW.out
      clear hK KK
      try simp only [Act.put, List.setIfInBounds_toArray, List.set_cons_zero, List.set_cons_succ]
      refine Z_ready (rs := [13]) (by kernel_rfl) (by simp) ?_
      clear kS
      refine AllZ.cons (o := { dst := some 61, op := Go.Op.nilCheck (Go.Operand.tmp 48), type := 0, pos := "ref.go:60", after := #[{ on := 0, ground := Go.Ground.data }, { on := 0, ground := Go.Ground.phase }, { on := 1, ground := Go.Ground.phase }, { on := 2, ground := Go.Ground.phase }, { on := 3, ground := Go.Ground.phase }, { on := 4, ground := Go.Ground.phase }, { on := 5, ground := Go.Ground.phase }, { on := 6, ground := Go.Ground.phase }, { on := 7, ground := Go.Ground.phase }, { on := 8, ground := Go.Ground.phase }, { on := 9, ground := Go.Ground.phase }, { on := 10, ground := Go.Ground.phase }, { on := 11, ground := Go.Ground.phase }, { on := 12, ground := Go.Ground.phase }], guard := none }) rfl (fun KK hK => ?_) AllZ.nil
      go_simp
      refine hK.out _ _ (fun _ => KWW.out) (fun _ => ?_)
      have kS := KWW.out
      clear hK KK
      try simp only [Act.put, List.setIfInBounds_toArray, List.set_cons_zero, List.set_cons_succ]
      refine Z_take (i := 14) (oi := { dst := some 62, op := Go.Op.fieldAddr 37 (Go.Operand.tmp 61) 2, type := 0, pos := "ref.go:60", after := #[{ on := 13, ground := Go.Ground.data }, { on := 0, ground := Go.Ground.phase }, { on := 1, ground := Go.Ground.phase }, { on := 2, ground := Go.Ground.phase }, { on := 3, ground := Go.Ground.phase }, { on := 4, ground := Go.Ground.phase }, { on := 5, ground := Go.Ground.phase }, { on := 6, ground := Go.Ground.phase }, { on := 7, ground := Go.Ground.phase }, { on := 8, ground := Go.Ground.phase }, { on := 9, ground := Go.Ground.phase }, { on := 10, ground := Go.Ground.phase }, { on := 11, ground := Go.Ground.phase }, { on := 12, ground := Go.Ground.phase }], guard := none }) (v := ?_) rfl (by kernel_rfl) (by kernel_rfl) (by kernel_rfl) (by kernel_rfl) (fun _ _ _ h => h) (Or.inl ⟨by rfl, ?_⟩) kS ?_
      rotate_left
      · intro w' hSw
        first | (go_simp; with_reducible rfl) | (go_simp; done)
      try simp only [Act.put, List.setIfInBounds_toArray, List.set_cons_zero, List.set_cons_succ]
      refine Z_ready (rs := [15]) (by kernel_rfl) (by simp) ?_
      clear kS
      refine AllZ.cons (o := { dst := none, op := Go.Op.store 35 (Go.Operand.tmp 62) (Go.Operand.tmp 60), type := 0, pos := "ref.go:60", after := #[{ on := 14, ground := Go.Ground.data }, { on := 12, ground := Go.Ground.data }, { on := 12, ground := Go.Ground.chain }, { on := 0, ground := Go.Ground.phase }, { on := 1, ground := Go.Ground.phase }, { on := 2, ground := Go.Ground.phase }, { on := 3, ground := Go.Ground.phase }, { on := 4, ground := Go.Ground.phase }, { on := 5, ground := Go.Ground.phase }, { on := 6, ground := Go.Ground.phase }, { on := 7, ground := Go.Ground.phase }, { on := 8, ground := Go.Ground.phase }, { on := 9, ground := Go.Ground.phase }, { on := 10, ground := Go.Ground.phase }, { on := 11, ground := Go.Ground.phase }, { on := 12, ground := Go.Ground.phase }], guard := none }) rfl (fun KK hK => ?_) AllZ.nil
      have g5 := Hp.K.cell KWW.out E5.out
      have gz : W.frozen? ⟨br, 5, none⟩ = false := frz (Hp.K.block KWW.out B3.out) 5
      go_simp
      refine hK.out _ _ (fun h => absurd rfl h) (fun _ => ?_)
      clear hK KK g5 gz
      try simp only [Act.put, List.setIfInBounds_toArray, List.set_cons_zero, List.set_cons_succ]
      refine Z_done (by kernel_rfl) ?_ _
      go_wp2_with fail
      go_ret2
      have hSF := SF.out
      rw [List.length_append] at hSF
      exact ⟨rfl, E1, _, HE.out.1, hSF⟩

end Rs
end Go.Proofs.YtlmfojkhfipdnaaGreatDoor
