/-
  A script of heap's statements that came in, read cell by cell.
-/
import Derived.Test.YtpoehbncdjbleaaGreatDoorH5
import Derived.Deep.Slices
import Derived.ProofKit
import Derived.Test.YtpoehbncdjbleaaGreatDoorR11
import Derived.Deep.RegionHeld3
import Derived.Deep.DeepCutAuto
import Derived.Deep.CutBlock
namespace Go.Proofs.YtpoehbncdjbleaaGreatDoor
open Go.RowKit Go.Maps Go.Deep
namespace Hp

/-- A call of a script. -/
structure Opv where
  d : Int
  n : Int
structure OpOk (o : Opv) : Prop where
  d : In64 o.d
  n : In64 o.n
structure OpAt (w : World) (b off : Nat) (o : Opv) : Prop where
  c0 : w.cell? ⟨b, off, none⟩ = some (.int .i64 o.d)
  c1 : w.cell? ⟨b, off + 1, none⟩ = some (.int .i64 o.n)

structure Script (w : World) (a : Option Addr) (b off len cap : Nat) (z : Nat → Opv) : Prop where
  ix : ∀ i : Nat, i < len → ∀ w', (Instr.indexAt 22 (.slice a len cap) (.int .i64 (i : Int))).run Tryz.prog w' = .ok (.pointer (some ⟨b, off + i * 2, none⟩)) w'
  lt : 0 < len → b < w.heap.size
  cell : ∀ j, j < len → OpAt w b (off + j * 2) (z j)
  ok : ∀ j, OpOk (z j)

theorem OpAt.keep {w w' : World} {b off : Nat} {o : Opv} (h : OpAt w b off o) (k : K w w') : OpAt w' b off o := ⟨k.cell h.c0, k.cell h.c1⟩

theorem run_ixo (b off len cap : Nat) (i : Nat) (hi : i < len) (w' : World) : (Instr.indexAt 22 (.slice (some ⟨b, off, none⟩) len cap) (.int .i64 (i : Int))).run Tryz.prog w' = .ok (.pointer (some ⟨b, off + i * 2, none⟩)) w' := by
  have hel : Tryz.prog.elem 22 = 34 := by kernel_rfl
  have hsz : (sizeOf 34).run Tryz.prog w' = .ok 2 w' := by kernel_rfl
  have hu : Tryz.prog.underlying 22 = some (.slice (Tryz.prog.elem 22)) := by kernel_rfl
  rw [run_indexAt_slice w' 22 _ len cap .i64 i hu, if_pos (by omega), hel, hsz]
  simp only [Result.andThen_ok, Int.toNat_natCast]
  rw [Go.WideShapes.add_plain]

theorem two {α : Type} {l : List α} (h : l.length = 2) : ∃ a b, l = [a, b] := by
  obtain _ | ⟨a, l⟩ := l
  · cases h
  obtain _ | ⟨b, l⟩ := l
  · cases h
  obtain _ | ⟨c, l⟩ := l
  · exact ⟨a, b, rfl⟩
  · simp at h

theorem field_at {H : Type} {enc : TypeId × Value → H} {W : World} {base : Nat} {sp : Nat → Bool} {held : Bool} {fs : Array Field} {cs : List Value} {xs : List (DataW H × List MemPlace)} {k : Nat}
    (hf : ∀ (i : Nat) (f : Field), fs[i]? = some f → DataW.trod enc Tryz.prog W base sp held k f.type ((cs.drop f.offset).take (Tryz.prog.cellsOf f.type)) = xs[i]?) (i : Nat) (t : TypeId) (o : Nat) (h : (fs[i]?).map (fun f => (f.type, f.offset)) = some (t, o)) (hc : Tryz.prog.cellsOf t = 1) (hi : i < xs.length) :
    DataW.trod enc Tryz.prog W base sp held k t ((cs.drop o).take 1) = some xs[i] := by
  obtain ⟨f, h1, h2⟩ := Option.map_eq_some_iff.1 h
  have := hf i f h1
  cases h2
  rw [hc, List.getElem?_eq_getElem hi] at this
  exact this

theorem op_of {H : Type} {enc : TypeId × Value → H} {W : World} {base : Nat} {sp : Nat → Bool} {held : Bool} {a : Addr} {cs : List Value} {n : Nat} {x : DataW H × List MemPlace} (hc : W.cells? base a 2 = some cs) (h : DataW.trod enc Tryz.prog W base sp held n 34 cs = some x) :
    ∃ (b off : Nat) (o : Opv), a = ⟨b, off, none⟩ ∧ OpAt W b off o ∧ OpOk o := by
  obtain ⟨_, hlen, hcell⟩ := World.cells?_some hc
  obtain ⟨xs, k, _, _, _, hxl, hf⟩ := DataW.trod_struct Tryz.underlying34 h
  have c3 : Tryz.prog.cellsOf 3 = 1 := by kernel_rfl
  have hxl : xs.length = 2 := by simpa using hxl
  obtain ⟨v0, v1, rfl⟩ := two hlen
  have g0 := field_at hf 0 3 0 rfl c3 (by omega)
  have g1 := field_at hf 1 3 1 rfl c3 (by omega)
  obtain ⟨z0, e0, _, k0⟩ := DataW.trod_int Tryz.underlying3 g0
  obtain ⟨z1, e1, _, k1⟩ := DataW.trod_int Tryz.underlying3 g1
  simp at e0 e1
  subst e0 e1
  have r0 := hcell 0 (by omega)
  have r1 := hcell 1 (by omega)
  obtain ⟨b, off, spot⟩ := a
  have hspot : spot = none := by simpa [Addr.add] using World.cell?_spot r0
  subst hspot
  rw [Go.WideShapes.add_plain] at r0 r1
  exact ⟨b, off, ⟨z0, z1⟩, rfl, ⟨by simpa using r0, by simpa using r1⟩, ⟨In64.of_wf k0, In64.of_wf k1⟩⟩

theorem opOk_zero : OpOk ⟨0, 0⟩ := ⟨⟨by decide, by decide⟩, ⟨by decide, by decide⟩⟩

theorem script_of {H : Type} {enc : TypeId × Value → H} {W : World} {base : Nat} {sp : Nat → Bool} {held : Bool} {fuel : Nat} {a : Option Addr} {len cap : Nat} {x : DataW H × List MemPlace} (h : DataW.trod enc Tryz.prog W base sp held fuel 22 [.slice a len cap] = some x) :
    len ≤ maxLen ∧ ∃ b off z, Script W a b off len cap z := by
  have ce : Tryz.prog.cellsOf 34 = 2 := by kernel_rfl
  rcases open_slice Tryz.underlying22 h with ⟨hcs, _⟩ | ⟨ad, l, c, m, n, D, Pl, hcs, _, hl, hm, hmm, _, hx⟩
  · simp at hcs
    obtain ⟨rfl, rfl, rfl⟩ := hcs
    exact ⟨Nat.zero_le _, 0, 0, fun _ => ⟨0, 0⟩, fun i hi => by omega, fun h => by omega, fun j hj => by omega, fun _ => opOk_zero⟩
  · simp at hcs
    obtain ⟨rfl, rfl, rfl⟩ := hcs
    refine ⟨Nat.le_trans hl hm, ?_⟩
    have hlm : len ≤ m := by rw [hmm]; split <;> omega
    by_cases h0 : len = 0
    · subst h0
      exact ⟨0, 0, fun _ => ⟨0, 0⟩, fun i hi => by omega, fun h => by omega, fun j hj => by omega, fun _ => opOk_zero⟩
    · rw [ce] at hx
      have each : ∀ i, i < m → ∃ (b off : Nat) (o : Opv), ad.add (i * 2) = ⟨b, off, none⟩ ∧ OpAt W b off o ∧ OpOk o := fun i hi => by
        obtain ⟨cs', h1, h2⟩ := hx i hi
        exact op_of h1 h2
      obtain ⟨b0, off0, o0, e0, p0, _⟩ := each 0 (by omega)
      have had : ad = ⟨b0, off0, none⟩ := by simpa [Addr.add] using e0
      subst had
      have each2 : ∀ i, i < m → ∃ o : Opv, OpAt W b0 (off0 + i * 2) o ∧ OpOk o := fun i hi => by
        obtain ⟨b, off, o, e, p, k⟩ := each i hi
        rw [Go.WideShapes.add_plain] at e
        cases e
        exact ⟨o, p, k⟩
      have hI : Inhabited Opv := ⟨⟨0, 0⟩⟩
      obtain ⟨z, hz⟩ := choose_lt each2
      refine ⟨b0, off0, fun i => if i < m then z i else ⟨0, 0⟩, fun i hi w' => run_ixo b0 off0 len cap i hi w', fun _ => World.block_lt_of_cell? _ _ p0.c0, fun j hj => ?_, fun j => ?_⟩
      · rw [if_pos (by omega)]
        exact (hz j (by omega)).1
      · by_cases hj : j < m
        · rw [if_pos hj]
          exact (hz j hj).2
        · rw [if_neg hj]
          exact opOk_zero

end Hp
end Go.Proofs.YtpoehbncdjbleaaGreatDoor

/-
  The main loop of the statement HeapPlays. The operations of its two regions that draw are this seat's (mkplays.py).
-/
namespace Go.Proofs.YtpoehbncdjbleaaGreatDoor
open Go.RowKit Go.Maps
namespace Hp
variable {w0 w w' : World} {bh bs bm br : Nat} {q : Int} {L M : List Pg}

theorem Pe.pages_few (h : Pe w0 w bh bs bm br q L M) : (pagesL L).length ≤ 65536 := by
  obtain ⟨pg, W, a, cap, E, hp, _⟩ := h
  have e := hp.rn.st.ly.pages hp.rn.st.hw.ar.rise
  have el : pg.length = (pagesL L).length := by rw [← e]; simp
  have := hp.rn.st.hw.ar.len
  omega

theorem heap_two {V : World} {x y : Value} {t : TypeId} (h : V.heap[br]? = some (.cells #[x, y] t)) : V.cell? ⟨br, 0, none⟩ = some x ∧ V.cell? ⟨br, 1, none⟩ = some y := ⟨by simp [World.cell?, h], by simp [World.cell?, h]⟩

/-- What is held may be more. -/
theorem wpAnyH_more {P : Program} {md : Region.Mode} {ops : Array Oper} {Q : Exit → Act → World → Prop} {S S' : World → Prop} (hS : ∀ w, S' w → S w) : ∀ (fuel : Nat) (listed : Array Bool) (x : Act) (w : World), wpAnyH P md ops Q S' fuel listed x w → wpAnyH P md ops Q S fuel listed x w
  | 0, _, _, _, h => h
  | fuel + 1, _, _, _, h => ⟨h.1, fun i hi => wpOp_mono (fun a' w' h' => ⟨hS _ h'.1, wpAnyH_more hS fuel _ a' w' h'.2⟩) (h.2 i hi)⟩

theorem start_pe {w1 : World} {bh bs bm : Nat} (h : Rn w0 w1 bh bs bm q [] (fun _ => 0) []) (hq : q ≤ 4000) : Pe w0 (w1.alloc (.cells #[.int .i64 q, .slice none 0 0] 30)) bh bs bm w1.heap.size q [] [] :=
  ⟨[], fun _ => 0, none, 0, [], ⟨h.keep ((K.refl _).alloc _), ⟨World.alloc_heap_new _ _, World.ownsRow_nil _ _ _ _⟩, ⟨h.st.wl, by simp, fun e he => (by cases he)⟩, h.k.size, hq⟩, rfl⟩

set_option maxHeartbeats 8000000 in
set_option maxRecDepth 100000 in
theorem plays_main (a0 : Option Addr) (b off len cap0 : Nat) (z : Nat → Opv) (q : Int) (w : World) (hT : Bt.Tab w) (hS : Script w a0 b off len cap0 z) (hlen : len ≤ 80) (hq0 : 0 ≤ q) (hq1 : q ≤ 4000) :
    Calls Tryz.prog 3 #[.int .i64 q, .slice a0 len cap0] w fun e w' => e = .returned (.bool true) ∧ K w w' := by
  have md := made_ok q w hT hq0 (by omega)
  have ca : Aside (∀ w1, K w w1 → Calls Tryz.prog 4 #[] w1 fun e w' => e = .returned (.bool true) ∧ K w w') := fun w1 k => (awake_any w1 (hT.keep ⟨k.below⟩)).mono fun e w2 h => ⟨h.1, k.trans h.2⟩
  have HS : Aside _ := hS
  have hd1 : decide (q < (0 : Int)) = false := decide_eq_false (by omega)
  have hd2 : decide ((4000 : Int) < q) = false := decide_eq_false (by omega)
  have hd3 : decide ((80 : Int) < (len : Int)) = false := decide_eq_false (by omega)
  clear hS hT
  go_enter Tryz.func3, Tryz.ntmps3
  go_wp2_with fail
  refine md.mono ?_
  rintro e w1 ⟨bh, bs, bm, rfl, rn, _, _, _⟩
  have S0 : Aside _ := start_pe rn hq1
  clear md rn
  go_wp2_with fail
  generalize w1.heap.size = br at *
  generalize w1.alloc (.cells #[.int .i64 q, .slice none 0 0] 30) = w2 at *
  go_loopg [9] len (fun gh t9 wx => ∃ (i : Nat) (L : List Pg), i + gh = len ∧ t9 = .int .i64 i ∧ Aside (Pe w wx bh bs bm br q L L))
  case atStart => exact ⟨0, [], by omega, rfl, S0⟩
  case round =>
    obtain ⟨i, L, hig, rfl, HO⟩ := hrel
    clear S0
    by_cases hlt : i < len
    · have hix := HS.out.ix i hlt
      have hop := HS.out.cell i hlt
      have hok := HS.out.ok i
      have HC : Aside (w.cell? ⟨b, off + i * 2, none⟩ = some (.int .i64 (z i).d) ∧ w.cell? ⟨b, off + i * 2 + 1, none⟩ = some (.int .i64 (z i).n)) := ⟨hop.c0, hop.c1⟩
      have hplay := play_any (HO.out.keep (K.drew (K.refl wr))) (z i).d (z i).n hok.n
      have kS0 : K w wr.drew := (HO.out.k).trans (K.drew (K.refl wr))
      clear hop hok
      go_wp2_with fail
      go_cut [66] from 39 to 66 (fun s66 wx => s66 = .bool false ∧ ∃ L', Pe w wx bh bs bm br q L' L')
      case first =>
        have hHeld : (fun V => K w V) wr.drew := kS0
        clear kS0
        refine wp_region_held_drew (S := fun V => K w V) (by kernel_rfl) hHeld (fun _ => ?_)
        refine wpAnyH_take (i := 0) (oi := { dst := some 39, op := Go.Op.move (Go.Operand.tmp 6), type := 25, pos := "law.go:84", after := #[], guard := none }) (v := ?_) rfl (by kernel_rfl) (by kernel_rfl) (by kernel_rfl) (fun _ _ _ h => h) (Or.inl ⟨by rfl, ?_⟩) (by assumption) ?_
        rotate_left
        · intro w' hSw
          first | (go_simp; with_reducible rfl) | (go_simp; done)
        try simp only [Act.put, List.setIfInBounds_toArray, List.set_cons_zero, List.set_cons_succ]
        refine wpAnyH_take (i := 1) (oi := { dst := some 40, op := Go.Op.move (Go.Operand.tmp 1), type := 22, pos := "law.go:84", after := #[], guard := none }) (v := ?_) rfl (by kernel_rfl) (by kernel_rfl) (by kernel_rfl) (fun _ _ _ h => h) (Or.inl ⟨by rfl, ?_⟩) (by assumption) ?_
        rotate_left
        · intro w' hSw
          first | (go_simp; with_reducible rfl) | (go_simp; done)
        try simp only [Act.put, List.setIfInBounds_toArray, List.set_cons_zero, List.set_cons_succ]
        refine wpAnyH_take (i := 2) (oi := { dst := some 41, op := Go.Op.move (Go.Operand.tmp 9), type := 3, pos := "law.go:84", after := #[], guard := none }) (v := ?_) rfl (by kernel_rfl) (by kernel_rfl) (by kernel_rfl) (fun _ _ _ h => h) (Or.inl ⟨by rfl, ?_⟩) (by assumption) ?_
        rotate_left
        · intro w' hSw
          first | (go_simp; with_reducible rfl) | (go_simp; done)
        try simp only [Act.put, List.setIfInBounds_toArray, List.set_cons_zero, List.set_cons_succ]
        refine wpAnyH_take (i := 3) (oi := { dst := some 42, op := Go.Op.indexAddr 22 (Go.Operand.tmp 40) (Go.Operand.tmp 41), type := 0, pos := "law.go:84", after := #[{ on := 1, ground := Go.Ground.data }, { on := 2, ground := Go.Ground.data }], guard := none }) (v := ?_) rfl (by kernel_rfl) (by kernel_rfl) (by kernel_rfl) (fun _ _ _ h => h) (Or.inl ⟨by rfl, ?_⟩) (by assumption) ?_
        rotate_left
        · intro w' hSw
          first | (go_simp; with_reducible rfl) | (go_simp; done)
        try simp only [Act.put, List.setIfInBounds_toArray, List.set_cons_zero, List.set_cons_succ]
        refine wpAnyH_take (i := 4) (oi := { dst := some 43, op := Go.Op.load 34 (Go.Operand.tmp 42), type := 34, pos := "law.go:84", after := #[{ on := 3, ground := Go.Ground.data }], guard := none }) (v := ?_) rfl (by kernel_rfl) (by kernel_rfl) (by kernel_rfl) (fun _ _ _ h => h) (Or.inl ⟨by rfl, ?_⟩) (by assumption) ?_
        rotate_left
        · intro w' hSw
          have h1 := Hp.K.cell hSw HC.out.1
          have h2 := Hp.K.cell hSw HC.out.2
          first | (go_simp; with_reducible rfl) | (go_simp; done)
        try simp only [Act.put, List.setIfInBounds_toArray, List.set_cons_zero, List.set_cons_succ]
        refine wpAnyH_ready (rs := [5]) (by kernel_rfl) (by simp) ?_
        refine AllReadyH.cons (o := { dst := some 44, op := Go.Op.call { callee := Go.Callee.value (Go.Operand.func 6), args := #[Go.Operand.tmp 39, Go.Operand.tmp 8, Go.Operand.tmp 43], argTypes := #[25, 32, 34] }, type := 4, pos := "law.go:84", after := #[{ on := 0, ground := Go.Ground.data }, { on := 4, ground := Go.Ground.data }], guard := none }) rfl (fun KK hK => ?_) AllReadyH.nil
        go_simp
        refine hplay.mono ?_
        clear hplay
        rintro e V0 ⟨rfl, L', HP⟩
        have kS : K w V0 := HP.k
        go_wp2_with fail
        refine hK.out _ _ kS (fun _ => ?_)
        clear hK KK
        try simp only [Act.put, List.setIfInBounds_toArray, List.set_cons_zero, List.set_cons_succ]
        obtain ⟨ra, rc, rn, hbr, TL⟩ := HP.tells
        have HPE : Aside (Pe w V0 bh bs bm br q L' L') := HP
        have HB : Aside _ := heap_two hbr
        have few := HP.few
        have ngr : (pagesL L').length ≤ 65536 := HP.pages_few
        clear HP hbr
        refine wpAnyH_more (S' := fun V => K V0 V) (fun V hV => Hp.K.trans kS hV) _ _ _ _ ?_
        have kV : K w V0 := kS
        clear kS
        have hHeld : (fun V => K V0 V) V0 := K.refl V0
        refine wpAnyH_take (i := 6) (oi := { dst := some 45, op := Go.Op.unOp Go.UnOp.not 4 (Go.Operand.tmp 44), type := 4, pos := "law.go:84", after := #[{ on := 5, ground := Go.Ground.data }], guard := none }) (v := ?_) rfl (by kernel_rfl) (by kernel_rfl) (by kernel_rfl) (fun _ _ _ h => h) (Or.inl ⟨by rfl, ?_⟩) (by assumption) ?_
        rotate_left
        · intro w' hSw
          first | (go_simp; with_reducible rfl) | (go_simp; done)
        try simp only [Act.put, List.setIfInBounds_toArray, List.set_cons_zero, List.set_cons_succ]
        refine wpAnyH_take (i := 7) (oi := { dst := some 46, op := Go.Op.move (Go.Operand.tmp 45), type := 4, pos := "law.go:84", after := #[{ on := 6, ground := Go.Ground.data }, { on := 5, ground := Go.Ground.chain }], guard := none }) (v := ?_) rfl (by kernel_rfl) (by kernel_rfl) (by kernel_rfl) (fun _ _ _ h => h) (Or.inl ⟨by rfl, ?_⟩) (by assumption) ?_
        rotate_left
        · intro w' hSw
          first | (go_simp; with_reducible rfl) | (go_simp; done)
        try simp only [Act.put, List.setIfInBounds_toArray, List.set_cons_zero, List.set_cons_succ]
        refine wpAnyH_take (i := 8) (oi := { dst := some 47, op := Go.Op.move (Go.Operand.tmp 6), type := 25, pos := "law.go:84", after := #[{ on := 7, ground := Go.Ground.guard }], guard := some (7, false) }) (v := ?_) rfl (by kernel_rfl) (by kernel_rfl) (by kernel_rfl) (fun _ _ _ h => h) (Or.inl ⟨by rfl, ?_⟩) (by assumption) ?_
        rotate_left
        · intro w' hSw
          first | (go_simp; with_reducible rfl) | (go_simp; done)
        try simp only [Act.put, List.setIfInBounds_toArray, List.set_cons_zero, List.set_cons_succ]
        refine wpAnyH_take (i := 10) (oi := { dst := some 49, op := Go.Op.load 30 (Go.Operand.tmp 8), type := 30, pos := "law.go:84", after := #[{ on := 7, ground := Go.Ground.guard }], guard := some (7, false) }) (v := ?_) rfl (by kernel_rfl) (by kernel_rfl) (by kernel_rfl) (fun _ _ _ h => h) (Or.inl ⟨by rfl, ?_⟩) (by assumption) ?_
        rotate_left
        · intro w' hSw
          have h1 := Hp.K.cell hSw HB.out.1
          have h2 := Hp.K.cell hSw HB.out.2
          first | (go_simp; with_reducible rfl) | (go_simp; done)
        try simp only [Act.put, List.setIfInBounds_toArray, List.set_cons_zero, List.set_cons_succ]
        refine wpAnyH_ready (rs := [9]) (by kernel_rfl) (by simp) ?_
        refine AllReadyH.cons (o := { dst := some 48, op := Go.Op.call { callee := Go.Callee.value (Go.Operand.func 8), args := #[Go.Operand.tmp 47], argTypes := #[25] }, type := 36, pos := "law.go:84", after := #[{ on := 8, ground := Go.Ground.data }, { on := 7, ground := Go.Ground.chain }, { on := 7, ground := Go.Ground.guard }], guard := some (7, false) }) rfl (fun KK hK => ?_) AllReadyH.nil
        go_simp
        refine (Pe.live_h HPE.out).mono ?_
        rintro e V1 ⟨v1, rfl, row1, kS⟩
        go_wp2_with fail
        refine hK.out _ _ kS (fun _ => ?_)
        clear hK KK
        try simp only [Act.put, List.setIfInBounds_toArray, List.set_cons_zero, List.set_cons_succ]
        have k1 : Aside (K V0 V1) := kS
        clear hHeld
        have hHeld : (fun V => K V0 V) V1 := kS
        clear kS
        refine wpAnyH_ready (rs := [11]) (by kernel_rfl) (by simp) ?_
        refine AllReadyH.cons (o := { dst := some 50, op := Go.Op.call { callee := Go.Callee.value (Go.Operand.func 9), args := #[Go.Operand.tmp 49], argTypes := #[30] }, type := 36, pos := "law.go:84", after := #[{ on := 10, ground := Go.Ground.data }, { on := 9, ground := Go.Ground.chain }, { on := 7, ground := Go.Ground.guard }], guard := some (7, false) }) rfl (fun KK hK => ?_) AllReadyH.nil
        go_simp
        refine (TL.out.1 _ k1.out).mono ?_
        rintro e V2 ⟨v2, rfl, row2, kk⟩
        have kS := Hp.K.trans k1.out kk
        have row1' : Aside (V2.ownsRow V0.heap.size 3 1 v1 (liveL L').length ((liveL L').map encI)) := ownsRow_kept row1.out kk (fun _ _ z => z)
        clear row1 k1 kk
        go_wp2_with fail
        refine hK.out _ _ kS (fun _ => ?_)
        clear hK KK
        try simp only [Act.put, List.setIfInBounds_toArray, List.set_cons_zero, List.set_cons_succ]
        have k2 : Aside (K V0 V2) := kS
        clear hHeld
        have hHeld : (fun V => K V0 V) V2 := kS
        clear kS
        refine wpAnyH_ready (rs := [12]) (by kernel_rfl) (by simp) ?_
        refine AllReadyH.cons (o := { dst := some 51, op := Go.Op.call { callee := Go.Callee.value (Go.Operand.func 7), args := #[Go.Operand.tmp 48, Go.Operand.tmp 50], argTypes := #[36, 36] }, type := 4, pos := "law.go:84", after := #[{ on := 9, ground := Go.Ground.data }, { on := 11, ground := Go.Ground.data }, { on := 11, ground := Go.Ground.chain }, { on := 7, ground := Go.Ground.guard }], guard := some (7, false) }) rfl (fun KK hK => ?_) AllReadyH.nil
        go_simp
        refine (rSameI_any row1'.out row2.out rfl few).mono ?_
        rintro e V3 ⟨rfl, kk⟩
        have kS := Hp.K.trans k2.out kk
        clear row1' row2 k2 kk
        go_wp2_with fail
        refine hK.out _ _ kS (fun _ => ?_)
        clear hK KK
        try simp only [Act.put, List.setIfInBounds_toArray, List.set_cons_zero, List.set_cons_succ]
        have k3 : Aside (K V0 V3) := kS
        clear hHeld
        have hHeld : (fun V => K V0 V) V3 := kS
        clear kS
        refine wpAnyH_take (i := 13) (oi := { dst := some 52, op := Go.Op.unOp Go.UnOp.not 4 (Go.Operand.tmp 51), type := 4, pos := "law.go:84", after := #[{ on := 12, ground := Go.Ground.data }, { on := 7, ground := Go.Ground.guard }], guard := some (7, false) }) (v := ?_) rfl (by kernel_rfl) (by kernel_rfl) (by kernel_rfl) (fun _ _ _ h => h) (Or.inl ⟨by rfl, ?_⟩) (by assumption) ?_
        rotate_left
        · intro w' hSw
          first | (go_simp; with_reducible rfl) | (go_simp; done)
        try simp only [Act.put, List.setIfInBounds_toArray, List.set_cons_zero, List.set_cons_succ]
        refine wpAnyH_take (i := 14) (oi := { dst := some 53, op := Go.Op.pick (Go.Operand.tmp 46) (Go.Operand.const (Go.Value.bool true)) (Go.Operand.tmp 52), type := 4, pos := "law.go:84", after := #[{ on := 7, ground := Go.Ground.data }, { on := 13, ground := Go.Ground.data }], guard := none }) (v := ?_) rfl (by kernel_rfl) (by kernel_rfl) (by kernel_rfl) (fun _ _ _ h => h) (Or.inl ⟨by rfl, ?_⟩) (by assumption) ?_
        rotate_left
        · intro w' hSw
          first | (go_simp; with_reducible rfl) | (go_simp; done)
        try simp only [Act.put, List.setIfInBounds_toArray, List.set_cons_zero, List.set_cons_succ]
        refine wpAnyH_take (i := 15) (oi := { dst := some 54, op := Go.Op.move (Go.Operand.tmp 53), type := 4, pos := "law.go:84", after := #[{ on := 14, ground := Go.Ground.data }, { on := 12, ground := Go.Ground.chain }], guard := none }) (v := ?_) rfl (by kernel_rfl) (by kernel_rfl) (by kernel_rfl) (fun _ _ _ h => h) (Or.inl ⟨by rfl, ?_⟩) (by assumption) ?_
        rotate_left
        · intro w' hSw
          first | (go_simp; with_reducible rfl) | (go_simp; done)
        try simp only [Act.put, List.setIfInBounds_toArray, List.set_cons_zero, List.set_cons_succ]
        refine wpAnyH_take (i := 16) (oi := { dst := some 55, op := Go.Op.move (Go.Operand.tmp 5), type := 24, pos := "law.go:84", after := #[{ on := 15, ground := Go.Ground.guard }], guard := some (15, false) }) (v := ?_) rfl (by kernel_rfl) (by kernel_rfl) (by kernel_rfl) (fun _ _ _ h => h) (Or.inl ⟨by rfl, ?_⟩) (by assumption) ?_
        rotate_left
        · intro w' hSw
          first | (go_simp; with_reducible rfl) | (go_simp; done)
        try simp only [Act.put, List.setIfInBounds_toArray, List.set_cons_zero, List.set_cons_succ]
        refine wpAnyH_take (i := 18) (oi := { dst := some 57, op := Go.Op.load 30 (Go.Operand.tmp 8), type := 30, pos := "law.go:84", after := #[{ on := 15, ground := Go.Ground.guard }], guard := some (15, false) }) (v := ?_) rfl (by kernel_rfl) (by kernel_rfl) (by kernel_rfl) (fun _ _ _ h => h) (Or.inl ⟨by rfl, ?_⟩) (by assumption) ?_
        rotate_left
        · intro w' hSw
          have h1 := Hp.K.cell hSw HB.out.1
          have h2 := Hp.K.cell hSw HB.out.2
          first | (go_simp; with_reducible rfl) | (go_simp; done)
        try simp only [Act.put, List.setIfInBounds_toArray, List.set_cons_zero, List.set_cons_succ]
        refine wpAnyH_ready (rs := [17]) (by kernel_rfl) (by simp) ?_
        refine AllReadyH.cons (o := { dst := some 56, op := Go.Op.call { callee := Go.Callee.value (Go.Operand.func 10), args := #[Go.Operand.tmp 55], argTypes := #[24] }, type := 36, pos := "law.go:84", after := #[{ on := 16, ground := Go.Ground.data }, { on := 15, ground := Go.Ground.chain }, { on := 15, ground := Go.Ground.guard }], guard := some (15, false) }) rfl (fun KK hK => ?_) AllReadyH.nil
        go_simp
        refine (Pe.pages_h (Pe.keep HPE.out k3.out)).mono ?_
        rintro e V4 ⟨v4, rfl, row4, kk⟩
        have kS := Hp.K.trans k3.out kk
        clear k3 kk
        go_wp2_with fail
        refine hK.out _ _ kS (fun _ => ?_)
        clear hK KK
        try simp only [Act.put, List.setIfInBounds_toArray, List.set_cons_zero, List.set_cons_succ]
        have k4 : Aside (K V0 V4) := kS
        clear hHeld
        have hHeld : (fun V => K V0 V) V4 := kS
        clear kS
        refine wpAnyH_ready (rs := [19]) (by kernel_rfl) (by simp) ?_
        refine AllReadyH.cons (o := { dst := some 58, op := Go.Op.call { callee := Go.Callee.value (Go.Operand.func 11), args := #[Go.Operand.tmp 57], argTypes := #[30] }, type := 36, pos := "law.go:84", after := #[{ on := 18, ground := Go.Ground.data }, { on := 17, ground := Go.Ground.chain }, { on := 15, ground := Go.Ground.guard }], guard := some (15, false) }) rfl (fun KK hK => ?_) AllReadyH.nil
        go_simp
        refine (TL.out.2.1 _ k4.out).mono ?_
        rintro e V5 ⟨v5, rfl, row5, kk⟩
        have kS := Hp.K.trans k4.out kk
        have row4' : Aside (V5.ownsRow V3.heap.size 3 1 v4 (pagesL L').length ((pagesL L').map encI)) := ownsRow_kept row4.out kk (fun _ _ z => z)
        clear row4 k4 kk
        go_wp2_with fail
        refine hK.out _ _ kS (fun _ => ?_)
        clear hK KK
        try simp only [Act.put, List.setIfInBounds_toArray, List.set_cons_zero, List.set_cons_succ]
        have k5 : Aside (K V0 V5) := kS
        clear hHeld
        have hHeld : (fun V => K V0 V) V5 := kS
        clear kS
        refine wpAnyH_ready (rs := [20]) (by kernel_rfl) (by simp) ?_
        refine AllReadyH.cons (o := { dst := some 59, op := Go.Op.call { callee := Go.Callee.value (Go.Operand.func 7), args := #[Go.Operand.tmp 56, Go.Operand.tmp 58], argTypes := #[36, 36] }, type := 4, pos := "law.go:84", after := #[{ on := 17, ground := Go.Ground.data }, { on := 19, ground := Go.Ground.data }, { on := 19, ground := Go.Ground.chain }, { on := 15, ground := Go.Ground.guard }], guard := some (15, false) }) rfl (fun KK hK => ?_) AllReadyH.nil
        go_simp
        refine (rSameI_any row4'.out row5.out rfl ngr).mono ?_
        rintro e V6 ⟨rfl, kk⟩
        have kS := Hp.K.trans k5.out kk
        clear row4' row5 k5 kk
        go_wp2_with fail
        refine hK.out _ _ kS (fun _ => ?_)
        clear hK KK
        try simp only [Act.put, List.setIfInBounds_toArray, List.set_cons_zero, List.set_cons_succ]
        have k6 : Aside (K V0 V6) := kS
        clear hHeld
        have hHeld : (fun V => K V0 V) V6 := kS
        clear kS
        refine wpAnyH_take (i := 21) (oi := { dst := some 60, op := Go.Op.unOp Go.UnOp.not 4 (Go.Operand.tmp 59), type := 4, pos := "law.go:84", after := #[{ on := 20, ground := Go.Ground.data }, { on := 15, ground := Go.Ground.guard }], guard := some (15, false) }) (v := ?_) rfl (by kernel_rfl) (by kernel_rfl) (by kernel_rfl) (fun _ _ _ h => h) (Or.inl ⟨by rfl, ?_⟩) (by assumption) ?_
        rotate_left
        · intro w' hSw
          first | (go_simp; with_reducible rfl) | (go_simp; done)
        try simp only [Act.put, List.setIfInBounds_toArray, List.set_cons_zero, List.set_cons_succ]
        refine wpAnyH_take (i := 22) (oi := { dst := some 61, op := Go.Op.pick (Go.Operand.tmp 54) (Go.Operand.const (Go.Value.bool true)) (Go.Operand.tmp 60), type := 4, pos := "law.go:84", after := #[{ on := 15, ground := Go.Ground.data }, { on := 21, ground := Go.Ground.data }], guard := none }) (v := ?_) rfl (by kernel_rfl) (by kernel_rfl) (by kernel_rfl) (fun _ _ _ h => h) (Or.inl ⟨by rfl, ?_⟩) (by assumption) ?_
        rotate_left
        · intro w' hSw
          first | (go_simp; with_reducible rfl) | (go_simp; done)
        try simp only [Act.put, List.setIfInBounds_toArray, List.set_cons_zero, List.set_cons_succ]
        refine wpAnyH_take (i := 23) (oi := { dst := some 62, op := Go.Op.move (Go.Operand.tmp 61), type := 4, pos := "law.go:84", after := #[{ on := 22, ground := Go.Ground.data }, { on := 20, ground := Go.Ground.chain }], guard := none }) (v := ?_) rfl (by kernel_rfl) (by kernel_rfl) (by kernel_rfl) (fun _ _ _ h => h) (Or.inl ⟨by rfl, ?_⟩) (by assumption) ?_
        rotate_left
        · intro w' hSw
          first | (go_simp; with_reducible rfl) | (go_simp; done)
        try simp only [Act.put, List.setIfInBounds_toArray, List.set_cons_zero, List.set_cons_succ]
        refine wpAnyH_take (i := 24) (oi := { dst := some 63, op := Go.Op.move (Go.Operand.tmp 6), type := 25, pos := "law.go:84", after := #[{ on := 23, ground := Go.Ground.guard }], guard := some (23, false) }) (v := ?_) rfl (by kernel_rfl) (by kernel_rfl) (by kernel_rfl) (fun _ _ _ h => h) (Or.inl ⟨by rfl, ?_⟩) (by assumption) ?_
        rotate_left
        · intro w' hSw
          first | (go_simp; with_reducible rfl) | (go_simp; done)
        try simp only [Act.put, List.setIfInBounds_toArray, List.set_cons_zero, List.set_cons_succ]
        refine wpAnyH_ready (rs := [25]) (by kernel_rfl) (by simp) ?_
        refine AllReadyH.cons (o := { dst := some 64, op := Go.Op.call { callee := Go.Callee.value (Go.Operand.func 12), args := #[Go.Operand.tmp 63], argTypes := #[25] }, type := 39, pos := "law.go:84", after := #[{ on := 24, ground := Go.Ground.data }, { on := 23, ground := Go.Ground.chain }, { on := 23, ground := Go.Ground.guard }], guard := some (23, false) }) rfl (fun KK hK => ?_) AllReadyH.nil
        go_simp
        refine (Pe.audit_h (Pe.keep HPE.out k6.out)).mono ?_
        rintro e V7 ⟨rfl, kk⟩
        have kS := Hp.K.trans k6.out kk
        clear k6 kk
        go_wp2_with fail
        refine hK.out _ _ kS (fun _ => ?_)
        clear hK KK
        try simp only [Act.put, List.setIfInBounds_toArray, List.set_cons_zero, List.set_cons_succ]
        have k7 : Aside (K V0 V7) := kS
        clear hHeld
        have hHeld : (fun V => K V0 V) V7 := kS
        clear kS
        refine wpAnyH_take (i := 26) (oi := { dst := some 65, op := Go.Op.binOp Go.BinOp.neq 39 (Go.Operand.tmp 64) (Go.Operand.const (Go.Value.int Go.IntKind.i64 0)) 39, type := 4, pos := "law.go:84", after := #[{ on := 25, ground := Go.Ground.data }, { on := 23, ground := Go.Ground.guard }], guard := some (23, false) }) (v := ?_) rfl (by kernel_rfl) (by kernel_rfl) (by kernel_rfl) (fun _ _ _ h => h) (Or.inl ⟨by rfl, ?_⟩) (by assumption) ?_
        rotate_left
        · intro w' hSw
          first | (go_simp; with_reducible rfl) | (go_simp; done)
        try simp only [Act.put, List.setIfInBounds_toArray, List.set_cons_zero, List.set_cons_succ]
        refine wpAnyH_take (i := 27) (oi := { dst := some 66, op := Go.Op.pick (Go.Operand.tmp 62) (Go.Operand.const (Go.Value.bool true)) (Go.Operand.tmp 65), type := 4, pos := "law.go:84", after := #[{ on := 23, ground := Go.Ground.data }, { on := 26, ground := Go.Ground.data }], guard := none }) (v := ?_) rfl (by kernel_rfl) (by kernel_rfl) (by kernel_rfl) (fun _ _ _ h => h) (Or.inl ⟨by rfl, ?_⟩) (by assumption) ?_
        rotate_left
        · intro w' hSw
          first | (go_simp; with_reducible rfl) | (go_simp; done)
        try simp only [Act.put, List.setIfInBounds_toArray, List.set_cons_zero, List.set_cons_succ]
        refine wpAnyH_done (by kernel_rfl) ?_ _
        go_wp2_with fail
        go_meet
        exact ⟨rfl, L', Pe.keep HPE.out k7.out⟩
      case rest =>
        obtain ⟨rfl, L', hR⟩ := hcut
        clear hplay kS0 HC
        obtain ⟨ra, rc, rn, hbr, TL⟩ := hR.tells
        have HB : Aside _ := heap_two hbr
        have HPE : Aside (Pe w wc bh bs bm br q L' L') := hR
        have K0 : Aside (K wc wc) := K.refl wc
        clear hR hbr
        go_wp2_with fail
        go_loopg [10] 10 (fun gh t10 wx => ∃ k : Nat, k + gh = 10 ∧ t10 = .int .i64 ((k : Int) - 1) ∧ Aside (K wc wx))
        case atStart => exact ⟨0, by omega, by go_num, K0⟩
        case round =>
          obtain ⟨k, hkg, rfl, kx0⟩ := hrel
          clear K0
          by_cases hlt2 : k < 10
          · have hle : decide ((k : Int) - 1 ≤ 8) = true := decide_eq_true (by omega)
            go_wp2_with fail
            go_cut [77] from 71 to 77 (fun s77 wx => s77 = .bool false ∧ Aside (K wc wx))
            case first =>
              have kx : Aside (K wc wr.drew) := Hp.K.trans kx0.out (K.drew (K.refl wr))
              have hHeld : (fun V => K wc V) wr.drew := kx.out
              refine wp_region_held_drew (S := fun V => K wc V) (by kernel_rfl) hHeld (fun _ => ?_)
              refine wpAnyH_take (i := 0) (oi := { dst := some 71, op := Go.Op.move (Go.Operand.tmp 6), type := 25, pos := "law.go:88", after := #[], guard := none }) (v := ?_) rfl (by kernel_rfl) (by kernel_rfl) (by kernel_rfl) (fun _ _ _ h => h) (Or.inl ⟨by rfl, ?_⟩) (by assumption) ?_
              rotate_left
              · intro w' hSw
                first | (go_simp; with_reducible rfl) | (go_simp; done)
              try simp only [Act.put, List.setIfInBounds_toArray, List.set_cons_zero, List.set_cons_succ]
              refine wpAnyH_take (i := 1) (oi := { dst := some 72, op := Go.Op.move (Go.Operand.tmp 10), type := 3, pos := "law.go:88", after := #[], guard := none }) (v := ?_) rfl (by kernel_rfl) (by kernel_rfl) (by kernel_rfl) (fun _ _ _ h => h) (Or.inl ⟨by rfl, ?_⟩) (by assumption) ?_
              rotate_left
              · intro w' hSw
                first | (go_simp; with_reducible rfl) | (go_simp; done)
              try simp only [Act.put, List.setIfInBounds_toArray, List.set_cons_zero, List.set_cons_succ]
              refine wpAnyH_take (i := 3) (oi := { dst := some 74, op := Go.Op.load 30 (Go.Operand.tmp 8), type := 30, pos := "law.go:88", after := #[], guard := none }) (v := ?_) rfl (by kernel_rfl) (by kernel_rfl) (by kernel_rfl) (fun _ _ _ h => h) (Or.inl ⟨by rfl, ?_⟩) (by assumption) ?_
              rotate_left
              · intro w' hSw
                have h1 := Hp.K.cell hSw HB.out.1
                have h2 := Hp.K.cell hSw HB.out.2
                first | (go_simp; with_reducible rfl) | (go_simp; done)
              try simp only [Act.put, List.setIfInBounds_toArray, List.set_cons_zero, List.set_cons_succ]
              refine wpAnyH_take (i := 4) (oi := { dst := some 75, op := Go.Op.move (Go.Operand.tmp 10), type := 3, pos := "law.go:88", after := #[], guard := none }) (v := ?_) rfl (by kernel_rfl) (by kernel_rfl) (by kernel_rfl) (fun _ _ _ h => h) (Or.inl ⟨by rfl, ?_⟩) (by assumption) ?_
              rotate_left
              · intro w' hSw
                first | (go_simp; with_reducible rfl) | (go_simp; done)
              try simp only [Act.put, List.setIfInBounds_toArray, List.set_cons_zero, List.set_cons_succ]
              refine wpAnyH_ready (rs := [2]) (by kernel_rfl) (by simp) ?_
              refine AllReadyH.cons (o := { dst := some 73, op := Go.Op.call { callee := Go.Callee.value (Go.Operand.func 13), args := #[Go.Operand.tmp 71, Go.Operand.tmp 72], argTypes := #[25, 3] }, type := 3, pos := "law.go:88", after := #[{ on := 0, ground := Go.Ground.data }, { on := 1, ground := Go.Ground.data }], guard := none }) rfl (fun KK hK => ?_) AllReadyH.nil
              go_simp
              refine (Pe.spare_h (Pe.keep HPE.out kx.out) _).mono ?_
              rintro e V1 ⟨rfl, kk⟩
              have kS := Hp.K.trans kx.out kk
              clear kx kk
              go_wp2_with fail
              refine hK.out _ _ kS (fun _ => ?_)
              clear hK KK
              try simp only [Act.put, List.setIfInBounds_toArray, List.set_cons_zero, List.set_cons_succ]
              have k1 : Aside (K wc V1) := kS
              clear hHeld
              have hHeld : (fun V => K wc V) V1 := kS
              clear kS
              refine wpAnyH_ready (rs := [5]) (by kernel_rfl) (by simp) ?_
              refine AllReadyH.cons (o := { dst := some 76, op := Go.Op.call { callee := Go.Callee.value (Go.Operand.func 14), args := #[Go.Operand.tmp 74, Go.Operand.tmp 75], argTypes := #[30, 3] }, type := 3, pos := "law.go:88", after := #[{ on := 3, ground := Go.Ground.data }, { on := 4, ground := Go.Ground.data }, { on := 2, ground := Go.Ground.chain }], guard := none }) rfl (fun KK hK => ?_) AllReadyH.nil
              go_simp
              refine (TL.out.2.2 _ _ k1.out).mono ?_
              rintro e V2 ⟨rfl, kk⟩
              have kS := Hp.K.trans k1.out kk
              clear k1 kk
              go_wp2_with fail
              refine hK.out _ _ kS (fun _ => ?_)
              clear hK KK
              try simp only [Act.put, List.setIfInBounds_toArray, List.set_cons_zero, List.set_cons_succ]
              have k2 : Aside (K wc V2) := kS
              clear hHeld
              have hHeld : (fun V => K wc V) V2 := kS
              clear kS
              refine wpAnyH_take (i := 6) (oi := { dst := some 77, op := Go.Op.binOp Go.BinOp.neq 3 (Go.Operand.tmp 73) (Go.Operand.tmp 76) 3, type := 4, pos := "law.go:88", after := #[{ on := 2, ground := Go.Ground.data }, { on := 5, ground := Go.Ground.data }], guard := none }) (v := ?_) rfl (by kernel_rfl) (by kernel_rfl) (by kernel_rfl) (fun _ _ _ h => h) (Or.inl ⟨by rfl, ?_⟩) (by assumption) ?_
              rotate_left
              · intro w' hSw
                first | (go_simp; with_reducible rfl) | (go_simp; done)
              try simp only [Act.put, List.setIfInBounds_toArray, List.set_cons_zero, List.set_cons_succ]
              refine wpAnyH_done (by kernel_rfl) ?_ _
              go_wp2_with fail
              go_meet
              exact ⟨by simp, k2⟩
            case rest =>
              obtain ⟨rfl, kn⟩ := hcut
              go_wp2_with fail
              go_roundg (10 - (k + 1))
              case measure => omega
              case rel => exact ⟨k + 1, by omega, by go_num, kn⟩
          · obtain rfl : k = 10 := by omega
            go_wp2_with fail
            go_roundg (len - (i + 1))
            case measure => omega
            case rel => exact ⟨i + 1, L', by omega, by go_num, Pe.keep HPE.out kx0.out⟩
    · have cx := ca.out _ HO.out.k
      go_wp2_with (go_at_call 4; refine cx.mono ?_; rintro e w7 ⟨rfl, k7⟩)
      go_ret
      exact ⟨rfl, k7⟩

end Hp
end Go.Proofs.YtpoehbncdjbleaaGreatDoor
