/-
  The walk of the statement that a script plays as the reference does.
-/
import Derived.Test.YtclbaepgodeoiaaRefPlay
import Derived.Deep.CutRange
import Derived.Deep.RegionHeld3
namespace Go.Proofs.Ytclbaepgodeoiaa
open Go.RowKit Go.Maps
namespace Sl
variable {w : World} {bs bm br : Nat} {q : Int} {pg : List (Int × Nat)} {a : Option Addr} {cap : Nat} {W : Int → Int}

/-- What the loops keep. -/
structure Run (B : Nat) (w wx : World) (bs bm br : Nat) (q : Int) (pg : List (Int × Nat)) (W : Int → Int) (a : Option Addr) (cap : Nat) : Prop where
  mix : Mix wx bs bm br q pg W a cap (nums pg) W
  bel : Below B w wx
  gf : ∀ k, foot bs bm pg k → B ≤ k
  gb : B ≤ br
  sz : B ≤ wx.heap.size

variable {B : Nat} {wx wy : World}

theorem Run.below (h : Run B w wx bs bm br q pg W a cap) (hb : Below wx.heap.size wx wy) : Run B w wy bs bm br q pg W a cap :=
  ⟨h.mix.below hb, h.bel.trans (hb.mono h.sz), h.gf, h.gb, Nat.le_trans h.sz hb.size⟩
theorem Run.drew (h : Run B w wx bs bm br q pg W a cap) : Run B w wx.drew bs bm br q pg W a cap := h.below (Below.refl _ _).drew

theorem Run.fin (h : Run B w wx bs bm br q pg W a cap) (hf : Fin bs bm br q pg wx wy) : ∃ pg' W' a' cap', Run B w wy bs bm br q pg' W' a' cap' := by
  obtain ⟨pg', W', a', cap', h1, h2⟩ := hf
  refine ⟨pg', W', a', cap', h1, h.bel.trans ⟨h2.os, h2.tape, h2.output, h2.size, fun k hk => ?_⟩, fun k hk => ?_, h.gb, Nat.le_trans h.sz h2.size⟩
  · exact h2.kept k (Nat.lt_of_lt_of_le hk h.sz) (fun hf => by have := h.gf k hf; omega) (fun e => by have := h.gb; omega)
  · rcases h2.inn k hk with h3 | h3
    · exact h.gf k h3
    · exact Nat.le_trans h.sz h3

theorem IntsAt.below {B : Nat} {K : List Int} (h : IntsAt wx B a cap K) (hb : Below wx.heap.size wx wy) : IntsAt wy B a cap K := ⟨fun i hi => by
  obtain ⟨g, h1, h2, h3, h4⟩ := h.ix i hi
  exact ⟨g, h1, Nat.lt_of_lt_of_le h2 hb.size, h3, fun N hN => (hb.cell (p := ⟨g, i, none⟩) h2).trans (h4 N hN)⟩⟩

/-- The five cells of a call of the script, and the reference's two. -/
abbrev cells7 (w : World) (b off : Nat) (o : Opv) (br : Nat) (q : Int) (v : Value) : Prop :=
  w.cell? ⟨b, off, none⟩ = some (.int .i64 o.d) ∧ w.cell? ⟨b, off + 1, none⟩ = some (.int .i64 o.a) ∧ w.cell? ⟨b, off + 2, none⟩ = some (.int .i64 o.b) ∧ w.cell? ⟨b, off + 3, none⟩ = some (.int .i64 o.n) ∧ w.cell? ⟨b, off + 4, none⟩ = some (.int .u64 o.x) ∧ w.cell? ⟨br, 0, none⟩ = some (.int .i64 q) ∧ w.cell? ⟨br, 1, none⟩ = some v

variable {b off : Nat} {o : Opv}

theorem Run.cells (h : Run B w wx bs bm br q pg W a cap) (hO : OpAt w b off o) (hb : b < B) : cells7 wx b off o br q (.slice a (nums pg).length cap) := by
  have h2 := hO.stays h.bel hb
  exact ⟨h2.c0, h2.c1, h2.c2, h2.c3, h2.c4, h.mix.rf.c0, h.mix.rf.c1⟩

theorem step_play (h : Run B w wx bs bm br q pg W a cap) (hq : q ≤ 2000) (hok : OpOk o) (hO : OpAt w b off o) (hb : b < B) :
    Calls Try.prog 11 #[.pointer (some ⟨bs, 0, none⟩), .pointer (some ⟨br, 0, none⟩), .agg #[.int .i64 o.d, .int .i64 o.a, .int .i64 o.b, .int .i64 o.n, .int .u64 o.x]] wx fun e w' => e = .returned (.bool true) ∧ ∃ pg' W' a' cap', Run B w w' bs bm br q pg' W' a' cap' ∧ cells7 w' b off o br q (.slice a' (nums pg').length cap') := by
  refine (play_any h.mix hq o hok).mono ?_
  rintro e w' ⟨rfl, hf⟩
  obtain ⟨pg', W', a', cap', h2⟩ := h.fin hf
  exact ⟨rfl, pg', W', a', cap', h2, h2.cells hO hb⟩

theorem step_pages (hpages : PagesSaid) (h : Run B w wx bs bm br q pg W a cap) (hO : OpAt w b off o) (hb : b < B) :
    Calls Try.prog 13 #[.pointer (some ⟨bs, 0, none⟩)] wx fun e w' => ∃ a' cap', e = .returned (.slice a' (nums pg).length cap') ∧ IntsAt w' wx.heap.size a' cap' (nums pg) ∧ Below wx.heap.size wx w' ∧ Run B w w' bs bm br q pg W a cap ∧ cells7 w' b off o br q (.slice a (nums pg).length cap) := by
  refine (hpages _ _ _ _ _ _ h.mix.ar).mono ?_
  rintro e w' ⟨a', cap', rfl, hbl, hrow⟩
  have h2 := h.below hbl
  refine ⟨a', cap', by rw [nums_length], ⟨fun i hi => ?_⟩, hbl, h2, h2.cells hO hb⟩
  rw [nums_length] at hi
  obtain ⟨g, rfl, hg, hc⟩ := hrow (by omega)
  have hp : pg[i]? = some pg[i] := List.getElem?_eq_getElem hi
  have hci := hc i _ hp
  refine ⟨g, hg, ?_, fun w'' => run_ixi g _ _ i (by rw [nums_length]; exact hi) w'', fun N hN => ?_⟩
  · cases hh : w'.heap[g]? with
    | none => simp [World.cell?, hh] at hci
    | some o => exact lt_of_get hh
  · have : N = pg[i].1 := by
      simp only [nums, List.getElem?_map, hp, Option.map_some, Option.some.injEq] at hN
      exact hN.symm
    rw [this]
    exact hci

theorem step_numbers (h : Run B w wx bs bm br q pg W a cap) (hO : OpAt w b off o) (hb : b < B) :
    Calls Try.prog 14 #[.agg #[.int .i64 q, .slice a (nums pg).length cap]] wx fun e w' => ∃ a' cap', e = .returned (.slice a' (nums pg).length cap') ∧ IntsAt w' wx.heap.size a' cap' (nums pg) ∧ Below wx.heap.size wx w' ∧ Run B w w' bs bm br q pg W a cap ∧ cells7 w' b off o br q (.slice a (nums pg).length cap) := by
  obtain ⟨g, hrow, _⟩ := ref_form h.mix.rf
  refine (rNumbers_any hrow q h.mix.rf.len).mono ?_
  rintro e w' ⟨a', cap', rfl, hin, hbl⟩
  have h2 := h.below hbl
  exact ⟨a', cap', rfl, hin, hbl, h2, h2.cells hO hb⟩

theorem step_same {B1 B2 : Nat} {a1 a2 : Option Addr} {c1 c2 : Nat} (h : Run B w wx bs bm br q pg W a cap) (h1 : IntsAt wx B1 a1 c1 (nums pg)) (h2 : IntsAt wx B2 a2 c2 (nums pg)) (hO : OpAt w b off o) (hb : b < B) :
    Calls Try.prog 12 #[.slice a1 (nums pg).length c1, .slice a2 (nums pg).length c2] wx fun e w' => e = .returned (.bool true) ∧ Run B w w' bs bm br q pg W a cap ∧ cells7 w' b off o br q (.slice a (nums pg).length cap) := by
  refine (rSame_any h1 h2 h.mix.rf.len).mono ?_
  rintro e w' ⟨rfl, hbl⟩
  have h3 := h.below hbl
  exact ⟨rfl, h3, h3.cells hO hb⟩

theorem step_at (h : Run B w wx bs bm br q pg W a cap) (x : Int) (hO : OpAt w b off o) (hb : b < B) :
    Calls Try.prog 17 #[.agg #[.int .i64 q, .slice a (nums pg).length cap], .int .i64 x] wx fun e w' => ∃ r : Int, e = .returned (.int .i64 r) ∧ Hid (decide (0 ≤ r) = (blk pg x).isSome) ∧ Run B w w' bs bm br q pg W a cap ∧ cells7 w' b off o br q (.slice a (nums pg).length cap) := by
  obtain ⟨g, hrow, _⟩ := ref_form h.mix.rf
  refine (rAt_any hrow q x h.mix.rf.len).mono ?_
  rintro e w' ⟨hc, rfl⟩
  have h3 := h.below ((Below.refl _ _).alloc (Nat.le_refl _) (.cells #[.int .i64 q, .slice a (nums pg).length cap] 30))
  rcases hc with ⟨i, rfl, hi⟩ | ⟨rfl, hno⟩
  · refine ⟨i, rfl, ?_, h3, h3.cells hO hb⟩
    have := mem_nums.1 (List.mem_of_getElem? hi)
    show decide (0 ≤ (i : Int)) = (blk pg x).isSome
    rw [this]
    simp
  · refine ⟨-1, rfl, ?_, h3, h3.cells hO hb⟩
    have : (blk pg x).isSome = false := by
      cases hb2 : (blk pg x).isSome with
      | false => rfl
      | true => exact absurd (mem_nums.2 hb2) hno
    show decide (0 ≤ (-1 : Int)) = (blk pg x).isSome
    rw [this]
    rfl

theorem start_run {w1 w2 : World} (ha1 : Arena w1 (w.heap.size + 1) w.heap.size q [] (fun _ => 0)) (hb1 : Below w.heap.size w w1) (hb2 : Below w1.heap.size w1 w2) :
    Run w.heap.size w (w2.alloc (.cells #[.int .i64 q, .slice none 0 0] 30)) (w.heap.size + 1) w.heap.size w2.heap.size q [] (fun _ => 0) none 0 := by
  have hb3 : Below w1.heap.size w1 (w2.alloc (.cells #[.int .i64 q, .slice none 0 0] 30)) := hb2.alloc hb2.size _
  have hf : ∀ k, foot (w.heap.size + 1) w.heap.size [] k → k = w.heap.size + 1 ∨ k = w.heap.size := fun k hk => by
    rcases hk with rfl | rfl | ⟨p, hp, rfl⟩
    · exact Or.inl rfl
    · exact Or.inr rfl
    · simp at hp
  have hlt1 : w.heap.size + 1 < w1.heap.size := ha1.foot_lt (Or.inl rfl)
  have hs2 := hb2.size
  refine ⟨⟨ha1.stays fun k hk => hb3.block k (ha1.foot_lt hk), ⟨(MapKept.heap_alloc w2 _).1, ?_, by simp [nums], by simp [nums]⟩, fun h => ?_, fun k hk => by cases hk⟩, hb1.trans (hb3.mono hb1.size), fun k hk => ?_, by omega, by simp; omega⟩
  · simpa [nums, flat_nil] using World.ownsRow_nil _ 0 49 65
  · have := hf _ h
    omega
  · have := hf k hk
    omega

/-- The five cells of a call; the seven. -/
def held5 (b off : Nat) (o : Opv) (w : World) : Prop :=
  w.cell? ⟨b, off, none⟩ = some (.int .i64 o.d) ∧ w.cell? ⟨b, off + 1, none⟩ = some (.int .i64 o.a) ∧ w.cell? ⟨b, off + 2, none⟩ = some (.int .i64 o.b) ∧ w.cell? ⟨b, off + 3, none⟩ = some (.int .i64 o.n) ∧ w.cell? ⟨b, off + 4, none⟩ = some (.int .u64 o.x)
def held7 (b off : Nat) (o : Opv) (br : Nat) (q : Int) (v : Value) (w : World) : Prop :=
  w.cell? ⟨b, off, none⟩ = some (.int .i64 o.d) ∧ w.cell? ⟨b, off + 1, none⟩ = some (.int .i64 o.a) ∧ w.cell? ⟨b, off + 2, none⟩ = some (.int .i64 o.b) ∧ w.cell? ⟨b, off + 3, none⟩ = some (.int .i64 o.n) ∧ w.cell? ⟨b, off + 4, none⟩ = some (.int .u64 o.x) ∧ w.cell? ⟨br, 0, none⟩ = some (.int .i64 q) ∧ w.cell? ⟨br, 1, none⟩ = some v
theorem held7_5 {v : Value} (w : World) (h : held7 b off o br q v w) : held5 b off o w := ⟨h.1, h.2.1, h.2.2.1, h.2.2.2.1, h.2.2.2.2.1⟩

/-- What is held may be more. -/
theorem wpAnyH_more {P : Program} {md : Region.Mode} {ops : Array Oper} {Q : Exit → Act → World → Prop} {S S' : World → Prop} (hS : ∀ w, S' w → S w) : ∀ (fuel : Nat) (listed : Array Bool) (x : Act) (w : World), wpAnyH P md ops Q S' fuel listed x w → wpAnyH P md ops Q S fuel listed x w
  | 0, _, _, _, h => h
  | fuel + 1, _, _, _, h => ⟨h.1, fun i hi => wpOp_mono (fun a' w' h' => ⟨hS _ h'.1, wpAnyH_more hS fuel _ a' w' h'.2⟩) (h.2 i hi)⟩

set_option maxHeartbeats 4000000 in
set_option maxRecDepth 100000 in
theorem plays_main (hpages : PagesSaid) (a0 : Option Addr) (b off len cap0 : Nat) (z : Nat → Opv) (qq : Int) (w : World) (hS : Script w a0 b off len cap0 z) (hlen : len ≤ 100) (hq1 : 0 ≤ qq) (hq2 : qq ≤ 2000) :
    Calls Try.prog 3 #[.int .i64 qq, .slice a0 len cap0] w fun e w' => e = .returned (.bool true) ∧ Below w.heap.size w w' := by
  have hnew := new_ok qq w (by omega) (by omega)
  have HS : Aside (Script w a0 b off len cap0 z) := hS
  clear hS
  go_enter Try.func3, Try.ntmps3
  go_wp2_with fail
  refine hnew.mono ?_
  rintro e w1 ⟨rfl, ha1, hb1⟩
  have hnew2 := rNew_ok qq w1 (by omega) (by omega)
  clear hnew
  go_wp2_with fail
  refine hnew2.mono ?_
  rintro e w2 ⟨rfl, hb2⟩
  have HR0 : Aside _ := start_run ha1 hb1 hb2
  clear ha1 hb1 hb2 hnew2
  go_wp2
  go_loopg [4, 9] len (fun g _ t9 wx => ∃ (i : Nat) (pg : List (Int × Nat)) (W : Int → Int) (a : Option Addr) (cap : Nat), i + g = len ∧ t9 = .int .i64 i ∧ Run w.heap.size w wx (w.heap.size + 1) w.heap.size w2.heap.size qq pg W a cap)
  case atStart => exact ⟨0, [], fun _ => 0, none, 0, by omega, rfl, HR0.out⟩
  case round =>
    obtain ⟨i, pg, W, a, cap, hig, rfl, hR⟩ := hrel
    by_cases hlt : i < len
    · have hix := HS.out.ix i hlt
      have hbl := HS.out.lt (by omega)
      have hop := HS.out.cell i hlt
      have hok := HS.out.ok i
      have HO : Aside _ := hop
      have hplay := step_play hR.drew hq2 hok hop hbl
      obtain ⟨k1, k2, k3, k4, k5, k6, k7⟩ := hR.cells hop hbl
      have hwa := hok.a
      clear HR0 hop hok k6 k7
      go_wp2
      go_cut [94] from 46 to 94 (fun s94 wx => s94 = .bool false ∧ ∃ pg' W' a' cap', Run w.heap.size w wx (w.heap.size + 1) w.heap.size w2.heap.size qq pg' W' a' cap')
      case first =>
        have hHeld : held5 b (off + i * 5) (z i) wr.drew := ⟨k1, k2, k3, k4, k5⟩
        refine wp_region_held_drew (S := held5 b (off + i * 5) (z i)) (by kernel_rfl) hHeld (fun _ => ?_)
        refine wpAnyH_take (i := 0) (oi := { dst := some 56, op := Op.move (Operand.tmp 5), type := 24, pos := "law.go:69", after := #[], guard := none }) (v := ?_) rfl (by kernel_rfl) (by kernel_rfl) (by kernel_rfl) (fun _ _ _ h => h) (Or.inl ⟨by rfl, ?_⟩) (by assumption) ?_
        rotate_left
        · intro w' hSw
          first | (go_simp; with_reducible rfl) | (go_simp; done)
        try simp only [Act.put, List.setIfInBounds_toArray, List.set_cons_zero, List.set_cons_succ]
        refine wpAnyH_take (i := 1) (oi := { dst := some 57, op := Op.move (Operand.tmp 1), type := 22, pos := "law.go:69", after := #[], guard := none }) (v := ?_) rfl (by kernel_rfl) (by kernel_rfl) (by kernel_rfl) (fun _ _ _ h => h) (Or.inl ⟨by rfl, ?_⟩) (by assumption) ?_
        rotate_left
        · intro w' hSw
          first | (go_simp; with_reducible rfl) | (go_simp; done)
        try simp only [Act.put, List.setIfInBounds_toArray, List.set_cons_zero, List.set_cons_succ]
        refine wpAnyH_take (i := 2) (oi := { dst := some 58, op := Op.move (Operand.tmp 9), type := 3, pos := "law.go:69", after := #[], guard := none }) (v := ?_) rfl (by kernel_rfl) (by kernel_rfl) (by kernel_rfl) (fun _ _ _ h => h) (Or.inl ⟨by rfl, ?_⟩) (by assumption) ?_
        rotate_left
        · intro w' hSw
          first | (go_simp; with_reducible rfl) | (go_simp; done)
        try simp only [Act.put, List.setIfInBounds_toArray, List.set_cons_zero, List.set_cons_succ]
        refine wpAnyH_take (i := 3) (oi := { dst := some 59, op := Op.indexAddr 22 (Operand.tmp 57) (Operand.tmp 58), type := 0, pos := "law.go:69", after := #[{ on := 1, ground := Ground.data }, { on := 2, ground := Ground.data }], guard := none }) (v := ?_) rfl (by kernel_rfl) (by kernel_rfl) (by kernel_rfl) (fun _ _ _ h => h) (Or.inl ⟨by rfl, ?_⟩) (by assumption) ?_
        rotate_left
        · intro w' hSw
          first | (go_simp; with_reducible rfl) | (go_simp; done)
        try simp only [Act.put, List.setIfInBounds_toArray, List.set_cons_zero, List.set_cons_succ]
        refine wpAnyH_take (i := 4) (oi := { dst := some 60, op := Op.load 37 (Operand.tmp 59), type := 37, pos := "law.go:69", after := #[{ on := 3, ground := Ground.data }], guard := none }) (v := ?_) rfl (by kernel_rfl) (by kernel_rfl) (by kernel_rfl) (fun _ _ _ h => h) (Or.inl ⟨by rfl, ?_⟩) (by assumption) ?_
        rotate_left
        · intro w' hSw
          obtain ⟨h1, h2, h3, h4, h5⟩ := hSw
          first | (go_simp; with_reducible rfl) | (go_simp; done)
        try simp only [Act.put, List.setIfInBounds_toArray, List.set_cons_zero, List.set_cons_succ]
        refine wpAnyH_ready (rs := [5]) (by kernel_rfl) (by simp) ?_
        refine AllReadyH.cons (o := { dst := some 61, op := Op.call { callee := Callee.value (Operand.func 11), args := #[Operand.tmp 56, Operand.tmp 7, Operand.tmp 60], argTypes := #[24, 34, 37] }, type := 4, pos := "law.go:69", after := #[{ on := 0, ground := Ground.data }, { on := 4, ground := Ground.data }], guard := none }) rfl (fun K hK => ?_) AllReadyH.nil
        go_simp
        refine hplay.mono ?_
        clear hplay hR k1 k2 k3 k4 k5 hHeld
        rintro e w3 ⟨rfl, pg3, W3, a3, cap3, HR, k1, k2, k3, k4, k5, k6, k7⟩
        go_wp2_with fail
        refine hK.out _ _ ⟨k1, k2, k3, k4, k5⟩ (fun _ => ?_)
        clear hK K
        try simp only [Act.put, List.setIfInBounds_toArray, List.set_cons_zero, List.set_cons_succ]
        refine wpAnyH_more (S' := held7 b (off + i * 5) (z i) w2.heap.size qq (.slice a3 (nums pg3).length cap3)) (fun w' h => held7_5 w' h) _ _ _ _ ?_
        have hHeld : held7 b (off + i * 5) (z i) w2.heap.size qq (.slice a3 (nums pg3).length cap3) w3 := ⟨k1, k2, k3, k4, k5, k6, k7⟩
        refine wpAnyH_take (i := 6) (oi := { dst := some 62, op := Op.unOp UnOp.not 4 (Operand.tmp 61), type := 4, pos := "law.go:69", after := #[{ on := 5, ground := Ground.data }], guard := none }) (v := ?_) rfl (by kernel_rfl) (by kernel_rfl) (by kernel_rfl) (fun _ _ _ h => h) (Or.inl ⟨by rfl, ?_⟩) (by assumption) ?_
        rotate_left
        · intro w' hSw
          first | (go_simp; with_reducible rfl) | (go_simp; done)
        try simp only [Act.put, List.setIfInBounds_toArray, List.set_cons_zero, List.set_cons_succ]
        refine wpAnyH_take (i := 7) (oi := { dst := some 63, op := Op.move (Operand.tmp 62), type := 4, pos := "law.go:69", after := #[{ on := 6, ground := Ground.data }, { on := 5, ground := Ground.chain }], guard := none }) (v := ?_) rfl (by kernel_rfl) (by kernel_rfl) (by kernel_rfl) (fun _ _ _ h => h) (Or.inl ⟨by rfl, ?_⟩) (by assumption) ?_
        rotate_left
        · intro w' hSw
          first | (go_simp; with_reducible rfl) | (go_simp; done)
        try simp only [Act.put, List.setIfInBounds_toArray, List.set_cons_zero, List.set_cons_succ]
        refine wpAnyH_take (i := 8) (oi := { dst := some 64, op := Op.move (Operand.tmp 5), type := 24, pos := "law.go:69", after := #[{ on := 7, ground := Ground.guard }], guard := some (7, false) }) (v := ?_) rfl (by kernel_rfl) (by kernel_rfl) (by kernel_rfl) (fun _ _ _ h => h) (Or.inl ⟨by rfl, ?_⟩) (by assumption) ?_
        rotate_left
        · intro w' hSw
          first | (go_simp; with_reducible rfl) | (go_simp; done)
        try simp only [Act.put, List.setIfInBounds_toArray, List.set_cons_zero, List.set_cons_succ]
        refine wpAnyH_take (i := 10) (oi := { dst := some 66, op := Op.load 30 (Operand.tmp 7), type := 30, pos := "law.go:69", after := #[{ on := 7, ground := Ground.guard }], guard := some (7, false) }) (v := ?_) rfl (by kernel_rfl) (by kernel_rfl) (by kernel_rfl) (fun _ _ _ h => h) (Or.inl ⟨by rfl, ?_⟩) (by assumption) ?_
        rotate_left
        · intro w' hSw
          obtain ⟨h1, h2, h3, h4, h5, h6, h7⟩ := hSw
          first | (go_simp; with_reducible rfl) | (go_simp; done)
        try simp only [Act.put, List.setIfInBounds_toArray, List.set_cons_zero, List.set_cons_succ]
        refine wpAnyH_ready (rs := [9]) (by kernel_rfl) (by simp) ?_
        refine AllReadyH.cons (o := { dst := some 65, op := Op.call { callee := Callee.value (Operand.func 13), args := #[Operand.tmp 64], argTypes := #[24] }, type := 39, pos := "law.go:69", after := #[{ on := 8, ground := Ground.data }, { on := 7, ground := Ground.chain }, { on := 7, ground := Ground.guard }], guard := some (7, false) }) rfl (fun K hK => ?_) AllReadyH.nil
        go_simp
        have hh := step_pages hpages HR HO.out hbl
        clear HR hHeld k1 k2 k3 k4 k5 k6 k7
        refine hh.mono ?_
        clear hh
        rintro e w4 ⟨a4, cap4, rfl, HP, -, HR, k1, k2, k3, k4, k5, k6, k7⟩
        go_wp2_with fail
        refine hK.out _ _ ⟨k1, k2, k3, k4, k5, k6, k7⟩ (fun _ => ?_)
        clear hK K
        try simp only [Act.put, List.setIfInBounds_toArray, List.set_cons_zero, List.set_cons_succ]
        have hHeld : held7 b (off + i * 5) (z i) w2.heap.size qq (.slice a3 (nums pg3).length cap3) w4 := ⟨k1, k2, k3, k4, k5, k6, k7⟩
        refine wpAnyH_ready (rs := [11]) (by kernel_rfl) (by simp) ?_
        refine AllReadyH.cons (o := { dst := some 67, op := Op.call { callee := Callee.value (Operand.func 14), args := #[Operand.tmp 66], argTypes := #[30] }, type := 39, pos := "law.go:69", after := #[{ on := 10, ground := Ground.data }, { on := 9, ground := Ground.chain }, { on := 7, ground := Ground.guard }], guard := some (7, false) }) rfl (fun K hK => ?_) AllReadyH.nil
        go_simp
        have hh := step_numbers HR HO.out hbl
        clear HR hHeld k1 k2 k3 k4 k5 k6 k7
        refine hh.mono ?_
        clear hh
        rintro e w5 ⟨a5, cap5, rfl, HN, hb, HR, k1, k2, k3, k4, k5, k6, k7⟩
        replace HP := HP.below hb
        clear hb
        go_wp2_with fail
        refine hK.out _ _ ⟨k1, k2, k3, k4, k5, k6, k7⟩ (fun _ => ?_)
        clear hK K
        try simp only [Act.put, List.setIfInBounds_toArray, List.set_cons_zero, List.set_cons_succ]
        have hHeld : held7 b (off + i * 5) (z i) w2.heap.size qq (.slice a3 (nums pg3).length cap3) w5 := ⟨k1, k2, k3, k4, k5, k6, k7⟩
        refine wpAnyH_ready (rs := [12]) (by kernel_rfl) (by simp) ?_
        refine AllReadyH.cons (o := { dst := some 68, op := Op.call { callee := Callee.value (Operand.func 12), args := #[Operand.tmp 65, Operand.tmp 67], argTypes := #[39, 39] }, type := 4, pos := "law.go:69", after := #[{ on := 9, ground := Ground.data }, { on := 11, ground := Ground.data }, { on := 11, ground := Ground.chain }, { on := 7, ground := Ground.guard }], guard := some (7, false) }) rfl (fun K hK => ?_) AllReadyH.nil
        go_simp
        have hh := step_same HR HP HN HO.out hbl
        clear HR HP HN hHeld k1 k2 k3 k4 k5 k6 k7
        refine hh.mono ?_
        clear hh
        rintro e w6 ⟨rfl, HR, k1, k2, k3, k4, k5, k6, k7⟩
        go_wp2_with fail
        refine hK.out _ _ ⟨k1, k2, k3, k4, k5, k6, k7⟩ (fun _ => ?_)
        clear hK K
        try simp only [Act.put, List.setIfInBounds_toArray, List.set_cons_zero, List.set_cons_succ]
        have hHeld : held7 b (off + i * 5) (z i) w2.heap.size qq (.slice a3 (nums pg3).length cap3) w6 := ⟨k1, k2, k3, k4, k5, k6, k7⟩
        refine wpAnyH_take (i := 13) (oi := { dst := some 69, op := Op.unOp UnOp.not 4 (Operand.tmp 68), type := 4, pos := "law.go:69", after := #[{ on := 12, ground := Ground.data }, { on := 7, ground := Ground.guard }], guard := some (7, false) }) (v := ?_) rfl (by kernel_rfl) (by kernel_rfl) (by kernel_rfl) (fun _ _ _ h => h) (Or.inl ⟨by rfl, ?_⟩) (by assumption) ?_
        rotate_left
        · intro w' hSw
          first | (go_simp; with_reducible rfl) | (go_simp; done)
        try simp only [Act.put, List.setIfInBounds_toArray, List.set_cons_zero, List.set_cons_succ]
        refine wpAnyH_take (i := 14) (oi := { dst := some 70, op := Op.pick (Operand.tmp 63) (Operand.const (Value.bool true)) (Operand.tmp 69), type := 4, pos := "law.go:69", after := #[{ on := 7, ground := Ground.data }, { on := 13, ground := Ground.data }], guard := none }) (v := ?_) rfl (by kernel_rfl) (by kernel_rfl) (by kernel_rfl) (fun _ _ _ h => h) (Or.inl ⟨by rfl, ?_⟩) (by assumption) ?_
        rotate_left
        · intro w' hSw
          first | (go_simp; with_reducible rfl) | (go_simp; done)
        try simp only [Act.put, List.setIfInBounds_toArray, List.set_cons_zero, List.set_cons_succ]
        refine wpAnyH_take (i := 15) (oi := { dst := some 71, op := Op.move (Operand.tmp 70), type := 4, pos := "law.go:69", after := #[{ on := 14, ground := Ground.data }, { on := 12, ground := Ground.chain }], guard := none }) (v := ?_) rfl (by kernel_rfl) (by kernel_rfl) (by kernel_rfl) (fun _ _ _ h => h) (Or.inl ⟨by rfl, ?_⟩) (by assumption) ?_
        rotate_left
        · intro w' hSw
          first | (go_simp; with_reducible rfl) | (go_simp; done)
        try simp only [Act.put, List.setIfInBounds_toArray, List.set_cons_zero, List.set_cons_succ]
        refine wpAnyH_take (i := 16) (oi := { dst := some 72, op := Op.move (Operand.tmp 5), type := 24, pos := "law.go:69", after := #[{ on := 15, ground := Ground.guard }], guard := some (15, false) }) (v := ?_) rfl (by kernel_rfl) (by kernel_rfl) (by kernel_rfl) (fun _ _ _ h => h) (Or.inl ⟨by rfl, ?_⟩) (by assumption) ?_
        rotate_left
        · intro w' hSw
          first | (go_simp; with_reducible rfl) | (go_simp; done)
        try simp only [Act.put, List.setIfInBounds_toArray, List.set_cons_zero, List.set_cons_succ]
        refine wpAnyH_take (i := 18) (oi := { dst := some 74, op := Op.move (Operand.tmp 0), type := 3, pos := "law.go:69", after := #[{ on := 15, ground := Ground.guard }], guard := some (15, false) }) (v := ?_) rfl (by kernel_rfl) (by kernel_rfl) (by kernel_rfl) (fun _ _ _ h => h) (Or.inl ⟨by rfl, ?_⟩) (by assumption) ?_
        rotate_left
        · intro w' hSw
          first | (go_simp; with_reducible rfl) | (go_simp; done)
        try simp only [Act.put, List.setIfInBounds_toArray, List.set_cons_zero, List.set_cons_succ]
        refine wpAnyH_ready (rs := [17]) (by kernel_rfl) (by simp) ?_
        refine AllReadyH.cons (o := { dst := some 73, op := Op.call { callee := Callee.value (Operand.func 15), args := #[Operand.tmp 72], argTypes := #[24] }, type := 3, pos := "law.go:69", after := #[{ on := 16, ground := Ground.data }, { on := 15, ground := Ground.chain }, { on := 15, ground := Ground.guard }], guard := some (15, false) }) rfl (fun K hK => ?_) AllReadyH.nil
        go_simp
        refine (quota_any HR.mix.ar).mono ?_
        rintro e w7 ⟨rfl, rfl⟩
        go_wp2_with fail
        refine hK.out _ _ ⟨k1, k2, k3, k4, k5, k6, k7⟩ (fun _ => ?_)
        clear hK K
        try simp only [Act.put, List.setIfInBounds_toArray, List.set_cons_zero, List.set_cons_succ]
        refine wpAnyH_take (i := 19) (oi := { dst := some 75, op := Op.binOp BinOp.neq 3 (Operand.tmp 73) (Operand.tmp 74) 3, type := 4, pos := "law.go:69", after := #[{ on := 17, ground := Ground.data }, { on := 18, ground := Ground.data }, { on := 15, ground := Ground.guard }], guard := some (15, false) }) (v := ?_) rfl (by kernel_rfl) (by kernel_rfl) (by kernel_rfl) (fun _ _ _ h => h) (Or.inl ⟨by rfl, ?_⟩) (by assumption) ?_
        rotate_left
        · intro w' hSw
          first | (go_simp; with_reducible rfl) | (go_simp; done)
        try simp only [Act.put, List.setIfInBounds_toArray, List.set_cons_zero, List.set_cons_succ]
        refine wpAnyH_take (i := 20) (oi := { dst := some 76, op := Op.pick (Operand.tmp 71) (Operand.const (Value.bool true)) (Operand.tmp 75), type := 4, pos := "law.go:69", after := #[{ on := 15, ground := Ground.data }, { on := 19, ground := Ground.data }], guard := none }) (v := ?_) rfl (by kernel_rfl) (by kernel_rfl) (by kernel_rfl) (fun _ _ _ h => h) (Or.inl ⟨by rfl, ?_⟩) (by assumption) ?_
        rotate_left
        · intro w' hSw
          first | (go_simp; with_reducible rfl) | (go_simp; done)
        try simp only [Act.put, List.setIfInBounds_toArray, List.set_cons_zero, List.set_cons_succ]
        refine wpAnyH_take (i := 21) (oi := { dst := some 77, op := Op.move (Operand.tmp 76), type := 4, pos := "law.go:69", after := #[{ on := 20, ground := Ground.data }, { on := 17, ground := Ground.chain }], guard := none }) (v := ?_) rfl (by kernel_rfl) (by kernel_rfl) (by kernel_rfl) (fun _ _ _ h => h) (Or.inl ⟨by rfl, ?_⟩) (by assumption) ?_
        rotate_left
        · intro w' hSw
          first | (go_simp; with_reducible rfl) | (go_simp; done)
        try simp only [Act.put, List.setIfInBounds_toArray, List.set_cons_zero, List.set_cons_succ]
        refine wpAnyH_take (i := 22) (oi := { dst := some 78, op := Op.move (Operand.tmp 5), type := 24, pos := "law.go:69", after := #[{ on := 21, ground := Ground.guard }], guard := some (21, false) }) (v := ?_) rfl (by kernel_rfl) (by kernel_rfl) (by kernel_rfl) (fun _ _ _ h => h) (Or.inl ⟨by rfl, ?_⟩) (by assumption) ?_
        rotate_left
        · intro w' hSw
          first | (go_simp; with_reducible rfl) | (go_simp; done)
        try simp only [Act.put, List.setIfInBounds_toArray, List.set_cons_zero, List.set_cons_succ]
        refine wpAnyH_take (i := 23) (oi := { dst := some 79, op := Op.move (Operand.tmp 1), type := 22, pos := "law.go:69", after := #[{ on := 21, ground := Ground.guard }], guard := some (21, false) }) (v := ?_) rfl (by kernel_rfl) (by kernel_rfl) (by kernel_rfl) (fun _ _ _ h => h) (Or.inl ⟨by rfl, ?_⟩) (by assumption) ?_
        rotate_left
        · intro w' hSw
          first | (go_simp; with_reducible rfl) | (go_simp; done)
        try simp only [Act.put, List.setIfInBounds_toArray, List.set_cons_zero, List.set_cons_succ]
        refine wpAnyH_take (i := 24) (oi := { dst := some 80, op := Op.move (Operand.tmp 9), type := 3, pos := "law.go:69", after := #[{ on := 21, ground := Ground.guard }], guard := some (21, false) }) (v := ?_) rfl (by kernel_rfl) (by kernel_rfl) (by kernel_rfl) (fun _ _ _ h => h) (Or.inl ⟨by rfl, ?_⟩) (by assumption) ?_
        rotate_left
        · intro w' hSw
          first | (go_simp; with_reducible rfl) | (go_simp; done)
        try simp only [Act.put, List.setIfInBounds_toArray, List.set_cons_zero, List.set_cons_succ]
        refine wpAnyH_take (i := 25) (oi := { dst := some 81, op := Op.indexAddr 22 (Operand.tmp 79) (Operand.tmp 80), type := 0, pos := "law.go:69", after := #[{ on := 23, ground := Ground.data }, { on := 24, ground := Ground.data }, { on := 21, ground := Ground.guard }], guard := some (21, false) }) (v := ?_) rfl (by kernel_rfl) (by kernel_rfl) (by kernel_rfl) (fun _ _ _ h => h) (Or.inl ⟨by rfl, ?_⟩) (by assumption) ?_
        rotate_left
        · intro w' hSw
          first | (go_simp; with_reducible rfl) | (go_simp; done)
        try simp only [Act.put, List.setIfInBounds_toArray, List.set_cons_zero, List.set_cons_succ]
        refine wpAnyH_take (i := 26) (oi := { dst := some 82, op := Op.fieldAddr 37 (Operand.tmp 81) 1, type := 0, pos := "law.go:69", after := #[{ on := 25, ground := Ground.data }, { on := 21, ground := Ground.guard }], guard := some (21, false) }) (v := ?_) rfl (by kernel_rfl) (by kernel_rfl) (by kernel_rfl) (fun _ _ _ h => h) (Or.inl ⟨by rfl, ?_⟩) (by assumption) ?_
        rotate_left
        · intro w' hSw
          first | (go_simp; with_reducible rfl) | (go_simp; done)
        try simp only [Act.put, List.setIfInBounds_toArray, List.set_cons_zero, List.set_cons_succ]
        refine wpAnyH_take (i := 27) (oi := { dst := some 83, op := Op.load 3 (Operand.tmp 82), type := 3, pos := "law.go:69", after := #[{ on := 26, ground := Ground.data }, { on := 21, ground := Ground.guard }], guard := some (21, false) }) (v := ?_) rfl (by kernel_rfl) (by kernel_rfl) (by kernel_rfl) (fun _ _ _ h => h) (Or.inl ⟨by rfl, ?_⟩) (by assumption) ?_
        rotate_left
        · intro w' hSw
          obtain ⟨h1, h2, h3, h4, h5, h6, h7⟩ := hSw
          first | (go_simp; with_reducible rfl) | (go_simp; done)
        try simp only [Act.put, List.setIfInBounds_toArray, List.set_cons_zero, List.set_cons_succ]
        refine wpAnyH_take (i := 29) (oi := { dst := some 85, op := Op.load 30 (Operand.tmp 7), type := 30, pos := "law.go:69", after := #[{ on := 21, ground := Ground.guard }], guard := some (21, false) }) (v := ?_) rfl (by kernel_rfl) (by kernel_rfl) (by kernel_rfl) (fun _ _ _ h => h) (Or.inl ⟨by rfl, ?_⟩) (by assumption) ?_
        rotate_left
        · intro w' hSw
          obtain ⟨h1, h2, h3, h4, h5, h6, h7⟩ := hSw
          first | (go_simp; with_reducible rfl) | (go_simp; done)
        try simp only [Act.put, List.setIfInBounds_toArray, List.set_cons_zero, List.set_cons_succ]
        refine wpAnyH_take (i := 30) (oi := { dst := some 86, op := Op.move (Operand.tmp 1), type := 22, pos := "law.go:69", after := #[{ on := 21, ground := Ground.guard }], guard := some (21, false) }) (v := ?_) rfl (by kernel_rfl) (by kernel_rfl) (by kernel_rfl) (fun _ _ _ h => h) (Or.inl ⟨by rfl, ?_⟩) (by assumption) ?_
        rotate_left
        · intro w' hSw
          first | (go_simp; with_reducible rfl) | (go_simp; done)
        try simp only [Act.put, List.setIfInBounds_toArray, List.set_cons_zero, List.set_cons_succ]
        refine wpAnyH_take (i := 31) (oi := { dst := some 87, op := Op.move (Operand.tmp 9), type := 3, pos := "law.go:69", after := #[{ on := 21, ground := Ground.guard }], guard := some (21, false) }) (v := ?_) rfl (by kernel_rfl) (by kernel_rfl) (by kernel_rfl) (fun _ _ _ h => h) (Or.inl ⟨by rfl, ?_⟩) (by assumption) ?_
        rotate_left
        · intro w' hSw
          first | (go_simp; with_reducible rfl) | (go_simp; done)
        try simp only [Act.put, List.setIfInBounds_toArray, List.set_cons_zero, List.set_cons_succ]
        refine wpAnyH_take (i := 32) (oi := { dst := some 88, op := Op.indexAddr 22 (Operand.tmp 86) (Operand.tmp 87), type := 0, pos := "law.go:69", after := #[{ on := 30, ground := Ground.data }, { on := 31, ground := Ground.data }, { on := 21, ground := Ground.guard }], guard := some (21, false) }) (v := ?_) rfl (by kernel_rfl) (by kernel_rfl) (by kernel_rfl) (fun _ _ _ h => h) (Or.inl ⟨by rfl, ?_⟩) (by assumption) ?_
        rotate_left
        · intro w' hSw
          first | (go_simp; with_reducible rfl) | (go_simp; done)
        try simp only [Act.put, List.setIfInBounds_toArray, List.set_cons_zero, List.set_cons_succ]
        refine wpAnyH_take (i := 33) (oi := { dst := some 89, op := Op.fieldAddr 37 (Operand.tmp 88) 1, type := 0, pos := "law.go:69", after := #[{ on := 32, ground := Ground.data }, { on := 21, ground := Ground.guard }], guard := some (21, false) }) (v := ?_) rfl (by kernel_rfl) (by kernel_rfl) (by kernel_rfl) (fun _ _ _ h => h) (Or.inl ⟨by rfl, ?_⟩) (by assumption) ?_
        rotate_left
        · intro w' hSw
          first | (go_simp; with_reducible rfl) | (go_simp; done)
        try simp only [Act.put, List.setIfInBounds_toArray, List.set_cons_zero, List.set_cons_succ]
        refine wpAnyH_take (i := 34) (oi := { dst := some 90, op := Op.load 3 (Operand.tmp 89), type := 3, pos := "law.go:69", after := #[{ on := 33, ground := Ground.data }, { on := 21, ground := Ground.guard }], guard := some (21, false) }) (v := ?_) rfl (by kernel_rfl) (by kernel_rfl) (by kernel_rfl) (fun _ _ _ h => h) (Or.inl ⟨by rfl, ?_⟩) (by assumption) ?_
        rotate_left
        · intro w' hSw
          obtain ⟨h1, h2, h3, h4, h5, h6, h7⟩ := hSw
          first | (go_simp; with_reducible rfl) | (go_simp; done)
        try simp only [Act.put, List.setIfInBounds_toArray, List.set_cons_zero, List.set_cons_succ]
        refine wpAnyH_ready (rs := [28]) (by kernel_rfl) (by simp) ?_
        refine AllReadyH.cons (o := { dst := some 84, op := Op.call { callee := Callee.value (Operand.func 16), args := #[Operand.tmp 78, Operand.tmp 83], argTypes := #[24, 3] }, type := 4, pos := "law.go:69", after := #[{ on := 22, ground := Ground.data }, { on := 27, ground := Ground.data }, { on := 21, ground := Ground.chain }, { on := 21, ground := Ground.guard }], guard := some (21, false) }) rfl (fun K hK => ?_) AllReadyH.nil
        go_simp
        refine (is_any HR.mix.ar (z i).a hwa).mono ?_
        rintro e w7 ⟨rfl, rfl⟩
        go_wp2_with fail
        refine hK.out _ _ ⟨k1, k2, k3, k4, k5, k6, k7⟩ (fun _ => ?_)
        clear hK K
        try simp only [Act.put, List.setIfInBounds_toArray, List.set_cons_zero, List.set_cons_succ]
        refine wpAnyH_ready (rs := [35]) (by kernel_rfl) (by simp) ?_
        refine AllReadyH.cons (o := { dst := some 91, op := Op.call { callee := Callee.value (Operand.func 17), args := #[Operand.tmp 85, Operand.tmp 90], argTypes := #[30, 3] }, type := 3, pos := "law.go:69", after := #[{ on := 29, ground := Ground.data }, { on := 34, ground := Ground.data }, { on := 28, ground := Ground.chain }, { on := 21, ground := Ground.guard }], guard := some (21, false) }) rfl (fun K hK => ?_) AllReadyH.nil
        go_simp
        have hh := step_at HR (z i).a HO.out hbl
        clear HR hHeld k1 k2 k3 k4 k5 k6 k7
        refine hh.mono ?_
        clear hh
        rintro e w8 ⟨r, rfl, HT, HR, k1, k2, k3, k4, k5, k6, k7⟩
        go_wp2_with fail
        refine hK.out _ _ ⟨k1, k2, k3, k4, k5, k6, k7⟩ (fun _ => ?_)
        clear hK K
        try simp only [Act.put, List.setIfInBounds_toArray, List.set_cons_zero, List.set_cons_succ]
        have hHeld : held7 b (off + i * 5) (z i) w2.heap.size qq (.slice a3 (nums pg3).length cap3) w8 := ⟨k1, k2, k3, k4, k5, k6, k7⟩
        refine wpAnyH_take (i := 36) (oi := { dst := some 92, op := Op.binOp BinOp.geq 3 (Operand.tmp 91) (Operand.const (Value.int IntKind.i64 0)) 3, type := 4, pos := "law.go:69", after := #[{ on := 35, ground := Ground.data }, { on := 21, ground := Ground.guard }], guard := some (21, false) }) (v := ?_) rfl (by kernel_rfl) (by kernel_rfl) (by kernel_rfl) (fun _ _ _ h => h) (Or.inl ⟨by rfl, ?_⟩) (by assumption) ?_
        rotate_left
        · intro w' hSw
          first | (go_simp; with_reducible rfl) | (go_simp; done)
        try simp only [Act.put, List.setIfInBounds_toArray, List.set_cons_zero, List.set_cons_succ]
        refine wpAnyH_take (i := 37) (oi := { dst := some 93, op := Op.binOp BinOp.neq 4 (Operand.tmp 84) (Operand.tmp 92) 4, type := 4, pos := "law.go:69", after := #[{ on := 28, ground := Ground.data }, { on := 36, ground := Ground.data }, { on := 21, ground := Ground.guard }], guard := some (21, false) }) (v := ?_) rfl (by kernel_rfl) (by kernel_rfl) (by kernel_rfl) (fun _ _ _ h => h) (Or.inl ⟨by rfl, ?_⟩) (by assumption) ?_
        rotate_left
        · intro w' hSw
          first | (go_simp; with_reducible rfl) | (go_simp; done)
        try simp only [Act.put, List.setIfInBounds_toArray, List.set_cons_zero, List.set_cons_succ]
        refine wpAnyH_take (i := 38) (oi := { dst := some 94, op := Op.pick (Operand.tmp 77) (Operand.const (Value.bool true)) (Operand.tmp 93), type := 4, pos := "law.go:69", after := #[{ on := 21, ground := Ground.data }, { on := 37, ground := Ground.data }], guard := none }) (v := ?_) rfl (by kernel_rfl) (by kernel_rfl) (by kernel_rfl) (fun _ _ _ h => h) (Or.inl ⟨by rfl, ?_⟩) (by assumption) ?_
        rotate_left
        · intro w' hSw
          first | (go_simp; with_reducible rfl) | (go_simp; done)
        try simp only [Act.put, List.setIfInBounds_toArray, List.set_cons_zero, List.set_cons_succ]
        refine wpAnyH_done (by kernel_rfl) ?_ _
        go_wp2_with fail
        go_meet
        exact ⟨by rw [HT.out]; simp, pg3, W3, a3, cap3, HR⟩
      case rest =>
        obtain ⟨rfl, pg', W', a', cap', hR'⟩ := hcut
        go_wp2
        go_roundg (len - (i + 1))
        case measure => omega
        case rel => exact ⟨i + 1, pg', W', a', cap', by omega, by go_num, hR'⟩
    · clear HR0
      have c1 := hR.mix.rf.c1
      go_wp2
      go_loopg [4, 10, 11, 12, 13] (nums pg).length (fun g _ t10 _ _ _ wx => ∃ j : Nat, j + g = (nums pg).length ∧ t10 = .int .i64 j ∧ Run w.heap.size w wx (w.heap.size + 1) w.heap.size w2.heap.size qq pg W a cap)
      case atStart => exact ⟨0, by omega, rfl, hR⟩
      case round =>
        obtain ⟨j, hjg, rfl, hRj⟩ := hrel
        clear hR c1
        have c1 := hRj.mix.rf.c1
        have hln := hRj.mix.rf.len
        by_cases hj : j < (nums pg).length
        · obtain ⟨N, hN⟩ := get_lt hj
          obtain ⟨g, hrow, _⟩ := ref_form hRj.mix.rf
          have hix := hrow.ix j hj
          have hnum := hrow.num j N hN
          have HWD : Aside (∀ k : Nat, k < 64 → wr.cell? ⟨g, j * 65 + 1 + k, none⟩ = some (.int .u64 (W (64 * N + k)))) := fun k hk => hrow.word j N k hN hk
          have hmem : N ∈ nums pg := List.mem_of_getElem? hN
          have hrng : 0 ≤ N ∧ N ≤ 1048575 := by
            obtain ⟨p, hp, e⟩ := List.mem_map.1 hmem
            have := hRj.mix.ar.rng p hp
            rw [← e]
            exact this
          have HB : Aside ((blk pg N).isSome = true) := mem_nums.1 hmem
          clear hN hmem hrow
          go_wp2
          go_loopg [4, 11, 12, 13] 64 (fun g _ t11 _ _ wx => ∃ k : Nat, k + g = 64 ∧ t11 = .int .i64 k ∧ wr = wx)
          case atStart => exact ⟨0, by omega, rfl, rfl⟩
          case round =>
            obtain ⟨k, hkg, rfl, rfl⟩ := hrel
            by_cases hk : k < 64
            · have hrd := read_any hRj.mix.ar (N * 64 + k)
              have hE : readE pg (N * 64 + k) = 0 := by
                unfold readE
                rw [if_pos (by simp [isSpanB]; omega), if_pos (by rw [show (N * 64 + (k : Int)) / 64 = N from by omega]; exact HB.out)]
              have hV : readV pg W (N * 64 + k) = W (64 * N + k) := by
                unfold readV
                rw [if_pos hE, Int.mul_comm]
              rw [hE, hV] at hrd
              have hcl := HWD.out k hk
              clear hE hV
              go_wp2_with fail
              refine hrd.mono ?_
              rintro e w5 ⟨rfl, rfl⟩
              go_wp2
              go_roundg (64 - (k + 1))
              case measure => omega
              case rel => exact ⟨k + 1, by omega, by go_num, rfl⟩
            · go_wp2
              go_roundg ((nums pg).length - (j + 1))
              case measure => omega
              case rel => exact ⟨j + 1, by omega, by go_num, hRj⟩
        · have haw := awake_any wr
          go_wp2_with (go_at_call 8; refine haw.mono ?_; rintro e w6 ⟨rfl, hb6⟩)
          go_ret
          exact ⟨rfl, hRj.bel.trans (hb6.mono hRj.sz)⟩

set_option maxHeartbeats 1000000 in
set_option maxRecDepth 100000 in
theorem plays_out (a0 : Option Addr) (len cap0 : Nat) (qq : Int) (w : World) (hlen : len ≤ 100) (hq : qq < 0 ∨ 262144 < qq) :
    Calls Try.prog 3 #[.int .i64 qq, .slice a0 len cap0] w fun e w' => e = .returned (.bool true) ∧ Below w.heap.size w w' := by
  have hnew := new_arg qq w hq
  have hnew2 := rNew_no qq w hq
  have hg : (decide (2000 < qq) && decide (qq ≤ 262144)) = false := by
    rw [Bool.and_eq_false_iff]
    rcases hq with h | h
    · exact Or.inl (by simp; omega)
    · exact Or.inr (by simp; omega)
  rcases hq with hq | hq
  all_goals
    clear hg
    go_enter Try.func3, Try.ntmps3
    go_wp2_with fail
    refine hnew.mono ?_
    rintro e w1 ⟨rfl, rfl⟩
    go_wp2_with fail
    refine hnew2.mono ?_
    rintro e w2 ⟨rfl, hb2⟩
    have hb3 := hb2.alloc hb2.size (.cells #[.int .i64 0, .slice none 0 0] 30)
    have HB : Aside _ := hb3
    clear hnew hnew2 hb3
    have hsz := hb2.size
    by_cases h0 : len = 0
    all_goals
      go_wp2
      go_loopg [4, 9] 0 (fun _ _ t9 wx => t9 = .int .i64 0 ∧ w2.alloc (.cells #[.int .i64 0, .slice none 0 0] 30) = wx)
      case atStart => exact ⟨rfl, rfl⟩
      case round =>
        obtain ⟨rfl, rfl⟩ := hrel
        go_wp2
        go_loopg [4, 10, 11, 12, 13] 0 (fun _ _ t10 _ _ _ wx => t10 = .int .i64 0 ∧ w2.alloc (.cells #[.int .i64 0, .slice none 0 0] 30) = wx)
        case atStart => exact ⟨rfl, rfl⟩
        case round =>
          obtain ⟨rfl, rfl⟩ := hrel
          have haw := awake_any (w2.alloc (.cells #[.int .i64 0, .slice none 0 0] 30))
          go_wp2_with (go_at_call 8; refine haw.mono ?_; rintro e w6 ⟨rfl, hb6⟩)
          go_ret
          exact ⟨rfl, HB.out.trans (hb6.mono HB.out.size)⟩

set_option maxRecDepth 100000 in
theorem plays_any (hpages : PagesSaid) (a0 : Option Addr) (b off len cap0 : Nat) (z : Nat → Opv) (qq : Int) (w : World) (hS : Script w a0 b off len cap0 z) (hmax : len ≤ maxLen) :
    Calls Try.prog 3 #[.int .i64 qq, .slice a0 len cap0] w fun e w' => e = .returned (.bool true) ∧ Below w.heap.size w w' := by
  have haw := awake_any w
  unfold maxLen at hmax
  by_cases hl : 100 < len
  · go_enter Try.func3, Try.ntmps3
    go_wp2_with (go_at_call 8; refine haw.mono ?_; rintro e w' ⟨rfl, hb⟩)
    go_ret
    exact ⟨rfl, hb⟩
  by_cases h1 : qq < 0
  · exact plays_out a0 len cap0 qq w (by omega) (Or.inl h1)
  by_cases h2 : 262144 < qq
  · exact plays_out a0 len cap0 qq w (by omega) (Or.inr h2)
  by_cases h3 : 2000 < qq
  · go_enter Try.func3, Try.ntmps3
    go_wp2_with (go_at_call 8; refine haw.mono ?_; rintro e w' ⟨rfl, hb⟩)
    go_ret
    exact ⟨rfl, hb⟩
  exact plays_main hpages a0 b off len cap0 z qq w hS (by omega) (by omega) (by omega)

end Sl
end Go.Proofs.Ytclbaepgodeoiaa
