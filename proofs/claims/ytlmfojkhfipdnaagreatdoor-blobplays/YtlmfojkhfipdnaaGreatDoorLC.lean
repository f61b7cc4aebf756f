/-
  Put where there is room, on a store made since: what it leaves of all that is held; and the document's answers that each statement asks for.
-/
import Derived.Test.YtlmfojkhfipdnaaGreatDoorLB
import Derived.WalkSpells
import Derived.Test.YtlmfojkhfipdnaaGreatDoorK1
import Derived.ChangeArms
namespace Go.Proofs.YtlmfojkhfipdnaaGreatDoor
open Go.RowKit Go.Maps
attribute [local go_sem ↓] Go.wp_at_zero Go.wp_at_succ
namespace Bb
open Hp (Kept K No Pg BlR Bl Wl Same allocL granted)
open Hd (U64 findL openL)
open Go.Proofs.YtlmfojkhfipdnaaGreatDoor.So (Ad Sb Sw Rec Rn Stp sp lE lN wE wA)
variable {w0 w w' : World} {B : Nat} {A : Ad} {pg pg' : List (Int × Nat)} {W W' : Int → Int} {L L' : List Pg} {v v' : Value} {T T' : List Hd.Sl}

theorem full_no {m z a x : Int} {er : Int} (a0 : 0 ≤ a) (hk : (T.length : Int) < m) (e : openL m z T a = (x, er, T')) : er = 0 ∧ T'.length ≤ T.length + 1 := by
  have hf : So.fullB m z T = false := by unfold So.fullB; rw [decide_eq_false (by omega)]; rfl
  have h0 : er = 0 := by
    rcases So.full_open a0 e with ⟨_, h⟩ | ⟨h, _⟩
    · exact h
    · rw [hf] at h; cases h
  subst h0
  refine ⟨rfl, ?_⟩
  unfold openL at e
  rw [if_neg (by omega)] at e
  split at e
  · simp only [Prod.mk.injEq] at e
    obtain ⟨_, _, rfl⟩ := e
    simp
  · split at e
    · simp only [Prod.mk.injEq] at e
      obtain ⟨_, _, rfl⟩ := e
      simp
    · omega

/-- What a Put that fits leaves. -/
structure Fits (w0 w w' : World) (A : Ad) (pg : List (Int × Nat)) (W : Int → Int) (v : Value) (T : List Hd.Sl) (L' : List Pg) (x : Int) (ws : List Int) (pg' : List (Int × Nat)) (W' : Int → Int) (v' : Value) (T' : List Hd.Sl) : Prop where
  rn : Rn w0 w' A pg' W' L' v' T'
  len : T'.length ≤ T.length + 1
  ho : Ho T' W' x ws
  old : ∀ y ys, Ho T W y ys → y ≠ x ∧ Ho T' W' y ys
  off : ∀ y, y ≠ x → findL T' y = findL T y
  st : Stp A pg pg' v v' w w'

theorem put_fits (h : Rn w0 w A pg W L v T) (t : ByteArray) (ht : t.size ≤ 1000) {a : Int} (ea : allocL A.q L (2 + ((Tx.wds (Tx.bs t)).length : Int)) = (a, 0, L')) (hk : (T.length : Int) < A.m) :
    Calls Tryz.prog 9 #[sp A.st, .string t] w fun e w' => ∃ x, e = .returned (.tuple #[.int .u64 x, .int .i64 0]) ∧ Aside (U64 x ∧ x ≠ 0 ∧ ∃ pg' W' v' T', Fits w0 w w' A pg W v T L' x (Tx.wds (Tx.bs t)) pg' W' v' T') := by
  have hsz : (Tx.wds (Tx.bs t)).length ≤ 126 := by
    have := Tx.wds_len (Tx.bs t)
    have := Tx.bs_len t
    omega
  refine (put_short h.s h.k.size t ht).mono ?_
  rintro e w2 (⟨a2, L2, x, T2, ea2, eo, rfl, pg2, W2, v2, sw, sm, ho, st⟩ | ⟨er, her, hc, rfl, _⟩)
  · rw [ea] at ea2
    simp only [Prod.mk.injEq] at ea2
    obtain ⟨rfl, _, rfl⟩ := ea2
    have a0 : 0 ≤ a := by
      obtain ⟨_, hR⟩ := So.allocRm h.s.b.wl (x := 2 + ((Tx.wds (Tx.bs t)).length : Int)) ⟨by omega, by omega⟩ ea
      have := sw.b.at ((hR _ _).2 (.inl ⟨rfl, rfl⟩))
      omega
    obtain ⟨_, _, x0, hoff, _⟩ := find_make a0 h.s.b.tl eo
    exact ⟨x, rfl, (So.nm_word a0 h.s.b.tl sw.b.tb.wf eo).2, x0, pg2, W2, v2, T2, ⟨sw, h.kst st⟩, (full_no a0 hk eo).2, ho, fun y ys hy => Ho.make h.s.r sm a0 h.s.b.tl eo hy, hoff, st⟩
  · exfalso
    rcases hc with ⟨a2, e2, hne⟩ | ⟨_, hf, _⟩
    · rw [ea] at e2
      simp only [Prod.mk.injEq] at e2
      exact hne e2.2.1.symm
    · unfold So.fullB at hf
      rw [decide_eq_false (by omega)] at hf
      cases hf

/-- A blob's answer. -/
theorem get_held (h : Rn w0 w A pg W L v T) {x : Int} (hx : U64 x) {t : ByteArray} (ht : t.size ≤ 1000) (ho : Ho T W x (Tx.wds (Tx.bs t))) : Calls Tryz.prog 11 #[sp A.st, .int .u64 x] w fun e w' => e = .returned (.tuple #[.string t, .int .i64 0]) ∧ K w w' := by
  have cg := get_any h.s hx
  obtain ⟨e1, e2⟩ := ho.get (by rw [Tx.bs_len]; exact ht)
  rw [e1, e2] at cg
  exact cg
theorem len_held (h : Rn w0 w A pg W L v T) {x : Int} (hx : U64 x) {ws : List Int} (ho : Ho T W x ws) : Calls Tryz.prog 10 #[sp A.st, .int .u64 x] w fun e w' => e = .returned (.tuple #[.int .i64 (ws.length : Int), .int .i64 0]) ∧ K w w' := by
  have ln := So.len_any h.s x hx
  obtain ⟨n0, _⟩ := lN_rng h.s x
  have e1 : lE T x = 0 := by
    obtain ⟨i, hi⟩ := Option.isSome_iff_exists.1 ho.1
    simp [lE, hi]
  have e2 : lN T W x = (ws.length : Int) := by
    rw [← ho.2, rwI_len]
    omega
  rw [e1, e2] at ln
  exact ln

def abc : ByteArray := ⟨#[97, 98, 99]⟩
theorem abc_len : (Tx.wds (Tx.bs abc)).length = 2 := by decide

set_option maxRecDepth 100000 in
set_option maxHeartbeats 2000000 in
theorem awake_any (w : World) (hT : Bt.Tab w) : Calls Tryz.prog 4 #[] w fun e w' => e = .returned (.bool true) ∧ K w w' := by
  have cn := Rn.new 640 9 9 w hT (by decide) (by decide) (by decide) (by decide) (by decide) (by decide)
  go_enter Tryz.func4, Tryz.ntmps4
  go_wp2_with fail
  refine cn.mono ?_
  rintro e w1 ⟨A, v, rfl, HA, k1⟩
  obtain ⟨rn, hq, hm, hz, _, _⟩ := HA.out
  have ea : allocL A.q [] (2 + ((Tx.wds (Tx.bs abc)).length : Int)) = (2, 0, [⟨0, 1, 2, 1, 0, 1⟩]) := by rw [hq, abc_len]; exact So.aw1
  have cp := put_fits rn abc (by decide) ea (by rw [hm]; decide)
  have c0 := fun w => cost_any 0 w
  have c8 := fun w => cost_any 8 w
  rw [show cstI 0 = 3 by decide] at c0
  rw [show cstI 8 = 4 by decide] at c8
  clear HA ea rn cn
  go_wp2_with fail
  refine cp.mono ?_
  rintro e w2 ⟨x, rfl, HX⟩
  obtain ⟨hx, x0, pg2, W2, v2, T2, F⟩ := HX.out
  have cl := len_held F.rn hx F.ho
  rw [abc_len] at cl
  have cg := fun w3 (k : K w2 w3) => get_held (F.rn.keep k) hx (by decide) F.ho
  have kk := F.rn.k
  have CG : Aside _ := cg
  clear HX F cp cg
  go_wp2_with fail
  refine cl.mono ?_
  rintro e w3 ⟨rfl, k3⟩
  have cg : Calls Tryz.prog 11 #[sp A.st, .int .u64 x] w3 fun e w' => e = .returned (.tuple #[.string ⟨#[97, 98, 99]⟩, .int .i64 0]) ∧ K w3 w' := CG.out w3 k3
  have k03 := kk.trans k3
  clear CG cl
  go_wp2_with (first | (go_at_call 11; refine cg.mono ?_; rintro e w4 ⟨rfl, k4⟩) | (go_at_call 12; first | (refine (c0 _).mono ?_; rintro e w5 ⟨rfl, rfl⟩) | (refine (c8 _).mono ?_; rintro e w5 ⟨rfl, rfl⟩)))
  go_ret
  exact ⟨rfl, k03.trans k4⟩

end Bb
end Go.Proofs.YtlmfojkhfipdnaaGreatDoor

/-
  Arguments that came in: rows of strings, read cell by cell.
-/
namespace Go.Proofs.YtlmfojkhfipdnaaGreatDoor
open Go.RowKit Go.Maps Go.Deep Go.ChangeShapes Go.WideShapes Go.ChangeAt
namespace Bb
open Hp (Kept K No)

end Bb
end Go.Proofs.YtlmfojkhfipdnaaGreatDoor

/-
  Scripts of loftlaw09: rows of operations that came in.
-/
namespace Go.Proofs.YtlmfojkhfipdnaaGreatDoor
open Go.RowKit Go.Maps Go.Deep Go.ChangeShapes Go.WideShapes Go.ChangeAt
namespace Bb
open Hp (Kept K No In64)

/-- A call of a script. -/
structure Opb where
  d : Int
  n : Int
  k : Int
  s : ByteArray
  x : Int
structure OpbOk (o : Opb) : Prop where
  d : In64 o.d
  n : In64 o.n
  k : In64 o.k
  s : o.s.size ≤ maxLen
  x : 0 ≤ o.x ∧ o.x ≤ 18446744073709551615
structure OpbAt (w : World) (b off : Nat) (o : Opb) : Prop where
  c0 : w.cell? ⟨b, off, none⟩ = some (.int .i64 o.d)
  c1 : w.cell? ⟨b, off + 1, none⟩ = some (.int .i64 o.n)
  c2 : w.cell? ⟨b, off + 2, none⟩ = some (.int .i64 o.k)
  c3 : w.cell? ⟨b, off + 3, none⟩ = some (.string o.s)
  c4 : w.cell? ⟨b, off + 4, none⟩ = some (.int .u64 o.x)
theorem OpbAt.keep {w w' : World} {b off : Nat} {o : Opb} (h : OpbAt w b off o) (k : K w w') : OpbAt w' b off o := ⟨k.cell h.c0, k.cell h.c1, k.cell h.c2, k.cell h.c3, k.cell h.c4⟩
structure Scriptb (w : World) (a : Option Addr) (b off len cap : Nat) (z : Nat → Opb) : Prop where
  ix : ∀ i : Nat, i < len → ∀ w', (Instr.indexAt 22 (.slice a len cap) (.int .i64 (i : Int))).run Tryz.prog w' = .ok (.pointer (some ⟨b, off + i * 5, none⟩)) w'
  cell : ∀ j, j < len → OpbAt w b (off + j * 5) (z j)
  ok : ∀ j, OpbOk (z j)

theorem five_of {α : Type} {l : List α} (h : l.length = 5) : ∃ a b c d e, l = [a, b, c, d, e] := by
  obtain _ | ⟨a, l⟩ := l
  · cases h
  obtain _ | ⟨b, l⟩ := l
  · cases h
  obtain _ | ⟨c, l⟩ := l
  · cases h
  obtain _ | ⟨d, l⟩ := l
  · cases h
  obtain _ | ⟨e, l⟩ := l
  · cases h
  obtain _ | ⟨f, l⟩ := l
  · exact ⟨a, b, c, d, e, rfl⟩
  · simp at h

theorem opb_of {H : Type} {enc : TypeId × Value → H} {W : World} {base : Nat} {sp : Nat → Bool} {held : Bool} {a : Addr} {cs : List Value} {n : Nat} {x : DataW H × List MemPlace} (hc : W.cells? base a 5 = some cs) (h : DataW.trod enc Tryz.prog W base sp held n 43 cs = some x) :
    ∃ (b off : Nat) (o : Opb), a = ⟨b, off, none⟩ ∧ OpbAt W b off o ∧ OpbOk o := by
  obtain ⟨_, hlen, hcell⟩ := World.cells?_some hc
  obtain ⟨xs, k, _, _, _, hxl, hf⟩ := DataW.trod_struct Tryz.underlying43 h
  have ci : Tryz.prog.cellsOf 3 = 1 := by kernel_rfl
  have cs : Tryz.prog.cellsOf 9 = 1 := by kernel_rfl
  have cu : Tryz.prog.cellsOf 41 = 1 := by kernel_rfl
  have hxl : xs.length = 5 := by simpa using hxl
  have g0 := So.field_at hf 0 3 0 rfl ci (by omega)
  have g1 := So.field_at hf 1 3 1 rfl ci (by omega)
  have g2 := So.field_at hf 2 3 2 rfl ci (by omega)
  have g3 := So.field_at hf 3 9 3 rfl cs (by omega)
  have g4 := So.field_at hf 4 41 4 rfl cu (by omega)
  obtain ⟨z0, e0, _, k0⟩ := DataW.trod_int Tryz.underlying3 g0
  obtain ⟨z1, e1, _, k1⟩ := DataW.trod_int Tryz.underlying3 g1
  obtain ⟨z2, e2, _, k2⟩ := DataW.trod_int Tryz.underlying3 g2
  obtain ⟨z3, e3, _, k3⟩ := DataW.trod_string Tryz.underlying9 g3
  obtain ⟨z4, e4, _, k4⟩ := DataW.trod_int Tryz.underlying41 g4
  obtain ⟨v0, v1, v2, v3, v4, rfl⟩ := five_of hlen
  simp at e0 e1 e2 e3 e4
  subst e0 e1 e2 e3 e4
  have r0 := hcell 0 (by omega)
  have r1 := hcell 1 (by omega)
  have r2 := hcell 2 (by omega)
  have r3 := hcell 3 (by omega)
  have r4 := hcell 4 (by omega)
  obtain ⟨b, off, spot⟩ := a
  have hspot : spot = none := by simpa [Addr.add] using World.cell?_spot r0
  subst hspot
  rw [Go.WideShapes.add_plain] at r0 r1 r2 r3 r4
  exact ⟨b, off, ⟨z0, z1, z2, z3, z4⟩, rfl, ⟨by simpa using r0, by simpa using r1, by simpa using r2, by simpa using r3, by simpa using r4⟩, ⟨In64.of_wf k0, In64.of_wf k1, In64.of_wf k2, k3, So.u64_of_wf k4⟩⟩

theorem scriptb_of {H : Type} {enc : TypeId × Value → H} {W : World} {base : Nat} {sp : Nat → Bool} {held : Bool} {fuel : Nat} {a : Option Addr} {len cap : Nat} {x : DataW H × List MemPlace} (h : DataW.trod enc Tryz.prog W base sp held fuel 22 [.slice a len cap] = some x) :
    len ≤ maxLen ∧ ∃ b off z, Scriptb W a b off len cap z := by
  obtain ⟨hm, b, off, z, h1, h2, h3⟩ := So.rows_of Tryz.underlying22 (m := 5) (by kernel_rfl) (OpbAt W) OpbOk ⟨0, 0, 0, ByteArray.empty, 0⟩ ⟨⟨by decide, by decide⟩, ⟨by decide, by decide⟩, ⟨by decide, by decide⟩, by decide, ⟨by decide, by decide⟩⟩ (fun ad cs n y hc ht => opb_of hc ht) h
  refine ⟨hm, b, off, z, fun i hi w' => ?_, h2, h3⟩
  rw [h1 (by omega)]
  exact So.run_ixg Tryz.underlying22 (by kernel_rfl) (fun w => by kernel_rfl) b off len cap i hi w'

end Bb
end Go.Proofs.YtlmfojkhfipdnaaGreatDoor
