/-
  Walks of find, At, Move, Close, Used.
-/
import Derived.Test.YtfokpiapaacagaaDLeaf
namespace Go.Proofs.Ytfokpiapaacagaa
open Go.RowKit Go.Maps
namespace Hd
open Hp (Kept K No)
variable {w w' : World} {B bt : Nat} {q z : Int} {v : Value} {L : List Sl}

theorem run_ixu (g len cap i : Nat) (hi : i < len) (w' : World) : (Instr.indexAt 47 (.slice (some ⟨g, 0, none⟩) len cap) (.int .u64 (i : Int))).run Try.prog w' = .ok (.pointer (some ⟨g, i * 3, none⟩)) w' := by
  have hel : Try.prog.elem 47 = 62 := by kernel_rfl
  have hsz : (sizeOf 62).run Try.prog w' = .ok 3 w' := by kernel_rfl
  have hu : Try.prog.underlying 47 = some (.slice (Try.prog.elem 47)) := by kernel_rfl
  rw [run_indexAt_slice w' 47 _ len cap .u64 i hu, if_pos (by omega), hel, hsz]
  simp only [Result.andThen_ok, Int.toNat_natCast]
  rw [Go.WideShapes.add_plain, Nat.zero_add]

def U64 (h : Int) : Prop := 0 ≤ h ∧ h ≤ 18446744073709551615

theorem kd_open (z : Int) (s : Sl) : (kd z s != 1) = !s.o := by
  obtain ⟨o, g, a⟩ := s
  cases o <;> by_cases hg : g = z <;> simp [kd, hg]

/-- What find tells. -/
def FindPost (w : World) (v : Value) (L : List Sl) (h : Int) (e : Ending) (w' : World) : Prop :=
  ((findL L h = none ∧ e = .returned (.tuple #[.pointer none, .int .i64 7])) ∨ ∃ i g, findL L h = some i ∧ v.ownBlock = some g ∧ e = .returned (.tuple #[.pointer (some ⟨g, i * 3, none⟩), .int .i64 0])) ∧ K w w'

set_option maxHeartbeats 1000000 in
theorem find_any (h : Tab w B bt q z v L) (x : Int) (hx : U64 x) : Calls Try.prog 33 #[tp bt, .int .u64 x] w (FindPost w v L x) := by
  obtain ⟨x0, x1⟩ := hx
  have hm := made_ok h
  obtain ⟨g, a, cap, rfl, hr, hg, hcap⟩ := h.form
  have c2 := h.c2
  have hlen := h.wf.len
  have hq1 := h.wf.q1
  obtain ⟨n, hn⟩ : ∃ n : Int, x % 4294967296 = n := ⟨_, rfl⟩
  obtain ⟨y, hy⟩ : ∃ y : Int, x / 4294967296 = y := ⟨_, rfl⟩
  have hn0 : 0 ≤ n := by omega
  have hn1 : n < 4294967296 := by omega
  have hy0 : 0 ≤ y := by omega
  have hy1 : y < 4294967296 := by omega
  by_cases hlow : n < 1
  · have E : Hid (findL L x = none) := by
      show findL L x = none
      unfold findL
      rw [hn, if_pos hlow]
    clear h hr hg
    go_enter Try.func33, Try.ntmps33
    go_wp2_with (go_at_call 28; refine hm.mono ?_; rintro e w1 ⟨rfl, rfl⟩)
    go_ret2
    exact ⟨.inl ⟨E.out, rfl⟩, K.refl _⟩
  by_cases hhigh : (L.length : Int) < n
  · have E : Hid (findL L x = none) := by
      show findL L x = none
      unfold findL
      rw [hn, if_neg hlow, List.getElem?_eq_none (by omega)]
    clear h hr hg
    go_enter Try.func33, Try.ntmps33
    go_wp2_with (go_at_call 28; refine hm.mono ?_; rintro e w1 ⟨rfl, rfl⟩)
    go_ret2
    exact ⟨.inl ⟨E.out, rfl⟩, K.refl _⟩
  obtain ⟨i, hi⟩ : ∃ i : Nat, (i : Int) + 1 = n := ⟨(n - 1).toNat, by omega⟩
  have hil : i < L.length := by omega
  obtain ⟨s, hs⟩ : ∃ s, L[i]? = some s := ⟨L[i], List.getElem?_eq_getElem hil⟩
  have hsub : n - 1 = (i : Int) := by omega
  have d0 := hr.c0 i s hs
  have d1 := hr.c1 i s hs
  have d2 := hr.c2 i s hs
  have hkd := kindOf_any h s
  rcases hg with ⟨rfl, _, _⟩ | ⟨_, hnil, _⟩
  rotate_left
  · exfalso
    subst hnil
    simp at hil
  have hix := run_ixu g L.length cap i hil
  have EF : Hid (findL L x = if s.o = true ∧ s.g = y then some i else none) := by
    show _ = _
    unfold findL
    rw [hn, if_neg hlow, show (n - 1).toNat = i by omega, hs, hy]
  have hlow1 : 1 ≤ n := by omega
  clear h hr hs hlow hi
  by_cases ho : s.o = true
  · have hd : (kd z s != 1) = false := by rw [kd_open, ho]; rfl
    by_cases hgy : s.g = y
    · have hd2 : (s.g != y) = false := by simp [hgy]
      have E : Hid (findL L x = some i) := by
        show _ = _
        rw [EF.out, if_pos ⟨ho, hgy⟩]
      clear EF hgy ho
      go_enter Try.func33, Try.ntmps33
      go_wp2_with (first
        | (go_at_call 28; refine hm.mono ?_; rintro e w1 ⟨rfl, rfl⟩)
        | (go_at_call 29; refine hkd.mono ?_; rintro e w1 ⟨rfl, hk1⟩; have e1 := hk1.cell d1))
      go_ret2
      exact ⟨.inr ⟨i, g, E.out, rfl, rfl⟩, by assumption⟩
    · have hd2 : (s.g != y) = true := by simp [hgy]
      have E : Hid (findL L x = none) := by
        show _ = _
        rw [EF.out, if_neg (fun hc => hgy hc.2)]
      clear EF hgy ho
      go_enter Try.func33, Try.ntmps33
      go_wp2_with (first
        | (go_at_call 28; refine hm.mono ?_; rintro e w1 ⟨rfl, rfl⟩)
        | (go_at_call 29; refine hkd.mono ?_; rintro e w1 ⟨rfl, hk1⟩; have e1 := hk1.cell d1))
      go_ret2
      exact ⟨.inl ⟨E.out, rfl⟩, by assumption⟩
  · have hd : (kd z s != 1) = true := by rw [kd_open]; simpa using ho
    have E : Hid (findL L x = none) := by
      show _ = _
      rw [EF.out, if_neg (fun hc => ho hc.1)]
    clear EF ho
    go_enter Try.func33, Try.ntmps33
    go_wp2_with (first
      | (go_at_call 28; refine hm.mono ?_; rintro e w1 ⟨rfl, rfl⟩)
      | (go_at_call 29; refine hkd.mono ?_; rintro e w1 ⟨rfl, hk1⟩))
    go_ret2
    exact ⟨.inl ⟨E.out, rfl⟩, by assumption⟩

end Hd
end Go.Proofs.Ytfokpiapaacagaa
