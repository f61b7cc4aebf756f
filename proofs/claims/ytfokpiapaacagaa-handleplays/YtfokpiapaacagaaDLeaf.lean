/-
  Walks of package handle's inner functions: leastFree, find, name, New.
-/
import Derived.Test.YtfokpiapaacagaaDWorld
namespace Go.Proofs.Ytfokpiapaacagaa
open Go.RowKit Go.Maps
namespace Hd
open Hp (Kept K No)
variable {w w' : World} {B bt : Nat} {q z : Int} {v : Value} {L : List Sl}

theorem kd_free (z : Int) (s : Sl) : (kd z s == 0) = fr z s := by
  obtain ⟨o, g, a⟩ := s
  cases o <;> by_cases hg : g = z <;> simp [kd, fr, hg]

def lfN (z : Int) (L : List Sl) : Int := match freeAt z L with | some i => i + 1 | none => L.length + 1
def lfB (q z : Int) (L : List Sl) : Bool := match freeAt z L with | some _ => true | none => decide ((L.length : Int) < q)

set_option maxHeartbeats 1000000 in
theorem leastFree_any (h : Tab w B bt q z v L) : Calls Try.prog 32 #[tp bt] w fun e w' => e = .returned (.tuple #[.int .i64 (lfN z L), .bool (lfB q z L)]) ∧ K w w' := by
  obtain ⟨g, a, cap, rfl, hr, hg, hcap⟩ := h.form
  have c2 := h.c2
  have hlen := h.wf.len
  have hq1 := h.wf.q1
  have HT : Aside _ := h
  have HR : Aside _ := hr
  have HG : Aside _ := hg
  clear h hr hg
  go_enter Try.func32, Try.ntmps32
  go_wp2
  go_loopg [11] L.length (fun gh t wx => ∃ i : Nat, i + gh = L.length ∧ t = .int .i64 i ∧ Aside (∀ j s, j < i → L[j]? = some s → fr z s = false) ∧ K w wx)
  case atStart => exact ⟨0, by omega, rfl, fun j s hj => by omega, K.refl _⟩
  case round =>
    obtain ⟨i, hig, rfl, HI, hk⟩ := hrel
    by_cases hlt : i < L.length
    · obtain ⟨s, hs⟩ : ∃ s, L[i]? = some s := ⟨L[i], List.getElem?_eq_getElem hlt⟩
      have hix := HR.out.ix i hlt
      have hrx := HR.out.keep hk
      have d0 := hrx.c0 i s hs
      have d1 := hrx.c1 i s hs
      have d2 := hrx.c2 i s hs
      have hk2 := hk.alloc (.cells #[.bool s.o, .int .u32 s.g, .int .i64 s.a] 62)
      have hkd := kindOf_any (HT.out.keep hk2) s
      have HS : Aside _ := hs
      clear hs hrx
      go_wp2_with fail
      refine hkd.mono ?_
      rintro e w2 ⟨rfl, hk3⟩
      have hk4 := hk2.trans hk3
      by_cases hf : fr z s = true
      · have hd : (kd z s == 0) = true := by rw [kd_free]; exact hf
        have E1 : Hid (lfN z L = i + 1 ∧ lfB q z L = true) := by
          have := freeAt_of HS.out hf HI.out
          simp [lfN, lfB, this, Hid]
        clear hkd
        go_wp2
        go_ret2
        exact ⟨by rw [E1.out.1, E1.out.2]; rfl, hk4⟩
      · have hd : (kd z s == 0) = false := by rw [kd_free]; simpa using hf
        have HF : Aside _ := hf
        clear hkd hf
        go_wp2
        go_roundg (L.length - (i + 1))
        case measure => omega
        case rel =>
          refine ⟨i + 1, by omega, by go_num, fun j t hj ht => ?_, hk4⟩
          by_cases e : j = i
          · subst e
            have : s = t := Option.some.inj (HS.out.symm.trans ht)
            subst this
            simpa using HF.out
          · exact HI.out j t (by omega) ht
    · have c0 := (HT.out.keep hk).c0
      have c2 := (HT.out.keep hk).c2
      have hnone : freeAt z L = none := freeAt_none.2 fun s hs => by
        obtain ⟨j, hj⟩ := List.getElem?_of_mem hs
        exact HI.out j s (by have := (List.getElem?_eq_some_iff.1 hj).1; omega) hj
      have E1 : Hid (lfN z L = L.length + 1 ∧ lfB q z L = decide ((L.length : Int) < q)) := by simp [lfN, lfB, hnone, Hid]
      clear hnone HI
      go_wp2
      go_quiet (fail)
      go_wp2
      go_ret2
      exact ⟨by rw [E1.out.1, E1.out.2]; rfl, hk.drewN _⟩

theorem name_any (n g : Int) (n0 : 0 ≤ n) (n1 : n ≤ 65536) (g0 : 0 ≤ g) (g1 : g ≤ 4294967295) : Calls Try.prog 30 #[.int .i64 n, .int .u32 g] w fun e w' => e = .returned (.int .u64 (nm n g)) ∧ w = w' := by
  have E : Hid (nm n g = g * 4294967296 + n) := rfl
  go_enter Try.func30, Try.ntmps30
  go_wp2
  go_ret
  exact ⟨by rw [E.out]; rfl, rfl⟩

theorem new_ok (q z : Int) (w : World) (q0 : 1 ≤ q) (q1 : q ≤ 65536) (z0 : 1 ≤ z) (z1 : z ≤ 4294967295) : Calls Try.prog 10 #[.int .i64 q, .int .u32 z] w fun e w' => e = .returned (.tuple #[tp w.heap.size, .int .i64 0]) ∧ Tab w' w.heap.size w.heap.size q z (.slice none 0 0) [] ∧ K w w' := by
  have T : Hid (Tab (w.alloc (.cells #[.int .i64 q, .int .u32 z, .slice none 0 0] 49)) w.heap.size w.heap.size q z (.slice none 0 0) []) := ⟨(MapKept.heap_alloc w _).1, World.ownsRow_nil _ _ _ _, (fun h => nomatch h), Wf.nil q0 q1 z0 z1, Nat.le_refl _⟩
  go_enter Try.func10, Try.ntmps10
  go_wp2
  go_ret2
  exact ⟨rfl, T.out, (K.refl _).alloc _⟩

def badNew (q z : Int) : Prop := q < 1 ∨ 65536 < q ∨ z < 1
theorem new_no (q z : Int) (w : World) (h : badNew q z) : Calls Try.prog 10 #[.int .i64 q, .int .u32 z] w fun e w' => e = .returned (.tuple #[.pointer none, .int .i64 2]) ∧ w = w' := by
  by_cases h1 : q < 1
  · clear h
    go_enter Try.func10, Try.ntmps10
    go_wp2
    go_ret2
    exact ⟨rfl, rfl⟩
  by_cases h2 : 65536 < q
  · clear h
    go_enter Try.func10, Try.ntmps10
    go_wp2
    go_ret2
    exact ⟨rfl, rfl⟩
  have h3 : z < 1 := by unfold badNew at h; omega
  clear h
  go_enter Try.func10, Try.ntmps10
  go_wp2
  go_ret2
  exact ⟨rfl, rfl⟩

end Hd
end Go.Proofs.Ytfokpiapaacagaa
