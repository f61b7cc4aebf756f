/-
  Walks of the reference's functions that only read: At, Free, Read, Numbers, Same, New.
-/
import Derived.Test.YtclbaepgodeoiaaRefWorld
namespace Go.Proofs.Ytclbaepgodeoiaa
open Go.RowKit Go.Maps
namespace Sl
variable {w : World} {g : Nat} {a : Option Addr} {cap : Nat} {K : List Int} {W : Int → Int}

theorem get_lt {i : Nat} (h : i < K.length) : ∃ N, K[i]? = some N := ⟨K[i], List.getElem?_eq_getElem h⟩

theorem mem_take_succ {i : Nat} {N x : Int} (h : K[i]? = some N) : x ∈ K.take (i + 1) ↔ x ∈ K.take i ∨ x = N := by
  have hi := (List.getElem?_eq_some_iff.1 h).1
  have he := (List.getElem?_eq_some_iff.1 h).2
  rw [List.take_succ_eq_append_getElem hi, List.mem_append, he]
  simp

set_option maxHeartbeats 1000000 in
theorem rAt_any (h : RowAt w g a cap K W) (q n : Int) (hl : K.length ≤ 4096) :
    Calls Try.prog 17 #[.agg #[.int .i64 q, .slice a K.length cap], .int .i64 n] w fun e w' => ((∃ i : Nat, e = .returned (.int .i64 i) ∧ K[i]? = some n) ∨ (e = .returned (.int .i64 (-1)) ∧ n ∉ K)) ∧ w.alloc (.cells #[.int .i64 q, .slice a K.length cap] 30) = w' := by
  have hb : Below w.heap.size w (w.alloc (.cells #[.int .i64 q, .slice a K.length cap] 30)) := (Below.refl _ _).alloc (Nat.le_refl _) _
  have h2 := h.stays hb h.lt
  have H2 : Aside _ := h2
  clear h2 hb
  go_enter Try.func17, Try.ntmps17
  go_wp2
  go_loopg [4, 5] K.length (fun gh _ t wx => ∃ i : Nat, i + gh = K.length ∧ t = .int .i64 i ∧ Aside (n ∉ K.take i) ∧ w.alloc (.cells #[.int .i64 q, .slice a K.length cap] 30) = wx)
  case atStart => exact ⟨0, by omega, rfl, by simp [Aside], rfl⟩
  case round =>
    obtain ⟨i, hig, rfl, HI, rfl⟩ := hrel
    by_cases hlt : i < K.length
    · obtain ⟨N, hN⟩ := get_lt hlt
      have hix := H2.out.ix i hlt
      have hc := H2.out.num i N hN
      by_cases hn : N = n
      · have hd : (N == n) = true := by simp [hn]
        go_wp2
        go_ret
        exact ⟨Or.inl ⟨i, rfl, by rw [hN, hn]⟩, rfl⟩
      · have hd : (N == n) = false := by simpa using hn
        have HN : Aside _ := hN
        have Hn : Aside _ := hn
        clear hn hN
        go_wp2
        go_roundg (K.length - (i + 1))
        case measure => omega
        case rel =>
          refine ⟨i + 1, by omega, by go_num, fun hm => ?_, rfl⟩
          rcases (mem_take_succ HN.out).1 hm with h1 | h1
          · exact HI.out h1
          · exact Hn.out h1.symm
    · go_wp2
      go_ret
      refine ⟨Or.inr ⟨rfl, fun hm => HI.out ?_⟩, rfl⟩
      rw [List.take_of_length_le (by omega)]
      exact hm

/-- No page of K lies in the run. -/
def freeK (K : List Int) (f n : Int) : Prop := ∀ N ∈ K, ¬ (f ≤ N ∧ N < f + n)

set_option maxHeartbeats 1000000 in
theorem rFree_any (h : RowAt w g a cap K W) (q f n : Int) (hl : K.length ≤ 4096) (hf0 : 0 ≤ f) (hf1 : f ≤ 67108864) (hn0 : 1 ≤ n) (hn1 : n ≤ 4096) :
    Calls Try.prog 45 #[.agg #[.int .i64 q, .slice a K.length cap], .int .i64 f, .int .i64 n] w fun e w' => ((e = .returned (.bool true) ∧ freeK K f n) ∨ (e = .returned (.bool false) ∧ ¬ freeK K f n)) ∧ w.alloc (.cells #[.int .i64 q, .slice a K.length cap] 30) = w' := by
  have hb : Below w.heap.size w (w.alloc (.cells #[.int .i64 q, .slice a K.length cap] 30)) := (Below.refl _ _).alloc (Nat.le_refl _) _
  have H2 : Aside _ := h.stays hb h.lt
  clear hb
  go_enter Try.func45, Try.ntmps45
  go_wp2
  go_loopg [6, 7] K.length (fun gh _ t wx => ∃ i : Nat, i + gh = K.length ∧ t = .int .i64 i ∧ Aside (freeK (K.take i) f n) ∧ w.alloc (.cells #[.int .i64 q, .slice a K.length cap] 30) = wx)
  case atStart => exact ⟨0, by omega, rfl, fun N hN => by simp at hN, rfl⟩
  case round =>
    obtain ⟨i, hig, rfl, HI, rfl⟩ := hrel
    by_cases hlt : i < K.length
    · obtain ⟨N, hN⟩ := get_lt hlt
      have hix := H2.out.ix i hlt
      have hc := H2.out.num i N hN
      have HN : Aside _ := hN
      clear hN
      by_cases hn1 : f ≤ N
      · by_cases hn2 : N < f + n
        · go_wp2
          go_ret
          exact ⟨Or.inr ⟨rfl, fun hfr => hfr N (List.mem_of_getElem? HN.out) ⟨hn1, hn2⟩⟩, rfl⟩
        · go_wp2
          go_roundg (K.length - (i + 1))
          case measure => omega
          case rel =>
            refine ⟨i + 1, by omega, by go_num, fun M hM => ?_, rfl⟩
            rcases (mem_take_succ HN.out).1 hM with h1 | h1
            · exact HI.out M h1
            · subst h1; exact fun h3 => by omega
      · go_wp2
        go_roundg (K.length - (i + 1))
        case measure => omega
        case rel =>
          refine ⟨i + 1, by omega, by go_num, fun M hM => ?_, rfl⟩
          rcases (mem_take_succ HN.out).1 hM with h1 | h1
          · exact HI.out M h1
          · subst h1; exact fun h3 => by omega
    · go_wp2
      go_ret
      refine ⟨Or.inl ⟨rfl, ?_⟩, rfl⟩
      have := HI.out
      rw [List.take_of_length_le (by omega)] at this
      exact this

/-- What the reference reads. -/
def rdE (K : List Int) (x : Int) : Int := if isSpanB x 1 = true then (if x / 64 ∈ K then 0 else 5) else 2
def rdV (K : List Int) (W : Int → Int) (x : Int) : Int := if rdE K x = 0 then W x else 0

set_option maxHeartbeats 1000000 in
theorem rRead_any (h : RowAt w g a cap K W) (q x : Int) (hl : K.length ≤ 4096) :
    Calls Try.prog 28 #[.agg #[.int .i64 q, .slice a K.length cap], .int .i64 x] w fun e w' => e = .returned (.tuple #[.int .u64 (rdV K W x), .int .i64 (rdE K x)]) ∧ Below w.heap.size w w' := by
  have hb : Below w.heap.size w (w.alloc (.cells #[.int .i64 q, .slice a K.length cap] 30)) := (Below.refl _ _).alloc (Nat.le_refl _) _
  have h2 := h.stays hb h.lt
  by_cases hx0 : x < 0
  · have HE : Hid (rdE K x = 2) := by
      have : isSpanB x 1 = false := by simp [isSpanB]; omega
      simp [rdE, this, Hid]
    have HV : Hid (rdV K W x = 0) := by simp [rdV, HE.out, Hid]
    go_enter Try.func28, Try.ntmps28
    go_wp2
    go_ret2
    exact ⟨by rw [HE.out, HV.out]; rfl, hb⟩
  by_cases hx1 : 67108864 ≤ x
  · have HE : Hid (rdE K x = 2) := by
      have : isSpanB x 1 = false := by simp [isSpanB]; omega
      simp [rdE, this, Hid]
    have HV : Hid (rdV K W x = 0) := by simp [rdV, HE.out, Hid]
    go_enter Try.func28, Try.ntmps28
    go_wp2
    go_ret2
    exact ⟨by rw [HE.out, HV.out]; rfl, hb⟩
  have hsp : isSpanB x 1 = true := by simp [isSpanB]; omega
  have hat := rAt_any h2 q (x / 64) hl
  have HS : Aside _ := hsp
  have hb2 : Below (w.alloc (.cells #[.int .i64 q, .slice a K.length cap] 30)).heap.size (w.alloc (.cells #[.int .i64 q, .slice a K.length cap] 30)) ((w.alloc (.cells #[.int .i64 q, .slice a K.length cap] 30)).alloc (.cells #[.int .i64 q, .slice a K.length cap] 30)) := (Below.refl _ _).alloc (Nat.le_refl _) _
  clear hsp
  go_enter Try.func28, Try.ntmps28
  go_wp2_with fail
  refine hat.mono ?_
  rintro e w2 ⟨(⟨i, rfl, hi⟩ | ⟨rfl, hno⟩), rfl⟩
  · have h3 := h2.stays hb2 h2.lt
    have hlt : i < K.length := (List.getElem?_eq_some_iff.1 hi).1
    have hix := h3.ix i hlt
    have hc := h3.word i _ (x % 64).toNat hi (by omega)
    rw [show 64 * (x / 64) + ((x % 64).toNat : Int) = x from by omega] at hc
    have HE : Hid (rdE K x = 0) := by
      have hm : x / 64 ∈ K := List.mem_of_getElem? hi
      simp [rdE, HS.out, hm, Hid]
    have HV : Hid (rdV K W x = W x) := by simp [rdV, HE.out, Hid]
    clear hi h3
    go_wp2
    go_ret2
    exact ⟨by rw [HE.out, HV.out]; rfl, hb.trans (hb2.mono (by simp))⟩
  · have HE : Hid (rdE K x = 5) := by simp [rdE, HS.out, hno, Hid]
    have HV : Hid (rdV K W x = 0) := by simp [rdV, HE.out, Hid]
    clear hno
    go_wp2
    go_ret2
    exact ⟨by rw [HE.out, HV.out]; rfl, hb.trans (hb2.mono (by simp))⟩

end Sl
end Go.Proofs.Ytclbaepgodeoiaa
