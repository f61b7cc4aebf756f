/-
  The walk of the statements' helper words: a record's length, the answer of Len, and its words, in a row of its own.
-/
import Derived.Test.YtgcnjafoabnhgaaGreatDoorG7
import Derived.WalkSpells
namespace Go.Proofs.YtgcnjafoabnhgaaGreatDoor
open Go.RowKit Go.Maps
attribute [local go_sem ↓] Go.wp_at_zero Go.wp_at_succ
namespace Co
open Hp (Kept K No Pg Wl)
open Hd (U64 findL encU)
open Go.Proofs.YtgcnjafoabnhgaaGreatDoor.So (Ad sp Sw Sb lN lE gV wE len_any get_any)
variable {w0 w w' : World} {B : Nat} {A : Ad} {pg : List (Int × Nat)} {W : Int → Int} {L : List Pg} {v : Value} {T : List Hd.Sl}

theorem info_u64 : ∃ i0, Tryz.prog.info? 40 = some i0 ∧ i0.size = 1 ∧ i0.bytes = 8 ∧ ∃ z, i0.zero = some z ∧ z.cells.size = 1 := by
  have hi : (Tryz.prog.info? 40).map (fun i => (i.zero.map (fun z => z.cells.size), i.size, i.bytes)) = some (some 1, 1, 8) := by kernel_rfl
  obtain ⟨i0, h1, h2⟩ := Option.map_eq_some_iff.1 hi
  simp only [Prod.mk.injEq] at h2
  obtain ⟨h3, h4, h5⟩ := h2
  obtain ⟨z, h6, h7⟩ := Option.map_eq_some_iff.1 h3
  exact ⟨i0, h1, h4, h5, z, h6, h7⟩

def wdK (T : List Hd.Sl) (W : Int → Int) (x : Int) (k : Nat) : List Int := [lN T W x, lE T x] ++ (List.range k).map (fun i => gV T W x (i : Nat))
def wds (T : List Hd.Sl) (W : Int → Int) (x : Int) : List Int := wdK T W x (lN T W x).toNat
theorem wdK_succ (T : List Hd.Sl) (W : Int → Int) (x : Int) (k : Nat) : wdK T W x (k + 1) = wdK T W x k ++ [gV T W x (k : Nat)] := by
  unfold wdK
  rw [List.range_succ, List.map_append, List.append_assoc]
  rfl
theorem wdK_len (T : List Hd.Sl) (W : Int → Int) (x : Int) (k : Nat) : (wdK T W x k).length = k + 2 := by
  simp [wdK]

theorem lN_rng (h : Sw w B A pg W L v T) (x : Int) : 0 ≤ lN T W x ∧ lN T W x ≤ 3998 := by
  cases hf : findL T x with
  | none => simp [lN, hf]
  | some i =>
    obtain ⟨s, hs, _, _, n0, n1, _⟩ := h.live hf
    have ea : Hd.addrAt T i = s.a := by simp [Hd.addrAt, hs]
    simp only [lN, hf, ea]
    exact ⟨n0, n1⟩
theorem lE_rng (T : List Hd.Sl) (x : Int) : 0 ≤ lE T x ∧ lE T x ≤ 7 := by
  unfold lE
  split <;> decide

set_option maxRecDepth 100000 in
set_option maxHeartbeats 2000000 in
theorem words_any (h : Sw w B A pg W L v T) (x : Int) (hx : U64 x) : Calls Tryz.prog 11 #[sp A.st, .int .u64 x] w fun e w' => ∃ u, e = .returned u ∧ Aside (w'.ownsRow w.heap.size 40 1 u (wds T W x).length ((wds T W x).map encU)) ∧ K w w' := by
  have ln := len_any h x hx
  obtain ⟨n0, n1⟩ := lN_rng h x
  obtain ⟨e0, e1⟩ := lE_rng T x
  obtain ⟨ih, hih, hsh, hbh, zh, hzh, hzsh⟩ := info_u64
  have HH : Aside (Tryz.prog.info? 40 = some ih ∧ ih.size = 1 ∧ ih.bytes = 8 ∧ ih.zero = some zh ∧ zh.cells.size = 1) := ⟨hih, hsh, hbh, hzh, hzsh⟩
  have H : Aside _ := h
  clear hih hsh hbh hzh hzsh h
  have HD : Aside (∀ k, wdK T W x (k + 1) = wdK T W x k ++ [gV T W x (k : Nat)]) := wdK_succ T W x
  have H0 : Aside (wdK T W x 0 = [lN T W x, lE T x]) := rfl
  have HE : Aside (wds T W x = wdK T W x (lN T W x).toNat) := rfl
  have HL : Aside (∀ k, (wdK T W x k).length = k + 2) := wdK_len T W x
  generalize lN T W x = n at *
  generalize lE T x = er at *
  obtain ⟨nn, rfl⟩ : ∃ nn : Nat, n = (nn : Int) := ⟨n.toNat, by omega⟩
  go_enter Tryz.func11, Tryz.ntmps11
  go_wp2_with fail
  refine ln.mono ?_
  rintro e w1 ⟨rfl, k1⟩
  clear ln
  have K1 : Aside _ := k1
  clear k1
  have st0 : Aside ((w1.alloc (.cells #[.int .u64 (nn : Int), .int .u64 er] 40)).ownsRow w.heap.size 40 1 (.slice (some ⟨w1.heap.size, 0, none⟩) 2 2) 2 ((wdK T W x 0).map encU)) := by
    rw [H0.out]
    refine ⟨rfl, .inr ⟨w1.heap.size, 2, #[.int .u64 (nn : Int), .int .u64 er], rfl, K1.out.size, World.alloc_heap_new _ _, Nat.le_refl _, by decide, rfl, rfl⟩⟩
  have k2 : Aside (K w (w1.alloc (.cells #[.int .u64 (nn : Int), .int .u64 er] 40))) := K1.out.alloc _
  clear K1
  go_wp2
  go_loopg [7, 8] nn (fun gh t7 t8 wx => ∃ (i n : Nat) (a1 : Option Addr) (c1 : Nat), i + gh = nn ∧ t8 = .int .i64 i ∧ t7 = .slice a1 n c1 ∧ Aside (n = i + 2) ∧ Aside (wx.ownsRow w.heap.size 40 1 (.slice a1 n c1) n ((wdK T W x i).map encU)) ∧ Aside (K w wx))
  case atStart => exact ⟨0, 2, _, _, by omega, rfl, rfl, rfl, st0, k2⟩
  case round =>
    obtain ⟨i, n, a1, c1, hig, rfl, rfl, HN, HR, HK⟩ := hrel
    clear st0 k2
    by_cases hlt : i < nn
    · have ge := get_any (H.out.keep HK.out) x (i : Int) hx
      have HDi : Aside _ := HD.out i
      generalize gV T W x (i : Int) = y at ge HDi
      generalize wE T W x (i : Int) = e9 at ge
      go_wp2_with fail
      refine ge.mono ?_
      rintro e w3 ⟨rfl, k3⟩
      clear ge
      have hrow : w3.ownsRow w.heap.size 40 1 (.slice a1 n c1) n ((wdK T W x i).map encU) := Hd.ownsRow_kept HR.out k3 (fun _ _ z => z)
      have K3 : Aside _ := HK.out.trans k3
      have hn5 : n ≤ 5000 := by have := HN.out; omega
      have hsz : w.heap.size ≤ w3.heap.size := K3.out.size
      clear k3 HR HK
      go_wp2_with (
        at_builtin
        refine wpList_append_own_at _ rfl _ _ 52 rfl w.heap.size 40 ih zh 1 8 Tryz.underlying52 HH.out.1 HH.out.2.2.2.1 HH.out.2.1 HH.out.2.2.1 HH.out.2.2.2.2 (by decide) _ n _ rfl (hrow.alloc _) ⟨w3.heap.size, 0, none⟩ 1 1 [encU y] rfl rfl (Hd.src_one w3 #[.int .u64 y] 40) (Hd.one_u _) (by unfold maxLen; omega) (by omega) (by simp; omega) ?_
        intro v4 w7 hown hgrow _ hat
        have k7 : Aside (K w w7) := Hd.K.thenGrown K3.out hgrow (fun g hg => (Hd.own_lt hrow hg).1)
        obtain ⟨a4, c4, hv4⟩ := Hd.own_form hown
        subst hv4
        have r7 : Aside _ := hown
        clear hown hgrow hat hrow)
      go_roundg (nn - (i + 1))
      case measure => omega
      case rel => exact ⟨i + 1, n + 1, _, _, by omega, by go_num, rfl, (by show n + 1 = i + 1 + 2; have := HN.out; omega), (by rw [HDi.out, List.map_append]; exact r7), k7⟩
    · obtain rfl : i = nn := by omega
      go_wp2
      go_ret
      refine ⟨_, rfl, ?_, HK.out⟩
      show World.ownsRow _ _ _ _ _ _ _
      rw [HE.out, Int.toNat_natCast, HL.out, ← HN.out]
      exact HR.out

end Co
end Go.Proofs.YtgcnjafoabnhgaaGreatDoor
