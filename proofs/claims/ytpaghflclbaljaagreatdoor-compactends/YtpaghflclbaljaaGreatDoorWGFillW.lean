/-
  The walk of the statements' helper fill.
-/
import Derived.Test.YtpaghflclbaljaaGreatDoorWGFill
import Derived.Deep.DeepCutAuto
import Derived.Deep.CutBlock
import Derived.WalkSpells
import Derived.Deep.RegionHeld3
namespace Go.Proofs.YtpaghflclbaljaaGreatDoor
open Go.RowKit Go.Maps
attribute [local go_sem ↓] Go.wp_at_zero Go.wp_at_succ
namespace Co
open Hp (Kept K No Pg lt_of_cell)
open Hd (U64 findL encU)
open Go.Proofs.YtpaghflclbaljaaGreatDoor.So (Ad sp Script Opv)
variable {w0 w w' : World} {c : Nat} {A : Ad} {pg : List (Int × Nat)} {W : Int → Int} {v : Value}

abbrev opB (d x a h : Int) : Array Value := #[.int .i64 d, .int .i64 x, .int .i64 a, .int .u64 h]
theorem fillP_hs (A : Ad) (z : Nat → Opv) (L0 : List Pg) (T0 : List Hd.Sl) : ∀ n, (fillP A z L0 T0 n).hs.length ≤ n
  | 0 => Nat.le_refl _
  | n + 1 => by
    have ih := fillP_hs A z L0 T0 n
    show (opP A (z n) (fillP A z L0 T0 n)).hs.length ≤ n + 1
    unfold opP
    split
    · split
      · simp; omega
      · omega
    · split
      · unfold drP
        split
        · omega
        · split
          · omega
          · split
            · omega
            · show (fillP A z L0 T0 n).hs.length ≤ n + 1
              omega
      · omega
theorem drP_hs (s : P3) (x : Int) : (drP s x).hs = s.hs := by
  unfold drP
  split
  · rfl
  · split
    · rfl
    · split <;> rfl

set_option maxRecDepth 100000 in
set_option maxHeartbeats 4000000 in
theorem fill_any {a0 : Option Addr} {b off len cap : Nat} {z : Nat → Opv} {L0 : List Pg} {T0 : List Hd.Sl} {pg0 : List (Int × Nat)} {W00 : Int → Int} {v0 : Value} (h : Cn w0 w A c pg0 W00 L0 v0 T0) (hz0 : 0 < w0.heap.size) (hS : Script w0 a0 b off len cap z) (hlen : len ≤ 60) :
    Calls Tryz.prog 22 #[sp A.st, .slice a0 len cap] w fun e w' => ∃ pg' W' v' u, e = .returned u ∧ Aside (Fl w0 w pg0 v0 w' A c pg' W' (fillP A z L0 T0 len).L v' (fillP A z L0 T0 len).T u (fillP A z L0 T0 len).hs) := by
  have st0 : Fl w0 w pg0 v0 w A c pg0 W00 L0 v0 T0 (.slice none 0 0) [] := ⟨h, ⟨World.ownsRow_nil _ _ _ _, fun b hb => (by cases hb), fun x hx => (by cases hx)⟩, So.Stp.refl _ _ _ _, h.rn.k.size, fun e => (by cases e), hz0⟩
  obtain ⟨ih, hih, hsh, hbh, zh, hzh, hzsh⟩ := Hd.info_handle
  have HH : Aside (Tryz.prog.info? 50 = some ih ∧ ih.size = 1 ∧ ih.bytes = 8 ∧ ih.zero = some zh ∧ zh.cells.size = 1) := ⟨hih, hsh, hbh, hzh, hzsh⟩
  have HS : Aside _ := hS
  clear hS hih hsh hbh hzh hzsh h
  go_enter Tryz.func22, Tryz.ntmps22
  go_wp2
  go_loopg [5, 6] len (fun gh t3 t4 wx => ∃ (i : Nat) (pg : List (Int × Nat)) (W : Int → Int) (v : Value) (n : Nat) (a1 : Option Addr) (c1 : Nat), i + gh = len ∧ t4 = .int .i64 i ∧ t3 = .slice a1 n c1 ∧ Aside ((fillP A z L0 T0 i).hs.length = n) ∧ n ≤ i ∧ Fl w0 w pg0 v0 wx A c pg W (fillP A z L0 T0 i).L v (fillP A z L0 T0 i).T t3 (fillP A z L0 T0 i).hs)
  case atStart => exact ⟨0, pg0, W00, v0, 0, none, 0, by omega, rfl, rfl, rfl, Nat.le_refl _, st0⟩
  case round =>
    obtain ⟨i, pg, W, v, n, a1, c1, hig, rfl, rfl, HN, hni, hst⟩ := hrel
    have HST : Aside _ := hst
    clear st0
    by_cases hlt : i < len
    · have hix := HS.out.ix i hlt
      have hop := (HS.out.cell i hlt).keep hst.cn.rn.k
      have hok := HS.out.ok i
      have HF : Aside (fillP A z L0 T0 (i + 1) = opP A (z i) (fillP A z L0 T0 i)) := rfl
      generalize z i = o at hop hok HF
      obtain ⟨d, x, a, hh⟩ := o
      obtain ⟨e0, e1, e2, e3⟩ := hop
      have x64 : -9223372036854775808 ≤ x := hok.n.1
      have x63 : x ≤ 9223372036854775807 := hok.n.2
      have h64 : Aside (Sl.WordOk hh) := by
        have h0 : 0 ≤ hh := hok.h.1
        have h1 : hh ≤ 18446744073709551615 := hok.h.2
        show Sl.WordOk hh
        unfold Sl.WordOk
        have e1 : IntKind.u64.min = 0 := rfl
        have e2 : IntKind.u64.max = 18446744073709551615 := rfl
        simp only [Lit.wf, Bool.and_eq_true, decide_eq_true_eq]
        omega
      clear hst hok
      generalize hq : fillP A z L0 T0 i = q at *
      obtain ⟨w5, hw5⟩ : ∃ w5, w5 = wr.alloc (.cells (opB d x a hh) 44) := ⟨_, rfl⟩
      have k5 : K wr w5 := by rw [hw5]; exact (K.refl wr).alloc _
      have hnb : w5.heap[wr.heap.size]? = some (.cells (opB d x a hh) 44) := by rw [hw5]; exact World.alloc_heap_new _ _
      have h5 := HST.out.keep k5
      have b0 : w5.cell? ⟨wr.heap.size, 0, none⟩ = some (.int .i64 d) := by simp [World.cell?, hnb]
      have b1 : w5.cell? ⟨wr.heap.size, 1, none⟩ = some (.int .i64 x) := by simp [World.cell?, hnb]
      have b2 : w5.cell? ⟨wr.heap.size, 2, none⟩ = some (.int .i64 a) := by simp [World.cell?, hnb]
      have b3 : w5.cell? ⟨wr.heap.size, 3, none⟩ = some (.int .u64 hh) := by simp [World.cell?, hnb]
      have nbf : ¬ So.foot A pg v wr.heap.size := fun hf => by have := HST.out.cn.rn.s.b.flt hf; omega
      go_upto_block 2 with fail
      rw [← hw5]
      clear hw5 e0 e1 e2 e3 HST hix k5
      by_cases hd1 : d = 1
      · subst hd1
        have mk := h5.make a
        have H5 : Aside _ := h5
        have NB : Aside _ := And.intro hnb nbf
        clear h5 hnb nbf
        go_wp2_with fail
        refine mk.mono ?_
        rintro e w6 (⟨y, pg6, W6, L6, v6, T6, rfl, HM⟩ | ⟨er, pg6, W6, v6, rfl, her, HM⟩)
        · have hrow := HM.out.2.2.hr.row
          have hx6 := HM.out.2.1
          have hn60 : n ≤ 60 := by omega
          rw [HN.out] at hrow
          have hsz6 := HM.out.2.2.st.k.size
          go_wp2_with (
            at_builtin
            refine wpList_append_own_at _ rfl _ _ 38 rfl w.heap.size 50 ih zh 1 8 Tryz.underlying38 HH.out.1 HH.out.2.2.2.1 HH.out.2.1 HH.out.2.2.1 HH.out.2.2.2.2 (by decide) _ n _ rfl (hrow.alloc _) ⟨w6.heap.size, 0, none⟩ 1 1 [encU y] rfl rfl (Hd.src_one w6 #[.int .u64 y] 50) (Hd.one_u _) (by unfold maxLen; omega) (by omega) (by simp; omega) ?_
            intro v4 w7 hown hgrow _ hat
            have h7 := HM.out.2.2.app hx6 (by rw [HN.out]; exact hown) hgrow hat
            obtain ⟨a4, c4, hv4⟩ := Hd.own_form hown
            subst hv4
            clear hown hgrow hat)
          have eF : fillP A z L0 T0 (i + 1) = ⟨L6, T6, q.hs ++ [y]⟩ := by rw [HF.out]; unfold opP; rw [if_pos rfl, HM.out.1]
          go_roundg (len - (i + 1))
          case measure => omega
          case rel => exact ⟨i + 1, pg6, W6, v6, n + 1, _, _, by omega, by go_num, rfl, by rw [eF]; show (q.hs ++ [y]).length = n + 1; rw [List.length_append, HN.out]; rfl, by omega, by rw [eF]; exact h7⟩
        · have h6 := HM.out.2
          have eF : fillP A z L0 T0 (i + 1) = q := by rw [HF.out]; unfold opP; rw [if_pos rfl, HM.out.1]
          have H6 : Aside _ := And.intro h6 eF
          clear h6 eF
          go_wp2
          go_roundg (len - (i + 1))
          case measure => omega
          case rel => exact ⟨i + 1, pg6, W6, v6, n, _, _, by omega, by go_num, rfl, by rw [H6.out.2]; exact HN.out, by omega, by rw [H6.out.2]; exact H6.out.1⟩
      · by_cases hd2 : d = 2
        · subst hd2
          have hn60 : n ≤ 1000 := by omega
          have hrow := h5.hr.row
          rw [HN.out] at hrow
          have nt := nth_any hrow HN.out hn60 x x64 x63
          have hu := nthH_u64 h5.hr.u x
          have dr := h5.drop (nthH q.hs x) hu
          have eF : fillP A z L0 T0 (i + 1) = drP q (nthH q.hs x) := by rw [HF.out]; unfold opP; rw [if_neg hd1, if_pos rfl]
          have EF : Aside _ := eF
          clear h5 eF hrow hnb nbf
          go_wp2_with fail
          refine nt.mono ?_
          rintro e w6 ⟨rfl, rfl⟩
          clear nt
          go_wp2_with fail
          refine dr.mono ?_
          rintro e w7 ⟨er, pg7, W7, rfl, H7⟩
          clear dr
          go_wp2
          go_roundg (len - (i + 1))
          case measure => omega
          case rel =>
            have eh : (drP q (nthH q.hs x)).hs = q.hs := drP_hs _ _
            exact ⟨i + 1, pg7, W7, v, n, _, _, by omega, by go_num, rfl, by rw [EF.out, eh]; exact HN.out, by omega, by rw [EF.out, eh]; exact H7.out⟩
        · have eF : fillP A z L0 T0 (i + 1) = q := by rw [HF.out]; unfold opP; rw [if_neg hd1, if_neg hd2]
          have EF : Aside _ := eF
          by_cases hd3 : d = 3
          · subst hd3
            have hn60 : n ≤ 1000 := by omega
            have kd : K w5 w5.drew := K.drew (K.refl w5)
            have h5d := h5.keep kd
            have hrow := h5d.hr.row
            rw [HN.out] at hrow
            have nt := nth_any hrow HN.out hn60 x x64 x63
            have hu := nthH_u64 h5.hr.u x
            have pu : Calls Tryz.prog 30 #[sp A.st, .int .u64 (nthH q.hs x), .int .i64 a, .int .u64 hh] w5.drew fun e w' => ∃ er W', e = .returned (.int .i64 er) ∧ Aside (Fl w0 w pg0 v0 w' A c pg W' q.L v q.T (.slice a1 n c1) q.hs) ∧ w'.cell? ⟨wr.heap.size, 1, none⟩ = some (.int .i64 x) ∧ w'.cell? ⟨wr.heap.size, 2, none⟩ = some (.int .i64 a) ∧ w'.cell? ⟨wr.heap.size, 3, none⟩ = some (.int .u64 hh) := by
              refine (h5d.put (nthH q.hs x) a hh hu h64.out).mono ?_
              rintro e w7 ⟨er, W7, rfl, H7, hkeep⟩
              have := hkeep _ _ (kd.block hnb) nbf
              exact ⟨er, W7, rfl, H7, by simp [World.cell?, this], by simp [World.cell?, this], by simp [World.cell?, this]⟩
            clear h5 h5d eF hrow hnb nbf kd
            go_wp2
            go_region_held3 (fun w' => w'.cell? ⟨wr.heap.size, 1, none⟩ = some (.int .i64 x) ∧ w'.cell? ⟨wr.heap.size, 2, none⟩ = some (.int .i64 a) ∧ w'.cell? ⟨wr.heap.size, 3, none⟩ = some (.int .u64 hh))
              (first | exact ⟨b1, b2, b3⟩ | exact ⟨y1, y2, y3⟩)
              (first | (go_at_call 28; refine nt.mono ?_; rintro e w6 ⟨rfl, rfl⟩) | (go_at_call 30; refine pu.mono ?_; rintro e w7 ⟨er, W7, rfl, H7, y1, y2, y3⟩))
            all_goals
              go_wp2
              go_roundg (len - (i + 1))
              case measure => omega
              case rel => exact ⟨i + 1, pg, W7, v, n, _, _, by omega, by go_num, rfl, by rw [EF.out]; exact HN.out, by omega, by rw [EF.out]; exact H7.out⟩
          · have H5 : Aside _ := h5
            clear h5 eF hnb nbf
            go_wp2
            go_roundg (len - (i + 1))
            case measure => omega
            case rel => exact ⟨i + 1, pg, W, v, n, _, _, by omega, by go_num, rfl, by rw [EF.out]; exact HN.out, by omega, by rw [EF.out]; exact H5.out⟩
    · obtain rfl : i = len := by omega
      clear HST
      go_wp2
      go_ret
      exact ⟨pg, W, v, _, rfl, hst⟩

end Co
end Go.Proofs.YtpaghflclbaljaaGreatDoor
