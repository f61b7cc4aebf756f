/-
  The walk of package store's All.
-/
import Derived.Test.YtckofhbfdfmnoaaGreatDoorWMakeN
namespace Go.Proofs.YtckofhbfdfmnoaaGreatDoor
open Go.RowKit Go.Maps
attribute [local go_sem ↓] Go.wp_at_zero Go.wp_at_succ
namespace So
open Hp (Kept K No Pg BlR Bl Wl liveL)
variable {w w' : World} {B : Nat} {A : Ad} {pg : List (Int × Nat)} {W : Int → Int} {L : List Pg} {v : Value} {T : List Hd.Sl}

set_option maxRecDepth 100000 in
set_option maxHeartbeats 1000000 in
theorem all_any (h : Sb w B A pg W L v T) : Calls Tryz.prog 23 #[sp A.st] w fun e w' => ∃ u, e = .returned u ∧ w'.ownsRow w.heap.size 48 1 u (liveL L).length ((liveL L).map fun a => Hd.encU (W a)) ∧ K w w' := by
  have hm := made_ok h
  have lv := Hp.live_any h.hp h.live_le
  have c1 := h.c1
  have hll := h.live_le
  have HH : Aside _ := h
  obtain ⟨ih, hih, hsh, hbh, zh, hzh, hzsh⟩ := Hd.info_handle
  have HI : Aside (Tryz.prog.info? 48 = some ih ∧ ih.size = 1 ∧ ih.bytes = 8 ∧ ih.zero = some zh ∧ zh.cells.size = 1) := ⟨hih, hsh, hbh, hzh, hzsh⟩
  clear h hih hsh hbh hzh hzsh
  go_enter Tryz.func23, Tryz.ntmps23
  go_wp2_with (go_at_call 43; refine hm.mono ?_; rintro e w1 ⟨rfl, rfl⟩)
  refine lv.mono ?_
  rintro e w1 ⟨v1, rfl, hown, k1⟩
  obtain ⟨g, a, cap, rfl, hga, hcell⟩ := row1 hown
  have HC : Aside _ := hcell
  clear hm lv c1 hown hcell
  generalize hn : (liveL L).length = n at *
  have HN : Aside _ := hn
  clear hn
  go_wp2
  go_loopg [15, 3] n (fun gh t t3 wx => ∃ i : Nat, i + gh = n ∧ t = .int .i64 i ∧ wx.ownsRow w1.heap.size 48 1 t3 i (((liveL L).take i).map fun a => Hd.encU (W a)) ∧ K w1 wx)
  case atStart => exact ⟨0, by omega, rfl, by simpa using World.ownsRow_nil _ _ _ _, K.refl _⟩
  case round =>
    obtain ⟨i, hig, rfl, hown, hk⟩ := hrel
    by_cases hlt : i < n
    · obtain ⟨b, hb⟩ : ∃ b, (liveL L)[i]? = some b := ⟨_, List.getElem?_eq_getElem (by rw [HN.out]; exact hlt)⟩
      obtain ⟨r, hbr⟩ := Hp.Bl.room (Hp.mem_liveL.1 (List.mem_of_getElem? hb))
      obtain rfl := hga (by omega)
      have dcell : wr.cell? ⟨g, i, none⟩ = some (.int .i64 b) := hk.cell (HC.out i _ (by rw [List.getElem?_map, hb]; rfl))
      have na := nameAt_any (HH.out.keep (k1.trans hk)) hbr
      have HB : Aside _ := hb
      have OWN : Aside (wr.ownsRow w1.heap.size 48 1 u3 i (((liveL L).take i).map fun a => Hd.encU (W a))) := hown
      have hsz := hk.size
      clear hb hbr hown
      go_wp2_with (first
        | (go_at_call 63; refine na.mono ?_; rintro e w5 ⟨rfl, rfl⟩)
        | (at_builtin
           refine wpList_append_own_at _ rfl _ _ 40 rfl w1.heap.size 48 ih zh 1 8 Tryz.underlying40 HI.out.1 HI.out.2.2.2.1 HI.out.2.1 HI.out.2.2.1 HI.out.2.2.2.2 (by decide) u3 i _ rfl (OWN.out.alloc _) ⟨wr.heap.size, 0, none⟩ 1 1 [Hd.encU (W b)] rfl rfl (Hd.src_one wr #[.int .u64 (W b)] 48) (Hd.one_u _) (by unfold maxLen; omega) (by omega) (by simp; omega) ?_
           intro v4 w4 hown4 hgrow _ hat))
      go_roundg (n - (i + 1))
      case measure => omega
      case rel =>
        refine ⟨i + 1, by omega, by go_num, ?_, Hd.K.thenGrown hk hgrow (fun c hc => (Hd.own_lt OWN.out hc).1)⟩
        have e : (liveL L).take (i + 1) = (liveL L).take i ++ [b] := by rw [List.take_add_one, HB.out]; rfl
        rw [e, List.map_append]
        exact hown4
    · have e : (liveL L).take i = liveL L := by rw [List.take_of_length_le (by rw [HN.out]; omega)]
      rw [e] at hown
      obtain rfl : i = n := by omega
      have hO : wr.ownsRow w.heap.size 48 1 u3 (liveL L).length ((liveL L).map fun a => Hd.encU (W a)) := own_low (by rw [HN.out]; exact hown) k1.size
      clear hown e
      go_wp2
      go_ret
      exact ⟨_, rfl, hO, k1.trans hk⟩

end So
end Go.Proofs.YtckofhbfdfmnoaaGreatDoor
