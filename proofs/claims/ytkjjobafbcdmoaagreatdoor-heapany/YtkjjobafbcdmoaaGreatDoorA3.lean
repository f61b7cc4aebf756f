/-
  The walk of HeapAny. The operations of region 12, which draws its order, are this seat's (mkany.py).
-/
import Derived.Test.YtkjjobafbcdmoaaGreatDoorA1
import Derived.Test.YtkjjobafbcdmoaaGreatDoorA2
import Derived.Deep.RegionHeld3
import Derived.Deep.QuietTactic
namespace Go.Proofs.YtkjjobafbcdmoaaGreatDoor
open Go.RowKit Go.Maps
attribute [local go_sem ↓] Go.wp_at_zero Go.wp_at_succ
namespace Hp
variable {w0 w w' : World} {bh bs bm br : Nat} {q : Int} {L M : List Pg}

set_option maxHeartbeats 8000000 in
set_option maxRecDepth 100000 in
theorem any_main (a0 : Option Addr) (b off len cap : Nat) (pz : Nat → Int) (a1 : Option Addr) (b1 off1 len1 cap1 : Nat) (wz : Nat → Wv) (a2 : Option Addr) (b2 off2 len2 cap2 : Nat) (sz : Nat → Opv) (w : World) (hT : Bt.Tab w) (hN : Nums w a0 b off len cap pz) (hW : Wds w a1 b1 off1 len1 cap1 wz) (hS : Script w a2 b2 off2 len2 cap2 sz) (hl : len ≤ 30) (hl1 : len1 ≤ 100) (hl2 : len2 ≤ 40) :
    Calls Tryz.prog 3 #[.slice a0 len cap, .slice a1 len1 cap1, .slice a2 len2 cap2] w fun e w' => e = .returned (.bool true) ∧ K w w' := by
  have cn := rea_new 4000 w (by omega) (by omega)
  have ca : Aside (∀ w1, K w w1 → Calls Tryz.prog 4 #[] w1 fun e w' => e = .returned (.bool true) ∧ K w w') := fun w1 k => (awake_any w1 (hT.keep ⟨k.below⟩)).mono fun e w2 h => ⟨h.1, k.trans h.2⟩
  have md : Aside (∀ w1, K w w1 → Calls Tryz.prog 12 #[.int .i64 4000] w1 fun e w' => ∃ bh bs bm, e = .returned (.tuple #[.pointer (some ⟨bs, 0, none⟩), hp bh, .bool true]) ∧ Aside (Rn w1 w' bh bs bm 4000 [] (fun _ => 0) [])) := fun w1 k => (made_ok 4000 w1 (hT.keep ⟨k.below⟩) (by omega) (by omega)).mono fun e w2 h => by
    obtain ⟨bh, bs, bm, h1, h2, _⟩ := h
    exact ⟨bh, bs, bm, h1, h2⟩
  have HT : Aside _ := hT
  have HN : Aside _ := hN
  have HW : Aside _ := hW
  have HS : Aside _ := hS
  have hd1 : decide ((30 : Int) < (len : Int)) = false := decide_eq_false (by omega)
  have hd2 : decide ((100 : Int) < (len1 : Int)) = false := decide_eq_false (by omega)
  have hd3 : decide ((40 : Int) < (len2 : Int)) = false := decide_eq_false (by omega)
  clear hN hW hS hT
  go_enter Tryz.func3, Tryz.ntmps3
  go_wp2_with fail
  refine cn.mono ?_
  rintro e w1 ⟨bs, bm, rfl, R0⟩
  clear cn
  go_wp2_with fail
  go_loopg [9] len (fun gh t wx => ∃ (i : Nat), i + gh = len ∧ t = .int .i64 i ∧ Aside (Rea w wx bs bm 4000))
  case atStart => exact ⟨0, by omega, rfl, R0⟩
  case round =>
    obtain ⟨i, hig, rfl, RC⟩ := hrel
    clear R0
    by_cases hlt : i < len
    · have hix := HN.out.ix i hlt
      have hce := Hp.K.cell (Rea.k RC.out) (HN.out.cell i hlt)
      have cc := Rea.claim RC.out (pz i) (HN.out.ok i)
      clear RC
      go_wp2_with fail
      refine cc.mono ?_
      rintro e w3 ⟨⟨x, rfl⟩, R3⟩
      clear cc
      go_wp2_with fail
      go_roundg (len - (i + 1))
      case measure => omega
      case rel => exact ⟨i + 1, by omega, by go_num, R3⟩
    · obtain rfl : i = len := by omega
      go_wp2_with fail
      go_loopg [10] len1 (fun gh t wx => ∃ (j : Nat), j + gh = len1 ∧ t = .int .i64 j ∧ Aside (Rea w wx bs bm 4000))
      case atStart => exact ⟨0, by omega, rfl, RC⟩
      case round =>
        obtain ⟨j, hjg, rfl, RD⟩ := hrel
        clear RC
        by_cases hlt1 : j < len1
        · have hix := HW.out.ix j hlt1
          have HC : Aside (WvAt w b1 (off1 + j * 3) (wz j)) := HW.out.cell j hlt1
          have hok := HW.out.ok j
          have kR : K w wr := Rea.k RD.out
          have c0 := Hp.K.cell kR HC.out.c0
          have c1 := Hp.K.cell kR HC.out.c1
          by_cases e1 : 0 ≤ (wz j).p
          · by_cases e2 : (wz j).p < 1000
            · by_cases e3 : 0 ≤ (wz j).a
              · by_cases e4 : (wz j).a < 64
                · have g1 : decide ((0 : Int) ≤ (wz j).p) = true := decide_eq_true e1
                  have g2 : decide ((wz j).p < (1000 : Int)) = true := decide_eq_true e2
                  have g3 : decide ((0 : Int) ≤ (wz j).a) = true := decide_eq_true e3
                  have g4 : decide ((wz j).a < (64 : Int)) = true := decide_eq_true e4
                  go_wp2_with fail
                  have hHeld : (fun V => K w V) wr.drew := Hp.K.trans kR (K.drew (K.refl wr))
                  clear kR c0 c1
                  have RD2 := RD
                  refine wp_region_held_drew (S := fun V => K w V) (by kernel_rfl) hHeld (fun _ => ?_)
                  refine wpAnyH_take (i := 0) (oi := { dst := some 90, op := Go.Op.move (Go.Operand.tmp 7), type := 26, pos := "law.go:135", after := #[], guard := none }) (v := ?_) rfl (by kernel_rfl) (by kernel_rfl) (by kernel_rfl) (fun _ _ _ h => h) (Or.inl ⟨by rfl, ?_⟩) (by assumption) ?_
                  rotate_left
                  · intro w' hSw
                    first | (go_simp; with_reducible rfl) | (go_simp; done)
                  try simp only [Act.put, List.setIfInBounds_toArray, List.set_cons_zero, List.set_cons_succ]
                  refine wpAnyH_take (i := 1) (oi := { dst := some 91, op := Go.Op.move (Go.Operand.tmp 1), type := 23, pos := "law.go:135", after := #[], guard := none }) (v := ?_) rfl (by kernel_rfl) (by kernel_rfl) (by kernel_rfl) (fun _ _ _ h => h) (Or.inl ⟨by rfl, ?_⟩) (by assumption) ?_
                  rotate_left
                  · intro w' hSw
                    first | (go_simp; with_reducible rfl) | (go_simp; done)
                  try simp only [Act.put, List.setIfInBounds_toArray, List.set_cons_zero, List.set_cons_succ]
                  refine wpAnyH_take (i := 2) (oi := { dst := some 92, op := Go.Op.move (Go.Operand.tmp 10), type := 3, pos := "law.go:135", after := #[], guard := none }) (v := ?_) rfl (by kernel_rfl) (by kernel_rfl) (by kernel_rfl) (fun _ _ _ h => h) (Or.inl ⟨by rfl, ?_⟩) (by assumption) ?_
                  rotate_left
                  · intro w' hSw
                    first | (go_simp; with_reducible rfl) | (go_simp; done)
                  try simp only [Act.put, List.setIfInBounds_toArray, List.set_cons_zero, List.set_cons_succ]
                  refine wpAnyH_take (i := 3) (oi := { dst := some 93, op := Go.Op.indexAddr 23 (Go.Operand.tmp 91) (Go.Operand.tmp 92), type := 0, pos := "law.go:135", after := #[{ on := 1, ground := Go.Ground.data }, { on := 2, ground := Go.Ground.data }], guard := none }) (v := ?_) rfl (by kernel_rfl) (by kernel_rfl) (by kernel_rfl) (fun _ _ _ h => h) (Or.inl ⟨by rfl, ?_⟩) (by assumption) ?_
                  rotate_left
                  · intro w' hSw
                    first | (go_simp; with_reducible rfl) | (go_simp; done)
                  try simp only [Act.put, List.setIfInBounds_toArray, List.set_cons_zero, List.set_cons_succ]
                  refine wpAnyH_take (i := 4) (oi := { dst := some 94, op := Go.Op.fieldAddr 33 (Go.Operand.tmp 93) 0, type := 0, pos := "law.go:135", after := #[{ on := 3, ground := Go.Ground.data }], guard := none }) (v := ?_) rfl (by kernel_rfl) (by kernel_rfl) (by kernel_rfl) (fun _ _ _ h => h) (Or.inl ⟨by rfl, ?_⟩) (by assumption) ?_
                  rotate_left
                  · intro w' hSw
                    first | (go_simp; with_reducible rfl) | (go_simp; done)
                  try simp only [Act.put, List.setIfInBounds_toArray, List.set_cons_zero, List.set_cons_succ]
                  refine wpAnyH_take (i := 5) (oi := { dst := some 95, op := Go.Op.load 3 (Go.Operand.tmp 94), type := 3, pos := "law.go:135", after := #[{ on := 4, ground := Go.Ground.data }], guard := none }) (v := ?_) rfl (by kernel_rfl) (by kernel_rfl) (by kernel_rfl) (fun _ _ _ h => h) (Or.inl ⟨by rfl, ?_⟩) (by assumption) ?_
                  rotate_left
                  · intro w' hSw
                    have h1 := Hp.K.cell hSw HC.out.c0
                    have h2 := Hp.K.cell hSw HC.out.c1
                    have h3 := Hp.K.cell hSw HC.out.c2
                    first | (go_simp; with_reducible rfl) | (go_simp; done)
                  try simp only [Act.put, List.setIfInBounds_toArray, List.set_cons_zero, List.set_cons_succ]
                  refine wpAnyH_take (i := 6) (oi := { dst := some 96, op := Go.Op.binOp Go.BinOp.mul 3 (Go.Operand.tmp 95) (Go.Operand.const (Go.Value.int Go.IntKind.i64 64)) 3, type := 3, pos := "law.go:135", after := #[{ on := 5, ground := Go.Ground.data }], guard := none }) (v := ?_) rfl (by kernel_rfl) (by kernel_rfl) (by kernel_rfl) (fun _ _ _ h => h) (Or.inl ⟨by rfl, ?_⟩) (by assumption) ?_
                  rotate_left
                  · intro w' hSw
                    first | (go_simp; with_reducible rfl) | (go_simp; done)
                  try simp only [Act.put, List.setIfInBounds_toArray, List.set_cons_zero, List.set_cons_succ]
                  refine wpAnyH_take (i := 7) (oi := { dst := some 97, op := Go.Op.move (Go.Operand.tmp 1), type := 23, pos := "law.go:135", after := #[], guard := none }) (v := ?_) rfl (by kernel_rfl) (by kernel_rfl) (by kernel_rfl) (fun _ _ _ h => h) (Or.inl ⟨by rfl, ?_⟩) (by assumption) ?_
                  rotate_left
                  · intro w' hSw
                    first | (go_simp; with_reducible rfl) | (go_simp; done)
                  try simp only [Act.put, List.setIfInBounds_toArray, List.set_cons_zero, List.set_cons_succ]
                  refine wpAnyH_take (i := 8) (oi := { dst := some 98, op := Go.Op.move (Go.Operand.tmp 10), type := 3, pos := "law.go:135", after := #[], guard := none }) (v := ?_) rfl (by kernel_rfl) (by kernel_rfl) (by kernel_rfl) (fun _ _ _ h => h) (Or.inl ⟨by rfl, ?_⟩) (by assumption) ?_
                  rotate_left
                  · intro w' hSw
                    first | (go_simp; with_reducible rfl) | (go_simp; done)
                  try simp only [Act.put, List.setIfInBounds_toArray, List.set_cons_zero, List.set_cons_succ]
                  refine wpAnyH_take (i := 9) (oi := { dst := some 99, op := Go.Op.indexAddr 23 (Go.Operand.tmp 97) (Go.Operand.tmp 98), type := 0, pos := "law.go:135", after := #[{ on := 7, ground := Go.Ground.data }, { on := 8, ground := Go.Ground.data }], guard := none }) (v := ?_) rfl (by kernel_rfl) (by kernel_rfl) (by kernel_rfl) (fun _ _ _ h => h) (Or.inl ⟨by rfl, ?_⟩) (by assumption) ?_
                  rotate_left
                  · intro w' hSw
                    first | (go_simp; with_reducible rfl) | (go_simp; done)
                  try simp only [Act.put, List.setIfInBounds_toArray, List.set_cons_zero, List.set_cons_succ]
                  refine wpAnyH_take (i := 10) (oi := { dst := some 100, op := Go.Op.fieldAddr 33 (Go.Operand.tmp 99) 1, type := 0, pos := "law.go:135", after := #[{ on := 9, ground := Go.Ground.data }], guard := none }) (v := ?_) rfl (by kernel_rfl) (by kernel_rfl) (by kernel_rfl) (fun _ _ _ h => h) (Or.inl ⟨by rfl, ?_⟩) (by assumption) ?_
                  rotate_left
                  · intro w' hSw
                    first | (go_simp; with_reducible rfl) | (go_simp; done)
                  try simp only [Act.put, List.setIfInBounds_toArray, List.set_cons_zero, List.set_cons_succ]
                  refine wpAnyH_take (i := 11) (oi := { dst := some 101, op := Go.Op.load 3 (Go.Operand.tmp 100), type := 3, pos := "law.go:135", after := #[{ on := 10, ground := Go.Ground.data }], guard := none }) (v := ?_) rfl (by kernel_rfl) (by kernel_rfl) (by kernel_rfl) (fun _ _ _ h => h) (Or.inl ⟨by rfl, ?_⟩) (by assumption) ?_
                  rotate_left
                  · intro w' hSw
                    have h1 := Hp.K.cell hSw HC.out.c0
                    have h2 := Hp.K.cell hSw HC.out.c1
                    have h3 := Hp.K.cell hSw HC.out.c2
                    first | (go_simp; with_reducible rfl) | (go_simp; done)
                  try simp only [Act.put, List.setIfInBounds_toArray, List.set_cons_zero, List.set_cons_succ]
                  refine wpAnyH_take (i := 12) (oi := { dst := some 102, op := Go.Op.binOp Go.BinOp.add 3 (Go.Operand.tmp 96) (Go.Operand.tmp 101) 3, type := 3, pos := "law.go:135", after := #[{ on := 6, ground := Go.Ground.data }, { on := 11, ground := Go.Ground.data }], guard := none }) (v := ?_) rfl (by kernel_rfl) (by kernel_rfl) (by kernel_rfl) (fun _ _ _ h => h) (Or.inl ⟨by rfl, ?_⟩) (by assumption) ?_
                  rotate_left
                  · intro w' hSw
                    first | (go_simp; with_reducible rfl) | (go_simp; done)
                  try simp only [Act.put, List.setIfInBounds_toArray, List.set_cons_zero, List.set_cons_succ]
                  refine wpAnyH_take (i := 13) (oi := { dst := some 103, op := Go.Op.move (Go.Operand.tmp 1), type := 23, pos := "law.go:135", after := #[], guard := none }) (v := ?_) rfl (by kernel_rfl) (by kernel_rfl) (by kernel_rfl) (fun _ _ _ h => h) (Or.inl ⟨by rfl, ?_⟩) (by assumption) ?_
                  rotate_left
                  · intro w' hSw
                    first | (go_simp; with_reducible rfl) | (go_simp; done)
                  try simp only [Act.put, List.setIfInBounds_toArray, List.set_cons_zero, List.set_cons_succ]
                  refine wpAnyH_take (i := 14) (oi := { dst := some 104, op := Go.Op.move (Go.Operand.tmp 10), type := 3, pos := "law.go:135", after := #[], guard := none }) (v := ?_) rfl (by kernel_rfl) (by kernel_rfl) (by kernel_rfl) (fun _ _ _ h => h) (Or.inl ⟨by rfl, ?_⟩) (by assumption) ?_
                  rotate_left
                  · intro w' hSw
                    first | (go_simp; with_reducible rfl) | (go_simp; done)
                  try simp only [Act.put, List.setIfInBounds_toArray, List.set_cons_zero, List.set_cons_succ]
                  refine wpAnyH_take (i := 15) (oi := { dst := some 105, op := Go.Op.indexAddr 23 (Go.Operand.tmp 103) (Go.Operand.tmp 104), type := 0, pos := "law.go:135", after := #[{ on := 13, ground := Go.Ground.data }, { on := 14, ground := Go.Ground.data }], guard := none }) (v := ?_) rfl (by kernel_rfl) (by kernel_rfl) (by kernel_rfl) (fun _ _ _ h => h) (Or.inl ⟨by rfl, ?_⟩) (by assumption) ?_
                  rotate_left
                  · intro w' hSw
                    first | (go_simp; with_reducible rfl) | (go_simp; done)
                  try simp only [Act.put, List.setIfInBounds_toArray, List.set_cons_zero, List.set_cons_succ]
                  refine wpAnyH_take (i := 16) (oi := { dst := some 106, op := Go.Op.fieldAddr 33 (Go.Operand.tmp 105) 2, type := 0, pos := "law.go:135", after := #[{ on := 15, ground := Go.Ground.data }], guard := none }) (v := ?_) rfl (by kernel_rfl) (by kernel_rfl) (by kernel_rfl) (fun _ _ _ h => h) (Or.inl ⟨by rfl, ?_⟩) (by assumption) ?_
                  rotate_left
                  · intro w' hSw
                    first | (go_simp; with_reducible rfl) | (go_simp; done)
                  try simp only [Act.put, List.setIfInBounds_toArray, List.set_cons_zero, List.set_cons_succ]
                  refine wpAnyH_take (i := 17) (oi := { dst := some 107, op := Go.Op.load 31 (Go.Operand.tmp 106), type := 31, pos := "law.go:135", after := #[{ on := 16, ground := Go.Ground.data }], guard := none }) (v := ?_) rfl (by kernel_rfl) (by kernel_rfl) (by kernel_rfl) (fun _ _ _ h => h) (Or.inl ⟨by rfl, ?_⟩) (by assumption) ?_
                  rotate_left
                  · intro w' hSw
                    have h1 := Hp.K.cell hSw HC.out.c0
                    have h2 := Hp.K.cell hSw HC.out.c1
                    have h3 := Hp.K.cell hSw HC.out.c2
                    first | (go_simp; with_reducible rfl) | (go_simp; done)
                  try simp only [Act.put, List.setIfInBounds_toArray, List.set_cons_zero, List.set_cons_succ]
                  refine wpAnyH_ready (rs := [18]) (by kernel_rfl) (by simp) ?_
                  refine AllReadyH.cons (o := { dst := some 108, op := Go.Op.call { callee := Go.Callee.value (Go.Operand.func 7), args := #[Go.Operand.tmp 90, Go.Operand.tmp 102, Go.Operand.tmp 107], argTypes := #[26, 3, 31] }, type := 27, pos := "law.go:135", after := #[{ on := 0, ground := Go.Ground.data }, { on := 12, ground := Go.Ground.data }, { on := 17, ground := Go.Ground.data }], guard := none }) rfl (fun KK hK => ?_) AllReadyH.nil
                  go_simp
                  refine (Rea.write (Rea.keep RD.out (K.drew (K.refl _))) _ _ hok.x).mono ?_
                  rintro e V1 ⟨⟨y, rfl⟩, R4⟩
                  have kS : K w V1 := Rea.k R4.out
                  go_wp2_with fail
                  refine hK.out _ _ kS (fun _ => ?_)
                  clear hK KK
                  try simp only [Act.put, List.setIfInBounds_toArray, List.set_cons_zero, List.set_cons_succ]
                  refine wpAnyH_done (by kernel_rfl) ?_ _
                  go_wp2_with fail
                  go_roundg (len1 - (j + 1))
                  case measure => omega
                  case rel => exact ⟨j + 1, by omega, by go_num, R4⟩
                · have g1 : decide ((0 : Int) ≤ (wz j).p) = true := decide_eq_true e1
                  have g2 : decide ((wz j).p < (1000 : Int)) = true := decide_eq_true e2
                  have g3 : decide ((0 : Int) ≤ (wz j).a) = true := decide_eq_true e3
                  have g4 : decide ((wz j).a < (64 : Int)) = false := decide_eq_false e4
                  go_wp2_with fail
                  go_roundg (len1 - (j + 1))
                  case measure => omega
                  case rel => exact ⟨j + 1, by omega, by go_num, RD⟩
              · have g1 : decide ((0 : Int) ≤ (wz j).p) = true := decide_eq_true e1
                have g2 : decide ((wz j).p < (1000 : Int)) = true := decide_eq_true e2
                have g3 : decide ((0 : Int) ≤ (wz j).a) = false := decide_eq_false e3
                go_wp2_with fail
                go_roundg (len1 - (j + 1))
                case measure => omega
                case rel => exact ⟨j + 1, by omega, by go_num, RD⟩
            · have g1 : decide ((0 : Int) ≤ (wz j).p) = true := decide_eq_true e1
              have g2 : decide ((wz j).p < (1000 : Int)) = false := decide_eq_false e2
              go_wp2_with fail
              go_roundg (len1 - (j + 1))
              case measure => omega
              case rel => exact ⟨j + 1, by omega, by go_num, RD⟩
          · skip
            have g1 : decide ((0 : Int) ≤ (wz j).p) = false := decide_eq_false e1
            go_wp2_with fail
            go_roundg (len1 - (j + 1))
            case measure => omega
            case rel => exact ⟨j + 1, by omega, by go_num, RD⟩
        · obtain rfl : j = len1 := by omega
          obtain ⟨pg, W, ar, hau, cw⟩ := Rea.new RD.out HT.out
          have KR : Aside (K w wr) := Rea.k RD.out
          clear RD
          go_wp2_with fail
          refine cw.mono ?_
          rintro e w5 ⟨h0, h8, hw5, k5⟩
          clear cw
          rcases hau with hau | hau
          · obtain rfl := h0 hau
            have st : Aside (St w5 wr.heap.size bs bm 4000 pg W (heads pg W)) := ⟨hw5, lay_heads ar.rise (fun p hp => (ar.rng p hp).1) ar.ww hau⟩
            have BS : Aside _ := St.told st.out (by omega)
            generalize liveL (heads pg W) = X at *
            have cl := BS.out.live w5 (K.refl w5)
            have K05 : Aside (K w w5) := Hp.K.trans KR.out k5
            clear h0 h8 hau hw5 k5 KR ar st
            go_wp2_with fail
            refine cl.mono ?_
            rintro e w6 ⟨vl, rfl, row6, k6⟩
            have K56 : Aside (K w5 w6) := k6
            have K06 : Aside (K w w6) := Hp.K.trans K05.out k6
            have K60 : Aside (K w6 w6) := K.refl w6
            obtain ⟨va, vc, hvs⟩ : ∃ va vc, vl = .slice va X.length vc := by
              rcases row6.out.2 with ⟨hv, h0⟩ | ⟨g, c, cur, hv, _⟩
              · exact ⟨none, 0, by rw [hv, h0]⟩
              · exact ⟨_, _, hv⟩
            subst hvs
            clear cl k6 K05
            go_wp2_with fail
            go_loopg [14] X.length (fun gh t wx => ∃ (i : Nat), i + gh = X.length ∧ t = .int .i64 i ∧ Aside (K w6 wx))
            case atStart => exact ⟨0, by omega, rfl, K60⟩
            case round =>
              obtain ⟨i, hig, rfl, KI⟩ := hrel
              clear K60
              by_cases hlt : i < X.length
              · obtain ⟨a, ha⟩ : ∃ a, X[i]? = some a := ⟨_, List.getElem?_eq_getElem hlt⟩
                have hma := List.mem_of_getElem? ha
                have hfw : X.length ≤ 65536 := BS.out.few
                obtain ⟨r, r1, r2, m1, m2, cr, ci⟩ := BS.out.room a hma
                obtain ⟨g, cp, hvl, _, hcx, _, _, _⟩ := own_atI row6.out (show (X.map encI)[i]? = some (encI a) by simp [ha])
                have hcx2 := Hp.K.cell KI.out hcx
                have crw := cr _ (Hp.K.trans K56.out KI.out)
                have CI : Aside _ := ci
                have ROW : Aside (X.length = X.length ∧ ∀ (j : Nat) x, X[j]? = some x → w6.cell? ⟨g, j, none⟩ = some (.int .i64 x)) := ⟨rfl, fun j x hx => by
                  obtain ⟨g2, cp2, hv2, _, hc2, _⟩ := own_atI row6.out (show (X.map encI)[j]? = some (encI x) by simp [hx])
                  rw [hvl] at hv2
                  injection hv2 with h1 h2 h3
                  injection h1 with h4
                  injection h4 with h5
                  rw [h5]
                  exact hc2⟩
                have HAi : Aside (X[i]? = some a) := ha
                have ix1 := fun w' => run_ixn g X.length cp i hlt w'
                obtain ⟨rfl, rfl⟩ : va = some ⟨g, 0, none⟩ ∧ vc = cp := by injection hvl with h1 h2 h3; exact ⟨h1, h3⟩
                clear hcx cr hvl ci hma ha
                go_wp2_with fail
                refine crw.mono ?_
                rintro e w7 ⟨rfl, k7⟩
                have K7 : Aside (K w6 w7) := Hp.K.trans KI.out k7
                have hcx7 := Hp.K.cell k7 hcx2
                have q1 : ∀ V, K w7 V → Calls Tryz.prog 11 #[.pointer (some ⟨bs, 0, none⟩), .int .i64 (a / 64)] V fun e w2 => e = .returned (.bool true) ∧ w2 = V := fun V kV => (CI.out V (Hp.K.trans K56.out (Hp.K.trans K7.out kV))).1
                have q2 : ∀ V, K w7 V → Calls Tryz.prog 11 #[.pointer (some ⟨bs, 0, none⟩), .int .i64 ((a + r - 1) / 64)] V fun e w2 => e = .returned (.bool true) ∧ w2 = V := fun V kV => (CI.out V (Hp.K.trans K56.out (Hp.K.trans K7.out kV))).2
                have hr1 : decide (r < (1 : Int)) = false := decide_eq_false (by omega)
                have m0 : 0 ≤ a := by omega
                have m3 : 0 ≤ a + r - 1 := by omega
                clear crw k7 hcx2
                have we1 : IntKind.i64.wrap (a.tdiv 64) = a / 64 := by rw [Int.tdiv_eq_ediv_of_nonneg m0, wrap_same (by omega) (by omega)]
                have we2 : IntKind.i64.wrap (a + r) = a + r := wrap_same (by omega) (by omega)
                have we3 : IntKind.i64.wrap (a + r - 1) = a + r - 1 := wrap_same (by omega) (by omega)
                have we4 : IntKind.i64.wrap ((a + r - 1).tdiv 64) = (a + r - 1) / 64 := by rw [Int.tdiv_eq_ediv_of_nonneg m3, wrap_same (by omega) (by omega)]
                have WE : Aside _ := And.intro we1 (And.intro we2 (And.intro we3 we4))
                clear we1 we2 we3 we4 m0 m3 m1 m2
                by_cases i0 : i = 0
                · have hgt : decide ((0 : Int) < (i : Int)) = false := decide_eq_false (by omega)
                  have I0 : Aside (i = 0) := i0
                  clear i0
                  go_wp2_with fail
                  have hHeld : (fun V => K w7 V) w7.drew := K.drew (K.refl w7)
                  refine wp_region_held_drew (S := fun V => K w7 V) (by kernel_rfl) hHeld (fun _ => ?_)
                  refine wpAnyH_take (i := 0) (oi := { dst := some 143, op := Go.Op.move (Go.Operand.tmp 16), type := 27, pos := "law.go:146", after := #[], guard := none }) (v := ?_) rfl (by kernel_rfl) (by kernel_rfl) (by kernel_rfl) (fun _ _ _ h => h) (Or.inl ⟨by rfl, ?_⟩) (by assumption) ?_
                  rotate_left
                  · intro w' hSw
                    first | (go_simp; with_reducible rfl) | (go_simp; done)
                  try simp only [Act.put, List.setIfInBounds_toArray, List.set_cons_zero, List.set_cons_succ]
                  refine wpAnyH_take (i := 1) (oi := { dst := some 144, op := Go.Op.binOp Go.BinOp.neq 27 (Go.Operand.tmp 143) (Go.Operand.const (Go.Value.int Go.IntKind.i64 0)) 27, type := 4, pos := "law.go:146", after := #[{ on := 0, ground := Go.Ground.data }], guard := none }) (v := ?_) rfl (by kernel_rfl) (by kernel_rfl) (by kernel_rfl) (fun _ _ _ h => h) (Or.inl ⟨by rfl, ?_⟩) (by assumption) ?_
                  rotate_left
                  · intro w' hSw
                    first | (go_simp; with_reducible rfl) | (go_simp; done)
                  try simp only [Act.put, List.setIfInBounds_toArray, List.set_cons_zero, List.set_cons_succ]
                  refine wpAnyH_take (i := 2) (oi := { dst := some 145, op := Go.Op.move (Go.Operand.tmp 144), type := 4, pos := "law.go:146", after := #[{ on := 1, ground := Go.Ground.data }], guard := none }) (v := ?_) rfl (by kernel_rfl) (by kernel_rfl) (by kernel_rfl) (fun _ _ _ h => h) (Or.inl ⟨by rfl, ?_⟩) (by assumption) ?_
                  rotate_left
                  · intro w' hSw
                    first | (go_simp; with_reducible rfl) | (go_simp; done)
                  try simp only [Act.put, List.setIfInBounds_toArray, List.set_cons_zero, List.set_cons_succ]
                  refine wpAnyH_take (i := 3) (oi := { dst := some 146, op := Go.Op.move (Go.Operand.tmp 15), type := 3, pos := "law.go:146", after := #[{ on := 2, ground := Go.Ground.guard }], guard := some (2, false) }) (v := ?_) rfl (by kernel_rfl) (by kernel_rfl) (by kernel_rfl) (fun _ _ _ h => h) (Or.inl ⟨by rfl, ?_⟩) (by assumption) ?_
                  rotate_left
                  · intro w' hSw
                    first | (go_simp; with_reducible rfl) | (go_simp; done)
                  try simp only [Act.put, List.setIfInBounds_toArray, List.set_cons_zero, List.set_cons_succ]
                  refine wpAnyH_take (i := 4) (oi := { dst := some 147, op := Go.Op.binOp Go.BinOp.lss 3 (Go.Operand.tmp 146) (Go.Operand.const (Go.Value.int Go.IntKind.i64 1)) 3, type := 4, pos := "law.go:146", after := #[{ on := 3, ground := Go.Ground.data }, { on := 2, ground := Go.Ground.guard }], guard := some (2, false) }) (v := ?_) rfl (by kernel_rfl) (by kernel_rfl) (by kernel_rfl) (fun _ _ _ h => h) (Or.inl ⟨by rfl, ?_⟩) (by assumption) ?_
                  rotate_left
                  · intro w' hSw
                    first | (go_simp; with_reducible rfl) | (go_simp; done)
                  try simp only [Act.put, List.setIfInBounds_toArray, List.set_cons_zero, List.set_cons_succ]
                  refine wpAnyH_take (i := 5) (oi := { dst := some 148, op := Go.Op.pick (Go.Operand.tmp 145) (Go.Operand.const (Go.Value.bool true)) (Go.Operand.tmp 147), type := 4, pos := "law.go:146", after := #[{ on := 2, ground := Go.Ground.data }, { on := 4, ground := Go.Ground.data }], guard := none }) (v := ?_) rfl (by kernel_rfl) (by kernel_rfl) (by kernel_rfl) (fun _ _ _ h => h) (Or.inl ⟨by rfl, ?_⟩) (by assumption) ?_
                  rotate_left
                  · intro w' hSw
                    first | (go_simp; with_reducible rfl) | (go_simp; done)
                  try simp only [Act.put, List.setIfInBounds_toArray, List.set_cons_zero, List.set_cons_succ]
                  refine wpAnyH_take (i := 6) (oi := { dst := some 149, op := Go.Op.move (Go.Operand.tmp 148), type := 4, pos := "law.go:146", after := #[{ on := 5, ground := Go.Ground.data }, { on := 2, ground := Go.Ground.chain }], guard := none }) (v := ?_) rfl (by kernel_rfl) (by kernel_rfl) (by kernel_rfl) (fun _ _ _ h => h) (Or.inl ⟨by rfl, ?_⟩) (by assumption) ?_
                  rotate_left
                  · intro w' hSw
                    first | (go_simp; with_reducible rfl) | (go_simp; done)
                  try simp only [Act.put, List.setIfInBounds_toArray, List.set_cons_zero, List.set_cons_succ]
                  refine wpAnyH_take (i := 7) (oi := { dst := some 150, op := Go.Op.move (Go.Operand.tmp 14), type := 3, pos := "law.go:146", after := #[{ on := 6, ground := Go.Ground.guard }], guard := some (6, false) }) (v := ?_) rfl (by kernel_rfl) (by kernel_rfl) (by kernel_rfl) (fun _ _ _ h => h) (Or.inl ⟨by rfl, ?_⟩) (by assumption) ?_
                  rotate_left
                  · intro w' hSw
                    first | (go_simp; with_reducible rfl) | (go_simp; done)
                  try simp only [Act.put, List.setIfInBounds_toArray, List.set_cons_zero, List.set_cons_succ]
                  refine wpAnyH_take (i := 8) (oi := { dst := some 151, op := Go.Op.binOp Go.BinOp.gtr 3 (Go.Operand.tmp 150) (Go.Operand.const (Go.Value.int Go.IntKind.i64 0)) 3, type := 4, pos := "law.go:146", after := #[{ on := 7, ground := Go.Ground.data }, { on := 6, ground := Go.Ground.guard }], guard := some (6, false) }) (v := .bool false) rfl (by kernel_rfl) (by kernel_rfl) (by kernel_rfl) (fun _ _ _ h => h) (Or.inl ⟨by rfl, fun w' hSw => ?_⟩) (by assumption) ?_
                  · go_simp
                    first | done | rfl | omega | (rw [hgt]; done) | (simp; omega) | (have := I0.out; omega)
                  try simp only [Act.put, List.setIfInBounds_toArray, List.set_cons_zero, List.set_cons_succ]
                  refine wpAnyH_take (i := 9) (oi := { dst := some 152, op := Go.Op.move (Go.Operand.tmp 151), type := 4, pos := "law.go:146", after := #[{ on := 8, ground := Go.Ground.data }, { on := 6, ground := Go.Ground.chain }, { on := 6, ground := Go.Ground.guard }], guard := some (6, false) }) (v := ?_) rfl (by kernel_rfl) (by kernel_rfl) (by kernel_rfl) (fun _ _ _ h => h) (Or.inl ⟨by rfl, ?_⟩) (by assumption) ?_
                  rotate_left
                  · intro w' hSw
                    first | (go_simp; with_reducible rfl) | (go_simp; done)
                  try simp only [Act.put, List.setIfInBounds_toArray, List.set_cons_zero, List.set_cons_succ]
                  refine wpAnyH_take (i := 10) (oi := { dst := some 153, op := Go.Op.move (Go.Operand.tmp 13), type := 22, pos := "law.go:146", after := #[{ on := 9, ground := Go.Ground.guard }], guard := some (9, true) }) (v := undef) rfl (by kernel_rfl) (by kernel_rfl) (by kernel_rfl) (fun _ _ _ h => h) (Or.inr ⟨by rfl, rfl⟩) (by assumption) ?_
                  try simp only [Act.put, List.setIfInBounds_toArray, List.set_cons_zero, List.set_cons_succ]
                  refine wpAnyH_take (i := 11) (oi := { dst := some 154, op := Go.Op.move (Go.Operand.tmp 14), type := 3, pos := "law.go:146", after := #[{ on := 9, ground := Go.Ground.guard }], guard := some (9, true) }) (v := undef) rfl (by kernel_rfl) (by kernel_rfl) (by kernel_rfl) (fun _ _ _ h => h) (Or.inr ⟨by rfl, rfl⟩) (by assumption) ?_
                  try simp only [Act.put, List.setIfInBounds_toArray, List.set_cons_zero, List.set_cons_succ]
                  refine wpAnyH_take (i := 12) (oi := { dst := some 155, op := Go.Op.binOp Go.BinOp.sub 3 (Go.Operand.tmp 154) (Go.Operand.const (Go.Value.int Go.IntKind.i64 1)) 3, type := 3, pos := "law.go:146", after := #[{ on := 11, ground := Go.Ground.data }, { on := 9, ground := Go.Ground.guard }], guard := some (9, true) }) (v := undef) rfl (by kernel_rfl) (by kernel_rfl) (by kernel_rfl) (fun _ _ _ h => h) (Or.inr ⟨by rfl, rfl⟩) (by assumption) ?_
                  try simp only [Act.put, List.setIfInBounds_toArray, List.set_cons_zero, List.set_cons_succ]
                  refine wpAnyH_take (i := 13) (oi := { dst := some 156, op := Go.Op.indexAddr 22 (Go.Operand.tmp 153) (Go.Operand.tmp 155), type := 0, pos := "law.go:146", after := #[{ on := 10, ground := Go.Ground.data }, { on := 12, ground := Go.Ground.data }, { on := 9, ground := Go.Ground.guard }], guard := some (9, true) }) (v := undef) rfl (by kernel_rfl) (by kernel_rfl) (by kernel_rfl) (fun _ _ _ h => h) (Or.inr ⟨by rfl, rfl⟩) (by assumption) ?_
                  try simp only [Act.put, List.setIfInBounds_toArray, List.set_cons_zero, List.set_cons_succ]
                  refine wpAnyH_take (i := 14) (oi := { dst := some 157, op := Go.Op.load 3 (Go.Operand.tmp 156), type := 3, pos := "law.go:146", after := #[{ on := 13, ground := Go.Ground.data }, { on := 9, ground := Go.Ground.guard }], guard := some (9, true) }) (v := undef) rfl (by kernel_rfl) (by kernel_rfl) (by kernel_rfl) (fun _ _ _ h => h) (Or.inr ⟨by rfl, rfl⟩) (by assumption) ?_
                  try simp only [Act.put, List.setIfInBounds_toArray, List.set_cons_zero, List.set_cons_succ]
                  refine wpAnyH_take (i := 15) (oi := { dst := some 158, op := Go.Op.move (Go.Operand.tmp 13), type := 22, pos := "law.go:146", after := #[{ on := 9, ground := Go.Ground.guard }], guard := some (9, true) }) (v := undef) rfl (by kernel_rfl) (by kernel_rfl) (by kernel_rfl) (fun _ _ _ h => h) (Or.inr ⟨by rfl, rfl⟩) (by assumption) ?_
                  try simp only [Act.put, List.setIfInBounds_toArray, List.set_cons_zero, List.set_cons_succ]
                  refine wpAnyH_take (i := 16) (oi := { dst := some 159, op := Go.Op.move (Go.Operand.tmp 14), type := 3, pos := "law.go:146", after := #[{ on := 9, ground := Go.Ground.guard }], guard := some (9, true) }) (v := undef) rfl (by kernel_rfl) (by kernel_rfl) (by kernel_rfl) (fun _ _ _ h => h) (Or.inr ⟨by rfl, rfl⟩) (by assumption) ?_
                  try simp only [Act.put, List.setIfInBounds_toArray, List.set_cons_zero, List.set_cons_succ]
                  refine wpAnyH_take (i := 17) (oi := { dst := some 160, op := Go.Op.indexAddr 22 (Go.Operand.tmp 158) (Go.Operand.tmp 159), type := 0, pos := "law.go:146", after := #[{ on := 15, ground := Go.Ground.data }, { on := 16, ground := Go.Ground.data }, { on := 9, ground := Go.Ground.guard }], guard := some (9, true) }) (v := undef) rfl (by kernel_rfl) (by kernel_rfl) (by kernel_rfl) (fun _ _ _ h => h) (Or.inr ⟨by rfl, rfl⟩) (by assumption) ?_
                  try simp only [Act.put, List.setIfInBounds_toArray, List.set_cons_zero, List.set_cons_succ]
                  refine wpAnyH_take (i := 18) (oi := { dst := some 161, op := Go.Op.load 3 (Go.Operand.tmp 160), type := 3, pos := "law.go:146", after := #[{ on := 17, ground := Go.Ground.data }, { on := 9, ground := Go.Ground.guard }], guard := some (9, true) }) (v := undef) rfl (by kernel_rfl) (by kernel_rfl) (by kernel_rfl) (fun _ _ _ h => h) (Or.inr ⟨by rfl, rfl⟩) (by assumption) ?_
                  try simp only [Act.put, List.setIfInBounds_toArray, List.set_cons_zero, List.set_cons_succ]
                  refine wpAnyH_take (i := 19) (oi := { dst := some 162, op := Go.Op.binOp Go.BinOp.geq 3 (Go.Operand.tmp 157) (Go.Operand.tmp 161) 3, type := 4, pos := "law.go:146", after := #[{ on := 14, ground := Go.Ground.data }, { on := 18, ground := Go.Ground.data }, { on := 9, ground := Go.Ground.guard }], guard := some (9, true) }) (v := undef) rfl (by kernel_rfl) (by kernel_rfl) (by kernel_rfl) (fun _ _ _ h => h) (Or.inr ⟨by rfl, rfl⟩) (by assumption) ?_
                  try simp only [Act.put, List.setIfInBounds_toArray, List.set_cons_zero, List.set_cons_succ]
                  refine wpAnyH_take (i := 20) (oi := { dst := some 163, op := Go.Op.pick (Go.Operand.tmp 152) (Go.Operand.tmp 162) (Go.Operand.const (Go.Value.bool false)), type := 4, pos := "law.go:146", after := #[{ on := 9, ground := Go.Ground.data }, { on := 19, ground := Go.Ground.data }, { on := 6, ground := Go.Ground.guard }], guard := some (6, false) }) (v := ?_) rfl (by kernel_rfl) (by kernel_rfl) (by kernel_rfl) (fun _ _ _ h => h) (Or.inl ⟨by rfl, ?_⟩) (by assumption) ?_
                  rotate_left
                  · intro w' hSw
                    first | (go_simp; with_reducible rfl) | (go_simp; done)
                  try simp only [Act.put, List.setIfInBounds_toArray, List.set_cons_zero, List.set_cons_succ]
                  refine wpAnyH_take (i := 21) (oi := { dst := some 164, op := Go.Op.pick (Go.Operand.tmp 149) (Go.Operand.const (Go.Value.bool true)) (Go.Operand.tmp 163), type := 4, pos := "law.go:146", after := #[{ on := 6, ground := Go.Ground.data }, { on := 20, ground := Go.Ground.data }], guard := none }) (v := ?_) rfl (by kernel_rfl) (by kernel_rfl) (by kernel_rfl) (fun _ _ _ h => h) (Or.inl ⟨by rfl, ?_⟩) (by assumption) ?_
                  rotate_left
                  · intro w' hSw
                    first | (go_simp; with_reducible rfl) | (go_simp; done)
                  try simp only [Act.put, List.setIfInBounds_toArray, List.set_cons_zero, List.set_cons_succ]
                  refine wpAnyH_take (i := 22) (oi := { dst := some 165, op := Go.Op.move (Go.Operand.tmp 164), type := 4, pos := "law.go:146", after := #[{ on := 21, ground := Go.Ground.data }, { on := 9, ground := Go.Ground.chain }], guard := none }) (v := ?_) rfl (by kernel_rfl) (by kernel_rfl) (by kernel_rfl) (fun _ _ _ h => h) (Or.inl ⟨by rfl, ?_⟩) (by assumption) ?_
                  rotate_left
                  · intro w' hSw
                    first | (go_simp; with_reducible rfl) | (go_simp; done)
                  try simp only [Act.put, List.setIfInBounds_toArray, List.set_cons_zero, List.set_cons_succ]
                  refine wpAnyH_take (i := 23) (oi := { dst := some 166, op := Go.Op.move (Go.Operand.tmp 7), type := 26, pos := "law.go:146", after := #[{ on := 22, ground := Go.Ground.guard }], guard := some (22, false) }) (v := ?_) rfl (by kernel_rfl) (by kernel_rfl) (by kernel_rfl) (fun _ _ _ h => h) (Or.inl ⟨by rfl, ?_⟩) (by assumption) ?_
                  rotate_left
                  · intro w' hSw
                    first | (go_simp; with_reducible rfl) | (go_simp; done)
                  try simp only [Act.put, List.setIfInBounds_toArray, List.set_cons_zero, List.set_cons_succ]
                  refine wpAnyH_take (i := 24) (oi := { dst := some 167, op := Go.Op.move (Go.Operand.tmp 13), type := 22, pos := "law.go:146", after := #[{ on := 22, ground := Go.Ground.guard }], guard := some (22, false) }) (v := ?_) rfl (by kernel_rfl) (by kernel_rfl) (by kernel_rfl) (fun _ _ _ h => h) (Or.inl ⟨by rfl, ?_⟩) (by assumption) ?_
                  rotate_left
                  · intro w' hSw
                    first | (go_simp; with_reducible rfl) | (go_simp; done)
                  try simp only [Act.put, List.setIfInBounds_toArray, List.set_cons_zero, List.set_cons_succ]
                  refine wpAnyH_take (i := 25) (oi := { dst := some 168, op := Go.Op.move (Go.Operand.tmp 14), type := 3, pos := "law.go:146", after := #[{ on := 22, ground := Go.Ground.guard }], guard := some (22, false) }) (v := ?_) rfl (by kernel_rfl) (by kernel_rfl) (by kernel_rfl) (fun _ _ _ h => h) (Or.inl ⟨by rfl, ?_⟩) (by assumption) ?_
                  rotate_left
                  · intro w' hSw
                    first | (go_simp; with_reducible rfl) | (go_simp; done)
                  try simp only [Act.put, List.setIfInBounds_toArray, List.set_cons_zero, List.set_cons_succ]
                  refine wpAnyH_take (i := 26) (oi := { dst := some 169, op := Go.Op.indexAddr 22 (Go.Operand.tmp 167) (Go.Operand.tmp 168), type := 0, pos := "law.go:146", after := #[{ on := 24, ground := Go.Ground.data }, { on := 25, ground := Go.Ground.data }, { on := 22, ground := Go.Ground.guard }], guard := some (22, false) }) (v := ?_) rfl (by kernel_rfl) (by kernel_rfl) (by kernel_rfl) (fun _ _ _ h => h) (Or.inl ⟨by rfl, ?_⟩) (by assumption) ?_
                  rotate_left
                  · intro w' hSw
                    first | (go_simp; with_reducible rfl) | (go_simp; done)
                  try simp only [Act.put, List.setIfInBounds_toArray, List.set_cons_zero, List.set_cons_succ]
                  refine wpAnyH_take (i := 27) (oi := { dst := some 170, op := Go.Op.load 3 (Go.Operand.tmp 169), type := 3, pos := "law.go:146", after := #[{ on := 26, ground := Go.Ground.data }, { on := 22, ground := Go.Ground.guard }], guard := some (22, false) }) (v := ?_) rfl (by kernel_rfl) (by kernel_rfl) (by kernel_rfl) (fun _ _ _ h => h) (Or.inl ⟨by rfl, ?_⟩) (by assumption) ?_
                  rotate_left
                  · intro w' hSw
                    have h1 := Hp.K.cell hSw hcx7
                    first | (go_simp; with_reducible rfl) | (go_simp; done)
                  try simp only [Act.put, List.setIfInBounds_toArray, List.set_cons_zero, List.set_cons_succ]
                  refine wpAnyH_take (i := 28) (oi := { dst := some 171, op := Go.Op.binOp Go.BinOp.quo 3 (Go.Operand.tmp 170) (Go.Operand.const (Go.Value.int Go.IntKind.i64 64)) 3, type := 3, pos := "law.go:146", after := #[{ on := 27, ground := Go.Ground.data }, { on := 22, ground := Go.Ground.guard }], guard := some (22, false) }) (v := ?_) rfl (by kernel_rfl) (by kernel_rfl) (by kernel_rfl) (fun _ _ _ h => h) (Or.inl ⟨by rfl, ?_⟩) (by assumption) ?_
                  rotate_left
                  · intro w' hSw
                    first | (go_simp; with_reducible rfl) | (go_simp; done)
                  try simp only [Act.put, List.setIfInBounds_toArray, List.set_cons_zero, List.set_cons_succ]
                  refine wpAnyH_ready (rs := [29]) (by kernel_rfl) (by simp) ?_
                  refine AllReadyH.cons (o := { dst := some 172, op := Go.Op.call { callee := Go.Callee.value (Go.Operand.func 11), args := #[Go.Operand.tmp 166, Go.Operand.tmp 171], argTypes := #[26, 3] }, type := 4, pos := "law.go:146", after := #[{ on := 23, ground := Go.Ground.data }, { on := 28, ground := Go.Ground.data }, { on := 22, ground := Go.Ground.chain }, { on := 22, ground := Go.Ground.guard }], guard := some (22, false) }) rfl (fun KK hK => ?_) AllReadyH.nil
                  go_simp
                  rw [WE.out.1]
                  refine (q1 _ hHeld).mono ?_
                  rintro e V1 ⟨rfl, rfl⟩
                  have kS := hHeld
                  go_wp2_with fail
                  refine hK.out _ _ kS (fun _ => ?_)
                  clear hK KK
                  try simp only [Act.put, List.setIfInBounds_toArray, List.set_cons_zero, List.set_cons_succ]
                  refine wpAnyH_take (i := 30) (oi := { dst := some 173, op := Go.Op.unOp Go.UnOp.not 4 (Go.Operand.tmp 172), type := 4, pos := "law.go:146", after := #[{ on := 29, ground := Go.Ground.data }, { on := 22, ground := Go.Ground.guard }], guard := some (22, false) }) (v := ?_) rfl (by kernel_rfl) (by kernel_rfl) (by kernel_rfl) (fun _ _ _ h => h) (Or.inl ⟨by rfl, ?_⟩) (by assumption) ?_
                  rotate_left
                  · intro w' hSw
                    first | (go_simp; with_reducible rfl) | (go_simp; done)
                  try simp only [Act.put, List.setIfInBounds_toArray, List.set_cons_zero, List.set_cons_succ]
                  refine wpAnyH_take (i := 31) (oi := { dst := some 174, op := Go.Op.pick (Go.Operand.tmp 165) (Go.Operand.const (Go.Value.bool true)) (Go.Operand.tmp 173), type := 4, pos := "law.go:146", after := #[{ on := 22, ground := Go.Ground.data }, { on := 30, ground := Go.Ground.data }], guard := none }) (v := ?_) rfl (by kernel_rfl) (by kernel_rfl) (by kernel_rfl) (fun _ _ _ h => h) (Or.inl ⟨by rfl, ?_⟩) (by assumption) ?_
                  rotate_left
                  · intro w' hSw
                    first | (go_simp; with_reducible rfl) | (go_simp; done)
                  try simp only [Act.put, List.setIfInBounds_toArray, List.set_cons_zero, List.set_cons_succ]
                  refine wpAnyH_take (i := 32) (oi := { dst := some 175, op := Go.Op.move (Go.Operand.tmp 174), type := 4, pos := "law.go:146", after := #[{ on := 31, ground := Go.Ground.data }, { on := 29, ground := Go.Ground.chain }], guard := none }) (v := ?_) rfl (by kernel_rfl) (by kernel_rfl) (by kernel_rfl) (fun _ _ _ h => h) (Or.inl ⟨by rfl, ?_⟩) (by assumption) ?_
                  rotate_left
                  · intro w' hSw
                    first | (go_simp; with_reducible rfl) | (go_simp; done)
                  try simp only [Act.put, List.setIfInBounds_toArray, List.set_cons_zero, List.set_cons_succ]
                  refine wpAnyH_take (i := 33) (oi := { dst := some 176, op := Go.Op.move (Go.Operand.tmp 7), type := 26, pos := "law.go:146", after := #[{ on := 32, ground := Go.Ground.guard }], guard := some (32, false) }) (v := ?_) rfl (by kernel_rfl) (by kernel_rfl) (by kernel_rfl) (fun _ _ _ h => h) (Or.inl ⟨by rfl, ?_⟩) (by assumption) ?_
                  rotate_left
                  · intro w' hSw
                    first | (go_simp; with_reducible rfl) | (go_simp; done)
                  try simp only [Act.put, List.setIfInBounds_toArray, List.set_cons_zero, List.set_cons_succ]
                  refine wpAnyH_take (i := 34) (oi := { dst := some 177, op := Go.Op.move (Go.Operand.tmp 13), type := 22, pos := "law.go:146", after := #[{ on := 32, ground := Go.Ground.guard }], guard := some (32, false) }) (v := ?_) rfl (by kernel_rfl) (by kernel_rfl) (by kernel_rfl) (fun _ _ _ h => h) (Or.inl ⟨by rfl, ?_⟩) (by assumption) ?_
                  rotate_left
                  · intro w' hSw
                    first | (go_simp; with_reducible rfl) | (go_simp; done)
                  try simp only [Act.put, List.setIfInBounds_toArray, List.set_cons_zero, List.set_cons_succ]
                  refine wpAnyH_take (i := 35) (oi := { dst := some 178, op := Go.Op.move (Go.Operand.tmp 14), type := 3, pos := "law.go:146", after := #[{ on := 32, ground := Go.Ground.guard }], guard := some (32, false) }) (v := ?_) rfl (by kernel_rfl) (by kernel_rfl) (by kernel_rfl) (fun _ _ _ h => h) (Or.inl ⟨by rfl, ?_⟩) (by assumption) ?_
                  rotate_left
                  · intro w' hSw
                    first | (go_simp; with_reducible rfl) | (go_simp; done)
                  try simp only [Act.put, List.setIfInBounds_toArray, List.set_cons_zero, List.set_cons_succ]
                  refine wpAnyH_take (i := 36) (oi := { dst := some 179, op := Go.Op.indexAddr 22 (Go.Operand.tmp 177) (Go.Operand.tmp 178), type := 0, pos := "law.go:146", after := #[{ on := 34, ground := Go.Ground.data }, { on := 35, ground := Go.Ground.data }, { on := 32, ground := Go.Ground.guard }], guard := some (32, false) }) (v := ?_) rfl (by kernel_rfl) (by kernel_rfl) (by kernel_rfl) (fun _ _ _ h => h) (Or.inl ⟨by rfl, ?_⟩) (by assumption) ?_
                  rotate_left
                  · intro w' hSw
                    first | (go_simp; with_reducible rfl) | (go_simp; done)
                  try simp only [Act.put, List.setIfInBounds_toArray, List.set_cons_zero, List.set_cons_succ]
                  refine wpAnyH_take (i := 37) (oi := { dst := some 180, op := Go.Op.load 3 (Go.Operand.tmp 179), type := 3, pos := "law.go:146", after := #[{ on := 36, ground := Go.Ground.data }, { on := 32, ground := Go.Ground.guard }], guard := some (32, false) }) (v := ?_) rfl (by kernel_rfl) (by kernel_rfl) (by kernel_rfl) (fun _ _ _ h => h) (Or.inl ⟨by rfl, ?_⟩) (by assumption) ?_
                  rotate_left
                  · intro w' hSw
                    have h1 := Hp.K.cell hSw hcx7
                    first | (go_simp; with_reducible rfl) | (go_simp; done)
                  try simp only [Act.put, List.setIfInBounds_toArray, List.set_cons_zero, List.set_cons_succ]
                  refine wpAnyH_take (i := 38) (oi := { dst := some 181, op := Go.Op.move (Go.Operand.tmp 15), type := 3, pos := "law.go:146", after := #[{ on := 32, ground := Go.Ground.guard }], guard := some (32, false) }) (v := ?_) rfl (by kernel_rfl) (by kernel_rfl) (by kernel_rfl) (fun _ _ _ h => h) (Or.inl ⟨by rfl, ?_⟩) (by assumption) ?_
                  rotate_left
                  · intro w' hSw
                    first | (go_simp; with_reducible rfl) | (go_simp; done)
                  try simp only [Act.put, List.setIfInBounds_toArray, List.set_cons_zero, List.set_cons_succ]
                  refine wpAnyH_take (i := 39) (oi := { dst := some 182, op := Go.Op.binOp Go.BinOp.add 3 (Go.Operand.tmp 180) (Go.Operand.tmp 181) 3, type := 3, pos := "law.go:146", after := #[{ on := 37, ground := Go.Ground.data }, { on := 38, ground := Go.Ground.data }, { on := 32, ground := Go.Ground.guard }], guard := some (32, false) }) (v := ?_) rfl (by kernel_rfl) (by kernel_rfl) (by kernel_rfl) (fun _ _ _ h => h) (Or.inl ⟨by rfl, ?_⟩) (by assumption) ?_
                  rotate_left
                  · intro w' hSw
                    first | (go_simp; with_reducible rfl) | (go_simp; done)
                  try simp only [Act.put, List.setIfInBounds_toArray, List.set_cons_zero, List.set_cons_succ]
                  refine wpAnyH_take (i := 40) (oi := { dst := some 183, op := Go.Op.binOp Go.BinOp.sub 3 (Go.Operand.tmp 182) (Go.Operand.const (Go.Value.int Go.IntKind.i64 1)) 3, type := 3, pos := "law.go:146", after := #[{ on := 39, ground := Go.Ground.data }, { on := 32, ground := Go.Ground.guard }], guard := some (32, false) }) (v := ?_) rfl (by kernel_rfl) (by kernel_rfl) (by kernel_rfl) (fun _ _ _ h => h) (Or.inl ⟨by rfl, ?_⟩) (by assumption) ?_
                  rotate_left
                  · intro w' hSw
                    first | (go_simp; with_reducible rfl) | (go_simp; done)
                  try simp only [Act.put, List.setIfInBounds_toArray, List.set_cons_zero, List.set_cons_succ]
                  refine wpAnyH_take (i := 41) (oi := { dst := some 184, op := Go.Op.binOp Go.BinOp.quo 3 (Go.Operand.tmp 183) (Go.Operand.const (Go.Value.int Go.IntKind.i64 64)) 3, type := 3, pos := "law.go:146", after := #[{ on := 40, ground := Go.Ground.data }, { on := 32, ground := Go.Ground.guard }], guard := some (32, false) }) (v := ?_) rfl (by kernel_rfl) (by kernel_rfl) (by kernel_rfl) (fun _ _ _ h => h) (Or.inl ⟨by rfl, ?_⟩) (by assumption) ?_
                  rotate_left
                  · intro w' hSw
                    first | (go_simp; with_reducible rfl) | (go_simp; done)
                  try simp only [Act.put, List.setIfInBounds_toArray, List.set_cons_zero, List.set_cons_succ]
                  refine wpAnyH_ready (rs := [42]) (by kernel_rfl) (by simp) ?_
                  refine AllReadyH.cons (o := { dst := some 185, op := Go.Op.call { callee := Go.Callee.value (Go.Operand.func 11), args := #[Go.Operand.tmp 176, Go.Operand.tmp 184], argTypes := #[26, 3] }, type := 4, pos := "law.go:146", after := #[{ on := 33, ground := Go.Ground.data }, { on := 41, ground := Go.Ground.data }, { on := 32, ground := Go.Ground.chain }, { on := 32, ground := Go.Ground.guard }], guard := some (32, false) }) rfl (fun KK hK => ?_) AllReadyH.nil
                  go_simp
                  rw [WE.out.2.1, WE.out.2.2.1, WE.out.2.2.2]
                  refine (q2 _ hHeld).mono ?_
                  rintro e V2 ⟨rfl, rfl⟩
                  have kS := hHeld
                  go_wp2_with fail
                  refine hK.out _ _ kS (fun _ => ?_)
                  clear hK KK
                  try simp only [Act.put, List.setIfInBounds_toArray, List.set_cons_zero, List.set_cons_succ]
                  refine wpAnyH_take (i := 43) (oi := { dst := some 186, op := Go.Op.unOp Go.UnOp.not 4 (Go.Operand.tmp 185), type := 4, pos := "law.go:146", after := #[{ on := 42, ground := Go.Ground.data }, { on := 32, ground := Go.Ground.guard }], guard := some (32, false) }) (v := ?_) rfl (by kernel_rfl) (by kernel_rfl) (by kernel_rfl) (fun _ _ _ h => h) (Or.inl ⟨by rfl, ?_⟩) (by assumption) ?_
                  rotate_left
                  · intro w' hSw
                    first | (go_simp; with_reducible rfl) | (go_simp; done)
                  try simp only [Act.put, List.setIfInBounds_toArray, List.set_cons_zero, List.set_cons_succ]
                  refine wpAnyH_take (i := 44) (oi := { dst := some 187, op := Go.Op.pick (Go.Operand.tmp 175) (Go.Operand.const (Go.Value.bool true)) (Go.Operand.tmp 186), type := 4, pos := "law.go:146", after := #[{ on := 32, ground := Go.Ground.data }, { on := 43, ground := Go.Ground.data }], guard := none }) (v := ?_) rfl (by kernel_rfl) (by kernel_rfl) (by kernel_rfl) (fun _ _ _ h => h) (Or.inl ⟨by rfl, ?_⟩) (by assumption) ?_
                  rotate_left
                  · intro w' hSw
                    first | (go_simp; with_reducible rfl) | (go_simp; done)
                  try simp only [Act.put, List.setIfInBounds_toArray, List.set_cons_zero, List.set_cons_succ]
                  refine wpAnyH_done (by kernel_rfl) ?_ _
                  have kE : K w7 w7.drew := hHeld
                  go_wp2_with fail
                  go_roundg (X.length - (i + 1))
                  case measure => omega
                  case rel => exact ⟨i + 1, by omega, by go_num, Hp.K.trans K7.out kE⟩
                · have hgt : decide ((0 : Int) < (i : Int)) = true := decide_eq_true (by omega)
                  obtain ⟨j, hij⟩ : ∃ j, i = j + 1 := ⟨i - 1, by omega⟩
                  obtain ⟨c, hc⟩ : ∃ c, X[j]? = some c := ⟨_, List.getElem?_eq_getElem (by omega)⟩
                  have hlt2 : c < a := by
                    have h := List.pairwise_iff_getElem.1 BS.out.rise j i (by omega) hlt (by omega)
                    rw [(List.getElem?_eq_some_iff.1 hc).2, (List.getElem?_eq_some_iff.1 HAi.out).2] at h
                    exact h
                  have hca : decide (a ≤ c) = false := decide_eq_false (by omega)
                  have hcj := Hp.K.cell K7.out (ROW.out.2 j c hc)
                  have hsb : IntKind.i64.wrap ((i : Int) - 1) = (j : Int) := by
                    have := BS.out.few
                    rw [wrap_same (by omega) (by omega)]
                    omega
                  have ix0 := fun w' => run_ixn g X.length vc j (by omega) w'
                  have HIJ : Aside _ := hij
                  have I0 : Aside (0 < i) := (by omega : 0 < i)
                  clear hc hlt2 i0 hij
                  go_wp2_with fail
                  have hHeld : (fun V => K w7 V) w7.drew := K.drew (K.refl w7)
                  refine wp_region_held_drew (S := fun V => K w7 V) (by kernel_rfl) hHeld (fun _ => ?_)
                  refine wpAnyH_take (i := 0) (oi := { dst := some 143, op := Go.Op.move (Go.Operand.tmp 16), type := 27, pos := "law.go:146", after := #[], guard := none }) (v := ?_) rfl (by kernel_rfl) (by kernel_rfl) (by kernel_rfl) (fun _ _ _ h => h) (Or.inl ⟨by rfl, ?_⟩) (by assumption) ?_
                  rotate_left
                  · intro w' hSw
                    first | (go_simp; with_reducible rfl) | (go_simp; done)
                  try simp only [Act.put, List.setIfInBounds_toArray, List.set_cons_zero, List.set_cons_succ]
                  refine wpAnyH_take (i := 1) (oi := { dst := some 144, op := Go.Op.binOp Go.BinOp.neq 27 (Go.Operand.tmp 143) (Go.Operand.const (Go.Value.int Go.IntKind.i64 0)) 27, type := 4, pos := "law.go:146", after := #[{ on := 0, ground := Go.Ground.data }], guard := none }) (v := ?_) rfl (by kernel_rfl) (by kernel_rfl) (by kernel_rfl) (fun _ _ _ h => h) (Or.inl ⟨by rfl, ?_⟩) (by assumption) ?_
                  rotate_left
                  · intro w' hSw
                    first | (go_simp; with_reducible rfl) | (go_simp; done)
                  try simp only [Act.put, List.setIfInBounds_toArray, List.set_cons_zero, List.set_cons_succ]
                  refine wpAnyH_take (i := 2) (oi := { dst := some 145, op := Go.Op.move (Go.Operand.tmp 144), type := 4, pos := "law.go:146", after := #[{ on := 1, ground := Go.Ground.data }], guard := none }) (v := ?_) rfl (by kernel_rfl) (by kernel_rfl) (by kernel_rfl) (fun _ _ _ h => h) (Or.inl ⟨by rfl, ?_⟩) (by assumption) ?_
                  rotate_left
                  · intro w' hSw
                    first | (go_simp; with_reducible rfl) | (go_simp; done)
                  try simp only [Act.put, List.setIfInBounds_toArray, List.set_cons_zero, List.set_cons_succ]
                  refine wpAnyH_take (i := 3) (oi := { dst := some 146, op := Go.Op.move (Go.Operand.tmp 15), type := 3, pos := "law.go:146", after := #[{ on := 2, ground := Go.Ground.guard }], guard := some (2, false) }) (v := ?_) rfl (by kernel_rfl) (by kernel_rfl) (by kernel_rfl) (fun _ _ _ h => h) (Or.inl ⟨by rfl, ?_⟩) (by assumption) ?_
                  rotate_left
                  · intro w' hSw
                    first | (go_simp; with_reducible rfl) | (go_simp; done)
                  try simp only [Act.put, List.setIfInBounds_toArray, List.set_cons_zero, List.set_cons_succ]
                  refine wpAnyH_take (i := 4) (oi := { dst := some 147, op := Go.Op.binOp Go.BinOp.lss 3 (Go.Operand.tmp 146) (Go.Operand.const (Go.Value.int Go.IntKind.i64 1)) 3, type := 4, pos := "law.go:146", after := #[{ on := 3, ground := Go.Ground.data }, { on := 2, ground := Go.Ground.guard }], guard := some (2, false) }) (v := ?_) rfl (by kernel_rfl) (by kernel_rfl) (by kernel_rfl) (fun _ _ _ h => h) (Or.inl ⟨by rfl, ?_⟩) (by assumption) ?_
                  rotate_left
                  · intro w' hSw
                    first | (go_simp; with_reducible rfl) | (go_simp; done)
                  try simp only [Act.put, List.setIfInBounds_toArray, List.set_cons_zero, List.set_cons_succ]
                  refine wpAnyH_take (i := 5) (oi := { dst := some 148, op := Go.Op.pick (Go.Operand.tmp 145) (Go.Operand.const (Go.Value.bool true)) (Go.Operand.tmp 147), type := 4, pos := "law.go:146", after := #[{ on := 2, ground := Go.Ground.data }, { on := 4, ground := Go.Ground.data }], guard := none }) (v := ?_) rfl (by kernel_rfl) (by kernel_rfl) (by kernel_rfl) (fun _ _ _ h => h) (Or.inl ⟨by rfl, ?_⟩) (by assumption) ?_
                  rotate_left
                  · intro w' hSw
                    first | (go_simp; with_reducible rfl) | (go_simp; done)
                  try simp only [Act.put, List.setIfInBounds_toArray, List.set_cons_zero, List.set_cons_succ]
                  refine wpAnyH_take (i := 6) (oi := { dst := some 149, op := Go.Op.move (Go.Operand.tmp 148), type := 4, pos := "law.go:146", after := #[{ on := 5, ground := Go.Ground.data }, { on := 2, ground := Go.Ground.chain }], guard := none }) (v := ?_) rfl (by kernel_rfl) (by kernel_rfl) (by kernel_rfl) (fun _ _ _ h => h) (Or.inl ⟨by rfl, ?_⟩) (by assumption) ?_
                  rotate_left
                  · intro w' hSw
                    first | (go_simp; with_reducible rfl) | (go_simp; done)
                  try simp only [Act.put, List.setIfInBounds_toArray, List.set_cons_zero, List.set_cons_succ]
                  refine wpAnyH_take (i := 7) (oi := { dst := some 150, op := Go.Op.move (Go.Operand.tmp 14), type := 3, pos := "law.go:146", after := #[{ on := 6, ground := Go.Ground.guard }], guard := some (6, false) }) (v := ?_) rfl (by kernel_rfl) (by kernel_rfl) (by kernel_rfl) (fun _ _ _ h => h) (Or.inl ⟨by rfl, ?_⟩) (by assumption) ?_
                  rotate_left
                  · intro w' hSw
                    first | (go_simp; with_reducible rfl) | (go_simp; done)
                  try simp only [Act.put, List.setIfInBounds_toArray, List.set_cons_zero, List.set_cons_succ]
                  refine wpAnyH_take (i := 8) (oi := { dst := some 151, op := Go.Op.binOp Go.BinOp.gtr 3 (Go.Operand.tmp 150) (Go.Operand.const (Go.Value.int Go.IntKind.i64 0)) 3, type := 4, pos := "law.go:146", after := #[{ on := 7, ground := Go.Ground.data }, { on := 6, ground := Go.Ground.guard }], guard := some (6, false) }) (v := .bool true) rfl (by kernel_rfl) (by kernel_rfl) (by kernel_rfl) (fun _ _ _ h => h) (Or.inl ⟨by rfl, fun w' hSw => ?_⟩) (by assumption) ?_
                  · go_simp
                    first | done | rfl | omega | (rw [hgt]; done) | (simp; omega) | (have := I0.out; omega)
                  try simp only [Act.put, List.setIfInBounds_toArray, List.set_cons_zero, List.set_cons_succ]
                  refine wpAnyH_take (i := 9) (oi := { dst := some 152, op := Go.Op.move (Go.Operand.tmp 151), type := 4, pos := "law.go:146", after := #[{ on := 8, ground := Go.Ground.data }, { on := 6, ground := Go.Ground.chain }, { on := 6, ground := Go.Ground.guard }], guard := some (6, false) }) (v := ?_) rfl (by kernel_rfl) (by kernel_rfl) (by kernel_rfl) (fun _ _ _ h => h) (Or.inl ⟨by rfl, ?_⟩) (by assumption) ?_
                  rotate_left
                  · intro w' hSw
                    first | (go_simp; with_reducible rfl) | (go_simp; done)
                  try simp only [Act.put, List.setIfInBounds_toArray, List.set_cons_zero, List.set_cons_succ]
                  refine wpAnyH_take (i := 10) (oi := { dst := some 153, op := Go.Op.move (Go.Operand.tmp 13), type := 22, pos := "law.go:146", after := #[{ on := 9, ground := Go.Ground.guard }], guard := some (9, true) }) (v := ?_) rfl (by kernel_rfl) (by kernel_rfl) (by kernel_rfl) (fun _ _ _ h => h) (Or.inl ⟨by rfl, ?_⟩) (by assumption) ?_
                  rotate_left
                  · intro w' hSw
                    first | (go_simp; with_reducible rfl) | (go_simp; done)
                  try simp only [Act.put, List.setIfInBounds_toArray, List.set_cons_zero, List.set_cons_succ]
                  refine wpAnyH_take (i := 11) (oi := { dst := some 154, op := Go.Op.move (Go.Operand.tmp 14), type := 3, pos := "law.go:146", after := #[{ on := 9, ground := Go.Ground.guard }], guard := some (9, true) }) (v := ?_) rfl (by kernel_rfl) (by kernel_rfl) (by kernel_rfl) (fun _ _ _ h => h) (Or.inl ⟨by rfl, ?_⟩) (by assumption) ?_
                  rotate_left
                  · intro w' hSw
                    first | (go_simp; with_reducible rfl) | (go_simp; done)
                  try simp only [Act.put, List.setIfInBounds_toArray, List.set_cons_zero, List.set_cons_succ]
                  refine wpAnyH_take (i := 12) (oi := { dst := some 155, op := Go.Op.binOp Go.BinOp.sub 3 (Go.Operand.tmp 154) (Go.Operand.const (Go.Value.int Go.IntKind.i64 1)) 3, type := 3, pos := "law.go:146", after := #[{ on := 11, ground := Go.Ground.data }, { on := 9, ground := Go.Ground.guard }], guard := some (9, true) }) (v := ?_) rfl (by kernel_rfl) (by kernel_rfl) (by kernel_rfl) (fun _ _ _ h => h) (Or.inl ⟨by rfl, ?_⟩) (by assumption) ?_
                  rotate_left
                  · intro w' hSw
                    first | (go_simp; with_reducible rfl) | (go_simp; done)
                  try simp only [Act.put, List.setIfInBounds_toArray, List.set_cons_zero, List.set_cons_succ]
                  refine wpAnyH_take (i := 13) (oi := { dst := some 156, op := Go.Op.indexAddr 22 (Go.Operand.tmp 153) (Go.Operand.tmp 155), type := 0, pos := "law.go:146", after := #[{ on := 10, ground := Go.Ground.data }, { on := 12, ground := Go.Ground.data }, { on := 9, ground := Go.Ground.guard }], guard := some (9, true) }) (v := ?_) rfl (by kernel_rfl) (by kernel_rfl) (by kernel_rfl) (fun _ _ _ h => h) (Or.inl ⟨by rfl, ?_⟩) (by assumption) ?_
                  rotate_left
                  · intro w' hSw
                    first | (go_simp; with_reducible rfl) | (go_simp; done)
                  try simp only [Act.put, List.setIfInBounds_toArray, List.set_cons_zero, List.set_cons_succ]
                  refine wpAnyH_take (i := 14) (oi := { dst := some 157, op := Go.Op.load 3 (Go.Operand.tmp 156), type := 3, pos := "law.go:146", after := #[{ on := 13, ground := Go.Ground.data }, { on := 9, ground := Go.Ground.guard }], guard := some (9, true) }) (v := ?_) rfl (by kernel_rfl) (by kernel_rfl) (by kernel_rfl) (fun _ _ _ h => h) (Or.inl ⟨by rfl, ?_⟩) (by assumption) ?_
                  rotate_left
                  · intro w' hSw
                    have h1 := Hp.K.cell hSw hcj
                    first | (go_simp; with_reducible rfl) | (go_simp; done)
                  try simp only [Act.put, List.setIfInBounds_toArray, List.set_cons_zero, List.set_cons_succ]
                  refine wpAnyH_take (i := 15) (oi := { dst := some 158, op := Go.Op.move (Go.Operand.tmp 13), type := 22, pos := "law.go:146", after := #[{ on := 9, ground := Go.Ground.guard }], guard := some (9, true) }) (v := ?_) rfl (by kernel_rfl) (by kernel_rfl) (by kernel_rfl) (fun _ _ _ h => h) (Or.inl ⟨by rfl, ?_⟩) (by assumption) ?_
                  rotate_left
                  · intro w' hSw
                    first | (go_simp; with_reducible rfl) | (go_simp; done)
                  try simp only [Act.put, List.setIfInBounds_toArray, List.set_cons_zero, List.set_cons_succ]
                  refine wpAnyH_take (i := 16) (oi := { dst := some 159, op := Go.Op.move (Go.Operand.tmp 14), type := 3, pos := "law.go:146", after := #[{ on := 9, ground := Go.Ground.guard }], guard := some (9, true) }) (v := ?_) rfl (by kernel_rfl) (by kernel_rfl) (by kernel_rfl) (fun _ _ _ h => h) (Or.inl ⟨by rfl, ?_⟩) (by assumption) ?_
                  rotate_left
                  · intro w' hSw
                    first | (go_simp; with_reducible rfl) | (go_simp; done)
                  try simp only [Act.put, List.setIfInBounds_toArray, List.set_cons_zero, List.set_cons_succ]
                  refine wpAnyH_take (i := 17) (oi := { dst := some 160, op := Go.Op.indexAddr 22 (Go.Operand.tmp 158) (Go.Operand.tmp 159), type := 0, pos := "law.go:146", after := #[{ on := 15, ground := Go.Ground.data }, { on := 16, ground := Go.Ground.data }, { on := 9, ground := Go.Ground.guard }], guard := some (9, true) }) (v := ?_) rfl (by kernel_rfl) (by kernel_rfl) (by kernel_rfl) (fun _ _ _ h => h) (Or.inl ⟨by rfl, ?_⟩) (by assumption) ?_
                  rotate_left
                  · intro w' hSw
                    first | (go_simp; with_reducible rfl) | (go_simp; done)
                  try simp only [Act.put, List.setIfInBounds_toArray, List.set_cons_zero, List.set_cons_succ]
                  refine wpAnyH_take (i := 18) (oi := { dst := some 161, op := Go.Op.load 3 (Go.Operand.tmp 160), type := 3, pos := "law.go:146", after := #[{ on := 17, ground := Go.Ground.data }, { on := 9, ground := Go.Ground.guard }], guard := some (9, true) }) (v := ?_) rfl (by kernel_rfl) (by kernel_rfl) (by kernel_rfl) (fun _ _ _ h => h) (Or.inl ⟨by rfl, ?_⟩) (by assumption) ?_
                  rotate_left
                  · intro w' hSw
                    have h1 := Hp.K.cell hSw hcx7
                    first | (go_simp; with_reducible rfl) | (go_simp; done)
                  try simp only [Act.put, List.setIfInBounds_toArray, List.set_cons_zero, List.set_cons_succ]
                  refine wpAnyH_take (i := 19) (oi := { dst := some 162, op := Go.Op.binOp Go.BinOp.geq 3 (Go.Operand.tmp 157) (Go.Operand.tmp 161) 3, type := 4, pos := "law.go:146", after := #[{ on := 14, ground := Go.Ground.data }, { on := 18, ground := Go.Ground.data }, { on := 9, ground := Go.Ground.guard }], guard := some (9, true) }) (v := ?_) rfl (by kernel_rfl) (by kernel_rfl) (by kernel_rfl) (fun _ _ _ h => h) (Or.inl ⟨by rfl, ?_⟩) (by assumption) ?_
                  rotate_left
                  · intro w' hSw
                    first | (go_simp; with_reducible rfl) | (go_simp; done)
                  try simp only [Act.put, List.setIfInBounds_toArray, List.set_cons_zero, List.set_cons_succ]
                  refine wpAnyH_take (i := 20) (oi := { dst := some 163, op := Go.Op.pick (Go.Operand.tmp 152) (Go.Operand.tmp 162) (Go.Operand.const (Go.Value.bool false)), type := 4, pos := "law.go:146", after := #[{ on := 9, ground := Go.Ground.data }, { on := 19, ground := Go.Ground.data }, { on := 6, ground := Go.Ground.guard }], guard := some (6, false) }) (v := ?_) rfl (by kernel_rfl) (by kernel_rfl) (by kernel_rfl) (fun _ _ _ h => h) (Or.inl ⟨by rfl, ?_⟩) (by assumption) ?_
                  rotate_left
                  · intro w' hSw
                    first | (go_simp; with_reducible rfl) | (go_simp; done)
                  try simp only [Act.put, List.setIfInBounds_toArray, List.set_cons_zero, List.set_cons_succ]
                  refine wpAnyH_take (i := 21) (oi := { dst := some 164, op := Go.Op.pick (Go.Operand.tmp 149) (Go.Operand.const (Go.Value.bool true)) (Go.Operand.tmp 163), type := 4, pos := "law.go:146", after := #[{ on := 6, ground := Go.Ground.data }, { on := 20, ground := Go.Ground.data }], guard := none }) (v := ?_) rfl (by kernel_rfl) (by kernel_rfl) (by kernel_rfl) (fun _ _ _ h => h) (Or.inl ⟨by rfl, ?_⟩) (by assumption) ?_
                  rotate_left
                  · intro w' hSw
                    first | (go_simp; with_reducible rfl) | (go_simp; done)
                  try simp only [Act.put, List.setIfInBounds_toArray, List.set_cons_zero, List.set_cons_succ]
                  refine wpAnyH_take (i := 22) (oi := { dst := some 165, op := Go.Op.move (Go.Operand.tmp 164), type := 4, pos := "law.go:146", after := #[{ on := 21, ground := Go.Ground.data }, { on := 9, ground := Go.Ground.chain }], guard := none }) (v := ?_) rfl (by kernel_rfl) (by kernel_rfl) (by kernel_rfl) (fun _ _ _ h => h) (Or.inl ⟨by rfl, ?_⟩) (by assumption) ?_
                  rotate_left
                  · intro w' hSw
                    first | (go_simp; with_reducible rfl) | (go_simp; done)
                  try simp only [Act.put, List.setIfInBounds_toArray, List.set_cons_zero, List.set_cons_succ]
                  refine wpAnyH_take (i := 23) (oi := { dst := some 166, op := Go.Op.move (Go.Operand.tmp 7), type := 26, pos := "law.go:146", after := #[{ on := 22, ground := Go.Ground.guard }], guard := some (22, false) }) (v := ?_) rfl (by kernel_rfl) (by kernel_rfl) (by kernel_rfl) (fun _ _ _ h => h) (Or.inl ⟨by rfl, ?_⟩) (by assumption) ?_
                  rotate_left
                  · intro w' hSw
                    first | (go_simp; with_reducible rfl) | (go_simp; done)
                  try simp only [Act.put, List.setIfInBounds_toArray, List.set_cons_zero, List.set_cons_succ]
                  refine wpAnyH_take (i := 24) (oi := { dst := some 167, op := Go.Op.move (Go.Operand.tmp 13), type := 22, pos := "law.go:146", after := #[{ on := 22, ground := Go.Ground.guard }], guard := some (22, false) }) (v := ?_) rfl (by kernel_rfl) (by kernel_rfl) (by kernel_rfl) (fun _ _ _ h => h) (Or.inl ⟨by rfl, ?_⟩) (by assumption) ?_
                  rotate_left
                  · intro w' hSw
                    first | (go_simp; with_reducible rfl) | (go_simp; done)
                  try simp only [Act.put, List.setIfInBounds_toArray, List.set_cons_zero, List.set_cons_succ]
                  refine wpAnyH_take (i := 25) (oi := { dst := some 168, op := Go.Op.move (Go.Operand.tmp 14), type := 3, pos := "law.go:146", after := #[{ on := 22, ground := Go.Ground.guard }], guard := some (22, false) }) (v := ?_) rfl (by kernel_rfl) (by kernel_rfl) (by kernel_rfl) (fun _ _ _ h => h) (Or.inl ⟨by rfl, ?_⟩) (by assumption) ?_
                  rotate_left
                  · intro w' hSw
                    first | (go_simp; with_reducible rfl) | (go_simp; done)
                  try simp only [Act.put, List.setIfInBounds_toArray, List.set_cons_zero, List.set_cons_succ]
                  refine wpAnyH_take (i := 26) (oi := { dst := some 169, op := Go.Op.indexAddr 22 (Go.Operand.tmp 167) (Go.Operand.tmp 168), type := 0, pos := "law.go:146", after := #[{ on := 24, ground := Go.Ground.data }, { on := 25, ground := Go.Ground.data }, { on := 22, ground := Go.Ground.guard }], guard := some (22, false) }) (v := ?_) rfl (by kernel_rfl) (by kernel_rfl) (by kernel_rfl) (fun _ _ _ h => h) (Or.inl ⟨by rfl, ?_⟩) (by assumption) ?_
                  rotate_left
                  · intro w' hSw
                    first | (go_simp; with_reducible rfl) | (go_simp; done)
                  try simp only [Act.put, List.setIfInBounds_toArray, List.set_cons_zero, List.set_cons_succ]
                  refine wpAnyH_take (i := 27) (oi := { dst := some 170, op := Go.Op.load 3 (Go.Operand.tmp 169), type := 3, pos := "law.go:146", after := #[{ on := 26, ground := Go.Ground.data }, { on := 22, ground := Go.Ground.guard }], guard := some (22, false) }) (v := ?_) rfl (by kernel_rfl) (by kernel_rfl) (by kernel_rfl) (fun _ _ _ h => h) (Or.inl ⟨by rfl, ?_⟩) (by assumption) ?_
                  rotate_left
                  · intro w' hSw
                    have h1 := Hp.K.cell hSw hcx7
                    first | (go_simp; with_reducible rfl) | (go_simp; done)
                  try simp only [Act.put, List.setIfInBounds_toArray, List.set_cons_zero, List.set_cons_succ]
                  refine wpAnyH_take (i := 28) (oi := { dst := some 171, op := Go.Op.binOp Go.BinOp.quo 3 (Go.Operand.tmp 170) (Go.Operand.const (Go.Value.int Go.IntKind.i64 64)) 3, type := 3, pos := "law.go:146", after := #[{ on := 27, ground := Go.Ground.data }, { on := 22, ground := Go.Ground.guard }], guard := some (22, false) }) (v := ?_) rfl (by kernel_rfl) (by kernel_rfl) (by kernel_rfl) (fun _ _ _ h => h) (Or.inl ⟨by rfl, ?_⟩) (by assumption) ?_
                  rotate_left
                  · intro w' hSw
                    first | (go_simp; with_reducible rfl) | (go_simp; done)
                  try simp only [Act.put, List.setIfInBounds_toArray, List.set_cons_zero, List.set_cons_succ]
                  refine wpAnyH_ready (rs := [29]) (by kernel_rfl) (by simp) ?_
                  refine AllReadyH.cons (o := { dst := some 172, op := Go.Op.call { callee := Go.Callee.value (Go.Operand.func 11), args := #[Go.Operand.tmp 166, Go.Operand.tmp 171], argTypes := #[26, 3] }, type := 4, pos := "law.go:146", after := #[{ on := 23, ground := Go.Ground.data }, { on := 28, ground := Go.Ground.data }, { on := 22, ground := Go.Ground.chain }, { on := 22, ground := Go.Ground.guard }], guard := some (22, false) }) rfl (fun KK hK => ?_) AllReadyH.nil
                  go_simp
                  rw [WE.out.1]
                  refine (q1 _ hHeld).mono ?_
                  rintro e V1 ⟨rfl, rfl⟩
                  have kS := hHeld
                  go_wp2_with fail
                  refine hK.out _ _ kS (fun _ => ?_)
                  clear hK KK
                  try simp only [Act.put, List.setIfInBounds_toArray, List.set_cons_zero, List.set_cons_succ]
                  refine wpAnyH_take (i := 30) (oi := { dst := some 173, op := Go.Op.unOp Go.UnOp.not 4 (Go.Operand.tmp 172), type := 4, pos := "law.go:146", after := #[{ on := 29, ground := Go.Ground.data }, { on := 22, ground := Go.Ground.guard }], guard := some (22, false) }) (v := ?_) rfl (by kernel_rfl) (by kernel_rfl) (by kernel_rfl) (fun _ _ _ h => h) (Or.inl ⟨by rfl, ?_⟩) (by assumption) ?_
                  rotate_left
                  · intro w' hSw
                    first | (go_simp; with_reducible rfl) | (go_simp; done)
                  try simp only [Act.put, List.setIfInBounds_toArray, List.set_cons_zero, List.set_cons_succ]
                  refine wpAnyH_take (i := 31) (oi := { dst := some 174, op := Go.Op.pick (Go.Operand.tmp 165) (Go.Operand.const (Go.Value.bool true)) (Go.Operand.tmp 173), type := 4, pos := "law.go:146", after := #[{ on := 22, ground := Go.Ground.data }, { on := 30, ground := Go.Ground.data }], guard := none }) (v := ?_) rfl (by kernel_rfl) (by kernel_rfl) (by kernel_rfl) (fun _ _ _ h => h) (Or.inl ⟨by rfl, ?_⟩) (by assumption) ?_
                  rotate_left
                  · intro w' hSw
                    first | (go_simp; with_reducible rfl) | (go_simp; done)
                  try simp only [Act.put, List.setIfInBounds_toArray, List.set_cons_zero, List.set_cons_succ]
                  refine wpAnyH_take (i := 32) (oi := { dst := some 175, op := Go.Op.move (Go.Operand.tmp 174), type := 4, pos := "law.go:146", after := #[{ on := 31, ground := Go.Ground.data }, { on := 29, ground := Go.Ground.chain }], guard := none }) (v := ?_) rfl (by kernel_rfl) (by kernel_rfl) (by kernel_rfl) (fun _ _ _ h => h) (Or.inl ⟨by rfl, ?_⟩) (by assumption) ?_
                  rotate_left
                  · intro w' hSw
                    first | (go_simp; with_reducible rfl) | (go_simp; done)
                  try simp only [Act.put, List.setIfInBounds_toArray, List.set_cons_zero, List.set_cons_succ]
                  refine wpAnyH_take (i := 33) (oi := { dst := some 176, op := Go.Op.move (Go.Operand.tmp 7), type := 26, pos := "law.go:146", after := #[{ on := 32, ground := Go.Ground.guard }], guard := some (32, false) }) (v := ?_) rfl (by kernel_rfl) (by kernel_rfl) (by kernel_rfl) (fun _ _ _ h => h) (Or.inl ⟨by rfl, ?_⟩) (by assumption) ?_
                  rotate_left
                  · intro w' hSw
                    first | (go_simp; with_reducible rfl) | (go_simp; done)
                  try simp only [Act.put, List.setIfInBounds_toArray, List.set_cons_zero, List.set_cons_succ]
                  refine wpAnyH_take (i := 34) (oi := { dst := some 177, op := Go.Op.move (Go.Operand.tmp 13), type := 22, pos := "law.go:146", after := #[{ on := 32, ground := Go.Ground.guard }], guard := some (32, false) }) (v := ?_) rfl (by kernel_rfl) (by kernel_rfl) (by kernel_rfl) (fun _ _ _ h => h) (Or.inl ⟨by rfl, ?_⟩) (by assumption) ?_
                  rotate_left
                  · intro w' hSw
                    first | (go_simp; with_reducible rfl) | (go_simp; done)
                  try simp only [Act.put, List.setIfInBounds_toArray, List.set_cons_zero, List.set_cons_succ]
                  refine wpAnyH_take (i := 35) (oi := { dst := some 178, op := Go.Op.move (Go.Operand.tmp 14), type := 3, pos := "law.go:146", after := #[{ on := 32, ground := Go.Ground.guard }], guard := some (32, false) }) (v := ?_) rfl (by kernel_rfl) (by kernel_rfl) (by kernel_rfl) (fun _ _ _ h => h) (Or.inl ⟨by rfl, ?_⟩) (by assumption) ?_
                  rotate_left
                  · intro w' hSw
                    first | (go_simp; with_reducible rfl) | (go_simp; done)
                  try simp only [Act.put, List.setIfInBounds_toArray, List.set_cons_zero, List.set_cons_succ]
                  refine wpAnyH_take (i := 36) (oi := { dst := some 179, op := Go.Op.indexAddr 22 (Go.Operand.tmp 177) (Go.Operand.tmp 178), type := 0, pos := "law.go:146", after := #[{ on := 34, ground := Go.Ground.data }, { on := 35, ground := Go.Ground.data }, { on := 32, ground := Go.Ground.guard }], guard := some (32, false) }) (v := ?_) rfl (by kernel_rfl) (by kernel_rfl) (by kernel_rfl) (fun _ _ _ h => h) (Or.inl ⟨by rfl, ?_⟩) (by assumption) ?_
                  rotate_left
                  · intro w' hSw
                    first | (go_simp; with_reducible rfl) | (go_simp; done)
                  try simp only [Act.put, List.setIfInBounds_toArray, List.set_cons_zero, List.set_cons_succ]
                  refine wpAnyH_take (i := 37) (oi := { dst := some 180, op := Go.Op.load 3 (Go.Operand.tmp 179), type := 3, pos := "law.go:146", after := #[{ on := 36, ground := Go.Ground.data }, { on := 32, ground := Go.Ground.guard }], guard := some (32, false) }) (v := ?_) rfl (by kernel_rfl) (by kernel_rfl) (by kernel_rfl) (fun _ _ _ h => h) (Or.inl ⟨by rfl, ?_⟩) (by assumption) ?_
                  rotate_left
                  · intro w' hSw
                    have h1 := Hp.K.cell hSw hcx7
                    first | (go_simp; with_reducible rfl) | (go_simp; done)
                  try simp only [Act.put, List.setIfInBounds_toArray, List.set_cons_zero, List.set_cons_succ]
                  refine wpAnyH_take (i := 38) (oi := { dst := some 181, op := Go.Op.move (Go.Operand.tmp 15), type := 3, pos := "law.go:146", after := #[{ on := 32, ground := Go.Ground.guard }], guard := some (32, false) }) (v := ?_) rfl (by kernel_rfl) (by kernel_rfl) (by kernel_rfl) (fun _ _ _ h => h) (Or.inl ⟨by rfl, ?_⟩) (by assumption) ?_
                  rotate_left
                  · intro w' hSw
                    first | (go_simp; with_reducible rfl) | (go_simp; done)
                  try simp only [Act.put, List.setIfInBounds_toArray, List.set_cons_zero, List.set_cons_succ]
                  refine wpAnyH_take (i := 39) (oi := { dst := some 182, op := Go.Op.binOp Go.BinOp.add 3 (Go.Operand.tmp 180) (Go.Operand.tmp 181) 3, type := 3, pos := "law.go:146", after := #[{ on := 37, ground := Go.Ground.data }, { on := 38, ground := Go.Ground.data }, { on := 32, ground := Go.Ground.guard }], guard := some (32, false) }) (v := ?_) rfl (by kernel_rfl) (by kernel_rfl) (by kernel_rfl) (fun _ _ _ h => h) (Or.inl ⟨by rfl, ?_⟩) (by assumption) ?_
                  rotate_left
                  · intro w' hSw
                    first | (go_simp; with_reducible rfl) | (go_simp; done)
                  try simp only [Act.put, List.setIfInBounds_toArray, List.set_cons_zero, List.set_cons_succ]
                  refine wpAnyH_take (i := 40) (oi := { dst := some 183, op := Go.Op.binOp Go.BinOp.sub 3 (Go.Operand.tmp 182) (Go.Operand.const (Go.Value.int Go.IntKind.i64 1)) 3, type := 3, pos := "law.go:146", after := #[{ on := 39, ground := Go.Ground.data }, { on := 32, ground := Go.Ground.guard }], guard := some (32, false) }) (v := ?_) rfl (by kernel_rfl) (by kernel_rfl) (by kernel_rfl) (fun _ _ _ h => h) (Or.inl ⟨by rfl, ?_⟩) (by assumption) ?_
                  rotate_left
                  · intro w' hSw
                    first | (go_simp; with_reducible rfl) | (go_simp; done)
                  try simp only [Act.put, List.setIfInBounds_toArray, List.set_cons_zero, List.set_cons_succ]
                  refine wpAnyH_take (i := 41) (oi := { dst := some 184, op := Go.Op.binOp Go.BinOp.quo 3 (Go.Operand.tmp 183) (Go.Operand.const (Go.Value.int Go.IntKind.i64 64)) 3, type := 3, pos := "law.go:146", after := #[{ on := 40, ground := Go.Ground.data }, { on := 32, ground := Go.Ground.guard }], guard := some (32, false) }) (v := ?_) rfl (by kernel_rfl) (by kernel_rfl) (by kernel_rfl) (fun _ _ _ h => h) (Or.inl ⟨by rfl, ?_⟩) (by assumption) ?_
                  rotate_left
                  · intro w' hSw
                    first | (go_simp; with_reducible rfl) | (go_simp; done)
                  try simp only [Act.put, List.setIfInBounds_toArray, List.set_cons_zero, List.set_cons_succ]
                  refine wpAnyH_ready (rs := [42]) (by kernel_rfl) (by simp) ?_
                  refine AllReadyH.cons (o := { dst := some 185, op := Go.Op.call { callee := Go.Callee.value (Go.Operand.func 11), args := #[Go.Operand.tmp 176, Go.Operand.tmp 184], argTypes := #[26, 3] }, type := 4, pos := "law.go:146", after := #[{ on := 33, ground := Go.Ground.data }, { on := 41, ground := Go.Ground.data }, { on := 32, ground := Go.Ground.chain }, { on := 32, ground := Go.Ground.guard }], guard := some (32, false) }) rfl (fun KK hK => ?_) AllReadyH.nil
                  go_simp
                  rw [WE.out.2.1, WE.out.2.2.1, WE.out.2.2.2]
                  refine (q2 _ hHeld).mono ?_
                  rintro e V2 ⟨rfl, rfl⟩
                  have kS := hHeld
                  go_wp2_with fail
                  refine hK.out _ _ kS (fun _ => ?_)
                  clear hK KK
                  try simp only [Act.put, List.setIfInBounds_toArray, List.set_cons_zero, List.set_cons_succ]
                  refine wpAnyH_take (i := 43) (oi := { dst := some 186, op := Go.Op.unOp Go.UnOp.not 4 (Go.Operand.tmp 185), type := 4, pos := "law.go:146", after := #[{ on := 42, ground := Go.Ground.data }, { on := 32, ground := Go.Ground.guard }], guard := some (32, false) }) (v := ?_) rfl (by kernel_rfl) (by kernel_rfl) (by kernel_rfl) (fun _ _ _ h => h) (Or.inl ⟨by rfl, ?_⟩) (by assumption) ?_
                  rotate_left
                  · intro w' hSw
                    first | (go_simp; with_reducible rfl) | (go_simp; done)
                  try simp only [Act.put, List.setIfInBounds_toArray, List.set_cons_zero, List.set_cons_succ]
                  refine wpAnyH_take (i := 44) (oi := { dst := some 187, op := Go.Op.pick (Go.Operand.tmp 175) (Go.Operand.const (Go.Value.bool true)) (Go.Operand.tmp 186), type := 4, pos := "law.go:146", after := #[{ on := 32, ground := Go.Ground.data }, { on := 43, ground := Go.Ground.data }], guard := none }) (v := ?_) rfl (by kernel_rfl) (by kernel_rfl) (by kernel_rfl) (fun _ _ _ h => h) (Or.inl ⟨by rfl, ?_⟩) (by assumption) ?_
                  rotate_left
                  · intro w' hSw
                    first | (go_simp; with_reducible rfl) | (go_simp; done)
                  try simp only [Act.put, List.setIfInBounds_toArray, List.set_cons_zero, List.set_cons_succ]
                  refine wpAnyH_done (by kernel_rfl) ?_ _
                  have kE : K w7 w7.drew := hHeld
                  go_wp2_with fail
                  go_roundg (X.length - (i + 1))
                  case measure => omega
                  case rel => exact ⟨i + 1, by omega, by go_num, Hp.K.trans K7.out kE⟩
              · obtain ⟨KX⟩ : Nonempty (Aside (K w wr)) := ⟨Hp.K.trans K06.out KI.out⟩
                clear KI BS row6 K56 K06
                generalize wr = wq at *
                have mdx := md.out _ KX.out
                go_wp2_with fail
                refine mdx.mono ?_
                rintro e v1 ⟨bh2, bs2, bm2, rfl, rn2⟩
                have S0 : Aside (Pe wq (v1.alloc (.cells #[.int .i64 4000, .slice none 0 0] 46)) bh2 bs2 bm2 v1.heap.size 4000 [] []) := start_pe rn2.out (by omega)
                clear mdx rn2
                go_wp2_with fail
                generalize v1.heap.size = br at *
                generalize v1.alloc (.cells #[.int .i64 4000, .slice none 0 0] 46) = v2 at *
                go_loopg [21] len2 (fun gh t wx => ∃ (i : Nat) (L : List Pg), i + gh = len2 ∧ t = .int .i64 i ∧ Aside (Pe wq wx bh2 bs2 bm2 br 4000 L L))
                case atStart => exact ⟨0, [], by omega, rfl, S0⟩
                case round =>
                  obtain ⟨i, L, hig, rfl, HO⟩ := hrel
                  clear S0
                  by_cases hlt : i < len2
                  · have hix := HS.out.ix i hlt
                    have kk : K w wr := Hp.K.trans KX.out (Pe.k HO.out)
                    have c0 := Hp.K.cell kk (HS.out.cell i hlt).c0
                    have c1 := Hp.K.cell kk (HS.out.cell i hlt).c1
                    have hplay := play_any HO.out (sz i).d (sz i).n (HS.out.ok i).n
                    clear kk
                    go_wp2_with fail
                    refine hplay.mono ?_
                    rintro e v3 ⟨rfl, L', HP⟩
                    have HP2 : Aside (Pe wq v3 bh2 bs2 bm2 br 4000 L' L') := HP
                    clear hplay HP c0 c1
                    go_wp2_with fail
                    go_roundg (len2 - (i + 1))
                    case measure => omega
                    case rel => exact ⟨i + 1, L', by omega, by go_num, HP2⟩
                  · obtain rfl : i = len2 := by omega
                    have cn2 := Pe.renew HO.out (by omega)
                    clear HO
                    go_wp2_with fail
                    refine cn2.mono ?_
                    rintro e v4 ⟨rfl, HB⟩
                    have cl1 := HB.out.1.live v4 (K.refl v4)
                    have fw := HB.out.1.few
                    clear cn2
                    go_wp2_with fail
                    refine cl1.mono ?_
                    rintro e v5 ⟨x1, rfl, row1, k5⟩
                    have cl2 := HB.out.2.1.live v5 k5
                    have K5 : Aside (K v4 v5) := k5
                    clear cl1 k5
                    go_wp2_with fail
                    refine cl2.mono ?_
                    rintro e v6 ⟨x2, rfl, row2, k6⟩
                    have row1' : Aside (v6.ownsRow v4.heap.size 3 1 x1 (liveL L).length ((liveL L).map encI)) := ownsRow_kept row1.out k6 (fun _ _ z => z)
                    have cs := rSameI_any row1'.out row2.out rfl fw
                    have K6 : Aside (K v4 v6) := Hp.K.trans K5.out k6
                    clear cl2 k6 row1 row1' row2 K5
                    go_wp2_with fail
                    refine cs.mono ?_
                    rintro e v7 ⟨rfl, k7⟩
                    have cx := ca.out _ (Hp.K.trans (Hp.K.trans KX.out HB.out.2.2) (Hp.K.trans K6.out k7))
                    clear cs k7
                    go_wp2_with fail
                    refine cx.mono ?_
                    rintro e v8 ⟨rfl, k8⟩
                    go_wp2_with fail
                    go_ret
                    exact ⟨rfl, k8⟩
          · obtain rfl := h8 hau
            have KX : Aside (K w w5) := Hp.K.trans KR.out k5
            clear h0 h8 hau hw5 k5 KR ar
            have mdx := md.out _ KX.out
            go_wp2_with fail
            refine mdx.mono ?_
            rintro e v1 ⟨bh2, bs2, bm2, rfl, rn2⟩
            have S0 : Aside (Pe w5 (v1.alloc (.cells #[.int .i64 4000, .slice none 0 0] 46)) bh2 bs2 bm2 v1.heap.size 4000 [] []) := start_pe rn2.out (by omega)
            clear mdx rn2
            go_wp2_with fail
            generalize v1.heap.size = br at *
            generalize v1.alloc (.cells #[.int .i64 4000, .slice none 0 0] 46) = v2 at *
            go_loopg [21] len2 (fun gh t wx => ∃ (i : Nat) (L : List Pg), i + gh = len2 ∧ t = .int .i64 i ∧ Aside (Pe w5 wx bh2 bs2 bm2 br 4000 L L))
            case atStart => exact ⟨0, [], by omega, rfl, S0⟩
            case round =>
              obtain ⟨i, L, hig, rfl, HO⟩ := hrel
              clear S0
              by_cases hlt : i < len2
              · have hix := HS.out.ix i hlt
                have kk : K w wr := Hp.K.trans KX.out (Pe.k HO.out)
                have c0 := Hp.K.cell kk (HS.out.cell i hlt).c0
                have c1 := Hp.K.cell kk (HS.out.cell i hlt).c1
                have hplay := play_any HO.out (sz i).d (sz i).n (HS.out.ok i).n
                clear kk
                go_wp2_with fail
                refine hplay.mono ?_
                rintro e v3 ⟨rfl, L', HP⟩
                have HP2 : Aside (Pe w5 v3 bh2 bs2 bm2 br 4000 L' L') := HP
                clear hplay HP c0 c1
                go_wp2_with fail
                go_roundg (len2 - (i + 1))
                case measure => omega
                case rel => exact ⟨i + 1, L', by omega, by go_num, HP2⟩
              · obtain rfl : i = len2 := by omega
                have cn2 := Pe.renew HO.out (by omega)
                clear HO
                go_wp2_with fail
                refine cn2.mono ?_
                rintro e v4 ⟨rfl, HB⟩
                have cl1 := HB.out.1.live v4 (K.refl v4)
                have fw := HB.out.1.few
                clear cn2
                go_wp2_with fail
                refine cl1.mono ?_
                rintro e v5 ⟨x1, rfl, row1, k5⟩
                have cl2 := HB.out.2.1.live v5 k5
                have K5 : Aside (K v4 v5) := k5
                clear cl1 k5
                go_wp2_with fail
                refine cl2.mono ?_
                rintro e v6 ⟨x2, rfl, row2, k6⟩
                have row1' : Aside (v6.ownsRow v4.heap.size 3 1 x1 (liveL L).length ((liveL L).map encI)) := ownsRow_kept row1.out k6 (fun _ _ z => z)
                have cs := rSameI_any row1'.out row2.out rfl fw
                have K6 : Aside (K v4 v6) := Hp.K.trans K5.out k6
                clear cl2 k6 row1 row1' row2 K5
                go_wp2_with fail
                refine cs.mono ?_
                rintro e v7 ⟨rfl, k7⟩
                have cx := ca.out _ (Hp.K.trans (Hp.K.trans KX.out HB.out.2.2) (Hp.K.trans K6.out k7))
                clear cs k7
                go_wp2_with fail
                refine cx.mono ?_
                rintro e v8 ⟨rfl, k8⟩
                go_wp2_with fail
                go_ret
                exact ⟨rfl, k8⟩

end Hp
end Go.Proofs.YtkjjobafbcdmoaaGreatDoor
