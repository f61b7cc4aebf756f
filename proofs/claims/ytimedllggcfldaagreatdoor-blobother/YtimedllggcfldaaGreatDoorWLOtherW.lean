/-
  The walk of the statement on some blobs, one of them dropped.
-/
import Derived.Test.YtimedllggcfldaaGreatDoorWLVals
import Derived.Test.YtimedllggcfldaaGreatDoorK1
namespace Go.Proofs.YtimedllggcfldaaGreatDoor
open Go.RowKit Go.Maps
attribute [local go_sem ↓] Go.wp_at_zero Go.wp_at_succ
namespace Bb
open Hp (Kept K No granted)
open Hd (U64)
open Go.Proofs.YtimedllggcfldaaGreatDoor.So (Ad Rn Stp sp Hr)

/-- Behind i Puts. -/
structure Ot (w0 w : World) (A : Ad) (vl : Value) (hs : List Int) (gone : Nat → Bool) (ts : Nat → ByteArray) (i : Nat) : Prop where
  ex : ∃ pg W L v T, Rn w0 w A pg W L v T ∧ Hr w0 w A pg v vl hs ∧ granted L ≤ 63 * i ∧ T.length ≤ i ∧ Bv T W hs gone ts
  ln : hs.length = i
theorem Ot.keep {w0 w w' : World} {A : Ad} {vl : Value} {hs : List Int} {gone : Nat → Bool} {ts : Nat → ByteArray} {i : Nat} (h : Ot w0 w A vl hs gone ts i) (k : K w w') : Ot w0 w' A vl hs gone ts i := by
  obtain ⟨pg, W, L, v, T, rn, hr, hg, ht, b⟩ := h.ex
  exact ⟨⟨pg, W, L, v, T, rn.keep k, hr.keep k, hg, ht, b⟩, h.ln⟩
theorem Ot.row {w0 w : World} {A : Ad} {vl : Value} {hs : List Int} {gone : Nat → Bool} {ts : Nat → ByteArray} {i : Nat} (h : Ot w0 w A vl hs gone ts i) : w.ownsRow w0.heap.size 49 1 vl i (hs.map Hd.encU) := by
  obtain ⟨pg, W, L, v, T, rn, hr, _⟩ := h.ex
  have := hr.rl
  rw [h.ln] at this
  exact this
theorem Ot.k {w0 w : World} {A : Ad} {vl : Value} {hs : List Int} {gone : Nat → Bool} {ts : Nat → ByteArray} {i : Nat} (h : Ot w0 w A vl hs gone ts i) : K w0 w := by
  obtain ⟨pg, W, L, v, T, rn, _⟩ := h.ex
  exact rn.k

/-- A handle more in the row: what is put behind it is to be told next. -/
structure Oq (w0 w : World) (A : Ad) (vl : Value) (hs : List Int) (x : Int) (gone : Nat → Bool) (ts : Nat → ByteArray) (i : Nat) : Prop where
  ex : ∃ pg W L v T, Rn w0 w A pg W L v T ∧ Hr w0 w A pg v vl hs ∧ granted L ≤ 63 * (i + 1) ∧ T.length ≤ i + 1 ∧ Bv T W (hs ++ [x]) gone ts
  ln : hs.length = i
theorem Oq.row {w0 w : World} {A : Ad} {vl : Value} {hs : List Int} {x : Int} {gone : Nat → Bool} {ts : Nat → ByteArray} {i : Nat} (h : Oq w0 w A vl hs x gone ts i) : w.ownsRow w0.heap.size 49 1 vl i (hs.map Hd.encU) ∧ w0.heap.size ≤ w.heap.size := by
  obtain ⟨pg, W, L, v, T, rn, hr, _⟩ := h.ex
  have := hr.rl
  rw [h.ln] at this
  exact ⟨this, rn.k.size⟩
theorem Oq.app {w0 w w' : World} {A : Ad} {vl u : Value} {hs : List Int} {x : Int} {gone : Nat → Bool} {ts : Nat → ByteArray} {i : Nat} {o : Obj} (h : Oq w0 w A vl hs x gone ts i) (z0 : 0 < w0.heap.size) (hown : w'.ownsRow w0.heap.size 49 1 u (i + 1) (hs.map Hd.encU ++ [Hd.encU x])) (hg : (w.alloc o).grownBy w' vl.ownBlock) (hat : u.ownBlock = vl.ownBlock ∨ u.ownBlock = some (w.alloc o).heap.size) : Ot w0 w' A u (hs ++ [x]) gone ts (i + 1) := by
  obtain ⟨pg, W, L, v, T, rn, hr, hgr, ht, b⟩ := h.ex
  obtain ⟨h1, h2⟩ := hr.app (x := x) rn z0 (by rw [h.ln]; exact hown) hg hat
  exact ⟨⟨pg, W, L, v, T, h2, h1, by omega, ht, b⟩, by rw [List.length_append, h.ln]; rfl⟩

theorem Ot.put {w0 w : World} {A : Ad} {vl : Value} {hs : List Int} {gone : Nat → Bool} {ts : Nat → ByteArray} {i : Nat} (h : Ot w0 w A vl hs gone ts i) (hq : A.q = 262144) (hm : A.m = 100) (hi : i < 30) (ht : (ts i).size ≤ 1000) (hg : gone i = false) (hz : ∀ (k : Nat) y, hs[k]? = some y → gone k = true → y = 0) :
    Calls Tryz.prog 14 #[sp A.st, .string (ts i)] w fun e w' => ∃ x, e = .returned (.tuple #[.int .u64 x, .int .i64 0]) ∧ Aside (Oq w0 w' A vl hs x gone ts i ∧ x ≠ 0) := by
  obtain ⟨pg, W, L, v, T, rn, hr, hgr, htl, b⟩ := h.ex
  refine (put_room rn (ts i) ht (by rw [hq]; omega) (by rw [hm]; omega)).mono ?_
  rintro e w2 ⟨x, rfl, hx⟩
  obtain ⟨h1, h2, L', pg', W', v', T', hg', f⟩ := hx.out
  exact ⟨x, rfl, ⟨⟨pg', W', L', v', T', f.rn, hr.step f.st, by omega, by have := f.len; omega, b.put ht f h1 h2 hz (by rw [h.ln]; exact hg) (by rw [h.ln])⟩, h.ln⟩, h2⟩

theorem Ot.drop {w0 w : World} {A : Ad} {vl : Value} {hs : List Int} {gone : Nat → Bool} {ts : Nat → ByteArray} {i : Nat} (h : Ot w0 w A vl hs gone ts i) {k : Nat} {x : Int} (hk : hs[k]? = some x) (gk : gone k = false) :
    Calls Tryz.prog 17 #[sp A.st, .int .u64 x] w fun e w' => e = .returned (.int .i64 0) ∧ Aside (∃ pg W L v T, Rn w0 w' A pg W L v T ∧ Hr w0 w' A pg v vl hs ∧ T.length ≤ i ∧ Bv T W hs (fun j => if j = k then true else gone j) ts) := by
  obtain ⟨pg, W, L, v, T, rn, hr, hgr, htl, b⟩ := h.ex
  refine (b.dropOk rn hk gk).mono ?_
  rintro e w2 ⟨rfl, hx⟩
  obtain ⟨pg', W', L', T', rn', hl, b', st⟩ := hx.out
  exact ⟨rfl, pg', W', L', v, T', rn', hr.step st, by omega, b'⟩

/-- Where the handles lie, and what Get tells of each. -/
def Tells (w0 : World) (A : Ad) (vl : Value) (hs : List Int) (gone : Nat → Bool) (ts : Nat → ByteArray) (n : Nat) (w : World) : Prop :=
  hs.length = n ∧ w.ownsRow w0.heap.size 49 1 vl n (hs.map Hd.encU) ∧ K w0 w ∧ ∀ (k : Nat) x, hs[k]? = some x → ∀ w', K w w' → Calls Tryz.prog 15 #[sp A.st, .int .u64 x] w' fun e w'' => e = .returned (.tuple #[.string (if gone k = true then ⟨#[]⟩ else ts k), .int .i64 (if gone k = true then 7 else 0)]) ∧ K w' w''
theorem tells_of {w0 w : World} {A : Ad} {vl : Value} {hs : List Int} {gone : Nat → Bool} {ts : Nat → ByteArray} {n : Nat} (hl : hs.length = n) (h : ∃ pg W L v T, Rn w0 w A pg W L v T ∧ Hr w0 w A pg v vl hs ∧ T.length ≤ n ∧ Bv T W hs gone ts) : Tells w0 A vl hs gone ts n w := by
  obtain ⟨pg, W, L, v, T, rn, hr, _, b⟩ := h
  refine ⟨hl, ?_, rn.k, fun k x hx w' kk => b.get (rn.keep kk) hx⟩
  have := hr.rl
  rw [hl] at this
  exact this
theorem Ot.tells {w0 w : World} {A : Ad} {vl : Value} {hs : List Int} {gone : Nat → Bool} {ts : Nat → ByteArray} {i : Nat} (h : Ot w0 w A vl hs gone ts i) : Tells w0 A vl hs gone ts i w := by
  obtain ⟨pg, W, L, v, T, rn, hr, hgr, ht, b⟩ := h.ex
  exact tells_of h.ln ⟨pg, W, L, v, T, rn, hr, ht, b⟩

/-- Of a row of handles: a place, its cell. -/
theorem row_ix {w0 w : World} {vl : Value} {hs : List Int} {n : Nat} (hl : hs.length = n) (h : w.ownsRow w0.heap.size 49 1 vl n (hs.map Hd.encU)) {k : Nat} (hk : k < n) : ∃ g cap x, vl = .slice (some ⟨g, 0, none⟩) n cap ∧ hs[k]? = some x ∧ w.cell? ⟨g, k, none⟩ = some (.int .u64 x) := by
  obtain ⟨g, a, cap, rfl, ha, hc⟩ := So.row1 h
  obtain ⟨x, hx⟩ : ∃ x, hs[k]? = some x := ⟨_, List.getElem?_eq_getElem (by omega)⟩
  exact ⟨g, cap, x, by rw [ha (by omega)], hx, hc k _ (by rw [List.getElem?_map, hx]; rfl)⟩

set_option maxRecDepth 100000 in
set_option maxHeartbeats 4000000 in
theorem other_main (a0 : Option Addr) (b off len cap : Nat) (zz : Nat → ByteArray) (d : Int) (w : World) (hT : Bt.Tab w) (hS : Strs w a0 b off len cap zz) (hlen : len ≤ 20) :
    Calls Tryz.prog 7 #[.slice a0 len cap, .int .i64 d] w fun e w' => e = .returned (.bool true) ∧ K w w' := by
  have cn := Rn.new 262144 100 9 w hT (by decide) (by decide) (by decide) (by decide) (by decide) (by decide)
  have hz0 : Aside (0 < w.heap.size) := Hp.lt0 hT
  have ca : Aside (∀ w1, K w w1 → Calls Tryz.prog 9 #[] w1 fun e w' => e = .returned (.bool true) ∧ K w w') := fun w1 k => (awake_any w1 (hT.keep ⟨k.below⟩)).mono fun e w2 h => ⟨h.1, k.trans h.2⟩
  obtain ⟨ih, hih, hsh, hbh, zh, hzh, hzsh⟩ := Hd.info_handle
  have HH : Aside (Tryz.prog.info? 49 = some ih ∧ ih.size = 1 ∧ ih.bytes = 8 ∧ ih.zero = some zh ∧ zh.cells.size = 1) := ⟨hih, hsh, hbh, hzh, hzsh⟩
  have HS : Aside _ := hS
  clear hS hih hsh hbh hzh hzsh hT
  go_enter Tryz.func7, Tryz.ntmps7
  go_wp2_with fail
  refine cn.mono ?_
  rintro e w1 ⟨A, v, rfl, HR, k1⟩
  have HA : Aside (A.q = 262144 ∧ A.m = 100) := ⟨HR.out.2.1, HR.out.2.2.1⟩
  have S0 : Aside (Ot w w1 A (.slice none 0 0) [] (fun _ => false) zz 0) := ⟨⟨_, _, _, _, _, HR.out.1, ⟨World.ownsRow_nil _ _ _ _, fun b h => by cases h⟩, by decide, by simp, Bv.nil⟩, rfl⟩
  clear cn HR k1
  go_wp2_with fail
  go_loopg [7, 8] len (fun gh t7 t8 wx => ∃ (i : Nat) (a1 : Option Addr) (c1 : Nat) (hs : List Int), i + gh = len ∧ t8 = .int .i64 i ∧ t7 = .slice a1 i c1 ∧ Aside (Ot w wx A (.slice a1 i c1) hs (fun _ => false) zz i))
  case atStart => exact ⟨0, none, 0, [], by omega, rfl, rfl, S0⟩
  case round =>
    obtain ⟨i, a1, c1, hs, hig, rfl, rfl, HO⟩ := hrel
    clear S0
    by_cases hlt : i < len
    · have hix := HS.out.ix i hlt
      have hce := HO.out.k.cell (HS.out.cell i hlt)
      by_cases h2 : 200 < (zz i).size
      · have h2i : (200 : Int) < ((zz i).size : Int) := by omega
        have hk := HO.out.k
        go_wp2_with (go_at_call 9; refine (ca.out _ hk).mono ?_; rintro e w7 ⟨rfl, k7⟩)
        go_ret
        exact ⟨rfl, k7⟩
      · have h2i : ((zz i).size : Int) ≤ 200 := by omega
        have hdc : decide ((200 : Int) < ((zz i).size : Int)) = false := decide_eq_false (by omega)
        have cp := HO.out.put HA.out.1 HA.out.2 (by omega) (by omega) rfl (fun k y _ h => by cases h)
        clear HO
        go_wp2_with fail
        refine cp.mono ?_
        rintro e w3 ⟨x, rfl, HX⟩
        obtain ⟨hrow, hsz⟩ := HX.out.1.row
        clear cp hce
        go_wp2_with (at_builtin
                     refine wpList_append_own_at _ rfl _ _ 40 rfl w.heap.size 49 ih zh 1 8 Tryz.underlying40 HH.out.1 HH.out.2.2.2.1 HH.out.2.1 HH.out.2.2.1 HH.out.2.2.2.2 (by decide) _ i _ rfl (hrow.alloc _) ⟨w3.heap.size, 0, none⟩ 1 1 [Hd.encU x] rfl rfl (Hd.src_one w3 #[.int .u64 x] 49) (Hd.one_u _) (by unfold maxLen; omega) (by omega) (by simp; omega) ?_
                     intro v4 w4 hown hgrow _ hat
                     have h4 : Aside _ := HX.out.1.app hz0.out hown hgrow hat
                     obtain ⟨a4, c4, hv4⟩ := Hd.own_form hown
                     subst hv4
                     clear hown hgrow hat hrow)
        go_roundg (len - (i + 1))
        case measure => omega
        case rel => exact ⟨i + 1, _, c4, hs ++ [x], by omega, by go_num, rfl, h4⟩
    · obtain rfl : i = len := by omega
      have TL0 : Aside _ := HO.out.tells
      have hlp := HO.out.ln
      by_cases d0 : 0 ≤ d
      · by_cases d1 : d < (i : Int)
        · obtain ⟨kd, rfl⟩ : ∃ kd : Nat, d = (kd : Int) := ⟨d.toNat, by omega⟩
          have hkl : kd < i := by omega
          have hd0 : decide ((0 : Int) ≤ (kd : Int)) = true := decide_eq_true (by omega)
          have hd1 : decide ((kd : Int) < (i : Int)) = true := decide_eq_true (by omega)
          obtain ⟨gd, capd, xd, hvd, hxd, hcd⟩ := row_ix TL0.out.1 TL0.out.2.1 hkl
          have cd := HO.out.drop hxd rfl
          have ixd := fun w' => So.run_ixF gd i capd kd hkl w'
          have HL : Aside (hs.length = i) := hlp
          have HE : Aside (Value.slice a1 i c1 = Value.slice (some ⟨gd, 0, none⟩) i capd) := hvd
          obtain ⟨rfl, rfl⟩ : a1 = some ⟨gd, 0, none⟩ ∧ c1 = capd := by injection hvd with h1 h2 h3; exact ⟨h1, h3⟩
          clear hvd HO TL0 hlp HE
          generalize i = len at *
          go_wp2_with fail
          refine cd.mono ?_
          rintro e w6 ⟨rfl, HX⟩
          have TL : Aside _ := tells_of HL.out HX.out
          have KZ : Aside (K w6 w6) := K.refl w6
          clear cd HX hcd ixd hxd
          go_wp2_with fail
          go_loopg [11] len (fun gh t wx => ∃ (k : Nat), k + gh = len ∧ t = .int .i64 k ∧ Aside (K w6 wx))
          case atStart => exact ⟨0, by omega, rfl, KZ⟩
          case round =>
            obtain ⟨k, hk, rfl, HK⟩ := hrel
            clear KZ
            by_cases hlt : k < len
            · obtain ⟨g, cap1, x, hvl, hx, hcx⟩ := row_ix TL.out.1 TL.out.2.1 hlt
              have hcx2 := HK.out.cell hcx
              have hix := HS.out.ix k hlt
              have hce := (TL.out.2.2.1.trans HK.out).cell (HS.out.cell k hlt)
              have cg := TL.out.2.2.2 k x hx _ HK.out
              have ixh := fun w' => So.run_ixF g len cap1 k hlt w'
              obtain ⟨rfl, rfl⟩ : gd = g ∧ c1 = cap1 := by injection hvl with h1 h2 h3; injection h1 with h4; injection h4 with h5; exact ⟨h5, h3⟩
              clear hcx hvl
              by_cases e : k = kd
              · subst e
                have hb : ((k : Int) == (k : Int)) = true := by simp
                rw [if_pos (if_pos rfl), if_pos (if_pos rfl)] at cg
                go_wp2_with fail
                refine cg.mono ?_
                rintro e w7 ⟨rfl, k7⟩
                have KN : Aside _ := HK.out.trans k7
                have hce7 := k7.cell hce
                clear cg HK
                go_wp2_with fail
                go_roundg (len - (k + 1))
                case measure => omega
                case rel => exact ⟨k + 1, by omega, by go_num, KN⟩
              · skip
                have hb : ((k : Int) == (kd : Int)) = false := by simp; omega
                rw [if_neg (by rw [if_neg e]; decide), if_neg (by rw [if_neg e]; decide)] at cg
                go_wp2_with fail
                refine cg.mono ?_
                rintro e w7 ⟨rfl, k7⟩
                have KN : Aside _ := HK.out.trans k7
                have hce7 := k7.cell hce
                clear cg HK
                go_wp2_with fail
                go_roundg (len - (k + 1))
                case measure => omega
                case rel => exact ⟨k + 1, by omega, by go_num, KN⟩
            · obtain rfl : k = len := by omega
              have kk := TL.out.2.2.1.trans HK.out
              go_wp2_with (go_at_call 9; refine (ca.out _ kk).mono ?_; rintro e w7 ⟨rfl, k7⟩)
              go_ret
              exact ⟨rfl, k7⟩
        · obtain ⟨TL⟩ : Nonempty (Aside _) := ⟨TL0⟩
          have hd0 : decide ((0 : Int) ≤ d) = true := decide_eq_true (by omega)
          have hd1 : decide (d < (i : Int)) = false := decide_eq_false (by omega)
          have KZ : Aside (K wr wr) := K.refl wr
          clear HO TL0 hlp
          generalize i = len at *
          go_wp2_with fail
          go_loopg [11] len (fun gh t wx => ∃ (k : Nat), k + gh = len ∧ t = .int .i64 k ∧ Aside (K wr wx))
          case atStart => exact ⟨0, by omega, rfl, KZ⟩
          case round =>
            obtain ⟨k, hk, rfl, HK⟩ := hrel
            clear KZ
            by_cases hlt : k < len
            · obtain ⟨g, cap1, x, hvl, hx, hcx⟩ := row_ix TL.out.1 TL.out.2.1 hlt
              have hcx2 := HK.out.cell hcx
              have hix := HS.out.ix k hlt
              have hce := (TL.out.2.2.1.trans HK.out).cell (HS.out.cell k hlt)
              have cg := TL.out.2.2.2 k x hx _ HK.out
              have ixh := fun w' => So.run_ixF g len cap1 k hlt w'
              obtain ⟨rfl, rfl⟩ : a1 = some ⟨g, 0, none⟩ ∧ c1 = cap1 := by injection hvl with h1 h2 h3; exact ⟨h1, h3⟩
              clear hcx hvl
              have hb : ((k : Int) == d) = false := by simp; omega
              rw [if_neg (by decide), if_neg (by decide)] at cg
              go_wp2_with fail
              refine cg.mono ?_
              rintro e w7 ⟨rfl, k7⟩
              have KN : Aside _ := HK.out.trans k7
              have hce7 := k7.cell hce
              clear cg HK
              go_wp2_with fail
              go_roundg (len - (k + 1))
              case measure => omega
              case rel => exact ⟨k + 1, by omega, by go_num, KN⟩
            · obtain rfl : k = len := by omega
              have kk := TL.out.2.2.1.trans HK.out
              go_wp2_with (go_at_call 9; refine (ca.out _ kk).mono ?_; rintro e w7 ⟨rfl, k7⟩)
              go_ret
              exact ⟨rfl, k7⟩
      · obtain ⟨TL⟩ : Nonempty (Aside _) := ⟨TL0⟩
        have hd0 : decide ((0 : Int) ≤ d) = false := decide_eq_false (by omega)
        have KZ : Aside (K wr wr) := K.refl wr
        clear HO TL0 hlp
        generalize i = len at *
        go_wp2_with fail
        go_loopg [11] len (fun gh t wx => ∃ (k : Nat), k + gh = len ∧ t = .int .i64 k ∧ Aside (K wr wx))
        case atStart => exact ⟨0, by omega, rfl, KZ⟩
        case round =>
          obtain ⟨k, hk, rfl, HK⟩ := hrel
          clear KZ
          by_cases hlt : k < len
          · obtain ⟨g, cap1, x, hvl, hx, hcx⟩ := row_ix TL.out.1 TL.out.2.1 hlt
            have hcx2 := HK.out.cell hcx
            have hix := HS.out.ix k hlt
            have hce := (TL.out.2.2.1.trans HK.out).cell (HS.out.cell k hlt)
            have cg := TL.out.2.2.2 k x hx _ HK.out
            have ixh := fun w' => So.run_ixF g len cap1 k hlt w'
            obtain ⟨rfl, rfl⟩ : a1 = some ⟨g, 0, none⟩ ∧ c1 = cap1 := by injection hvl with h1 h2 h3; exact ⟨h1, h3⟩
            clear hcx hvl
            have hb : ((k : Int) == d) = false := by simp; omega
            rw [if_neg (by decide), if_neg (by decide)] at cg
            go_wp2_with fail
            refine cg.mono ?_
            rintro e w7 ⟨rfl, k7⟩
            have KN : Aside _ := HK.out.trans k7
            have hce7 := k7.cell hce
            clear cg HK
            go_wp2_with fail
            go_roundg (len - (k + 1))
            case measure => omega
            case rel => exact ⟨k + 1, by omega, by go_num, KN⟩
          · obtain rfl : k = len := by omega
            have kk := TL.out.2.2.1.trans HK.out
            go_wp2_with (go_at_call 9; refine (ca.out _ kk).mono ?_; rintro e w7 ⟨rfl, k7⟩)
            go_ret
            exact ⟨rfl, k7⟩

theorem other_walk (w : World) (a0 : Option Addr) (b off len cap : Nat) (zz : Nat → ByteArray) (hS : Strs w a0 b off len cap zz) (_ : len ≤ maxLen) (d : Int) (_ : Hp.In64 d) (hT : Bt.Tab w) : Calls Tryz.prog 7 #[.slice a0 len cap, .int .i64 d] w fun e w' => e = .returned (.bool true) ∧ K w w' := by
  by_cases hl : len ≤ 20
  · exact other_main a0 b off len cap zz d w hT hS hl
  have hli : (20 : Int) < (len : Int) := by omega
  have ca := awake_any w hT
  clear hS
  go_enter Tryz.func7, Tryz.ntmps7
  go_wp2_with (go_at_call 9; refine ca.mono ?_; rintro e w1 ⟨rfl, k1⟩)
  go_ret
  exact ⟨rfl, k1⟩

end Bb
end Go.Proofs.YtimedllggcfldaaGreatDoor
