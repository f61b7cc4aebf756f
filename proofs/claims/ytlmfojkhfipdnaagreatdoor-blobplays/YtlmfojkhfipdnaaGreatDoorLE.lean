/-
  The walk of nth.
-/
import Derived.Test.YtlmfojkhfipdnaaGreatDoorU1
import Derived.Test.YtlmfojkhfipdnaaGreatDoorLD
import Derived.Test.YtlmfojkhfipdnaaGreatDoorLC
import Derived.Deep.RegionHeld3
namespace Go.Proofs.YtlmfojkhfipdnaaGreatDoor
open Go.RowKit Go.Maps
namespace Bb
open Hd (encU U64 own_at run_ixh)
open Hp (Kept K No)

/-- The n-th of some, counted round; 0: there are none. -/
def nthH (Hs : List Int) (x : Int) : Int := Hs.getD (x % (Hs.length : Int)).toNat 0

theorem nthH_nil (x : Int) : nthH [] x = 0 := by simp [nthH]
theorem nthH_mem {Hs : List Int} {x : Int} (h : 0 < Hs.length) : nthH Hs x ∈ Hs := by
  have h1 : (x % (Hs.length : Int)).toNat < Hs.length := by
    have := Int.emod_lt_of_pos x (b := (Hs.length : Int)) (by omega)
    have := Int.emod_nonneg x (b := (Hs.length : Int)) (by omega)
    omega
  unfold nthH
  rw [List.getD_eq_getElem?_getD, List.getElem?_eq_getElem h1]
  exact List.getElem_mem h1
theorem nthH_u64 {Hs : List Int} (h : ∀ y ∈ Hs, U64 y) (x : Int) : U64 (nthH Hs x) := by
  by_cases h0 : 0 < Hs.length
  · exact h _ (nthH_mem h0)
  · have : Hs = [] := List.eq_nil_of_length_eq_zero (by omega)
    subst this
    rw [nthH_nil]
    exact ⟨by decide, by decide⟩

theorem rem_cases (x : Int) {N : Nat} (h : 0 < N) : (∃ k : Nat, k < N ∧ x.tmod N = k ∧ x % N = k) ∨ ∃ (r : Int) (k : Nat), k < N ∧ r < 0 ∧ -(N : Int) < r ∧ x.tmod N = r ∧ r + N = k ∧ x % N = k := by
  have h1 : x.tmod N < N := Int.tmod_lt_of_pos x (by omega)
  have h2 : -(N : Int) < x.tmod N := Int.lt_tmod_of_pos x (b := (N : Int)) (by omega)
  have h3 := Int.emod_lt_of_pos x (b := (N : Int)) (by omega)
  have h4 := Int.emod_nonneg x (b := (N : Int)) (by omega)
  have h5 : x = N * x.tdiv N + x.tmod N := (Int.mul_tdiv_add_tmod x N).symm
  have h6 : x = N * (x / N) + x % N := (Int.mul_ediv_add_emod x N).symm
  by_cases h0 : 0 ≤ x.tmod N
  · have e : x % N = x.tmod N := by
      conv => lhs; rw [h5]
      rw [Int.mul_add_emod_self_left]
      exact Int.emod_eq_of_lt h0 h1
    exact .inl ⟨(x.tmod N).toNat, by omega, by omega, by omega⟩
  · have e : x % N = x.tmod N + N := by
      conv => lhs; rw [h5]
      rw [Int.mul_add_emod_self_left, ← Int.add_emod_right]
      exact Int.emod_eq_of_lt (by omega) (by omega)
    exact .inr ⟨x.tmod N, (x.tmod N + N).toNat, by omega, by omega, h2, rfl, by omega, by omega⟩

theorem nth_any {w : World} {B n : Nat} {v1 : Value} {Hs : List Int} (h : w.ownsRow B 49 1 v1 n (Hs.map encU)) (hn : Hs.length = n) (hl : n ≤ 1000) (x : Int) (_ : -9223372036854775808 ≤ x) (_ : x ≤ 9223372036854775807) : Calls Tryz.prog 15 #[v1, .int .i64 x] w fun e w' => e = .returned (.int .u64 (nthH Hs x)) ∧ w = w' := by
  by_cases h0 : n = 0
  · have hnil : Hs = [] := List.eq_nil_of_length_eq_zero (by omega)
    subst hnil
    subst h0
    have hv : v1 = .slice none 0 0 ∨ ∃ g cap, v1 = .slice (some ⟨g, 0, none⟩) 0 cap := by
      rcases h.2 with ⟨e, _⟩ | ⟨g, cap, _, e, _⟩
      · exact .inl e
      · exact .inr ⟨g, cap, e⟩
    have E : Hid (nthH [] x = 0) := nthH_nil x
    rcases hv with rfl | ⟨g, cap, rfl⟩
    · clear h hn
      go_enter Tryz.func15, Tryz.ntmps15
      go_wp2
      go_ret
      exact ⟨by rw [E.out]; rfl, rfl⟩
    · clear h hn
      go_enter Tryz.func15, Tryz.ntmps15
      go_wp2
      go_ret
      exact ⟨by rw [E.out]; rfl, rfl⟩
  · have hp : 0 < n := by omega
    have key : ∀ k : Nat, k < n → x % (n : Int) = k → ∃ g cap, v1 = .slice (some ⟨g, 0, none⟩) n cap ∧ w.cell? ⟨g, k, none⟩ = some (.int .u64 (nthH Hs x)) := fun k hk e => by
      have hx : Hs[k]? = some (nthH Hs x) := by
        unfold nthH
        rw [hn, e, List.getD_eq_getElem?_getD, Int.toNat_natCast, List.getElem?_eq_getElem (by omega)]
        rfl
      obtain ⟨g, cap, h1, _, h3, _⟩ := own_at h (i := k) (x := encU (nthH Hs x)) (by simp [hx])
      exact ⟨g, cap, h1, h3⟩
    rcases rem_cases x hp with ⟨k, hk, hr, he⟩ | ⟨r, k, hk, hr0, hr1, hr, hrk, he⟩
    · obtain ⟨g, cap, rfl, c⟩ := key k hk he
      have ix := run_ixh g n cap k hk
      generalize nthH Hs x = y at *
      clear h key he h0 hn
      go_enter Tryz.func15, Tryz.ntmps15
      go_wp2
      go_ret
      exact ⟨rfl, rfl⟩
    · obtain ⟨g, cap, rfl, c⟩ := key k hk he
      have ix := run_ixh g n cap k hk
      generalize nthH Hs x = y at *
      clear h key he h0 hn
      go_enter Tryz.func15, Tryz.ntmps15
      go_wp2
      go_ret
      exact ⟨rfl, rfl⟩

end Bb
end Go.Proofs.YtlmfojkhfipdnaaGreatDoor

/-
  BlobPlays: the store and its reference side by side, and the row of handles that were told; play.
-/
namespace Go.Proofs.YtlmfojkhfipdnaaGreatDoor
open Go.RowKit Go.Maps
attribute [local go_sem ↓] Go.wp_at_zero Go.wp_at_succ
namespace Bb
open Hp (Kept K No)
open Hd (U64 encU SrcRow own_some own_lt src_one one_u made_lo info_handle)
open Go.Proofs.YtlmfojkhfipdnaaGreatDoor.So (Ad sp)
open Go.Proofs.YtlmfojkhfipdnaaGreatDoor.Rs (rp Pl Kd Ks Nx)
variable {w0 w w' : World} {A : Ad} {br c n cc : Nat} {aa : Option Addr} {hs : List Int}

theorem run_append_nilh (g n cap c : Nat) (hn : n ≤ cap) (ty : TypeId) (w : World) : (Builtin.append_ #[40, 40] ty #[.slice (some ⟨g, 0, none⟩) n cap, .slice none 0 c]).run Tryz.prog w = .ok (.slice (some ⟨g, 0, none⟩) n cap) w := by
  obtain ⟨i0, hi, hs, _, _⟩ := info_handle
  have := run_append_room_src (P := Tryz.prog) w 40 40 ty 49 i0 Tryz.underlying40 hi g 0 n cap (.slice none 0 c) 0 [] (_root_.Go.Src.ofNil w Tryz.underlying40 c) (by omega) (fun j hj => by simp at hj) (fun j hj => by simp at hj)
  simpa [World.setCells] using this

theorem wpList_append_handles {ops : Array Oper} {rest : List Oper} {o : Oper} {ac : Act} {Q : Exit → Act → World → Prop} (w : World) (hgd : o.guard = none) (s x : Operand)
    (ho : o.op = .call { callee := .builtin .append, args := #[s, x], argTypes := #[40, 40] })
    (base : Nat) (v : Value) (n : Nat) (xs : List Value) (hs : ac.eval s = v) (hown : w.ownsRow base 49 1 v n xs) (hv : v.ownBlock.isSome = true)
    (oa : Option Addr) (m c : Nat) (news : List Value) (hx : ac.eval x = .slice oa m c) (hl : news.length = m * 1) (hsrc : SrcRow w oa m news) (h1 : ∀ u ∈ news, u.oneCell' = true) (hb : n + m ≤ 100000) (hbase : base ≤ w.heap.size)
    (h : ∀ v' w', w'.ownsRow base 49 1 v' (n + m) (xs ++ news) → w.grownBy w' v.ownBlock → (v'.ownBlock = v.ownBlock ∨ v'.ownBlock = some w.heap.size) → wpList Tryz.prog ops Q rest (ac.put o.dst v') w') :
    wpList Tryz.prog ops Q (o :: rest) ac w := by
  obtain ⟨i0, hi, hsz, hby, z, hz, hzs⟩ := info_handle
  rcases hsrc with ⟨rfl, rfl, rfl⟩ | ⟨ad, rfl, hc⟩
  · refine wpList_plain hgd fun K hK => ?_
    rcases hown.2 with ⟨rfl, _⟩ | ⟨g, cap, cur, hvv, r1, r2, r3, r4⟩
    · cases hv
    · have hrun := run_append_nilh g n cap c r3 o.type w
      rw [← hvv] at hrun
      unfold Oper.wp execOp
      simp only [ho, resolve, invoke, builtin, Sem.run_bind, Sem.run_pure, Result.andThen_ok, List.map_toArray, List.map_cons, List.map_nil, hs, hx, hrun]
      refine hK _ _ (h v w ?_ ⟨rfl, rfl, rfl, Nat.le_refl _, fun _ _ _ => rfl⟩ (Or.inl rfl))
      simpa using hown
  · exact wpList_append_own_at w hgd s x 40 ho base 49 i0 z 1 8 Tryz.underlying40 hi hz hsz hby hzs (by decide) v n xs hs hown ad m c news hx hl hc h1 (by unfold maxLen; omega) (by omega) hbase (fun v' w' r1 r2 _ r4 => h v' w' r1 r2 r4)

/-- Both, and the row of the handles that were told. -/
structure Mq (w0 w : World) (A : Ad) (br c : Nat) (aa : Option Addr) (n cc : Nat) (hs : List Int) : Prop where
  p : Pl w0 w A br c
  r : w.ownsRow w0.heap.size 49 1 (.slice aa n cc) n (hs.map encU)
  l : hs.length = n
  u : ∀ y ∈ hs, U64 y
theorem Mq.keep (h : Mq w0 w A br c aa n cc hs) (k : K w w') : Mq w0 w' A br c aa n cc hs := ⟨h.p.keep k, (Kd.ofK k).row h.r (by decide), h.l, h.u⟩
theorem Mq.k (h : Mq w0 w A br c aa n cc hs) : K w0 w := h.p.k
/-- Behind calls on both. -/
theorem Mq.next {c' : Nat} (h : Mq w0 w A br c aa n cc hs) {w1 : World} (k : Kd w w1) (k1 : Kd w1 w') (p : Pl w0 w' A br c') : Mq w0 w' A br c' aa n cc hs := ⟨p, (k.trans k1).row h.r (by decide), h.l, h.u⟩
theorem Mq.mono {c' : Nat} (h : Mq w0 w A br c aa n cc hs) (hc : c ≤ c') : Mq w0 w A br c' aa n cc hs := ⟨h.p.mono hc, h.r, h.l, h.u⟩
theorem Mq.src (h : Mq w0 w A br c aa n cc hs) (o : Obj) : SrcRow (w.alloc o) aa n (hs.map encU) := by
  rcases h.r.2 with ⟨hv, h0⟩ | ⟨g, c, cur, hv, _, hg, _, _, _, ht⟩
  · cases hv
    have : hs = [] := List.eq_nil_of_length_eq_zero h.l
    subst this
    exact .inl ⟨rfl, rfl, rfl⟩
  · cases hv
    refine .inr ⟨_, rfl, fun j u hu => ?_⟩
    rw [Go.WideShapes.add_plain, Nat.zero_add]
    refine ((K.refl w).alloc o).cell ?_
    have hj := (List.getElem?_eq_some_iff.1 hu).1
    rw [List.length_map, h.l] at hj
    rw [← ht, List.getElem?_take, if_pos (by omega)] at hu
    simp only [World.cell?, hg]
    rw [if_neg (by simp), ← Array.getElem?_toList]
    exact hu
/-- A new row. -/
theorem Mq.row (h : Mq w0 w A br c aa n cc hs) (k : K w w') {p : Int} (hp : U64 p) {a5 : Option Addr} {c5 : Nat} (hown : w'.ownsRow w.heap.size 49 1 (.slice a5 (n + 1) c5) (n + 1) (hs.map encU ++ [encU p])) : Mq w0 w' A br c a5 (n + 1) c5 (hs ++ [p]) := by
  have hB : w0.heap.size ≤ w.heap.size := h.k.size
  refine ⟨h.p.keep k, ⟨?_, ?_⟩, by simp [h.l], fun u hu => ?_⟩
  · rw [List.map_append]
    exact hown.1
  · rw [List.map_append]
    rcases hown.2 with h3 | ⟨g, cap, cur, e, hb, rest⟩
    · exact .inl h3
    · exact .inr ⟨g, cap, cur, e, Nat.le_trans hB hb, rest⟩
  · rcases List.mem_append.1 hu with h1 | h1
    · exact h.u u h1
    · obtain rfl : u = p := by simpa using h1
      exact hp

/-- The box of a call. -/
abbrev opB (o : Opb) : Obj := .cells #[.int .i64 o.d, .int .i64 o.n, .int .i64 o.k, .string o.s, .int .u64 o.x] 43
theorem opB_cells {V : World} {nb : Nat} {o : Opb} (h : V.heap[nb]? = some (opB o)) : V.cell? ⟨nb, 0, none⟩ = some (.int .i64 o.d) ∧ V.cell? ⟨nb, 1, none⟩ = some (.int .i64 o.n) ∧ V.cell? ⟨nb, 2, none⟩ = some (.int .i64 o.k) ∧ V.cell? ⟨nb, 3, none⟩ = some (.string o.s) ∧ V.cell? ⟨nb, 4, none⟩ = some (.int .u64 o.x) := by
  refine ⟨?_, ?_, ?_, ?_, ?_⟩ <;> simp [World.cell?, h]

/-- What play leaves. -/
def PlayPost (w0 : World) (A : Ad) (br c n : Nat) (e : Ending) (w' : World) : Prop := ∃ (aa : Option Addr) (n' cc : Nat) (hs : List Int), e = .returned (.tuple #[.slice aa n' cc, .bool true]) ∧ n' ≤ n + 1 ∧ Aside (Mq w0 w' A br (c + 1) aa n' cc hs)

set_option maxRecDepth 100000 in
set_option maxHeartbeats 4000000 in
theorem play_any (h : Mq w0 w A br c aa n cc hs) (z0 : 0 < w0.heap.size) (hn : n ≤ 60) (hc : c ≤ 60) (o : Opb) (ok : OpbOk o) :
    Calls Tryz.prog 7 #[sp A.st, rp br, .slice aa n cc, .agg #[.int .i64 o.d, .int .i64 o.n, .int .i64 o.k, .string o.s, .int .u64 o.x]] w (PlayPost w0 A br c n) := by
  obtain ⟨ih, hih, hsh, hbh, zh, hzh, hzsh⟩ := info_handle
  have HH : Aside (Tryz.prog.info? 49 = some ih ∧ ih.size = 1 ∧ ih.bytes = 8 ∧ ih.zero = some zh ∧ zh.cells.size = 1) := ⟨hih, hsh, hbh, hzh, hzsh⟩
  have hby : (w.alloc (opB o)).heap[w.heap.size]? = some (opB o) := World.alloc_heap_new _ _
  have hm := h.keep ((K.refl w).alloc (opB o))
  have n64 : -9223372036854775808 ≤ o.n := ok.n.1
  have n63 : o.n ≤ 9223372036854775807 := ok.n.2
  have OK : Aside _ := ok
  have Z0 : Aside _ := z0
  have cn := nth_any hm.r hm.l (by omega) o.n n64 n63
  have hu := nthH_u64 hm.u o.n
  generalize nthH hs o.n = y at cn hu
  have HY : Aside (U64 y) := hu
  clear hih hsh hbh hzh hzsh h ok hu z0
  have b1 := (opB_cells hby).2.1
  go_enter Tryz.func7, Tryz.ntmps7
  go_wp2_with fail
  refine cn.mono ?_
  rintro e w1 ⟨rfl, rfl⟩
  generalize w.alloc (opB o) = W at *
  generalize w.heap.size = nb at *
  have b0 := (opB_cells hby).1
  have HM : Aside _ := hm
  have HB : Aside _ := hby
  clear cn hm hby b1
  obtain ⟨d, hd⟩ : ∃ d, d = o.d := ⟨_, rfl⟩
  rw [← hd] at b0
  by_cases hd1 : d = 1
  · subst hd1
    as_aux_lemma =>
      have o2 := (opB_cells HB.out).2.2.2.1
      have co := Pl.bput HM.out.p Z0.out (by omega) o.s
      clear hd
      go_wp2_with fail
      refine co.mono ?_
      rintro e w2 ⟨p, er, rfl, hh⟩
      obtain ⟨hp, _, kd, nx⟩ := hh.out
      have HP : Aside _ := hp
      have KD : Aside _ := kd
      clear co hh hp o2
      have o2 := (opB_cells (kd.block HB.out (by decide))).2.2.2.1
      have cr := nx w2 (K.refl _)
      clear nx kd
      go_wp2_with fail
      refine cr.mono ?_
      rintro e w3 ⟨rfl, hh⟩
      have HM3 : Aside (Mq w0 w3 A br (c + 1) aa n cc hs) := HM.out.next KD.out hh.out.1 hh.out.2
      clear cr hh KD HM HB o2
      by_cases her : er = 0
      · subst her
        have HSRC : Aside _ := HM3.out.src
        have HL : Aside ((hs.map encU).length = n) := by show _ = _; rw [List.length_map]; exact HM3.out.l
        have HONE : Aside (∀ u ∈ hs.map encU, u.oneCell' = true) := fun u hu => by
          obtain ⟨y, _, rfl⟩ := List.mem_map.1 hu
          rfl
        go_wp2_with (first
          | (have _t := HONE
             at_builtin
             refine wpList_append_handles _ rfl _ _ rfl w3.heap.size _ 0 [] rfl (World.ownsRow_made w3 #[] 0 (Nat.le_refl _) (by unfold maxLen; omega) rfl) rfl aa n cc (hs.map encU) rfl (by rw [HL.out, Nat.mul_one]) (HSRC.out _) HONE.out (by omega) (by simp) ?_
             intro v4 w4 hown hgrow hat
             rw [Nat.zero_add, List.nil_append] at hown
             have k4 : K w3 w4 := Hd.K.thenGrown (K.refl w3) hgrow (made_lo w3)
             obtain ⟨g4, c4, hv4⟩ := own_some hown (by rcases hat with e | e <;> rw [e] <;> rfl)
             subst hv4
             have hsz4 := Kept.size k4
             clear hgrow hat HONE)
          | (have _t := k4
             at_builtin
             refine wpList_append_handles _ rfl _ _ rfl w3.heap.size _ n (hs.map encU) rfl (hown.alloc _) rfl (some ⟨w4.heap.size, 0, none⟩) 1 1 [encU p] rfl rfl (.inr ⟨_, rfl, src_one w4 #[.int .u64 p] 49⟩) (one_u p) (by omega) (by simp; omega) ?_
             intro v5 w5 hown5 hgrow5 hat5
             have k5 : K w3 w5 := Hd.K.thenGrown k4 hgrow5 (fun j hj => (own_lt hown hj).1)
             obtain ⟨g5, c5, hv5⟩ := own_some hown5 (by rcases hat5 with e | e <;> rw [e] <;> rfl)
             subst hv5
             clear k4 hown hgrow5 hat5))
        go_ret2
        exact ⟨_, _, _, hs ++ [p], rfl, by omega, HM3.out.row k5 HP.out hown5⟩
      · have her : (er == 0) = false := by simpa using her
        go_wp2
        go_ret2
        exact ⟨_, _, _, hs, by simp, by omega, HM3.out⟩
  have hd1 : (d == 1) = false := by simpa using hd1
  by_cases hd2 : d = 2
  · subst hd2
    as_aux_lemma =>
      have ca := Pl.bget HM.out.p HY.out
      clear hd
      go_wp2_with fail
      refine ca.mono ?_
      rintro e w2 ⟨x, er, rfl, k2, hg⟩
      obtain ⟨x0, x1, x2, x3, x4, x5, hb, hc⟩ := hg.out w2 (K.refl _)
      obtain ⟨d0, d1, d2, d3, d4, d5⟩ := Rs.six hb
      have HC : Aside _ := hc
      have HM2 : Aside _ := HM.out.keep k2
      clear ca hg hb HM HB b0 k2 hc
      go_wp2_with fail
      refine (HC.out _ (K.refl _)).mono ?_
      rintro e w3 ⟨rfl, k3⟩
      have HM3 : Aside _ := HM2.out.keep k3
      clear d0 d1 d2 d3 d4 d5 HC HM2 k3
      go_wp2
      go_ret2
      exact ⟨_, _, _, hs, by simp, by omega, HM3.out.mono (by omega)⟩
  have hd2 : (d == 2) = false := by simpa using hd2
  by_cases hd3 : d = 3
  · subst hd3
    as_aux_lemma =>
      have co := Pl.bdrop HM.out.p Z0.out HY.out
      clear hd
      go_wp2_with fail
      refine co.mono ?_
      rintro e w2 ⟨er, rfl, hh⟩
      have HH2 : Aside _ := hh
      clear co hh
      go_wp2_with fail
      refine (HH2.out.2.2 _ (K.refl _)).mono ?_
      rintro e w3 ⟨rfl, hh⟩
      have HM3 : Aside (Mq w0 w3 A br c aa n cc hs) := HM.out.next HH2.out.2.1 hh.out.1 hh.out.2
      clear hh HH2 HM HB b0
      go_wp2
      go_ret2
      exact ⟨_, _, _, hs, by simp, by omega, HM3.out.mono (by omega)⟩
  have hd3 : (d == 3) = false := by simpa using hd3
  by_cases hd4 : d = 4
  · subst hd4
    as_aux_lemma =>
      have o2 := (opB_cells HB.out).2.2.1
      have co := HM.out.p.make Z0.out (by omega) o.k
      clear hd
      go_wp2_with fail
      refine co.mono ?_
      rintro e w2 ⟨p, er, rfl, hh⟩
      obtain ⟨hp, _, kd, nx⟩ := hh.out
      have HP : Aside _ := hp
      have KD : Aside _ := kd
      clear co hh hp o2
      have o2 := (opB_cells (kd.block HB.out (by decide))).2.2.1
      have cr := nx w2 (K.refl _)
      clear nx kd
      go_wp2_with fail
      refine cr.mono ?_
      rintro e w3 ⟨rfl, hh⟩
      have HM3 : Aside (Mq w0 w3 A br (c + 1) aa n cc hs) := HM.out.next KD.out hh.out.1 hh.out.2
      clear cr hh KD HM HB o2
      by_cases her : er = 0
      · subst her
        have HSRC : Aside _ := HM3.out.src
        have HL : Aside ((hs.map encU).length = n) := by show _ = _; rw [List.length_map]; exact HM3.out.l
        have HONE : Aside (∀ u ∈ hs.map encU, u.oneCell' = true) := fun u hu => by
          obtain ⟨y, _, rfl⟩ := List.mem_map.1 hu
          rfl
        go_wp2_with (first
          | (have _t := HONE
             at_builtin
             refine wpList_append_handles _ rfl _ _ rfl w3.heap.size _ 0 [] rfl (World.ownsRow_made w3 #[] 0 (Nat.le_refl _) (by unfold maxLen; omega) rfl) rfl aa n cc (hs.map encU) rfl (by rw [HL.out, Nat.mul_one]) (HSRC.out _) HONE.out (by omega) (by simp) ?_
             intro v4 w4 hown hgrow hat
             rw [Nat.zero_add, List.nil_append] at hown
             have k4 : K w3 w4 := Hd.K.thenGrown (K.refl w3) hgrow (made_lo w3)
             obtain ⟨g4, c4, hv4⟩ := own_some hown (by rcases hat with e | e <;> rw [e] <;> rfl)
             subst hv4
             have hsz4 := Kept.size k4
             clear hgrow hat HONE)
          | (have _t := k4
             at_builtin
             refine wpList_append_handles _ rfl _ _ rfl w3.heap.size _ n (hs.map encU) rfl (hown.alloc _) rfl (some ⟨w4.heap.size, 0, none⟩) 1 1 [encU p] rfl rfl (.inr ⟨_, rfl, src_one w4 #[.int .u64 p] 49⟩) (one_u p) (by omega) (by simp; omega) ?_
             intro v5 w5 hown5 hgrow5 hat5
             have k5 : K w3 w5 := Hd.K.thenGrown k4 hgrow5 (fun j hj => (own_lt hown hj).1)
             obtain ⟨g5, c5, hv5⟩ := own_some hown5 (by rcases hat5 with e | e <;> rw [e] <;> rfl)
             subst hv5
             clear k4 hown hgrow5 hat5))
        go_ret2
        exact ⟨_, _, _, hs ++ [p], rfl, by omega, HM3.out.row k5 HP.out hown5⟩
      · have her : (er == 0) = false := by simpa using her
        go_wp2
        go_ret2
        exact ⟨_, _, _, hs, by simp, by omega, HM3.out⟩
  have hd4 : (d == 4) = false := by simpa using hd4
  by_cases hd5 : d = 5
  · subst hd5
    as_aux_lemma =>
      obtain ⟨_, _, o3, _, o4⟩ := opB_cells (V := W.drew) HB.out
      have cell : Aside (∀ V, Kd W V → V.cell? ⟨nb, 2, none⟩ = some (.int .i64 o.k) ∧ V.cell? ⟨nb, 4, none⟩ = some (.int .u64 o.x)) := fun V k => by
        obtain ⟨_, _, h1, _, h2⟩ := opB_cells (k.block HB.out (by decide))
        exact ⟨h1, h2⟩
      have C1 : Calls Tryz.prog 22 #[sp A.st, .int .u64 y, .int .i64 o.k, .int .u64 o.x] W.drew fun e w1 => ∃ er, e = .returned (.int .i64 er) ∧ (w1.cell? ⟨nb, 2, none⟩ = some (.int .i64 o.k) ∧ w1.cell? ⟨nb, 4, none⟩ = some (.int .u64 o.x)) ∧ Aside (∀ V, K w1 V → Calls Tryz.prog 23 #[rp br, .int .u64 y, .int .i64 o.k, .int .u64 o.x] V fun e w2 => e = .returned (.int .i64 er) ∧ (w2.cell? ⟨nb, 2, none⟩ = some (.int .i64 o.k) ∧ w2.cell? ⟨nb, 4, none⟩ = some (.int .u64 o.x)) ∧ Aside (Mq w0 w2 A br c aa n cc hs)) := by
        have kd0 : Kd W W.drew := Kd.ofK (K.refl W).drew
        refine (Rs.Pl.put (HM.out.keep (K.refl W).drew).p Z0.out HY.out o.k o.x OK.out.x).mono ?_
        rintro e w1 ⟨er, rfl, hh⟩
        obtain ⟨_, kd, nx⟩ := hh.out
        have kd1 := kd0.trans kd
        refine ⟨er, rfl, cell.out _ kd1, fun V k => ?_⟩
        refine (nx V k).mono ?_
        rintro e w2 ⟨rfl, h2⟩
        have kd2 := (kd1.trans (Kd.ofK k)).trans h2.out.1
        exact ⟨rfl, cell.out _ kd2, HM.out.next (kd1.trans (Kd.ofK k)) h2.out.1 h2.out.2⟩
      clear hd HM HB cell
      go_wp2
      go_region_held3 (fun V => V.cell? ⟨nb, 2, none⟩ = some (.int .i64 o.k) ∧ V.cell? ⟨nb, 4, none⟩ = some (.int .u64 o.x))
        (first | exact ⟨o3, o4⟩ | exact y1 | exact y2)
        (first | (go_at_call 22; refine C1.mono ?_; rintro e w6 ⟨er, rfl, y1, HX⟩)
               | (go_at_call 23; refine (HX.out _ (K.refl _)).mono ?_; rintro e w7 ⟨rfl, y2, HM3⟩))
      clear y1 y2 o3 o4 C1
      go_wp2
      go_ret2
      exact ⟨_, _, _, hs, by simp, by omega, HM3.out.mono (by omega)⟩
  have hd5 : (d == 5) = false := by simpa using hd5
  by_cases hd6 : d = 6
  · subst hd6
    as_aux_lemma =>
      have co := HM.out.p.slide Z0.out HY.out
      clear hd
      go_wp2_with fail
      refine co.mono ?_
      rintro e w2 ⟨bb, er, rfl, hh⟩
      have HH2 : Aside _ := hh
      clear co hh
      go_wp2_with fail
      refine (HH2.out.2.2 _ (K.refl _)).mono ?_
      rintro e w3 ⟨rfl, hh⟩
      have HM3 : Aside (Mq w0 w3 A br c aa n cc hs) := HM.out.next HH2.out.2.1 hh.out.1 hh.out.2
      clear hh HH2 HM HB b0
      go_wp2
      go_ret2
      exact ⟨_, _, _, hs, by simp, by omega, HM3.out.mono (by omega)⟩
  have hd6 : (d == 6) = false := by simpa using hd6
  clear hd
  go_wp2
  go_ret2
  exact ⟨_, _, _, hs, by simp, by omega, HM.out.mono (by omega)⟩

end Bb
end Go.Proofs.YtlmfojkhfipdnaaGreatDoor
