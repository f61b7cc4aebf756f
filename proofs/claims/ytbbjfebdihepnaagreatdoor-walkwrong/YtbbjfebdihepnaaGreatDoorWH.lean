/-
  The reference's Sorted; the order of what it makes.
-/
import Derived.Test.YtbbjfebdihepnaaGreatDoorWG
import Derived.Test.YtbbjfebdihepnaaGreatDoorE7
namespace Go.Proofs.YtbbjfebdihepnaaGreatDoor
open Go.RowKit Go.Maps
attribute [local go_sem ↓] Go.wp_at_zero Go.wp_at_succ
namespace Wa
open Hp (Kept K No)
open Nd (Nv encU)
variable {w w' : World} {a : Option Addr} {n cap : Nat}

def upP (l : List Pr) : Prop := l.Pairwise (fun p q => cmp p.k q.k < 0)
theorem rank_split {key : ByteArray} : ∀ {l : List Pr}, upP l → (∀ q ∈ l.take (rankP l key), cmp q.k key < 0) ∧ (∀ q ∈ l.drop (rankP l key), 0 ≤ cmp q.k key)
  | [], _ => ⟨fun q h => by simp at h, fun q h => by simp at h⟩
  | p :: t, hu => by
    obtain ⟨h1, h2⟩ := List.pairwise_cons.1 hu
    by_cases hc : cmp p.k key < 0
    · have e : rankP (p :: t) key = rankP t key + 1 := by simp [rankP, hc]
      obtain ⟨i1, i2⟩ := rank_split (key := key) h2
      rw [e]
      refine ⟨fun q hq => ?_, fun q hq => i2 q (by simpa using hq)⟩
      rw [List.take_succ_cons] at hq
      rcases List.mem_cons.1 hq with rfl | hq
      · exact hc
      · exact i1 q hq
    · have all : ∀ q ∈ p :: t, 0 ≤ cmp q.k key := fun q hq => by
        rcases List.mem_cons.1 hq with rfl | hq
        · omega
        · have hpq := h1 q hq
          have h3 : cmp key p.k ≤ 0 := by rw [cmp_sw]; omega
          by_cases h4 : cmp key p.k < 0
          · have := cmp_tr h4 hpq
            rw [cmp_sw]; omega
          · have h5 : cmp key p.k = 0 := by omega
            rw [← cmp_eq h5] at hpq
            rw [cmp_sw]; omega
      have e : rankP (p :: t) key = 0 := by
        unfold rankP
        exact List.countP_eq_zero.2 fun q hq => by have := all q hq; simp; omega
      rw [e]
      exact ⟨fun q h => by simp at h, fun q h => all q (by simpa using h)⟩
theorem up_take {l : List Pr} (h : upP l) (r : Nat) : upP (l.take r) ∧ upP (l.drop r) ∧ ∀ p ∈ l.take r, ∀ q ∈ l.drop r, cmp p.k q.k < 0 := by
  have e : l.take r ++ l.drop r = l := List.take_append_drop r l
  unfold upP at h
  rw [← e] at h
  exact List.pairwise_append.1 h
theorem put_up {l : List Pr} (h : upP l) (p : Pr) : upP (putP l p) := by
  obtain ⟨s1, s2⟩ := rank_split (key := p.k) h
  obtain ⟨u1, u2, u3⟩ := up_take h (rankP l p.k)
  have hd : upP (p :: l.drop (match l[rankP l p.k]? with | some q => if q.k = p.k then rankP l p.k + 1 else rankP l p.k | none => rankP l p.k)) ∧ ∀ q ∈ l.drop (match l[rankP l p.k]? with | some q => if q.k = p.k then rankP l p.k + 1 else rankP l p.k | none => rankP l p.k), q ∈ l.drop (rankP l p.k) := by
    cases hq : l[rankP l p.k]? with
    | none =>
      have : l.drop (rankP l p.k) = [] := List.drop_eq_nil_of_le (List.getElem?_eq_none_iff.1 hq)
      simp only [this]
      exact ⟨List.pairwise_cons.2 ⟨fun q h => by simp at h, .nil⟩, fun q h => h⟩
    | some q =>
      have e : l.drop (rankP l p.k) = q :: l.drop (rankP l p.k + 1) := by
        obtain ⟨hlt, hv⟩ := List.getElem?_eq_some_iff.1 hq
        rw [List.drop_eq_getElem_cons hlt, hv]
      rw [e] at u2 s2
      obtain ⟨v1, v2⟩ := List.pairwise_cons.1 u2
      by_cases hk : q.k = p.k
      · simp only [if_pos hk]
        exact ⟨List.pairwise_cons.2 ⟨fun q' h' => by rw [← hk]; exact v1 q' h', v2⟩, fun q' h' => by rw [e]; exact List.mem_cons_of_mem _ h'⟩
      · simp only [if_neg hk]
        have hlt : cmp p.k q.k < 0 := by
          have h0 := s2 q (by simp)
          rw [cmp_sw] at h0
          have h1 : cmp p.k q.k ≠ 0 := fun h => hk (cmp_eq h).symm
          omega
        refine ⟨?_, fun q' h' => h'⟩
        rw [e]
        refine List.pairwise_cons.2 ⟨fun q' h' => ?_, u2⟩
        rcases List.mem_cons.1 h' with rfl | h'
        · exact hlt
        · exact cmp_tr hlt (v1 q' h')
  unfold putP
  refine List.pairwise_append.2 ⟨u1, hd.1, fun q hq q' hq' => ?_⟩
  rcases List.mem_cons.1 hq' with rfl | hq'
  · exact s1 q hq
  · exact u3 q hq q' (hd.2 q' hq')
theorem put_mem {l : List Pr} {p q : Pr} (h : q ∈ putP l p) : q = p ∨ q ∈ l := by
  unfold putP at h
  rcases List.mem_append.1 h with h | h
  · exact .inr (List.mem_of_mem_take h)
  · rcases List.mem_cons.1 h with h | h
    · exact .inl h
    · exact .inr (List.mem_of_mem_drop h)
theorem put_short {l : List Pr} {p : Pr} (h : shortL l) (hp : p.k.size ≤ 1000 ∧ p.x.size ≤ 1000) : shortL (putP l p) := fun q hq => by
  rcases put_mem hq with rfl | hq
  · exact hp
  · exact h q hq
theorem sorted_take (l : List Pr) {i : Nat} {p : Pr} (h : l[i]? = some p) : sortedP (l.take (i + 1)) = putP (sortedP (l.take i)) p := by
  unfold sortedP
  rw [List.take_add_one, h, List.foldl_append]
  rfl
theorem sorted_up : ∀ (l : List Pr) (i : Nat), upP (sortedP (l.take i))
  | l, 0 => by simp [sortedP, upP]
  | l, i + 1 => by
    cases h : l[i]? with
    | none =>
      have := sorted_up l i
      rw [List.take_add_one, h]
      simpa using this
    | some p => rw [sorted_take l h]; exact put_up (sorted_up l i) p
theorem sorted_short {l : List Pr} (hs : shortL l) : ∀ (i : Nat), shortL (sortedP (l.take i))
  | 0 => by simp [sortedP, shortL]
  | i + 1 => by
    cases h : l[i]? with
    | none =>
      have := sorted_short hs i
      rw [List.take_add_one, h]
      simpa using this
    | some p => rw [sorted_take l h]; exact put_short (sorted_short hs i) (hs p (List.mem_of_getElem? h))

set_option maxRecDepth 100000 in
set_option maxHeartbeats 2000000 in
theorem rsorted_any {l : List Pr} (h : Srp w a n cap l) (hs : shortL l) (hn : n ≤ 900) : Calls Tryz.prog 21 #[.slice a n cap] w fun e w' => ∃ a' n' cap', e = .returned (.slice a' n' cap') ∧ Aside (Srt w' a' n' cap' (sortedP l) ∧ n' ≤ n) ∧ K w w' := by
  have H : Aside _ := h
  have HS : Aside (shortL l) := hs
  have k0 : Aside (K w w ∧ Srt w none 0 0 (sortedP (l.take 0))) := ⟨K.refl w, ⟨⟨by simp [sortedP], fun h => by omega, by omega, by unfold maxLen; omega⟩, fun h => by omega⟩⟩
  clear h hs
  go_enter Tryz.func21, Tryz.ntmps21
  go_wp2_with fail
  go_loopg [3, 4] n (fun gh s t wr => ∃ (i : Nat) (a' : Option Addr) (n' cap' : Nat), i + gh = n ∧ s = .slice a' n' cap' ∧ t = .int .i64 i ∧ n' ≤ i ∧ Aside (K w wr ∧ Srt wr a' n' cap' (sortedP (l.take i))))
  case atStart => exact ⟨0, none, 0, 0, by omega, rfl, rfl, by omega, k0.out⟩
  case round =>
    obtain ⟨i, a', n', cap', hgh, rfl, rfl, hn', HI⟩ := hrel
    clear k0
    by_cases hlt : i < n
    · obtain ⟨b, off, p, rfl, hp, c0, c1⟩ := (H.out.keep HI.out.1).at hlt
      have ix := fun w' => run_ixQ b off n cap i hlt w'
      have hpm := HS.out p (List.mem_of_getElem? hp)
      have cp := rput_any HI.out.2.p (sorted_short HS.out i) (by omega) p hpm.1
      have HP : Aside (l[i]? = some p) := hp
      obtain ⟨pk, px⟩ := p
      simp only at c0 c1
      clear hp hpm
      go_wp2_with fail
      refine cp.mono ?_
      rintro e w5 ⟨a5, n5, c5, rfl, h5, k5⟩
      have H5 : Aside _ := h5.out
      have KF : Aside _ := HI.out.1.trans k5
      have hn5 : n5 ≤ i + 1 := by have := h5.out.2; omega
      clear cp h5 k5 HI
      go_wp2_with fail
      go_roundg (n - (i + 1))
      case measure => omega
      case rel => exact ⟨i + 1, a5, n5, c5, by omega, rfl, by go_num, hn5, KF.out, by rw [sorted_take l HP.out]; exact H5.out.1⟩
    · obtain rfl : i = n := by omega
      have e : l.take i = l := List.take_of_length_le (by rw [H.out.len]; exact Nat.le_refl _)
      have FIN : Aside (Srt wr a' n' cap' (sortedP l) ∧ n' ≤ i) := ⟨by rw [← e]; exact HI.out.2, hn'⟩
      have KF : Aside _ := HI.out.1
      clear HI e
      go_wp2_with fail
      go_ret
      exact ⟨a', n', cap', rfl, FIN, KF.out⟩

end Wa
end Go.Proofs.YtbbjfebdihepnaaGreatDoor

/-
  A store that grows: what each new text and node leaves of all that was there.
-/
namespace Go.Proofs.YtbbjfebdihepnaaGreatDoor
open Go.RowKit Go.Maps
namespace Wa
open Hp (Kept K No Pg Wl allocL granted)
open Hd (U64 findL)
open Nd (Nv)
open Go.Proofs.YtbbjfebdihepnaaGreatDoor.Bb (Ho rwI)
open Go.Proofs.YtbbjfebdihepnaaGreatDoor.So (Ad Sb Sw Rec Rn Stp sp)
variable {w0 w w' w1 : World} {A : Ad} {pg pg' : List (Int × Nat)} {W W' W1 : Int → Int} {L L' : List Pg} {v v' : Value} {T T' T1 : List Hd.Sl} {x : Int} {c : Nat}

/-- A block of few words takes three pages at most. -/
theorem alloc_three (l : Wl L) {q x : Int} (hx : 1 ≤ x ∧ x ≤ 128) (hq : (granted L + 3) * 64 ≤ q) : ∃ a L', allocL q L x = (a, 0, L') ∧ granted L' ≤ granted L + 3 := by
  have hx' : 1 ≤ x ∧ x ≤ 4000 := by omega
  have hpg : 1 ≤ Cl.pagI x ∧ Cl.pagI x ≤ 3 := by
    have : Cl.pagI x = (x + 65) / 64 := if_pos hx'
    omega
  unfold allocL
  rw [if_pos hx']
  cases hs : Cl.smaI x with
  | true =>
    simp only [if_true]
    cases hf : Hp.freeB L (Cl.clsI x) with
    | some ps =>
      obtain ⟨p, s⟩ := ps
      obtain ⟨hp, _⟩ := Hp.freeB_some hf
      refine ⟨_, _, rfl, ?_⟩
      rw [Hp.granted_upd (fun r hr hn => by rw [l.inj hr hp hn]; rfl)]
      omega
    | none =>
      simp only []
      rw [if_pos (by omega)]
      refine ⟨_, _, rfl, ?_⟩
      rw [Hp.granted_add]
      show _ + 1 ≤ _
      omega
  | false =>
    simp only [Bool.false_eq_true, if_false]
    rw [if_pos (by omega)]
    refine ⟨_, _, rfl, ?_⟩
    rw [Hp.granted_add]
    show _ + Cl.pagI x ≤ _
    omega

/-- All that is held stays held. -/
def Le (T : List Hd.Sl) (W : Int → Int) (T' : List Hd.Sl) (W' : Int → Int) : Prop := ∀ y ys, Ho T W y ys → Ho T' W' y ys
theorem Le.refl (T : List Hd.Sl) (W : Int → Int) : Le T W T W := fun _ _ h => h
theorem Le.trans (h : Le T W T' W') (h2 : Le T' W' T1 W1) : Le T W T1 W1 := fun y ys hy => h2 y ys (h y ys hy)
theorem Le.nd (h : Le T W T' W') {n : Nv} (hn : (vw T W).nd x = some n) : (vw T' W').nd x = some n := nd_of (nd_some hn).1 (h _ _ (nd_some hn).2)
theorem tx_some {t : ByteArray} (h : (vw T W).tx x = some t) : U64 x ∧ Bb.gtE T W x = 0 ∧ (⟨(Bb.gtS T W x).toArray⟩ : ByteArray) = t := by
  simp only [vw] at h
  split at h
  · next hc => exact ⟨hc.1, hc.2, Option.some.inj h⟩
  · cases h
theorem Le.tx (h : Le T W T' W') {t : ByteArray} (ht : (vw T W).tx x = some t) : (vw T' W').tx x = some t := by
  have hf := tx_find ht
  obtain ⟨hu, he, hs⟩ := tx_some ht
  have h1 := h x (rwI T W x) ⟨hf, rfl⟩
  have e1 : Bb.gtE T' W' x = Bb.gtE T W x := by
    unfold Bb.gtE
    rw [if_pos h1.1, if_pos hf, h1.2]
  have e2 : Bb.gtS T' W' x = Bb.gtS T W x := by
    unfold Bb.gtS
    simp only [h1.1, hf, h1.2]
  simp only [vw]
  rw [if_pos ⟨hu, by rw [e1]; exact he⟩, e2, hs]
theorem Le.find (h : Le T W T' W') (hf : findL T' x = none) : findL T x = none := by
  cases e : findL T x with
  | none => rfl
  | some i =>
    have := (h x (rwI T W x) ⟨by rw [e]; rfl, rfl⟩).1
    rw [hf] at this
    cases this
theorem Le.lay (h : Le T W T' W') : ∀ {t : Tr}, t.Lay (vw T W) → t.Lay (vw T' W')
  | .nil, _ => trivial
  | .node _ _ _, ⟨⟨a, b, c⟩, h2, h3, h4, h5, h6⟩ => ⟨⟨h.nd a, h.tx b, h.tx c⟩, h2, h3, h4, Le.lay h h5, Le.lay h h6⟩

/-- What stays by its kind: all blocks but a store's. -/
structure Fr (w w' : World) : Prop where
  size : w.heap.size ≤ w'.heap.size
  same : ∀ (j : Nat) (cs : Array Value) (t : TypeId), w.heap[j]? = some (.cells cs t) → ¬ (t = 137 ∨ t = 215 ∨ t = 180 ∨ t = 170) → w'.heap[j]? = some (.cells cs t)
theorem Fr.trans (h : Fr w w1) (h2 : Fr w1 w') : Fr w w' := ⟨Nat.le_trans h.size h2.size, fun _ _ _ hj ht => h2.same _ _ _ (h.same _ _ _ hj ht) ht⟩
theorem Fr.ofK (k : K w w') : Fr w w' := ⟨k.size, fun _ _ _ hj _ => k.block hj⟩
theorem own_kind {B n sz : Nat} {t : TypeId} {v : Value} {xs : List Value} (h : w.ownsRow B t sz v n xs) {j : Nat} (hj : some j = v.ownBlock) : ∃ cs, w.heap[j]? = some (.cells cs t) := by
  rcases h.2 with ⟨e, _⟩ | ⟨g, cap, cur, e, _, hb, _⟩
  · rw [e] at hj
    cases hj
  · rw [e] at hj
    have : j = g := Option.some.inj hj
    subst this
    exact ⟨_, hb⟩
theorem kind_ne {j : Nat} {cs ds : Array Value} {t u : TypeId} (h : w.heap[j]? = some (.cells cs t)) (h2 : w.heap[j]? = some (.cells ds u)) : t = u := by
  rw [h] at h2
  injection h2 with h2
  injection h2
theorem foot_kind {B : Nat} (h : Sb w B A pg W L v T) {j : Nat} (hj : So.foot A pg v j) {cs : Array Value} {t : TypeId} (hb : w.heap[j]? = some (.cells cs t)) : t = 137 ∨ t = 215 ∨ t = 180 ∨ t = 170 := by
  rcases hj with (rfl | rfl | ⟨p, hp, rfl⟩) | rfl | hj
  · exact .inl (kind_ne hb h.hp.hw.ar.s0)
  · obtain ⟨_, _, hm⟩ := Sl.PMap.isMap h.hp.hw.ar.pm
    rw [hb] at hm
    cases hm
  · exact .inr (.inl (kind_ne hb (h.hp.hw.ar.page p hp)))
  · exact .inr (.inr (.inl (kind_ne hb h.tb.hd)))
  · obtain ⟨ds, hd⟩ := own_kind h.tb.row hj
    exact .inr (.inr (.inr (kind_ne hb hd)))
theorem Fr.ofStp {B : Nat} (h : Sb w B A pg W L v T) (st : Stp A pg pg' v v' w w') : Fr w w' := ⟨st.k.size, fun _ _ _ hj ht => st.k.block hj (fun hf => ht (foot_kind h hf hj))⟩
theorem Srt.fr {a : Option Addr} {n cap : Nat} {l : List Pr} (h : Srt w a n cap l) (k : Fr w w') : Srt w' a n cap l := by
  have ht : ¬ (39 = 137 ∨ 39 = 215 ∨ 39 = 180 ∨ 39 = 170) := by decide
  refine ⟨⟨h.p.len, fun h0 => ?_, h.p.cp, h.p.mx⟩, fun h0 => ?_⟩
  · obtain ⟨b, off, cs, e, hb⟩ := h.kd h0
    obtain ⟨b2, off2, e2, hc⟩ := h.p.ad h0
    rw [e] at e2
    cases e2
    have hb' := k.same b cs 39 hb ht
    refine ⟨b, off, e, fun i p hp => ?_⟩
    obtain ⟨h1, h2⟩ := hc i p hp
    have cv : ∀ j u, w.cell? ⟨b, j, none⟩ = some u → w'.cell? ⟨b, j, none⟩ = some u := fun j u hu => by
      simp only [World.cell?, hb] at hu
      simp only [World.cell?, hb']
      exact hu
    exact ⟨cv _ _ h1, cv _ _ h2⟩
  · obtain ⟨b, off, cs, e, hb⟩ := h.kd h0
    exact ⟨b, off, cs, e, k.same b cs 39 hb ht⟩
theorem Srt.lo {a : Option Addr} {n cap : Nat} {l : List Pr} (h : Srt w a n cap l) {k : Nat} (hk : k ≤ n) : (∀ w, (Instr.slice 22 (.slice a n cap) none (some (.int .i64 (k : Int))) none).run Tryz.prog w = .ok (.slice a k cap) w) ∧ Srt w a k cap (l.take k) :=
  ⟨(h.p.lo hk).1, (h.p.lo hk).2, fun h0 => h.kd (by omega)⟩
theorem Srt.hi {a : Option Addr} {n cap : Nat} {l : List Pr} (h : Srt w a n cap l) {k : Nat} (hk : k ≤ n) : ∃ oa, (∀ w, (Instr.slice 22 (.slice a n cap) (some (.int .i64 (k : Int))) none none).run Tryz.prog w = .ok (.slice oa (n - k) (cap - k)) w) ∧ Srt w oa (n - k) (cap - k) (l.drop k) := by
  obtain ⟨oa, h1, h2, h3⟩ := h.p.hi hk
  refine ⟨oa, h1, h2, fun h0 => ?_⟩
  obtain ⟨b, off, cs, e, hb⟩ := h.kd (by omega)
  exact ⟨b, off + k * 2, cs, h3 (by omega) b off e, hb⟩

/-- A store of c records at most, made since. -/
def Gs (w0 w : World) (A : Ad) (c : Nat) (T : List Hd.Sl) (W : Int → Int) : Prop := ∃ pg L v, Rn w0 w A pg W L v T ∧ T.length ≤ c ∧ granted L ≤ 3 * (c : Int) ∧ A.q = 262144 ∧ A.m = 1000
theorem Gs.keep (h : Gs w0 w A c T W) (k : K w w') : Gs w0 w' A c T W := by
  obtain ⟨pg, L, v, rn, r⟩ := h
  exact ⟨pg, L, v, rn.keep k, r⟩
theorem Gs.k (h : Gs w0 w A c T W) : K w0 w := by
  obtain ⟨pg, L, v, rn, r⟩ := h
  exact rn.k
theorem Gs.mono {c' : Nat} (h : Gs w0 w A c T W) (hc : c ≤ c') : Gs w0 w A c' T W := by
  obtain ⟨pg, L, v, rn, h1, h2, h3⟩ := h
  exact ⟨pg, L, v, rn, by omega, by omega, h3⟩
/-- A text more. -/
def PutT (w0 w : World) (A : Ad) (c : Nat) (T : List Hd.Sl) (W : Int → Int) (t : ByteArray) (x : Int) (w' : World) : Prop := U64 x ∧ findL T x = none ∧ Fr w w' ∧ ∃ T' W', Gs w0 w' A (c + 1) T' W' ∧ Le T W T' W' ∧ (vw T' W').tx x = some t ∧ Bb.op T' = Bb.op T + 1
theorem Gs.put (h : Gs w0 w A c T W) (hc : c < 1000) (t : ByteArray) (ht : t.size ≤ 1000) : Calls Tryz.prog 40 #[sp A.st, .string t] w fun e w' => ∃ x, e = .returned (.tuple #[.int .u64 x, .int .i64 0]) ∧ Aside (PutT w0 w A c T W t x w') := by
  obtain ⟨pg, L, v, rn, h1, h2, h3, h4⟩ := h
  have hsz : (Tx.wds (Tx.bs t)).length ≤ 126 := by
    have := Tx.wds_len (Tx.bs t)
    have := Tx.bs_len t
    omega
  obtain ⟨a, L', ea, hg⟩ := alloc_three rn.s.b.wl (q := A.q) (x := 2 + ((Tx.wds (Tx.bs t)).length : Int)) ⟨by omega, by omega⟩ (by rw [h3]; omega)
  refine (Bb.put_fits rn t ht ea (by rw [h4]; omega)).mono ?_
  rintro e w2 ⟨x, rfl, hx⟩
  obtain ⟨u, x0, pg', W', v', T', f⟩ := hx.out
  refine ⟨x, rfl, u, ?_, Fr.ofStp rn.s.b f.st, T', W', ⟨pg', L', v', f.rn, ?_, ?_, h3, h4⟩, fun y ys hy => (f.old y ys hy).2, tx_of u ht f.ho, f.op⟩
  · cases e : findL T x with
    | none => rfl
    | some i => exact absurd rfl (f.old x (rwI T W x) ⟨by rw [e]; rfl, rfl⟩).1
  · have := f.len
    omega
  · omega
/-- A node more. -/
def MakeT (w0 w : World) (A : Ad) (c : Nat) (T : List Hd.Sl) (W : Int → Int) (n : Nv) (x : Int) (w' : World) : Prop := U64 x ∧ findL T x = none ∧ Fr w w' ∧ ∃ T' W', Gs w0 w' A (c + 1) T' W' ∧ Le T W T' W' ∧ (vw T' W').nd x = some n ∧ Bb.op T' = Bb.op T + 1
theorem Gs.make (h : Gs w0 w A c T W) (hc : c < 1000) (n : Nv) (hn : n.Ok) : Calls Tryz.prog 41 #[sp A.st, n.v] w fun e w' => ∃ x, e = .returned (.tuple #[.int .u64 x, .int .i64 0]) ∧ Aside (MakeT w0 w A c T W n x w') := by
  obtain ⟨pg, L, v, rn, h1, h2, h3, h4⟩ := h
  obtain ⟨a, L', ea, hg⟩ := alloc_three rn.s.b.wl (q := A.q) (x := 2 + 6) ⟨by omega, by omega⟩ (by rw [h3]; omega)
  refine (Nd.make_fits rn n hn ea (by rw [h4]; omega)).mono ?_
  rintro e w2 ⟨x, rfl, hx⟩
  obtain ⟨u, x0, pg', W', v', T', f⟩ := hx.out
  refine ⟨x, rfl, u, ?_, Fr.ofStp rn.s.b f.st, T', W', ⟨pg', L', v', f.rn, ?_, ?_, h3, h4⟩, fun y ys hy => (f.old y ys hy).2, nd_of u f.ho, f.op⟩
  · cases e : findL T x with
    | none => rfl
    | some i => exact absurd rfl (f.old x (rwI T W x) ⟨by rw [e]; rfl, rfl⟩).1
  · have := f.len
    omega
  · omega

end Wa
end Go.Proofs.YtbbjfebdihepnaaGreatDoor
