/-
  compact: behind Run of more steps than there are records; what is told of the records' words behind it. No Go text is named here.
-/
import Derived.Test.YtgcnjafoabnhgaaGreatDoorWGTwo
import Derived.Test.YtgcnjafoabnhgaaGreatDoorWGAlike
import Derived.Test.YtgcnjafoabnhgaaGreatDoorWGWordsW
namespace Go.Proofs.YtgcnjafoabnhgaaGreatDoor
namespace Co
open Hp (Pg BlR Bl Wl liveL granted)
open Hd (findL)
open Go.Proofs.YtgcnjafoabnhgaaGreatDoor.So (Rec lN lE gV wE wA)
variable {L L' : List Pg} {T T' : List Hd.Sl} {W W' : Int → Int}

theorem len_of {X Y : List Int} (hX : X.Nodup) (hY : Y.Nodup) (h : ∀ c, c ∈ X ↔ c ∈ Y) : X.length = Y.length :=
  ((List.perm_ext_iff_of_nodup hX hY).2 h).length_eq

/-- As many blocks as open slots. -/
theorem rec_count (l : Wl L) (r : Rec L W T) (hl : T.length ≤ 65536) : (liveL L).length = (T.filter fun s => s.o).length := by
  have h1 : (liveL L).Nodup := (live_rise l).imp (fun h e => by omega)
  have h2 : ((T.filter fun s => s.o).map fun s => s.a).Nodup := by
    unfold List.Nodup
    rw [List.pairwise_map, List.pairwise_filter]
    refine List.pairwise_iff_getElem.2 fun i j hi hj hij so ho e => ?_
    have := r.inj hl (List.getElem?_eq_getElem hi) (List.getElem?_eq_getElem hj) so ho e
    omega
  rw [len_of h1 h2, List.length_map]
  intro c
  rw [Hp.mem_liveL, List.mem_map]
  constructor
  · intro h
    obtain ⟨i, s, hi, so, e⟩ := r.bl c h
    exact ⟨s, List.mem_filter.2 ⟨List.mem_of_getElem? hi, so⟩, e⟩
  · rintro ⟨s, hs, rfl⟩
    obtain ⟨hm, so⟩ := List.mem_filter.1 hs
    obtain ⟨i, hi, e⟩ := List.mem_iff_getElem.1 hm
    exact (r.nm i s (by rw [List.getElem?_eq_getElem hi, e]) so).2.2.2.bl

theorem wk_slot (h : Wk T W T' W') {i : Nat} {s : Hd.Sl} (hi : T[i]? = some s) : ∃ t, T'[i]? = some t ∧ t.o = s.o ∧ t.g = s.g := by
  obtain ⟨h1, h2⟩ := h.2 i s hi
  cases so : s.o with
  | false => exact ⟨s, h1 so, so, rfl⟩
  | true =>
    obtain ⟨b, hb, _⟩ := h2 so
    exact ⟨_, hb, rfl, rfl⟩

theorem wk_count (h : Wk T W T' W') : (T'.filter fun s => s.o).length = (T.filter fun s => s.o).length := by
  have e : T'.map (fun s => s.o) = T.map (fun s => s.o) := by
    apply List.ext_getElem?
    intro i
    rw [List.getElem?_map, List.getElem?_map]
    cases hi : T[i]? with
    | none =>
      have : T'[i]? = none := by
        rw [List.getElem?_eq_none_iff] at hi ⊢
        rw [h.1]
        exact hi
      rw [this]
    | some s =>
      obtain ⟨t, ht, ho, _⟩ := wk_slot h hi
      rw [ht]
      simp [ho]
  have c : ∀ X : List Hd.Sl, (X.filter fun s => s.o).length = ((X.map fun s => s.o).filter fun b => b).length := fun X => by
    rw [List.filter_map, List.length_map]
    rfl
  rw [c, c, e]

theorem wk_find (h : Wk T W T' W') (x : Int) : findL T' x = findL T x := by
  unfold findL
  split
  · rfl
  · cases hi : T[(x % 4294967296 - 1).toNat]? with
    | none =>
      have : T'[(x % 4294967296 - 1).toNat]? = none := by
        rw [List.getElem?_eq_none_iff] at hi ⊢
        rw [h.1]
        exact hi
      rw [this]
    | some s =>
      obtain ⟨t, ht, ho, hg⟩ := wk_slot h hi
      rw [ht]
      simp only [ho, hg]

/-- The words of a record behind slides. -/
theorem wk_wds (r : Rec L W T) (h : Wk T W T' W') (x : Int) : wds T' W' x = wds T W x := by
  have hf := wk_find h x
  cases he : findL T x with
  | none =>
    rw [he] at hf
    have e1 : lN T W x = 0 := by simp [lN, he]
    have e2 : lN T' W' x = 0 := by simp [lN, hf]
    have e3 : lE T x = 7 := by simp [lE, he]
    have e4 : lE T' x = 7 := by simp [lE, hf]
    unfold wds wdK
    rw [e1, e2, e3, e4]
    rfl
  | some i =>
    rw [he] at hf
    obtain ⟨s, hs, so, _, _⟩ := Hd.findL_some he
    obtain ⟨_, n0, n1, _⟩ := r.nm i s hs so
    obtain ⟨b, hb, hw⟩ := (h.2 i s hs).2 so
    have a1 : Hd.addrAt T i = s.a := by simp [Hd.addrAt, hs]
    have a2 : Hd.addrAt T' i = b := by simp [Hd.addrAt, hb]
    have en : W' (b + 1) = W (s.a + 1) := hw 1 (by omega) (by omega)
    have e1 : lN T W x = W (s.a + 1) := by simp [lN, he, a1]
    have e2 : lN T' W' x = W (s.a + 1) := by simp [lN, hf, a2, en]
    have e3 : lE T x = 0 := by simp [lE, he]
    have e4 : lE T' x = 0 := by simp [lE, hf]
    unfold wds wdK
    rw [e1, e2, e3, e4]
    congr 1
    refine List.map_congr_left fun k hk => ?_
    have hk2 := List.mem_range.1 hk
    have hkn : (k : Int) < W (s.a + 1) := by omega
    have w1 : wE T W x k = 0 := by simp [wE, he, a1, hkn]
    have w2 : wE T' W' x k = 0 := by simp [wE, hf, a2, en, hkn]
    have g1 : gV T W x k = W (s.a + 2 + k) := by simp [gV, w1, wA, he, a1]
    have g2 : gV T' W' x k = W' (b + 2 + k) := by simp [gV, w2, wA, hf, a2]
    rw [g1, g2, Int.add_assoc, hw (2 + k) (by omega) (by omega), Int.add_assoc]

/-- Run of one step more than there are records. -/
theorem pass_all (l : Wl L) (r : Rec L W T) (hl : T.length ≤ 65536) {bu : Int} (hb : bu = (liveL L).length + 1) (l1 : Wl (pass bu L T).L) (r1 : Rec (pass bu L T).L W' (pass bu L T).T) (hw : Wk T W (pass bu L T).T W') :
    0 ≤ (pass bu L T).n ∧ (pass bu L T).n ≤ (liveL L).length ∧ (liveL (pass bu L T).L).length = (liveL L).length ∧ granted (pass bu L T).L ≤ granted L ∧ (pass 1 (pass bu L T).L (pass bu L T).T).n = 0 ∧ ∀ a r, BlR (pass bu L T).L a r → Stl (pass bu L T).L a := by
  obtain ⟨h1, h2, h3⟩ := pass_n (b := bu) (L := L) (T := T) (by omega)
  have hn : (pass bu L T).n ≠ bu := by omega
  refine ⟨h1, h3, ?_, fold_granted (pass_start l r), pass_idle l r hn l1 r1, fun a x hx => ((pass_start l r).fold (bu := bu) hn).done hx⟩
  rw [rec_count l1 r1 (by rw [hw.1]; exact hl), rec_count l r hl, wk_count hw]

end Co
end Go.Proofs.YtgcnjafoabnhgaaGreatDoor
