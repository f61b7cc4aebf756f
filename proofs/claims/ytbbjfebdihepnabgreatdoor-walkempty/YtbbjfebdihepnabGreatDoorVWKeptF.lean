/-
  Two trees in one store: one of them is freed.
-/
import Derived.Test.YtbbjfebdihepnabGreatDoorVWFreeW
import Derived.Test.YtbbjfebdihepnabGreatDoorWK
namespace Go.Proofs.YtbbjfebdihepnabGreatDoor
open Go.RowKit Go.Maps
namespace Wa
open Hp (Kept K No Pg Wl granted)
open Hd (U64 findL)
open Nd (Nv)
open Go.Proofs.YtbbjfebdihepnabGreatDoor.Bb (Ho rwI)
open Go.Proofs.YtbbjfebdihepnabGreatDoor.So (Ad Sb Sw Rec Rn Stp sp foot)
variable {w0 w w' : World} {A : Ad} {W W' : Int → Int} {T T' : List Hd.Sl} {x : Int} {c : Nat} {t t2 : Tr} {P : List Pr}

theorem one_nd (h : ∀ ys, Ho T W x ys → Ho T' W' x ys) {n : Nv} (hn : (vw T W).nd x = some n) : (vw T' W').nd x = some n := nd_of (nd_some hn).1 (h _ (nd_some hn).2)
theorem one_tx (h : ∀ ys, Ho T W x ys → Ho T' W' x ys) {t : ByteArray} (ht : (vw T W).tx x = some t) : (vw T' W').tx x = some t := by
  have hf := tx_find ht
  obtain ⟨hu, he, hs⟩ := tx_some ht
  have h1 := h (rwI T W x) ⟨hf, rfl⟩
  have e1 : Bb.gtE T' W' x = Bb.gtE T W x := by
    unfold Bb.gtE
    rw [if_pos h1.1, if_pos hf, h1.2]
  have e2 : Bb.gtS T' W' x = Bb.gtS T W x := by
    unfold Bb.gtS
    simp only [h1.1, hf, h1.2]
  simp only [vw]
  rw [if_pos ⟨hu, by rw [e1]; exact he⟩, e2, hs]
theorem lay_on : ∀ {t : Tr}, (∀ y ∈ hsOf t.items, ∀ ys, Ho T W y ys → Ho T' W' y ys) → t.Lay (vw T W) → t.Lay (vw T' W')
  | .nil, _, _ => trivial
  | .node i l r, h, ⟨⟨a, b, c⟩, h2, h3, h4, h5, h6⟩ => by
    simp only [Tr.items, hs_app, hs_cons, List.mem_append, List.mem_cons] at h
    exact ⟨⟨one_nd (h _ (by simp)) a, one_tx (h _ (by simp)) b, one_tx (h _ (by simp)) c⟩, h2, h3, h4, lay_on (fun y hy => h y (.inl hy)) h5, lay_on (fun y hy => h y (by simp [hy])) h6⟩

/-- A tree beside one that is freed. -/
theorem FreeT.tv (f : FreeT w0 w A c T W t w') (hl : t2.Lay (vw T W)) (hn : (hsOf t2.items).Nodup) (hu : U64 t2.root) (hp : prOf t2.items = P) (up : upP P) (ds : ∀ y ∈ hsOf t2.items, y ∉ hsOf t.items) :
    Fr w w' ∧ ∃ T' W', Tv w0 w' A c T' W' t2 P ∧ Bb.op T' + 3 * t.items.length = Bb.op T := by
  obtain ⟨fr, T', W', gs, ho, hh, _⟩ := f
  exact ⟨fr, T', W', ⟨gs, right_of (lay_on (fun y hy ys h => hh y ys (ds y hy) h) hl) hn hp up, hu, hp⟩, ho⟩
theorem Right.le (h : Right (vw T W) t) (le : Le T W T' W') : Right (vw T' W') t := ⟨le.lay h.lay, h.nd, h.up⟩
/-- A tree that was made beside another one. -/
theorem fresh_off (h : t.Lay (vw T W)) (fresh : ∀ y ∈ hsOf t2.items, findL T y = none) : ∀ y ∈ hsOf t2.items, y ∉ hsOf t.items := fun y hy hm => by
  have h1 := lay_found h hm
  rw [fresh y hy] at h1
  cases h1

end Wa
end Go.Proofs.YtbbjfebdihepnabGreatDoor
