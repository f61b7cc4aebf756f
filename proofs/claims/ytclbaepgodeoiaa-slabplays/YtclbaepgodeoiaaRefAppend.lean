/-
  The reference's rows of pages appended to; a page built, loaded, laid into a row of one.
-/
import Derived.Test.YtclbaepgodeoiaaRefMore
import Derived.Deep.AppendSrc
namespace Go.Proofs.Ytclbaepgodeoiaa
open Go.RowKit Go.Maps
namespace Sl
variable {w : World} {g : Nat} {a : Option Addr} {cap : Nat} {K : List Int} {W : Int → Int}

theorem info_page : ∃ i0, Try.prog.info? 49 = some i0 ∧ i0.size = 65 ∧ i0.bytes = 520 ∧ ∃ z, i0.zero = some z ∧ z.cells.size = 65 := by
  have hi : (Try.prog.info? 49).map (fun i => (i.zero.map (fun z => z.cells.size), i.size, i.bytes)) = some (some 65, 65, 520) := by kernel_rfl
  obtain ⟨i0, h1, h2⟩ := Option.map_eq_some_iff.1 hi
  simp only [Prod.mk.injEq] at h2
  obtain ⟨h3, h4, h5⟩ := h2
  obtain ⟨z, h6, h7⟩ := Option.map_eq_some_iff.1 h3
  exact ⟨i0, h1, h4, h5, z, h6, h7⟩

/-- What is appended: no page of a nil slice, or the cells behind an address. -/
def SrcRow (w : World) (oa : Option Addr) (m : Nat) (news : List Value) : Prop := (oa = none ∧ m = 0 ∧ news = []) ∨ ∃ ad, oa = some ad ∧ ∀ j u, news[j]? = some u → w.cell? (ad.add j) = some u

theorem run_append_nil (g n cap c : Nat) (hn : n ≤ cap) (ty : TypeId) (w : World) : (Builtin.append_ #[28, 28] ty #[.slice (some ⟨g, 0, none⟩) n cap, .slice none 0 c]).run Try.prog w = .ok (.slice (some ⟨g, 0, none⟩) n cap) w := by
  obtain ⟨i0, hi, hs, _, _⟩ := info_page
  have := run_append_room_src (P := Try.prog) w 28 28 ty 49 i0 Try.underlying28 hi g 0 n cap (.slice none 0 c) 0 [] (Src.ofNil w Try.underlying28 c) (by omega) (fun j hj => by simp at hj) (fun j hj => by simp at hj)
  simpa [World.setCells] using this

theorem wpList_append_pages {ops : Array Oper} {rest : List Oper} {o : Oper} {ac : Act} {Q : Exit → Act → World → Prop} (w : World) (hgd : o.guard = none) (s x : Operand)
    (ho : o.op = .call { callee := .builtin .append, args := #[s, x], argTypes := #[28, 28] })
    (base : Nat) (v : Value) (n : Nat) (xs : List Value) (hs : ac.eval s = v) (hown : w.ownsRow base 49 65 v n xs) (hv : v.ownBlock.isSome = true)
    (oa : Option Addr) (m c : Nat) (news : List Value) (hx : ac.eval x = .slice oa m c) (hl : news.length = m * 65) (hsrc : SrcRow w oa m news) (h1 : ∀ u ∈ news, u.oneCell' = true) (hb : n + m ≤ 100000) (hbase : base ≤ w.heap.size)
    (h : ∀ v' w', w'.ownsRow base 49 65 v' (n + m) (xs ++ news) → w.grownBy w' v.ownBlock → (v'.ownBlock = v.ownBlock ∨ v'.ownBlock = some w.heap.size) → wpList Try.prog ops Q rest (ac.put o.dst v') w') :
    wpList Try.prog ops Q (o :: rest) ac w := by
  obtain ⟨i0, hi, hsz, hby, z, hz, hzs⟩ := info_page
  rcases hsrc with ⟨rfl, rfl, rfl⟩ | ⟨ad, rfl, hc⟩
  · refine wpList_plain hgd fun K hK => ?_
    rcases hown.2 with ⟨rfl, _⟩ | ⟨g, cap, cur, hvv, r1, r2, r3, r4⟩
    · cases hv
    · have hrun := run_append_nil g n cap c r3 o.type w
      rw [← hvv] at hrun
      unfold Oper.wp execOp
      simp only [ho, resolve, invoke, builtin, Sem.run_bind, Sem.run_pure, Result.andThen_ok, List.map_toArray, List.map_cons, List.map_nil, hs, hx, hrun]
      refine hK _ _ (h v w ?_ ⟨rfl, rfl, rfl, Nat.le_refl _, fun _ _ _ => rfl⟩ (Or.inl rfl))
      simpa using hown
  · exact wpList_append_own_at w hgd s x 28 ho base 49 i0 z 65 520 Try.underlying28 hi hz hsz hby hzs (by decide) v n xs hs hown ad m c news hx hl hc h1 (by unfold maxLen; omega) (by omega) hbase (fun v' w' r1 r2 _ r4 => h v' w' r1 r2 r4)

theorem run_build_page (N : Int) (w : World) : (Instr.build 49 #[(0, .int .i64 N)]).run Try.prog w = .ok (.agg (pageArr (fun _ => 0) N)) w := by kernel_rfl

theorem wpList_build_page {ops : Array Oper} {rest : List Oper} {ac : Act} {w : World} {Q : Exit → Act → World → Prop} {d : Option Tmp} {ty : TypeId} {ps : String} {af : Array Edge} {x : Operand} (N : Int) (hx : ac.eval x = .int .i64 N)
    (h : wpList Try.prog ops Q rest (ac.put d (.agg (pageArr (fun _ => 0) N))) w) : wpList Try.prog ops Q ({ dst := d, op := Op.build 49 #[(0, x)], type := ty, pos := ps, after := af, guard := none } :: rest) ac w := by
  refine wpList_plain rfl fun K hK => ?_
  unfold Oper.wp
  simp only [execOp, List.map_toArray, List.map_cons, List.map_nil, hx, run_build_page, Sem.run_bind, Result.andThen_ok]
  exact hK _ _ h

/-- One part that covers all: it is what is laid. -/
theorem fold_set (l : List Value) : ∀ (k : Nat) (cs : Array Value), k + l.length ≤ cs.size →
    ((l.zipIdx k).foldl (fun cs p => cs.setIfInBounds p.2 p.1) cs).size = cs.size ∧ ∀ i, ((l.zipIdx k).foldl (fun cs p => cs.setIfInBounds p.2 p.1) cs)[i]? = if k ≤ i ∧ i < k + l.length then l[i - k]? else cs[i]? := by
  induction l with
  | nil =>
    intro k cs h
    refine ⟨rfl, fun i => ?_⟩
    rw [if_neg (by simp)]
    rfl
  | cons c l ih =>
    intro k cs h
    simp only [List.length_cons] at h
    simp only [List.zipIdx_cons, List.foldl_cons]
    obtain ⟨h1, h2⟩ := ih (k + 1) (cs.setIfInBounds k c) (by simp; omega)
    refine ⟨by rw [h1]; simp, fun i => ?_⟩
    rw [h2 i]
    by_cases e : i = k
    · subst e
      rw [if_neg (by omega), if_pos (by simp)]
      simp [Array.getElem?_setIfInBounds]
      omega
    · by_cases hi : k + 1 ≤ i ∧ i < k + 1 + l.length
      · rw [if_pos hi, if_pos (by simp; omega), show i - k = (i - (k + 1)) + 1 from by omega]
        simp
      · rw [if_neg hi, if_neg (by simp; omega), Array.getElem?_setIfInBounds, if_neg (by omega)]

theorem run_buildSlice_page (cells : Array Value) (hsz : cells.size = 65) (w : World) : (Instr.buildSlice 28 1 #[(0, .agg cells)]).run Try.prog w = .ok (.slice (some ⟨w.heap.size, 0, none⟩) 1 1) (w.alloc (.cells cells 49)) := by
  have hs : (sizeOf 49).run Try.prog w = .ok 65 w := by kernel_rfl
  obtain ⟨i0, hi, _, _, z, hz, hzs⟩ := info_page
  have hzv : (zeroValue 49).run Try.prog w = .ok z w := by simp [zeroValue, typeInfo, hi, hz]
  have hf : Instr.fill (fun i => some (i * 65, 65)) ((Array.range (1 * 65)).map (z.cells[· % z.cells.size]!)) [(0, .agg cells)] = some cells := by
    have hc : (Value.agg cells).cells = cells := rfl
    simp only [Instr.fill, hc, hsz]
    have e : (cells.zipIdx.foldl (fun cs p => cs.setIfInBounds (0 * 65 + p.2) p.1) ((Array.range (1 * 65)).map (z.cells[· % z.cells.size]!))) = cells := by
      rw [← Array.foldl_toList, Array.toList_zipIdx]
      simp only [Nat.zero_mul, Nat.zero_add]
      obtain ⟨h1, h2⟩ := fold_set cells.toList 0 ((Array.range (1 * 65)).map (z.cells[· % z.cells.size]!)) (by simp [hsz])
      apply Array.ext_getElem?
      intro i
      rw [h2 i]
      by_cases hi : i < 65
      · rw [if_pos (by simp [hsz]; exact hi)]
        simp
      · rw [if_neg (by simp [hsz]; omega), Array.getElem?_eq_none (by simp; omega), Array.getElem?_eq_none (by omega)]
    simp at e ⊢
    exact e
  simp only [Instr.buildSlice, Sem.run_bind, run_underlying Try.underlying28, Result.andThen_ok, hs]
  simp [hzv, hf, newRow, Result.andThen]

theorem wpList_one_page {ops : Array Oper} {rest : List Oper} {ac : Act} {w : World} {Q : Exit → Act → World → Prop} {d : Option Tmp} {ty : TypeId} {ps : String} {af : Array Edge} {x : Operand} (cells : Array Value) (hsz : cells.size = 65) (hx : ac.eval x = .agg cells)
    (h : wpList Try.prog ops Q rest (ac.put d (.slice (some ⟨w.heap.size, 0, none⟩) 1 1)) (w.alloc (.cells cells 49))) : wpList Try.prog ops Q ({ dst := d, op := Op.buildSlice 28 1 #[(0, x)], type := ty, pos := ps, after := af, guard := none } :: rest) ac w := by
  refine wpList_plain rfl fun K hK => ?_
  unfold Oper.wp
  simp only [execOp, List.map_toArray, List.map_cons, List.map_nil, hx, run_buildSlice_page cells hsz, Sem.run_bind, Result.andThen_ok]
  exact hK _ _ h

end Sl
end Go.Proofs.Ytclbaepgodeoiaa
