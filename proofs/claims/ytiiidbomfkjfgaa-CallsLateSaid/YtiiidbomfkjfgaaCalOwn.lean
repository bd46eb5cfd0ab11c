/- A queue of calls behind its pointer, at an offset of a block. -/
import Derived.Test.YtiiidbomfkjfgaaCalDown
namespace Go.Proofs.Ytiiidbomfkjfgaa
set_option maxRecDepth 20000
open Go.RowKit Go.Deep
set_option linter.unusedVariables false
abbrev TW : TypeId := 45
def OwnW (w : World) (v : Value) (l : List Wt) : Prop := w.ownsRow 0 TW 1 v l.length (PL l)
theorem wqUnder : Try.prog.underlying 41 = some (.slice 45) := Try.underlying41
theorem wqParts : ∃ i, Try.prog.info? 45 = some i ∧ i.zero = some (.pointer none) ∧ i.size = 1 ∧ i.bytes = 8 := by
  obtain ⟨i, hi⟩ : ∃ i, Try.prog.info? 45 = some i := info_of_underlying Try.underlying45
  have h : (Try.prog.info? 45).map (fun i => (i.zero, i.size, i.bytes)) = some (some (.pointer none), 1, 8) := by kernel_rfl
  rw [hi] at h
  simp only [Option.map_some, Option.some.injEq, Prod.mk.injEq] at h
  exact ⟨i, hi, h.1, h.2.1, h.2.2⟩
theorem wpList_app_w {ops : Array Oper} {rest : List Oper} {o : Oper} {a : Act} {Q : Exit → Act → World → Prop} {w : World} (hgd : o.guard = none) (s x : Operand)
    (ho : o.op = .call { callee := .builtin .append, args := #[s, x], argTypes := #[41, 41] })
    (v : Value) (l : List Wt) (hs : a.eval s = v) (hown : OwnW w v l) (y : Value) (c : Wt) (hx : a.eval x = y) (hsrc : Src Try.prog 1 41 y 1 [pv c.b] w)
    (h63 : l.length + 1 ≤ 10000) (h : ∀ v' w', OwnW w' v' (l ++ [c]) → w.grownBy w' v.ownBlock → (v'.ownBlock = v.ownBlock ∨ ∃ g, v'.ownBlock = some g ∧ w.heap.size ≤ g) → wpList Try.prog ops Q rest (a.put o.dst v') w') : wpList Try.prog ops Q (o :: rest) a w := by
  obtain ⟨i, hi, hz0, hz1, hz2⟩ := wqParts
  refine wpList_append_own_src3 w hgd s x 41 41 ho 0 45 i (.pointer none) 1 8 wqUnder hi hz0 hz1 hz2 rfl v l.length (PL l) hs hown y 1 [pv c.b] hx hsrc (by unfold maxLen; omega) (by omega) (Nat.zero_le _) (fun _ => True) (fun _ _ _ _ _ _ _ _ => trivial) (fun _ _ => trivial) (fun _ _ => trivial) ?_
  intro v' w' ho' hg' hn' _
  refine h v' w' ?_ hg' hn'
  unfold OwnW
  rw [List.length_append, List.length_singleton, PL_append]
  exact ho'
/-- At offset o of block t lies a queue: the slice v of the calls l. -/
structure WQ (w : World) (t o : Nat) (v : Value) (l : List Wt) : Prop where
  row : ∃ cs T, w.heap[t]? = some (.cells cs T (0, 0)) ∧ cs[o]? = some v
  own : OwnW w v l
  each : ∀ k, k < l.length → WAt w (l.getD k zw).b (l.getD k zw).c k
  nd : (bsOf l).Nodup
  ne : v.ownBlock ≠ some t
  nt : t ∉ bsOf l
/-- Its blocks. -/
def WD (t : Nat) (v : Value) (l : List Wt) : Nat → Prop := fun i => i = t ∨ v.ownBlock = some i ∨ i ∈ bsOf l
/-- What a call leaves that writes a queue alone, and calls of r. -/
structure WW (w : World) (t o : Nat) (v : Value) (r : List Wt) (v' : Value) (w' : World) : Prop where
  fr : Fr (WD t v r) w w'
  here : ∀ cs T, w.heap[t]? = some (.cells cs T (0, 0)) → w'.heap[t]? = some (.cells (cs.setIfInBounds o v') T (0, 0))
  new : v'.ownBlock = v.ownBlock ∨ ∃ g, v'.ownBlock = some g ∧ w.heap.size ≤ g
section
variable {w w1 w2 w' : World} {t o : Nat} {v v1 v2 v' : Value} {l l' r : List Wt}
theorem OwnW.slice (h : OwnW w v l) : ∃ a cap, v = .slice a l.length cap := by
  rcases h.2 with ⟨rfl, h0⟩ | ⟨g, cap, cur, rfl, _⟩
  · rw [h0]; exact ⟨_, _, rfl⟩
  · exact ⟨_, _, rfl⟩
theorem OwnW.block (h : OwnW w v l) {g : Nat} (hg : v.ownBlock = some g) : g < w.heap.size ∧ ∃ cs, w.heap[g]? = some (.cells cs TW (0, 0)) := by
  rcases h.2 with ⟨rfl, h0⟩ | ⟨g', cap, cur, rfl, _, hh, _⟩
  · cases hg
  · simp only [Value.ownBlock, Option.some.injEq] at hg
    subst hg
    exact ⟨(Array.getElem?_eq_some_iff.1 hh).1, cur, hh⟩
theorem OwnW.kept (h : OwnW w v l) (hk : ∀ g, v.ownBlock = some g → w'.heap[g]? = w.heap[g]?) : OwnW w' v l := by
  refine ⟨h.1, ?_⟩
  rcases h.2 with hn | ⟨g, cap, cur, rfl, hbg, hg, rest⟩
  · exact .inl hn
  · exact .inr ⟨g, cap, cur, rfl, hbg, (hk g rfl).trans hg, rest⟩
theorem WQ.lt (h : WQ w t o v l) : t < w.heap.size := by
  obtain ⟨cs, T, h1, _⟩ := h.row
  exact (Array.getElem?_eq_some_iff.1 h1).1
theorem WQ.cell (h : WQ w t o v l) : w.cell? ⟨t, o, none⟩ = some v := by
  obtain ⟨cs, T, h1, h2⟩ := h.row
  rw [cell_of_row _ _ _ _ _ _ h1]; exact h2
theorem WQ.frozen (h : WQ w t o v l) (j : Nat) : w.frozen? ⟨t, j, none⟩ = false := by
  obtain ⟨cs, T, h1, h2⟩ := h.row
  exact frozen_of_row _ _ _ _ _ h1
theorem each_lt (h : ∀ k, k < l.length → WAt w (l.getD k zw).b (l.getD k zw).c k) {i : Nat} (hi : i ∈ bsOf l) : i < w.heap.size := by
  obtain ⟨x, hx, rfl⟩ := List.mem_map.1 hi
  obtain ⟨k, hk, rfl⟩ := List.mem_iff_getElem.1 hx
  have := (h k hk).lt
  rwa [List.getD_eq_getElem?_getD, List.getElem?_eq_getElem hk] at this
theorem each_type (h : ∀ k, k < l.length → WAt w (l.getD k zw).b (l.getD k zw).c k) {i : Nat} (hi : i ∈ bsOf l) : ∃ cs, w.heap[i]? = some (.cells cs 48 (0, 0)) := by
  obtain ⟨x, hx, rfl⟩ := List.mem_map.1 hi
  obtain ⟨k, hk, rfl⟩ := List.mem_iff_getElem.1 hx
  have := h k hk
  rw [List.getD_eq_getElem?_getD, List.getElem?_eq_getElem hk] at this
  exact ⟨_, this⟩
theorem WQ.dlt (h : WQ w t o v l) {i : Nat} (hi : WD t v l i) : i < w.heap.size := by
  rcases hi with rfl | hi | hi
  · exact h.lt
  · exact (h.own.block hi).1
  · exact each_lt h.each hi
theorem WQ.kept (h : WQ w t o v l) (hb : ∀ i, WD t v l i → w'.heap[i]? = w.heap[i]?) : WQ w' t o v l := by
  obtain ⟨cs, T, h1, h2⟩ := h.row
  exact ⟨⟨cs, T, (hb t (.inl rfl)).trans h1, h2⟩, h.own.kept fun g hg => hb g (.inr (.inl hg)), fun k hk => (h.each k hk).kept (hb _ (.inr (.inr (bs_get hk)))), h.nd, h.ne, h.nt⟩
theorem WQ.ext (h : WQ w t o v l) (hx : w.Extends w') : WQ w' t o v l := h.kept fun i hi => hx.block i (h.dlt hi)
/-- The array of one that is not empty. -/
theorem WQ.array (h : WQ w t o v l) (hl : 0 < l.length) : ∃ g cap post, v = .slice (some ⟨g, 0, none⟩) l.length cap ∧ l.length ≤ cap ∧ g ≠ t ∧ QArr w g l post := by
  rcases h.own.2 with ⟨_, h0⟩ | ⟨g, cap, cur, e, _, hg, hnc, hcm, hcs, htake⟩
  · omega
  · subst e
    refine ⟨g, cap, cur.toList.drop (l.length * 1), rfl, hnc, fun e => h.ne (by rw [e]; rfl), ?_, h.each, h.nd⟩
    rw [hg, ← htake, List.take_append_drop, Array.toArray_toList]
theorem WQ.qd {g n cap : Nat} (h : WQ w t o (.slice (some ⟨g, 0, none⟩) n cap) l) : ¬ QD g l t := fun hd => by
  rcases hd with e | e
  · exact h.ne (by rw [e]; rfl)
  · exact h.nt e
theorem wd_qd {g n cap : Nat} {i : Nat} (h : QD g l i) : WD t (.slice (some ⟨g, 0, none⟩) n cap) l i := by
  rcases h with rfl | h
  · exact .inr (.inl rfl)
  · exact .inr (.inr h)
/-- Behind a call that reorders it. -/
theorem WQ.again {g n cap : Nat} {post : List Value} (h : WQ w t o (.slice (some ⟨g, 0, none⟩) n cap) l) (hp : l'.Perm l) (h0 : QArr w g l post) (h1 : QArr w' g l' post) (hf : Fr (QD g l) w w') :
    WQ w' t o (.slice (some ⟨g, 0, none⟩) n cap) l' := by
  obtain ⟨cs, T, h2, h3⟩ := h.row
  have hl := hp.length_eq
  refine ⟨⟨cs, T, (hf.away t h.lt h.qd).trans h2, h3⟩, ?_, h1.each, h1.nd, h.ne, fun e => h.nt ((bs_perm hp).1 e)⟩
  rcases h.own.2 with ⟨e, _⟩ | ⟨g', cap', cur, e, hB, hg, hnc, hcm, hcs, htake⟩
  · cases e
  · cases e
    have h4 := h0.arr
    rw [hg] at h4
    simp only [Option.some.injEq, Obj.cells.injEq] at h4
    obtain ⟨hc, _⟩ := h4
    refine ⟨by rw [PL_length, Nat.mul_one], .inr ⟨g, cap, _, by rw [hl], hB, h1.arr, by rw [hl]; exact hnc, hcm, ?_, ?_⟩⟩
    · rw [← hcs, hc, List.size_toArray, List.size_toArray, List.length_append, List.length_append, PL_length, PL_length, hl]
    · rw [List.toList_toArray, List.take_append_of_le_length (by rw [PL_length]; omega), List.take_of_length_le (by rw [PL_length]; omega)]
theorem WW.of_fr (h : WQ w t o v l) (hf : Fr (WD t v r) w w') (ht : w'.heap[t]? = w.heap[t]?) : WW w t o v r v w' := by
  refine ⟨hf, fun cs T h1 => ?_, .inl rfl⟩
  obtain ⟨cs', T', h2, h3⟩ := h.row
  rw [h1] at h2
  simp only [Option.some.injEq, Obj.cells.injEq] at h2
  obtain ⟨rfl, rfl, _⟩ := h2
  rw [ht, h1]
  congr 2
  obtain ⟨h4, h5⟩ := Array.getElem?_eq_some_iff.1 h3
  apply Array.ext_getElem?
  intro k
  rw [Array.getElem?_setIfInBounds]
  split
  · rename_i e; subst e; simp [h4, h5]
  · rfl
theorem WW.ext (h : WQ w t o v l) (hx : w.Extends w') : WW w t o v r v w' := WW.of_fr h (Fr.ext hx) (hx.block t h.lt)
theorem WW.reo {g n cap m : Nat} {post : List Value} (h : WQ w t o (.slice (some ⟨g, 0, none⟩) n cap) l) (hr : ReOut g m l post w l' w') : WW w t o (.slice (some ⟨g, 0, none⟩) n cap) l (.slice (some ⟨g, 0, none⟩) n cap) w' :=
  WW.of_fr h (hr.2.2.1.mono fun i hi => wd_qd hi) (hr.2.2.1.away t h.lt h.qd)
theorem WW.trans {r' : List Wt} (h : WW w t o v r v1 w1) (k : WW w1 t o v1 r' v2 w2) (hr : ∀ i, i < w.heap.size → i ∈ bsOf r' → i ∈ bsOf r) : WW w t o v r v2 w2 := by
  refine ⟨h.fr.trans k.fr fun i hi hd => ?_, fun cs T h1 => ?_, ?_⟩
  · rcases hd with rfl | e | e
    · exact .inl rfl
    · rcases h.new with h2 | ⟨g, h2, h3⟩
      · exact .inr (.inl (h2 ▸ e))
      · rw [h2] at e; have := Option.some.inj e; omega
    · exact .inr (.inr (hr i hi e))
  · have := k.here _ _ (h.here cs T h1)
    simpa using this
  · rcases k.new with h2 | ⟨g, h2, h3⟩
    · rw [h2]; exact h.new
    · exact .inr ⟨g, h2, Nat.le_trans h.fr.size h3⟩
theorem WW.mono {r' : List Wt} (h : WW w t o v r v' w') (hr : ∀ i, i ∈ bsOf r → i ∈ bsOf r') : WW w t o v r' v' w' :=
  ⟨h.fr.mono fun i hd => by
    rcases hd with rfl | e | e
    · exact .inl rfl
    · exact .inr (.inl e)
    · exact .inr (.inr (hr i e)), h.here, h.new⟩
theorem WQ.reo {g n cap m : Nat} {post : List Value} (h : WQ w t o (.slice (some ⟨g, 0, none⟩) n cap) l) (h0 : QArr w g l post) (hr : ReOut g m l post w l' w') : WQ w' t o (.slice (some ⟨g, 0, none⟩) n cap) l' := h.again hr.1 h0 hr.2.1 hr.2.2.1
end
end Go.Proofs.Ytiiidbomfkjfgaa
