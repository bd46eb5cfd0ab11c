/- Buckets of contacts of unlike peers: both programs see and drop the same; what stands where a statement holds two buckets and one of the reference. -/
import Derived.Test.YtmbbhmmciidfnaaBkLive
import Derived.Test.YtmbbhmmciidfnaaBkRefSee
namespace Go.Proofs.Ytmbbhmmciidfnaa
set_option maxRecDepth 20000
open Go.RowKit Go.Deep
set_option linter.unusedVariables false
/-- No two of one peer. -/
def Dst (l : List Ct) : Prop := l.Pairwise fun a b => a.p ≠ b.p
theorem Dst.nil : Dst [] := List.Pairwise.nil
theorem dropC_none {p : Int} : ∀ {l : List Ct}, (∀ c ∈ l, c.p ≠ p) → dropC p l = l := fun {l} h => by
  unfold dropC cfilt
  rw [List.filter_eq_self]
  intro c hc
  simp [h c hc]
theorem dropC_erase {p : Int} : ∀ {l : List Ct}, Dst l → dropC p l = l.eraseIdx (ixC p l)
  | [], _ => rfl
  | c :: l, h => by
    obtain ⟨h1, h2⟩ := List.pairwise_cons.1 h
    by_cases e : c.p = p
    · have e1 : ixC p (c :: l) = 0 := by unfold ixC cfnd; rw [if_pos (decide_eq_true e)]
      have e2 : dropC p (c :: l) = dropC p l := by unfold dropC cfilt; rw [List.filter_cons]; simp [e]
      rw [e1, e2, List.eraseIdx_cons_zero]
      exact dropC_none fun d hd hp => h1 d hd (by rw [e, hp])
    · have e1 : ixC p (c :: l) = ixC p l + 1 := by unfold ixC; rw [cfnd, if_neg (by simpa using e)]
      have e2 : dropC p (c :: l) = c :: dropC p l := by unfold dropC cfilt; rw [List.filter_cons]; simp [e]
      rw [e1, e2, List.eraseIdx_cons_succ, dropC_erase h2]
theorem isIn_ix {p : Int} {l : List Ct} (h : Dst l) : isIn p l = decide (ixC p l < l.length) := by
  have hle := cfnd_le (fun c => decide (c.p = p)) l
  unfold isIn
  rw [dropC_erase h, List.length_eraseIdx]
  by_cases e : ixC p l < l.length
  · rw [if_pos e]; simp [e]; omega
  · rw [if_neg e]; simp [e]
theorem see_same {l : List Ct} {c : Ct} (h : Dst l) (hl : l.length ≤ 3) : seeL l c = rseeL l c ∧ seeX l c = rseeX l c ∧ seeB l c = rseeB l c := by
  have hd := dropC_erase (p := c.p) h
  by_cases e : ixC c.p l < l.length
  · have h3 : ¬ (dropC c.p l).length = 3 := by rw [hd, List.length_eraseIdx, if_pos e]; omega
    unfold seeL seeX seeB rseeL rseeX rseeB
    rw [if_neg h3, if_neg h3, decide_eq_false h3, if_pos e, if_pos e, if_pos e, hd]
    exact ⟨rfl, rfl, rfl⟩
  · have he : dropC c.p l = l := by rw [hd, List.eraseIdx_of_length_le (by omega)]
    unfold seeL seeX seeB rseeL rseeX rseeB
    rw [he, if_neg e, if_neg e, if_neg e]
    by_cases h3 : l.length = 3
    · rw [if_pos h3, if_pos h3, decide_eq_true h3, if_neg (by omega), if_neg (by omega), if_neg (by omega)]; exact ⟨rfl, rfl, rfl⟩
    · rw [if_neg h3, if_neg h3, decide_eq_false h3, if_pos (by omega), if_pos (by omega), if_pos (by omega)]; exact ⟨rfl, rfl, rfl⟩
theorem Dst.drop {l : List Ct} (h : Dst l) (p : Int) : Dst (dropC p l) := List.Pairwise.filter _ h
theorem dropC_ne {l : List Ct} {p : Int} : ∀ c ∈ dropC p l, c.p ≠ p := fun c hc => by
  unfold dropC cfilt at hc
  simpa using (List.mem_filter.1 hc).2
theorem Dst.see {l : List Ct} (h : Dst l) (c : Ct) : Dst (seeL l c) := by
  unfold seeL
  split
  · exact h.drop _
  · refine List.pairwise_append.2 ⟨h.drop _, List.pairwise_singleton _ _, fun a ha b hb => ?_⟩
    obtain rfl : b = c := by simpa using hb
    exact dropC_ne a ha
/-- What stands where a statement holds bucket b, bucket o and a bucket r of the reference in the blocks sb, sb + 1, sb + 2. -/
structure Three (W wr : World) (sb : Nat) (lb lo lr : List Ct) (v : Value) : Prop where
  below : Below W.heap.size W wr
  hs : W.heap.size ≤ sb
  b : BAt wr sb 31 [] lb []
  o : BAt wr (sb + 1) 31 [] lo []
  r : RBAt wr (sb + 2) 35 [] v [] lr
  own : ∀ i, v.ownBlock = some i → W.heap.size ≤ i
section
variable {W wr w' : World} {sb : Nat} {lb lo lr : List Ct} {v v' : Value}
theorem Three.nb (h : Three W wr sb lb lo lr v) : v.ownBlock ≠ some sb ∧ v.ownBlock ≠ some (sb + 1) := by
  refine ⟨fun e => ?_, fun e => ?_⟩
  · obtain ⟨_, _, cs, hc⟩ := h.r.own.block e
    rw [show wr.heap[sb]? = _ from h.b.at_] at hc
    simp only [Option.some.injEq, Obj.cells.injEq] at hc
    exact absurd hc.2.1 (by decide)
  · obtain ⟨_, _, cs, hc⟩ := h.r.own.block e
    rw [show wr.heap[sb + 1]? = _ from h.o.at_] at hc
    simp only [Option.some.injEq, Obj.cells.injEq] at hc
    exact absurd hc.2.1 (by decide)
theorem below_own {B g : Nat} {a b c : World} (h : Below B a b) (hg : b.grownBy c (some g)) (hB : B ≤ g) (hb : B ≤ b.heap.size) : Below B a c := h.grown hg hb (fun k hk => by have := Option.some.inj hk; omega)
theorem Three.size (h : Three W wr sb lb lo lr v) : W.heap.size ≤ wr.heap.size := h.below.size
theorem Three.ext (h : Three W wr sb lb lo lr v) (hx : wr.Extends w') : Three W w' sb lb lo lr v :=
  ⟨h.below.trans ((Gr.below_of hx).mono h.size), h.hs, h.b.ext hx, h.o.ext hx, h.r.ext hx, h.own⟩
theorem Three.b' {l : List Ct} (h : Three W wr sb lb lo lr v) (hg : wr.grownBy w' (some sb)) (hb : BAt w' sb 31 [] l []) : Three W w' sb l lo lr v :=
  ⟨below_own h.below hg h.hs h.size, h.hs, hb, h.o.grown hg (by simp), ⟨(hg.block _ h.r.lt (by simp)).trans h.r.row, h.r.own.kept hg (.inr h.nb.1), h.r.ty⟩, h.own⟩
theorem Three.o' {l : List Ct} (h : Three W wr sb lb lo lr v) (hg : wr.grownBy w' (some (sb + 1))) (hb : BAt w' (sb + 1) 31 [] l []) : Three W w' sb lb l lr v :=
  ⟨below_own h.below hg (Nat.le_succ_of_le h.hs) h.size, h.hs, h.b.grown hg (by simp), hb, ⟨(hg.block _ h.r.lt (by simp)).trans h.r.row, h.r.own.kept hg (.inr h.nb.2), h.r.ty⟩, h.own⟩
theorem RWrote.below {B g : Nat} (h : RWrote wr g v v' w') (hB : B ≤ g) (hv : ∀ i, v.ownBlock = some i → B ≤ i) (hs : B ≤ wr.heap.size) : Below B wr w' :=
  ⟨h.os, h.tape, h.output, h.size, fun i hi => h.block i (by omega) (by omega) (fun e => by have := hv i e; omega)⟩
theorem Three.r' {l : List Ct} (h : Three W wr sb lb lo lr v) (hg : RWrote wr (sb + 2) v v' w') (hr : RBAt w' (sb + 2) 35 [] v' [] l) : Three W w' sb lb lo l v' :=
  ⟨h.below.trans (hg.below (Nat.le_add_right_of_le h.hs) h.own h.size), h.hs, h.b.kept (hg.block _ h.b.lt (by omega) h.nb.1), h.o.kept (hg.block _ h.o.lt (by omega) h.nb.2), hr, fun i hi => by
    rcases hg.new with e | e
    · exact h.own i (by rw [← e]; exact hi)
    · exact Nat.le_trans h.size (e i hi)⟩
/-- A variable of a contact made since stays where the reference's bucket is written. -/
theorem Three.var {y : Nat} {x : Ct} (h : Three W wr sb lb lo lr v) {w1 : World} (hx : wr.Extends w1) (hy : wr.heap.size ≤ y) (hc : CAt w1 y 28 [] [x] []) (hg : RWrote w1 (sb + 2) v v' w') : CAt w' y 28 [] [x] [] :=
  hc.kept (hg.block y hc.lt (by have := h.r.lt; omega) (fun e => by have := (h.r.own.block e).2.1; omega))
end
theorem cell_same {w w' : World} {b : Nat} (h : w'.heap[b]? = w.heap[b]?) (o : Nat) : w'.cell? ⟨b, o, none⟩ = w.cell? ⟨b, o, none⟩ := by simp [World.cell?, h]
end Go.Proofs.Ytmbbhmmciidfnaa
