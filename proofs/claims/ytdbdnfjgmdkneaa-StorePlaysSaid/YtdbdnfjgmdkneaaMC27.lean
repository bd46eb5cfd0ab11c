/- In one text: StoPlaysM, StoPlaysW, StoPlaysWalk. -/
import Derived.Test.YtdbdnfjgmdkneaaMC2
import Derived.Test.YtdbdnfjgmdkneaaMC9
import Derived.Test.YtdbdnfjgmdkneaaMC22
import Derived.Test.YtdbdnfjgmdkneaaMC26
namespace Go.Proofs.Ytdbdnfjgmdkneaa
set_option maxRecDepth 20000
open Go.RowKit Go.Deep Go.Maps
set_option linter.unusedVariables false
/-- The stores s, o of the program and r of the reference lie in memory made since w0, in blocks of their own, none of X. -/
def W3 (w0 : World) (X : Nat → Prop) (w : World) (ts tq tr : Nat) (ss so sr : Sto) : Prop := ∃ Ds Do Dr : Nat → Prop, SAt w ts Ds ss ∧ SAt w tq Do so ∧ RSt w tr Dr sr ∧ w0.Extends w ∧
  (∀ i, Ds i → (w0.heap.size ≤ i ∧ i < w.heap.size) ∧ ¬ X i) ∧ (∀ i, Do i → (w0.heap.size ≤ i ∧ i < w.heap.size) ∧ ¬ X i) ∧ (∀ i, Dr i → (w0.heap.size ≤ i ∧ i < w.heap.size) ∧ ¬ X i) ∧
  (∀ i, Ds i → ¬ Do i ∧ ¬ Dr i) ∧ (∀ i, Do i → ¬ Dr i)
section
variable {w0 w w' w1 w2 : World} {X X' : Nat → Prop} {ts tq tr : Nat} {ss so sr : Sto}
theorem W3.old (h : W3 w0 X w ts tq tr ss so sr) : w0.Extends w := by
  obtain ⟨_, _, _, _, _, _, h, _⟩ := h; exact h
theorem W3.avoid (h : W3 w0 X w ts tq tr ss so sr) (hx : w.Extends w') (hX : ∀ i, X' i → X i ∨ w.heap.size ≤ i) : W3 w0 X' w' ts tq tr ss so sr := by
  obtain ⟨Ds, Do, Dr, h1, h2, h3, h4, h5, h6, h7, h8, h9⟩ := h
  have hs := hx.size
  have key : ∀ D : Nat → Prop, (∀ i, D i → (w0.heap.size ≤ i ∧ i < w.heap.size) ∧ ¬ X i) → ∀ i, D i → (w0.heap.size ≤ i ∧ i < w'.heap.size) ∧ ¬ X' i := fun D hD i hi => by
    obtain ⟨⟨k1, k2⟩, k3⟩ := hD i hi
    refine ⟨⟨k1, by omega⟩, fun hX' => ?_⟩
    rcases hX i hX' with h | h
    · exact k3 h
    · omega
  exact ⟨Ds, Do, Dr, h1.ext hx, h2.ext hx, h3.ext hx, Gr.ext_trans h4 hx, key _ h5, key _ h6, key _ h7, h8, h9⟩
theorem W3.later (h : W3 w0 X w ts tq tr ss so sr) (hx : w.Extends w') : W3 w0 X w' ts tq tr ss so sr := h.avoid hx fun i hi => .inl hi
/-- A domain with the blocks made since. -/
theorem nx_in {D : Nat → Prop} (h : ∀ i, D i → (w0.heap.size ≤ i ∧ i < w.heap.size) ∧ ¬ X i) (h0 : w0.heap.size ≤ w1.heap.size) (hx : w.heap.size ≤ w1.heap.size) (hs : w1.heap.size ≤ w2.heap.size) (hX : ∀ i, X i → i < w1.heap.size) : ∀ i, Nx D w1 w2 i → (w0.heap.size ≤ i ∧ i < w2.heap.size) ∧ ¬ X i := fun i hi => by
  rcases hi with hi | hi
  · obtain ⟨⟨k1, k2⟩, k3⟩ := h i hi
    exact ⟨⟨k1, by omega⟩, k3⟩
  · exact ⟨⟨by omega, hi.2⟩, fun hx => by have := hX i hx; omega⟩
theorem up_in {D : Nat → Prop} (h : ∀ i, D i → (w0.heap.size ≤ i ∧ i < w.heap.size) ∧ ¬ X i) (hs : w.heap.size ≤ w2.heap.size) : ∀ i, D i → (w0.heap.size ≤ i ∧ i < w2.heap.size) ∧ ¬ X i := fun i hi => by
  obtain ⟨⟨k1, k2⟩, k3⟩ := h i hi
  exact ⟨⟨k1, by omega⟩, k3⟩
theorem W3.doS (h : W3 w0 X w ts tq tr ss so sr) : ∃ Ds : Nat → Prop, SAt w ts Ds ss ∧ (∀ i, Ds i → (w0.heap.size ≤ i ∧ i < w.heap.size) ∧ ¬ X i) ∧ ∀ w1 w2 ss', w.Extends w1 → (∀ i, X i → i < w1.heap.size) → Left w1 ts Ds ss' w2 → W3 w0 X w2 ts tq tr ss' so sr ∧ Fr (fun i => ¬ X i) w1 w2 := by
  obtain ⟨Ds, Do, Dr, h1, h2, h3, h4, h5, h6, h7, h8, h9⟩ := h
  refine ⟨Ds, h1, h5, fun w1 w2 ss' hx hX hL => ?_⟩
  have s0 := h4.size
  have s1 := hx.size
  have s2 := hL.2.fr.size
  refine ⟨⟨Nx Ds w1 w2, Do, Dr, hL.1, (h2.ext hx).away hL.2.fr (fun i hi hd => (h8 i hd).1 hi) hL.2.piece, (h3.ext hx).away s2 (fun g hg hl => hL.2.fr.away g hl (fun hd => (h8 g hd).2 hg)), Fr.extends (Gr.ext_trans h4 hx) hL.2.fr (fun i hi => (h5 i hi).1.1), nx_in h5 (by omega) s1 s2 hX, up_in h6 (by omega), up_in h7 (by omega), fun i hi => ?_, h9⟩, ⟨hL.2.fr.os, hL.2.fr.tape, hL.2.fr.output, s2, fun i hi hn => hL.2.fr.away i hi (fun hd => hn (h5 i hd).2)⟩⟩
  rcases hi with hi | hi
  · exact h8 i hi
  · exact ⟨fun hd => by have := (h6 i hd).1; omega, fun hd => by have := (h7 i hd).1; omega⟩
theorem W3.doO (h : W3 w0 X w ts tq tr ss so sr) : ∃ Do : Nat → Prop, SAt w tq Do so ∧ (∀ i, Do i → (w0.heap.size ≤ i ∧ i < w.heap.size) ∧ ¬ X i) ∧ ∀ w1 w2 so', w.Extends w1 → (∀ i, X i → i < w1.heap.size) → Left w1 tq Do so' w2 → W3 w0 X w2 ts tq tr ss so' sr ∧ Fr (fun i => ¬ X i) w1 w2 := by
  obtain ⟨Ds, Do, Dr, h1, h2, h3, h4, h5, h6, h7, h8, h9⟩ := h
  refine ⟨Do, h2, h6, fun w1 w2 so' hx hX hL => ?_⟩
  have s0 := h4.size
  have s1 := hx.size
  have s2 := hL.2.fr.size
  refine ⟨⟨Ds, Nx Do w1 w2, Dr, (h1.ext hx).away hL.2.fr (fun i hi hd => (h8 i hi).1 hd) hL.2.piece, hL.1, (h3.ext hx).away s2 (fun g hg hl => hL.2.fr.away g hl (fun hd => h9 g hd hg)), Fr.extends (Gr.ext_trans h4 hx) hL.2.fr (fun i hi => (h6 i hi).1.1), up_in h5 (by omega), nx_in h6 (by omega) s1 s2 hX, up_in h7 (by omega), fun i hi => ⟨fun hd => ?_, (h8 i hi).2⟩, fun i hi hd => ?_⟩, ⟨hL.2.fr.os, hL.2.fr.tape, hL.2.fr.output, s2, fun i hi hn => hL.2.fr.away i hi (fun hd => hn (h6 i hd).2)⟩⟩
  · rcases hd with hd | hd
    · exact (h8 i hi).1 hd
    · have := (h5 i hi).1; omega
  · rcases hi with hi | hi
    · exact h9 i hi hd
    · have := (h7 i hd).1; omega
/-- No piece of a log lies among a store's of the reference. -/
theorem RSt.np {D : Nat → Prop} {t : Nat} {st : Sto} (h : RSt w t D st) : RSt w t (fun i => D i ∧ ∀ (cs : Array Value) (f : Nat × Nat), w.heap[i]? ≠ some (Obj.cells cs 116 f)) st := by
  obtain ⟨DB, v1, v2, ps, qs, h⟩ := h
  obtain ⟨sa, sc, hb, _⟩ := h.cells
  have other : ∀ (g : Nat) (cs : Array Value) (T : TypeId) (f : Nat × Nat), w.heap[g]? = some (Obj.cells cs T f) → T ≠ 116 → ∀ (cs' : Array Value) (f' : Nat × Nat), w.heap[g]? ≠ some (Obj.cells cs' 116 f') := fun g cs T f hg hT cs' f' e => by
    rw [hg] at e
    simp only [Option.some.injEq, Obj.cells.injEq] at e
    exact hT e.2.1
  refine ⟨DB, v1, v2, ps, qs, ⟨h.log, ⟨h.here, other t _ _ _ hb (by decide)⟩, h.own1, h.own2, h.recs1, h.recs2, fun g hg => ?_, fun g hg => ?_, fun g hg => ?_, h.apart, fun p hp => ?_, h.dataB⟩⟩
  · obtain ⟨cs, hc⟩ := h.own1.block g hg
    exact ⟨h.in1 g hg, other g _ _ _ hc (by decide)⟩
  · obtain ⟨cs, hc⟩ := h.own2.block g hg
    exact ⟨h.in2 g hg, other g _ _ _ hc (by decide)⟩
  · obtain ⟨k1, cs, k2⟩ := h.inB g hg
    exact ⟨⟨k1, other g _ _ _ k2 (by decide)⟩, cs, k2⟩
  · obtain ⟨k1, k2⟩ := h.data p hp
    refine ⟨k1, k2.imp id fun k2 g hg => ?_⟩
    obtain ⟨k3, cs, f, k4⟩ := k2 g hg
    exact ⟨⟨k3, other g _ _ _ k4 (by decide)⟩, cs, f, k4⟩
theorem W3.doR (h : W3 w0 X w ts tq tr ss so sr) : ∃ Dr : Nat → Prop, RSt w tr Dr sr ∧ (∀ i, Dr i → (w0.heap.size ≤ i ∧ i < w.heap.size) ∧ ¬ X i) ∧ ∀ w1 w2 sr', w.Extends w1 → (∀ i, X i → i < w1.heap.size) → RLeft w1 tr Dr sr' w2 → W3 w0 X w2 ts tq tr ss so sr' ∧ Fr (fun i => ¬ X i) w1 w2 := by
  obtain ⟨Ds, Do, Dr, h1, h2, h3, h4, h5, h6, h7, h8, h9⟩ := h
  refine ⟨_, h3.np, fun i hi => h7 i hi.1, fun w1 w2 sr' hx hX hL => ?_⟩
  have s0 := h4.size
  have s1 := hx.size
  have s2 := hL.2.size
  have hp : Still 116 w1 w2 := fun i cs f hi => by
    refine hL.2.away i (Array.getElem?_eq_some_iff.1 hi).1 fun hd => ?_
    have hl := (h7 i hd.1).1.2
    rw [hx.block i hl] at hi
    exact hd.2 _ _ hi
  refine ⟨⟨Ds, Do, Nx (fun i => Dr i ∧ ∀ (cs : Array Value) (f : Nat × Nat), w.heap[i]? ≠ some (Obj.cells cs 116 f)) w1 w2, (h1.ext hx).away hL.2 (fun i hi hd => (h8 i hi).2 hd.1) hp, (h2.ext hx).away hL.2 (fun i hi hd => h9 i hi hd.1) hp, hL.1, Fr.extends (Gr.ext_trans h4 hx) hL.2 (fun i hi => (h7 i hi.1).1.1), up_in h5 (by omega), up_in h6 (by omega), nx_in (fun i hi => h7 i hi.1) (by omega) s1 s2 hX, fun i hi => ⟨(h8 i hi).1, fun hd => ?_⟩, fun i hi hd => ?_⟩, ⟨hL.2.os, hL.2.tape, hL.2.output, s2, fun i hi hn => hL.2.away i hi (fun hd => hn (h7 i hd.1).2)⟩⟩
  · rcases hd with hd | hd
    · exact (h8 i hi).2 hd.1
    · have := (h5 i hi).1; omega
  · rcases hd with hd | hd
    · exact h9 i hi hd.1
    · have := (h6 i hi).1; omega
/-- A byte is written that is none of theirs. -/
theorem W3.poke {g o : Nat} {u : Value} {cs : Array Value} (h : W3 w0 X w ts tq tr ss so sr) (hg : X g) (hc : w.heap[g]? = some (.cells cs 5 (0, 0))) (hg0 : w0.heap.size ≤ g) (hw : w' = w.setCell ⟨g, o, none⟩ u) : W3 w0 X w' ts tq tr ss so sr := by
  obtain ⟨Ds, Do, Dr, h1, h2, h3, h4, h5, h6, h7, h8, h9⟩ := h
  have hgr : w.grownBy w' (some g) := by subst hw; exact grown_set _ _ _ _
  have hs := hgr.size
  have hf : Fr (fun i => i = g) w w' := Fr.grown hgr fun j e => (Option.some.inj e).symm
  have hp : Still 116 w w' := Still.grown hgr hc (by decide)
  exact ⟨Ds, Do, Dr, h1.away hf (fun i hi e => (h5 i hi).2 (e ▸ hg)) hp, h2.away hf (fun i hi e => (h6 i hi).2 (e ▸ hg)) hp, h3.away hs (fun i hi hl => hf.away i hl (fun e => (h7 i hi).2 (e ▸ hg))), Fr.extends h4 hf (fun i e => e ▸ hg0), up_in h5 hs, up_in h6 hs, up_in h7 hs, h8, h9⟩
end
/-- What holds of a store's numbers. -/
structure Fin1 (st : Sto) (c : Nat) : Prop where
  inv : SM.Inv st
  size : LM.size st.lg ≤ 90 * c
  few : st.t.length ≤ 90 * c
theorem Fin1.mono {st : Sto} {c d : Nat} (h : Fin1 st c) (hd : c ≤ d) : Fin1 st d := ⟨h.inv, by have := h.size; omega, by have := h.few; omega⟩
theorem Fin1.new (x : Int) : Fin1 (SM.new x) 0 := ⟨SM.inv_new _, Nat.zero_le _, Nat.zero_le _⟩
theorem Fin1.room {st : Sto} {c : Nat} (h : Fin1 st c) : st.l.length ≤ 1000 := Nat.le_trans h.inv.room h.inv.most
/-- Records that came in, for a store whose blocks are all newer. -/
theorem recs_args {w0 w : World} {D : Nat → Prop} {v : Value} {l : List Rc} (h : Recs w0 v l) (hx : w0.Extends w) (hD : ∀ i, D i → w0.heap.size ≤ i) : RecsD w D v l := by
  have hs := hx.size
  rcases Nat.eq_zero_or_pos l.length with h0 | h0
  · obtain ⟨a, cap, rfl⟩ := h.slice
    rw [h0]
    exact .inl ⟨List.eq_nil_of_length_eq_zero h0, a, cap, rfl⟩
  · obtain ⟨b, off, cap, e, _, hb, _⟩ := arg_at h h0
    refine .inr ⟨b, off, cap, e, by omega, fun hd => by have := hD b hd; omega, fun k hk => ?_⟩
    obtain ⟨b', off', cap', e', _, _, ra, rc, hr, hu, hd⟩ := arg_at h hk
    rw [e] at e'
    cases e'
    exact ⟨ra, rc, rangeAt_ext hr hx, hu.ext hx, hd.imp id fun hd g hg => ⟨fun h => by have := hD g h; have := hd g hg; omega, by have := hd g hg; omega⟩⟩
/-- Copies, for a store whose blocks are all older. -/
theorem recs_own {w : World} {D : Nat → Prop} {B : Nat} {v : Value} {ps : List Pr} (h : OwnB w B v ps) (hd : DataB w B ps) (hD : ∀ i, D i → i < B) : RecsD w D v (recs ps) := by
  rcases h.own.kinds with ⟨rfl, rfl⟩ | ⟨g, cap, rfl⟩
  · exact .inl ⟨rfl, none, 0, rfl⟩
  · have hl := h.1.lt g rfl
    refine .inr ⟨g, 0, cap, by rw [recs_length], hl.2, fun hd => by have := hD g hd; omega, fun k hk => ?_⟩
    rw [recs_length] at hk
    rw [recs_at]
    obtain ⟨a, c, e⟩ := h.2 _ (getD_mem hk)
    obtain ⟨h1, h2⟩ := hd _ (getD_mem hk)
    refine ⟨a, c, ?_, by rw [← e]; exact h1, .inr fun g' hg' => ?_⟩
    · rw [Nat.zero_add, ← e]
      exact h.own.arr.1.range hk
    · rw [← e] at hg'
      obtain ⟨k1, cs, k2⟩ := h2 g' hg'
      exact ⟨fun hd => by have := hD g' hd; omega, (Array.getElem?_eq_some_iff.1 k2).1⟩
end Go.Proofs.Ytdbdnfjgmdkneaa
namespace Go.Proofs.Ytdbdnfjgmdkneaa
set_option maxRecDepth 20000
open Go.RowKit Go.Deep Go.Maps
set_option linter.unusedVariables false
section
variable {w0 w w1 w2 w3 w4 : World} {X : Nat → Prop} {ts tq tr c B : Nat} {ss so sr st : Sto} {v : Value} {l : List Rc} {ps : List Pr}
theorem W3.start {x : Int} (h1 : w0.Extends w1) (h2 : w1.Extends w2) (a2 : SAt w2 w1.heap.size (fun i => i = w1.heap.size) (SM.new x)) (z2 : w2.heap.size = w1.heap.size + 1) (h3 : w2.Extends w3) (a3 : SAt w3 w2.heap.size (fun i => i = w2.heap.size) (SM.new 5)) (z3 : w3.heap.size = w2.heap.size + 1) (h4 : w3.Extends w4) (a4 : RSt w4 tr (fun i => w3.heap.size ≤ i ∧ i < w4.heap.size) (SM.new x)) : W3 w0 (fun _ => False) w4 w1.heap.size w2.heap.size tr (SM.new x) (SM.new 5) (SM.new x) := by
  have s0 := h1.size
  have s4 := h4.size
  refine ⟨_, _, _, a2.ext (Gr.ext_trans h3 h4), a3.ext h4, a4, Gr.ext_trans h1 (Gr.ext_trans h2 (Gr.ext_trans h3 h4)), fun i hi => ?_, fun i hi => ?_, fun i hi => ?_, fun i hi => ?_, fun i hi hd => ?_⟩
  · exact ⟨by omega, id⟩
  · exact ⟨by omega, id⟩
  · exact ⟨by omega, id⟩
  · exact ⟨by omega, fun hd => by omega⟩
  · omega
theorem W3.putO (h : W3 w0 X w ts tq tr ss so sr) (hf : Fin1 so c) (hc : c ≤ 3600) (hX : ∀ i, X i → i < w.heap.size) (hv : Recs w0 v l) (hl : l.length ≤ 60) :
    Calls Try.prog 26 #[.pointer (some ⟨tq, 0, none⟩), v] w fun e w' => (∃ n : Nat, e = .returned (.int .i64 ((n : Nat) : Int))) ∧ ∃ so', Fin1 so' (c + 60) ∧ W3 w0 X w' ts tq tr ss so' sr ∧ Fr (fun i => ¬ X i) w w' := by
  obtain ⟨D, h1, h2, h3⟩ := h.doO
  refine (sput_any tq D so v l w h1 (fun i hi => (h2 i hi).1.2) hf.inv (recs_args hv h.old fun i hi => (h2 i hi).1.1) (by omega) (by have := hf.few; omega) (by have := hf.size; omega)).mono ?_
  rintro e w' ⟨k1, k2, k3, k4, k5⟩
  obtain ⟨k6, k7⟩ := h3 w w' _ (Gr.ext_refl _) hX k2
  exact ⟨⟨_, k1⟩, _, ⟨k3, by have := hf.size; omega, by have := hf.few; omega⟩, k6, k7⟩
theorem W3.putS (h : W3 w0 X w ts tq tr ss so sr) (hf : Fin1 ss c) (hc : c ≤ 3600) (hX : ∀ i, X i → i < w.heap.size) (ho : OwnB w B v ps) (hd : DataB w B ps) (hB : ∀ i, B ≤ i → i < w.heap.size → X i) (hl : ps.length ≤ 60) :
    Calls Try.prog 26 #[.pointer (some ⟨ts, 0, none⟩), v] w fun e w' => e = .returned (.int .i64 (((SM.puts ss (recs ps)).2 : Nat) : Int)) ∧ Fin1 (SM.puts ss (recs ps)).1 (c + 60) ∧ W3 w0 X w' ts tq tr (SM.puts ss (recs ps)).1 so sr ∧ Fr (fun i => ¬ X i) w w' := by
  obtain ⟨D, h1, h2, h3⟩ := h.doS
  refine (sput_any ts D ss v (recs ps) w h1 (fun i hi => (h2 i hi).1.2) hf.inv (recs_own ho hd fun i hi => ?_) (by rw [recs_length]; omega) (by have := hf.few; omega) (by have := hf.size; omega)).mono ?_
  · obtain ⟨k1, k2⟩ := h2 i hi
    by_cases hb : B ≤ i
    · exact absurd (hB i hb k1.2) k2
    · omega
  rintro e w' ⟨k1, k2, k3, k4, k5⟩
  obtain ⟨k6, k7⟩ := h3 w w' _ (Gr.ext_refl _) hX k2
  rw [recs_length] at k4 k5
  exact ⟨k1, ⟨k3, by have := hf.size; omega, by have := hf.few; omega⟩, k6, k7⟩
theorem W3.putR (h : W3 w0 X w ts tq tr ss so sr) (hf : Fin1 sr c) (hc : c ≤ 3600) (hX : ∀ i, X i → i < w.heap.size) (hv : Recs w0 v l) (hl : l.length ≤ 60) :
    Calls Try.prog 29 #[.pointer (some ⟨tr, 0, none⟩), v] w fun e w' => e = .returned (.int .i64 (((SM.puts sr l).2 : Nat) : Int)) ∧ W3 w0 X w' ts tq tr ss so (SM.puts sr l).1 ∧ Fr (fun i => ¬ X i) w w' := by
  obtain ⟨D, h1, h2, h3⟩ := h.doR
  refine (rput_any tr D sr v l w h1 (fun i hi => (h2 i hi).1.2) hf.inv (recs_args hv h.old fun i hi => (h2 i hi).1.1) (by omega) (by have := hf.few; omega) (by have := hf.size; omega)).mono ?_
  rintro e w' ⟨k1, k2, k3, k4, k5⟩
  obtain ⟨k6, k7⟩ := h3 w w' _ (Gr.ext_refl _) hX k2
  exact ⟨k1, k6, k7⟩
theorem W3.expS (h : W3 w0 X w ts tq tr ss so sr) (hf : Fin1 ss c) (hc : c ≤ 3600) (hX : ∀ i, X i → i < w.heap.size) (now : Int) :
    Calls Try.prog 30 #[.pointer (some ⟨ts, 0, none⟩), .int .i64 now] w fun e w' => e = .returned (.int .i64 ((ss.l.length : Nat) + (ss.t.length : Nat) - ((SM.expire ss now).l.length : Nat) - ((SM.expire ss now).t.length : Nat))) ∧ Fin1 (SM.expire ss now) (c + 60) ∧ W3 w0 X w' ts tq tr (SM.expire ss now) so sr ∧ Fr (fun i => ¬ X i) w w' := by
  obtain ⟨D, h1, h2, h3⟩ := h.doS
  refine (expire_any ts D ss now w h1 hf.room (by have := hf.few; omega)).mono ?_
  rintro e w' ⟨k1, k2⟩
  obtain ⟨k6, k7⟩ := h3 w w' _ (Gr.ext_refl _) hX k2
  exact ⟨k1, ⟨SM.expire_inv hf.inv now, by have : LM.size (SM.expire ss now).lg ≤ 90 * c := hf.size
                                           omega, by have : (SM.expire ss now).t.length ≤ 90 * c := Nat.le_trans (List.length_filter_le _ _) hf.few
                                                     omega⟩, k6, k7⟩
theorem W3.expR (h : W3 w0 X w ts tq tr ss so sr) (hf : Fin1 sr c) (hc : c ≤ 3600) (hX : ∀ i, X i → i < w.heap.size) (now : Int) :
    Calls Try.prog 31 #[.pointer (some ⟨tr, 0, none⟩), .int .i64 now] w fun e w' => e = .returned (.int .i64 ((sr.l.length : Nat) + (sr.t.length : Nat) - ((SM.expire sr now).l.length : Nat) - ((SM.expire sr now).t.length : Nat))) ∧ W3 w0 X w' ts tq tr ss so (SM.expire sr now) ∧ Fr (fun i => ¬ X i) w w' := by
  obtain ⟨D, h1, h2, h3⟩ := h.doR
  refine (rexpire_any tr D sr now w h1 hf.room (by have := hf.few; omega)).mono ?_
  rintro e w' ⟨k1, k2⟩
  exact ⟨k1, h3 w w' _ (Gr.ext_refl _) hX k2⟩
theorem W3.sureS (h : W3 w0 X w ts tq tr ss so sr) (hf : Fin1 ss c) (hX : ∀ i, X i → i < w.heap.size) :
    Calls Try.prog 32 #[.pointer (some ⟨ts, 0, none⟩)] w fun e w' => e = .returned (.tuple #[]) ∧ Fin1 (SM.sure ss) (c + 60) ∧ W3 w0 X w' ts tq tr (SM.sure ss) so sr ∧ Fr (fun i => ¬ X i) w w' := by
  obtain ⟨D, h1, h2, h3⟩ := h.doS
  refine (ssure_any ts D ss w h1).mono ?_
  rintro e w' ⟨k1, k2⟩
  obtain ⟨k6, k7⟩ := h3 w w' _ (Gr.ext_refl _) hX k2
  exact ⟨k1, ⟨SM.sure_inv hf.inv, by have : LM.size (SM.sure ss).lg ≤ 90 * c := hf.size
                                     omega, by have : (SM.sure ss).t.length ≤ 90 * c := hf.few
                                               omega⟩, k6, k7⟩
theorem W3.sureR (h : W3 w0 X w ts tq tr ss so sr) (hX : ∀ i, X i → i < w.heap.size) :
    Calls Try.prog 33 #[.pointer (some ⟨tr, 3, none⟩)] w fun e w' => e = .returned (.tuple #[]) ∧ W3 w0 X w' ts tq tr ss so (SM.sure sr) ∧ Fr (fun i => ¬ X i) w w' := by
  obtain ⟨D, h1, h2, h3⟩ := h.doR
  refine (rssure_any tr D sr w h1).mono ?_
  rintro e w' ⟨k1, k2⟩
  exact ⟨k1, h3 w w' _ (Gr.ext_refl _) hX k2⟩
theorem W3.restS (h : W3 w0 X w ts tq tr ss so sr) (hf : Fin1 ss c) (hc : c ≤ 3600) (hX : ∀ i, X i → i < w.heap.size) (keep : Int) (hk : -9223372036854775808 ≤ keep ∧ keep ≤ 9223372036854775807) :
    Calls Try.prog 34 #[.pointer (some ⟨ts, 0, none⟩), .int .i64 keep] w fun e w' => e = .returned (.tuple #[]) ∧ Fin1 (SM.restart ss keep) (c + 60) ∧ W3 w0 X w' ts tq tr (SM.restart ss keep) so sr ∧ Fr (fun i => ¬ X i) w w' := by
  obtain ⟨D, h1, h2, h3⟩ := h.doS
  refine (restart_any ts D ss keep w h1 (fun i hi => (h2 i hi).1.2) hf.inv (by have := hf.size; omega) hk).mono ?_
  rintro e w' ⟨k1, k2, k3, k4⟩
  obtain ⟨k6, k7⟩ := h3 w w' _ (Gr.ext_refl _) hX k2
  have hz : LM.size (SM.restart ss keep).lg ≤ 90 * c := by
    rw [(SM.restart_lg ss keep).1]
    exact Nat.le_trans (LM.upto_le _ _) hf.size
  exact ⟨k1, ⟨k3, by omega, by have := hf.size; omega⟩, k6, k7⟩
theorem W3.restR (h : W3 w0 X w ts tq tr ss so sr) (hf : Fin1 sr c) (hc : c ≤ 3600) (hX : ∀ i, X i → i < w.heap.size) (keep : Int) (hk : -9223372036854775808 ≤ keep ∧ keep ≤ 9223372036854775807) :
    Calls Try.prog 35 #[.pointer (some ⟨tr, 0, none⟩), .int .i64 keep] w fun e w' => e = .returned (.tuple #[]) ∧ W3 w0 X w' ts tq tr ss so (SM.restart sr keep) ∧ Fr (fun i => ¬ X i) w w' := by
  obtain ⟨D, h1, h2, h3⟩ := h.doR
  refine (rrestart_any tr D sr keep w h1 (fun i hi => (h2 i hi).1.2) hf.inv (by have := hf.size; omega) hk).mono ?_
  rintro e w' ⟨k1, k2, k3, k4⟩
  exact ⟨k1, h3 w w' _ (Gr.ext_refl _) hX k2⟩
/-- The copies, as the law reads and overwrites them. -/
def Xs (w : World) (X : Nat → Prop) (B : Nat) (v : Value) (ps : List Pr) : Prop :=
  ∀ k, k < ps.length → ∃ g cap a c, v = .slice (some ⟨g, 0, none⟩) ps.length cap ∧ X g ∧ (∃ cs, w.heap[g]? = some (.cells cs 28 (0, 0)) ∧ cs[k * 10 + 9]? = some (.slice a (ps.getD k zp).1.d.length c)) ∧
    ((ps.getD k zp).1.d.length = 0 ∨ ∃ b off, a = some ⟨b, off, none⟩ ∧ X b ∧ B ≤ b ∧ ∃ cs, w.heap[b]? = some (.cells cs 5 (0, 0)) ∧ off + (ps.getD k zp).1.d.length ≤ cs.size)
theorem Xs.of (ho : OwnB w B v ps) (hd : DataB w B ps) (hB : ∀ i, B ≤ i → i < w.heap.size → X i) : Xs w X B v ps := fun k hk => by
  obtain ⟨g, ⟨cap, rfl⟩, hr⟩ := ho.own.at_ k hk
  obtain ⟨cs, hc⟩ := ho.own.block g rfl
  have hl := ho.1.lt g rfl
  obtain ⟨a, c, e⟩ := ho.2 _ (getD_mem hk)
  obtain ⟨h1, h2⟩ := hd _ (getD_mem hk)
  refine ⟨g, cap, a, c, rfl, hB g (by omega) (by omega), ⟨cs, hc, ?_⟩, ?_⟩
  · have h9 := hr 9 (ps.getD k zp).2 rfl
    rw [cell_of_row _ _ _ _ _ _ hc] at h9
    rw [h9, e]
  · rw [e] at h1 h2
    rcases h1 with ⟨h3, _⟩ | ⟨b, off, cap', h3, _, _, _, h4, _⟩
    · exact .inl (by rw [h3]; rfl)
    · rw [Value.slice.injEq] at h3
      obtain ⟨rfl, -, rfl⟩ := h3
      obtain ⟨k1, cs', k2⟩ := h2 b rfl
      rcases Nat.eq_zero_or_pos (ps.getD k zp).1.d.length with h0 | h0
      · exact .inl h0
      · refine .inr ⟨b, off, rfl, hB b k1 (Array.getElem?_eq_some_iff.1 k2).1, k1, cs', k2, ?_⟩
        have h5 := h4 ((ps.getD k zp).1.d.length - 1) (by omega)
        rw [cell_of_row _ _ _ _ _ _ k2] at h5
        have := (Array.getElem?_eq_some_iff.1 h5).1
        omega
theorem Xs.keep (h : Xs w X B v ps) (hf : Fr (fun i => ¬ X i) w w2) : Xs w2 X B v ps := fun k hk => by
  obtain ⟨g, cap, a, c, h1, h2, ⟨cs, h3, h4⟩, h5⟩ := h k hk
  refine ⟨g, cap, a, c, h1, h2, ⟨cs, (hf.away g (Array.getElem?_eq_some_iff.1 h3).1 (fun hn => hn h2)).trans h3, h4⟩, h5.imp id ?_⟩
  rintro ⟨b, off, k1, k2, k3, cs', k4, k5⟩
  exact ⟨b, off, k1, k2, k3, cs', (hf.away b (Array.getElem?_eq_some_iff.1 k4).1 (fun hn => hn k2)).trans k4, k5⟩
theorem Xs.poke {b o : Nat} {u : Value} {cs : Array Value} (h : Xs w X B v ps) (hc : w.heap[b]? = some (.cells cs 5 (0, 0))) (hw : w2 = w.setCell ⟨b, o, none⟩ u) : Xs w2 X B v ps := fun k hk => by
  have hgr : w.grownBy w2 (some b) := by subst hw; exact grown_set _ _ _ _
  obtain ⟨g, cap, a, c, h1, h2, ⟨cs1, h3, h4⟩, h5⟩ := h k hk
  have hgb : g ≠ b := fun e => by
    rw [e, hc] at h3
    simp only [Option.some.injEq, Obj.cells.injEq] at h3
    exact absurd h3.2.1 (by decide)
  refine ⟨g, cap, a, c, h1, h2, ⟨cs1, (hgr.block g (Array.getElem?_eq_some_iff.1 h3).1 (fun e => hgb (Option.some.inj e))).trans h3, h4⟩, h5.imp id ?_⟩
  rintro ⟨b', off, k1, k2, k3, cs', k4, k5⟩
  by_cases e : b' = b
  · subst e
    rw [hc] at k4
    cases k4
    refine ⟨b', off, k1, k2, k3, cs.setIfInBounds o u, ?_, ?_⟩
    · rw [hw, heap_setCell_same _ _ _ _ _ _ hc]
    · simpa using k5
  · exact ⟨b', off, k1, k2, k3, cs', (hgr.block b' (Array.getElem?_eq_some_iff.1 k4).1 (fun e' => e (Option.some.inj e'))).trans k4, k5⟩
/-- The law's own copy of an act. -/
def Box (w : World) (g : Nat) (way now : Int) (v : Value) : Prop := w.heap[g]? = some (.cells #[.int .i64 way, .int .i64 now, v] 49 (0, 0))
theorem Box.lt {g : Nat} {way now : Int} (h : Box w g way now v) : g < w.heap.size := (Array.getElem?_eq_some_iff.1 h).1
theorem Box.ext {g : Nat} {way now : Int} (h : Box w g way now v) (hx : w.Extends w2) : Box w2 g way now v := (hx.block g h.lt).trans h
theorem Box.keep {g : Nat} {way now : Int} (h : Box w g way now v) (hf : Fr (fun i => ¬ X i) w w2) (hg : X g) : Box w2 g way now v := (hf.away g h.lt (fun hn => hn hg)).trans h
theorem Box.poke {g b o : Nat} {way now : Int} {u : Value} {cs : Array Value} (h : Box w g way now v) (hc : w.heap[b]? = some (.cells cs 5 (0, 0))) (hw : w2 = w.setCell ⟨b, o, none⟩ u) : Box w2 g way now v := by
  have hgr : w.grownBy w2 (some b) := by subst hw; exact grown_set _ _ _ _
  refine (hgr.block g h.lt (fun e => ?_)).trans h
  have e' := Option.some.inj e
  unfold Box at h
  rw [e', hc] at h
  simp only [Option.some.injEq, Obj.cells.injEq] at h
  exact absurd h.2.1 (by decide)
theorem Box.cells {g : Nat} {way now : Int} (h : Box w g way now v) : w.cell? ⟨g, 0, none⟩ = some (.int .i64 way) ∧ w.cell? ⟨g, 1, none⟩ = some (.int .i64 now) ∧ w.cell? ⟨g, 2, none⟩ = some v :=
  ⟨by rw [cell_of_row _ _ _ _ _ _ h]; rfl, by rw [cell_of_row _ _ _ _ _ _ h]; rfl, by rw [cell_of_row _ _ _ _ _ _ h]; rfl⟩
theorem W3.box {way now : Int} (h : W3 w0 (fun _ => False) w ts tq tr ss so sr) (hw : w.alloc (.cells #[.int .i64 way, .int .i64 now, v] 49) = w2) : W3 w0 (fun i => i = w.heap.size) w2 ts tq tr ss so sr ∧ Box w2 w.heap.size way now v := by
  subst hw
  exact ⟨h.avoid (ext_alloc _ _) fun i hi => .inr (Nat.le_of_eq hi.symm), heap_alloc_new w _⟩
end
end Go.Proofs.Ytdbdnfjgmdkneaa
namespace Go.Proofs.Ytdbdnfjgmdkneaa
set_option maxRecDepth 20000
open Go.RowKit Go.Deep Go.Maps
set_option linter.unusedVariables false
set_option maxHeartbeats 4000000 in
theorem StorePlays_walk (most : Int) (v : Value) (l : List As) (w : World) (hn : (Lit.int .i64 most).wf = true) (hv : ActsR w v l) :
    Calls Try.prog 6 #[.int .i64 most, v] w fun e w' => e = .returned (.bool true) ∧ Below w.heap.size w w' := by
  have hbn := bounds_i64 hn
  have HAT : Hid (∀ k, k < l.length → ∃ b off cap, v = .slice (some ⟨b, off, none⟩) l.length cap ∧ b < w.heap.size ∧ AsCell w b (off + k * 3) (l.getD k As.zero)) := fun k hk => by
    rcases hv with ⟨rfl, _⟩ | ⟨b, off, cap, rfl, _, _, h4, h5⟩
    · simp at hk
    · exact ⟨b, off, cap, rfl, h4, h5 k hk⟩
  obtain ⟨aa, ca, rfl⟩ := hv.slice
  clear hn hv
  generalize l.length = na at *
  by_cases hna : na ≤ 60
  rotate_left
  · have h60 : 60 < na := by omega
    clear HAT hna
    go_enter Try.func6, Try.ntmps6
    go_wp2_with fail
    refine (alive16_any w).mono ?_
    rintro e w1 ⟨rfl, hx1⟩
    have HX1 := Lib.hid hx1
    clear hx1
    go_wp2
    go_ret
    exact ⟨rfl, Gr.below_of HX1.out⟩
  · have h60 : ¬ 60 < na := by omega
    go_enter Try.func6, Try.ntmps6
    go_wp2_with fail
    refine (alive16_any w).mono ?_
    rintro e w1 ⟨rfl, hx1⟩
    have HX1 := Lib.hid hx1
    clear hx1
    go_wp2_with fail
    refine (new16_any most w1 hbn).mono ?_
    rintro e w2 ⟨rfl, hx2, hs2, hz2⟩
    have HX2 := Lib.hid hx2
    have HS2 := Lib.hid hs2
    have HZ2 := Lib.hid hz2
    clear hx2 hs2 hz2
    go_wp2_with fail
    refine (new16_any 5 w2 (by omega)).mono ?_
    rintro e w3 ⟨rfl, hx3, hs3, hz3⟩
    have HX3 := Lib.hid hx3
    have HS3 := Lib.hid hs3
    have HZ3 := Lib.hid hz3
    clear hx3 hs3 hz3
    go_wp2_with fail
    refine (rnew16_any most w3 hbn).mono ?_
    rintro e w4 ⟨tr, rfl, hx4, hs4⟩
    have HW4 := Lib.hid (W3.start HX1.out HX2.out HS2.out HZ2.out HX3.out HS3.out HZ3.out hx4 hs4)
    have HF4 := Lib.hid (Fin1.new most)
    have HG4 := Lib.hid (Fin1.new 5)
    clear hx4 hs4 HX1 HX2 HX3 HS2 HS3 HZ2 HZ3 hbn
    generalize w1.heap.size = ts at *
    generalize w2.heap.size = tq at *
    generalize SM.new most = st0 at *
    generalize SM.new 5 = so0 at *
    go_wp2_with fail
    go_loopw [9] (fun s9 wr => ∃ (k : Nat) (st so : Sto), k ≤ na ∧ s9 = .int .i64 k ∧ Hid (W3 w (fun _ => False) wr ts tq tr st so st) ∧ Hid (Fin1 st (60 * k)) ∧ Hid (Fin1 so (60 * k))) (fun s9 _ => na - (intOf s9).toNat)
    case atStart => exact ⟨0, _, _, by omega, by rfl, HW4, HF4, HG4⟩
    case round =>
      clear HW4 HF4 HG4
      obtain ⟨k, st, so, hk, rfl, HW, HF, HG⟩ := hrel
      by_cases h1 : k < na
      · obtain ⟨b, off, cap, ea, hb, ra, rc, e0, e1, e2, hr, hok, hw0, hw1⟩ := HAT.out k h1
        cases ea
        have HR := Lib.hid hr
        have HOK := Lib.hid hok
        have HB1 := Lib.hid (bounds_i64 hw1)
        have e0 := HW.out.old.cell_of e0
        have e1 := HW.out.old.cell_of e1
        have e2 := HW.out.old.cell_of e2
        clear hr hok hw0 hw1 hb
        generalize l.getD k As.zero = r at *
        obtain ⟨way, now, rl⟩ := r
        simp only at e0 e1 e2 HR HOK HB1
        go_wp2_with fail
        generalize hw5 : wr.alloc _ = w5
        obtain ⟨hw3, hbx⟩ := HW.out.box hw5
        have HW5 := Lib.hid hw3
        have HBX5 := Lib.hid hbx
        have HFW := Lib.hid (few16_any _ rl w5 (HR.out.ext hw3.old))
        clear hw3 hbx hw5 HW e0 e1 e2
        generalize wr.heap.size = ga at *
        by_cases hFew : FewL rl
        rotate_left
        · rw [decide_eq_false hFew] at HFW
          refine HFW.out.mono ?_
          rintro e w6 ⟨rfl, hx6⟩
          have HX6 := Lib.hid (Gr.ext_trans HW5.out.old hx6)
          clear hx6 HAT HR HOK HB1 HBX5 HFW HF HG
          go_wp2
          go_ret
          exact ⟨rfl, Gr.below_of HX6.out⟩
        rw [decide_eq_true hFew] at HFW
        refine HFW.out.mono ?_
        rintro e w6 ⟨rfl, hx6⟩
        have HW6 := Lib.hid (HW5.out.later hx6)
        have HBX6 := Lib.hid (HBX5.out.ext hx6)
        clear hx6 HW5 HBX5 HFW
        have hrl : rl.length ≤ 60 := hFew.2
        have HCP : Hid (∀ w', w.Extends w' → Calls Try.prog 27 #[.slice ra rl.length rc] w' (CopiesOut w' rl)) := fun w' hx => copies_any _ rl w' (HR.out.ext hx) (by omega) (fun x hx => Nat.le_trans (hFew.1 x hx) (by omega))
        have HFEW : Hid (∀ x ∈ rl, x.d.length ≤ 100) := hFew.1
        have HPO := Lib.hid (HW6.out.putO HG.out (by omega) (fun i hi => hi ▸ HBX6.out.lt) HR.out hrl)
        obtain ⟨b0, b1, b2⟩ := HBX6.out.cells
        obtain ⟨nl, hnl⟩ : ∃ nl, nl = rl.length := ⟨_, rfl⟩
        have HNL := Lib.hid hnl
        rw [← hnl] at b2 HPO HCP hrl HR HBX6
        clear hnl hFew HG
        go_wp2_with fail
        refine HPO.out.mono ?_
        rintro e w7 ⟨⟨en, rfl⟩, so1, hg7, hw7, hf7⟩
        have HG7 := Lib.hid hg7
        have HW7 := Lib.hid hw7
        have HBX7 := Lib.hid (HBX6.out.keep hf7 rfl)
        clear hg7 hw7 hf7 HPO HW6 HBX6 b0 b1 b2
        obtain ⟨b0, b1, b2⟩ := HBX7.out.cells
        go_upto_block 2 with fail
        go_cut [9] (fun s9 wx => s9 = .int .i64 ((k : Nat) : Int) ∧ ∃ st', Hid (Fin1 st' (60 * k + 60)) ∧ Hid (W3 w (fun i => i = ga) wx ts tq tr st' so1 st') ∧ Hid (Box wx ga way now (.slice ra nl rc)))
        case first =>
          by_cases q0 : way = 0
          · subst q0
            obtain ⟨B, hBB⟩ : ∃ B, B = w7.heap.size := ⟨_, rfl⟩
            have HKX : Hid (w.heap.size ≤ B) := by rw [hBB]; exact HW7.out.old.size
            have HBB := Lib.hid hBB
            clear hBB
            clear HB1
            go_wp2_with fail
            refine (HCP.out w7 HW7.out.old).mono ?_
            rintro e w8 ⟨v8, ps, rfl, hx8, ho8, hrec, hd8⟩
            have hpl : ps.length = nl := by rw [← recs_length, hrec, HNL.out]
            have HM100 : Hid (∀ q, q < nl → (ps.getD q zp).1.d.length ≤ 100) := fun q hq => HFEW.out _ (by rw [← hrec]; exact List.mem_map.2 ⟨_, getD_mem (by omega), rfl⟩)
            obtain ⟨va, vc, hv8⟩ := ho8.slice
            rw [hpl] at hv8
            subst hv8
            rw [← HBB.out] at ho8 hd8
            obtain ⟨z8, hz8⟩ : ∃ z, z = w8.heap.size := ⟨_, rfl⟩
            obtain ⟨X8, hX8⟩ : ∃ X8 : Nat → Prop, ∀ i, X8 i ↔ (i = ga ∨ (B ≤ i ∧ i < z8)) := ⟨_, fun i => Iff.rfl⟩
            have HXM := Lib.hid hX8
            have hxd : w8.Extends w8.drew := Gr.ext_drew (Gr.ext_refl w8)
            have hzd : w8.drew.heap.size = z8 := hz8.symm
            have HBXd : Hid (Box w8.drew ga 0 now (.slice ra nl rc)) := HBX7.out.ext (Gr.ext_trans hx8 hxd)
            have HWd : Hid (W3 w X8 w8.drew ts tq tr st so1 st) := HW7.out.avoid (Gr.ext_trans hx8 hxd) (fun i hi => by
              rcases (hX8 i).1 hi with h | h
              · exact .inl h
              · exact .inr (by rw [← HBB.out]; exact h.1))
            have hxl : ∀ i, X8 i → i < w8.drew.heap.size := fun i hi => by
              rcases (hX8 i).1 hi with h | h
              · rw [h]; exact HBXd.out.lt
              · rw [hzd]; exact h.2
            have hbx : ∀ i, B ≤ i → i < w8.drew.heap.size → X8 i := fun i h1 h2 => (hX8 i).2 (.inr ⟨h1, by rw [← hzd]; exact h2⟩)
            have HXSd : Hid (Xs w8.drew X8 B (.slice va nl vc) ps) := Xs.of (ho8.ext hxd) (hd8.ext hxd) hbx
            have HPS : Hid (Calls Try.prog 26 #[.pointer (some ⟨ts, 0, none⟩), .slice va nl vc] w8.drew fun e w' => e = .returned (.int .i64 (((SM.puts st rl).2 : Nat) : Int)) ∧ Fin1 (SM.puts st rl).1 (60 * k + 60) ∧ W3 w X8 w' ts tq tr (SM.puts st rl).1 so1 st ∧ Fr (fun i => ¬ X8 i) w8.drew w') := by
              have := HWd.out.putS HF.out (by omega) hxl (ho8.ext hxd) (hd8.ext hxd) hbx (by omega)
              rwa [hrec] at this
            have HPR : Hid (∀ w9 ss, W3 w X8 w9 ts tq tr ss so1 st → (∀ i, X8 i → i < w9.heap.size) → Calls Try.prog 29 #[.pointer (some ⟨tr, 0, none⟩), .slice ra nl rc] w9 fun e w' => e = .returned (.int .i64 (((SM.puts st rl).2 : Nat) : Int)) ∧ W3 w X8 w' ts tq tr ss so1 (SM.puts st rl).1 ∧ Fr (fun i => ¬ X8 i) w9 w') := fun w9 ss h hl => h.putR HF.out (by omega) hl HR.out (by rw [← HNL.out]; exact hrl)
            have HXL := Lib.hid hxl
            have HGA : Hid (X8 ga) := (hX8 ga).2 (.inl rfl)
            have HPL := Lib.hid hpl
            clear hx8 ho8 hrec hd8 hpl hz8 hX8 hxd hzd hxl hbx HW7 HBX7 b0 b1 b2 HCP HF HNL HR HOK
            generalize SM.puts st rl = R at *
            obtain ⟨st2, er⟩ := R
            simp only at HPS HPR
            go_wp2_with fail
            refine GrF.region (fun i => ¬ X8 i) 8 [(false,0),(false,1),(false,4),(false,5),(false,6),(true,2),(true,3),(true,7)] (by kernel_rfl) (by kernel_rfl) (fun d _ _ _ _ h => by cases d <;> exact h) ?_
            simp only [Gr.pick, List.getElem?_cons_zero, List.getElem?_cons_succ, List.drop_succ_cons, List.drop_zero]
            generalize w8.drew = wd at *
            iterate 4
              refine GrF.walk_t ?_ (Or.inl ⟨by rfl, ?_⟩) ?_
              rotate_left
              · intro w' hw'
                clear hw'
                go_simp
                try with_reducible rfl
              simp only [Act.put, List.setIfInBounds_toArray, List.set_cons_zero, List.set_cons_succ]
            refine GrF.walk_t ?_ (Or.inl ⟨by rfl, ?_⟩) ?_
            rotate_left
            · intro w' hw'
              have b2 := (HBXd.out.keep (X := X8) hw' HGA.out).cells.2.2
              clear hw'
              go_simp
              try with_reducible rfl
            simp only [Act.put, List.setIfInBounds_toArray, List.set_cons_zero, List.set_cons_succ]
            refine GrF.walk_c (fun K hK => ?_)
            go_simp
            refine (HPS.out).mono ?_
            rintro e w9 ⟨rfl, hg9, hw9, hf9⟩
            have HG9 := Lib.hid hg9
            have HW9 := Lib.hid hw9
            have HXS9 := Lib.hid (HXSd.out.keep hf9)
            have HBX9 := Lib.hid (HBXd.out.keep hf9 HGA.out)
            have HXL9 : Hid (∀ i, X8 i → i < w9.heap.size) := fun i hi => Nat.lt_of_lt_of_le (HXL.out i hi) hf9.size
            try go_simp
            refine hK.out _ _ (hf9) ?_
            clear hK K
            clear hg9 hw9 hf9 HPS HWd HXSd HBXd HXL
            refine GrF.walk_c (fun K hK => ?_)
            go_simp
            refine (num16_any _ w9).mono ?_
            rintro e wz ⟨rfl, rfl⟩
            try go_simp
            refine hK.out _ _ ((Fr.refl _ _)) ?_
            clear hK K
            refine GrF.walk_c (fun K hK => ?_)
            go_simp
            refine (HPR.out w9 st2 HW9.out HXL9.out).mono ?_
            rintro e w10 ⟨rfl, hw10, hf10⟩
            have HW10 := Lib.hid hw10
            have HXS10 := Lib.hid (HXS9.out.keep hf10)
            have HBX10 := Lib.hid (HBX9.out.keep hf10 HGA.out)
            try go_simp
            refine hK.out _ _ (hf10) ?_
            clear hK K
            clear hw10 hf10 HPR HW9 HXS9 HBX9 HXL9
            refine GrF.walk_nil ?_
            go_wp2_with fail
            go_loopw [12] (fun s12 wq => ∃ q : Nat, q ≤ nl ∧ s12 = .int .i64 q ∧ Hid (W3 w X8 wq ts tq tr st2 so1 st2) ∧ Hid (Xs wq X8 B (.slice va nl vc) ps) ∧ Hid (Box wq ga 0 now (.slice ra nl rc))) (fun s12 _ => nl - (intOf s12).toNat)
            case atStart => exact ⟨0, by omega, by rfl, HW10, HXS10, HBX10⟩
            case round =>
              clear HW10 HXS10 HBX10
              obtain ⟨q, hq, rfl, HWq, HXq, HBq⟩ := hrel
              by_cases h2 : q < nl
              · obtain ⟨m, hm⟩ : ∃ m, m = (ps.getD q zp).1.d.length := ⟨_, rfl⟩
                have HM := Lib.hid hm
                have hm100 : m ≤ 100 := by rw [hm]; exact HM100.out q h2
                clear hm
                go_wp2_with fail
                go_loopw [13] (fun s13 wj => ∃ j : Nat, j ≤ m ∧ s13 = .int .i64 j ∧ Hid (W3 w X8 wj ts tq tr st2 so1 st2) ∧ Hid (Xs wj X8 B (.slice va nl vc) ps) ∧ Hid (Box wj ga 0 now (.slice ra nl rc))) (fun s13 _ => m - (intOf s13).toNat)
                case atStart => exact ⟨0, by omega, by rfl, HWq, HXq, HBq⟩
                case round =>
                  clear HWq HXq HBq
                  obtain ⟨j, hj, rfl, HWj, HXj, HBj⟩ := hrel
                  obtain ⟨g, cap8, a8, c8, ev, hxg, ⟨cs, hcs, h9⟩, hdat⟩ := HXj.out q (by rw [HPL.out]; exact h2)
                  rw [HPL.out] at ev
                  cases ev
                  rw [← HM.out] at h9 hdat
                  rw [← cell_of_row _ _ _ _ _ _ hcs] at h9
                  clear hcs hxg
                  by_cases h3 : j < m
                  · have hdat2 : ∃ b off, a8 = some ⟨b, off, none⟩ ∧ X8 b ∧ B ≤ b ∧ ∃ cs, wr.heap[b]? = some (.cells cs 5 (0, 0)) ∧ off + m ≤ cs.size := by
                      rcases hdat with h0 | h
                      · omega
                      · exact h
                    obtain ⟨b3, off3, rfl, hxb, hBb, cs3, hc3, hs3⟩ := hdat2
                    have d0 := cell_of_row wr b3 (off3 + j) _ _ _ hc3
                    rw [Array.getElem?_eq_getElem (by omega)] at d0
                    have f0 := frozen_of_row wr b3 (off3 + j) _ _ hc3
                    have HXB := Lib.hid (And.intro hxb hBb)
                    have HC3 := Lib.hid hc3
                    clear hxb hBb hc3 hdat
                    generalize cs3[off3 + j]'(by omega) = u0 at *
                    clear hs3
                    go_wp2
                    go_roundw
                    case rel => exact ⟨j + 1, by omega, by go_num, Lib.hid (HWj.out.poke HXB.out.1 HC3.out (Nat.le_trans HKX.out HXB.out.2) rfl), Lib.hid (HXj.out.poke HC3.out rfl), Lib.hid (HBj.out.poke HC3.out rfl)⟩
                    case measure => simp [intOf]; omega
                  · obtain rfl : j = m := by omega
                    clear hdat
                    go_wp2
                    go_roundw
                    case rel => exact ⟨q + 1, by omega, by go_num, HWj, HXj, HBj⟩
                    case measure => simp [intOf]; omega
              · obtain rfl : q = nl := by omega
                clear HAT
                go_wp2
                go_meet
                exact ⟨rfl, st2, HG9, Lib.hid (HWq.out.avoid (Gr.ext_refl _) fun i hi => .inl ((HXM.out i).2 (.inl hi))), HBq⟩
          by_cases q1 : way = 1
          · subst q1
            have hxd : w7.Extends w7.drew := Gr.ext_drew (Gr.ext_refl w7)
            have HWd := Lib.hid (HW7.out.later hxd)
            have HBXd := Lib.hid (HBX7.out.ext hxd)
            clear HW7 HBX7 hxd
            go_wp2_with fail
            clear b0 b1 b2
            refine GrF.region (fun i => ¬ i = ga) 8 [(false,0),(false,1),(false,2),(false,4),(false,5),(false,6),(true,3),(true,7)] (by kernel_rfl) (by kernel_rfl) (fun d _ _ _ _ h => by cases d <;> exact h) ?_
            simp only [Gr.pick, List.getElem?_cons_zero, List.getElem?_cons_succ, List.drop_succ_cons, List.drop_zero]
            generalize w7.drew = wd at *
            iterate 6
              refine GrF.walk_t ?_ (Or.inl ⟨by rfl, ?_⟩) ?_
              rotate_left
              · intro w' hw'
                have b1 := (HBXd.out.keep (X := fun i => i = ga) hw' rfl).cells.2.1
                clear hw'
                go_simp
                try with_reducible rfl
              simp only [Act.put, List.setIfInBounds_toArray, List.set_cons_zero, List.set_cons_succ]
            have HLT : Hid (∀ i, i = ga → i < wd.heap.size) := fun i hi => hi ▸ HBXd.out.lt
            refine GrF.walk_c (fun K hK => ?_)
            go_simp
            refine (HWd.out.expS HF.out (by omega) HLT.out now).mono ?_
            rintro e w8 ⟨rfl, hg8, hw8, hf8⟩
            have HG8 := Lib.hid hg8
            have HW8 := Lib.hid hw8
            have HBX8 := Lib.hid (HBXd.out.keep hf8 rfl)
            try go_simp
            refine hK.out _ _ (hf8) ?_
            clear hK K
            clear hg8 hw8 hf8 HWd HBXd
            have HLT8 : Hid (∀ i, i = ga → i < w8.heap.size) := fun i hi => hi ▸ HBX8.out.lt
            refine GrF.walk_c (fun K hK => ?_)
            go_simp
            refine (HW8.out.expR HF.out (by omega) HLT8.out now).mono ?_
            rintro e w9 ⟨rfl, hw9, hf9⟩
            have HW9 := Lib.hid hw9
            have HBX9 := Lib.hid (HBX8.out.keep hf9 rfl)
            try go_simp
            refine hK.out _ _ (hf9) ?_
            clear hK K
            clear hw9 hf9 HW8 HBX8
            refine GrF.walk_nil ?_
            go_wp2
            go_meet
            exact ⟨rfl, _, HG8, HW9, HBX9⟩
          by_cases q2 : way = 2
          · subst q2
            clear b0 b1 b2
            have HC := Lib.hid (HW7.out.sureS HF.out (fun i hi => hi ▸ HBX7.out.lt))
            go_wp2_with fail
            refine HC.out.mono ?_
            rintro e w8 ⟨rfl, hg8, hw8, hf8⟩
            have HG8 := Lib.hid hg8
            have HW8 := Lib.hid hw8
            have HBX8 := Lib.hid (HBX7.out.keep hf8 rfl)
            clear hg8 hw8 hf8 HC HW7 HBX7
            have HC := Lib.hid (HW8.out.sureR (fun i hi => hi ▸ HBX8.out.lt))
            go_wp2_with fail
            refine HC.out.mono ?_
            rintro e w9 ⟨rfl, hw9, hf9⟩
            have HW9 := Lib.hid hw9
            have HBX9 := Lib.hid (HBX8.out.keep hf9 rfl)
            clear hw9 hf9 HC HW8 HBX8
            go_wp2
            go_meet
            exact ⟨rfl, _, HG8, HW9, HBX9⟩
          by_cases q3 : way = 3
          · subst q3
            have HC := Lib.hid (HW7.out.restS HF.out (by omega) (fun i hi => hi ▸ HBX7.out.lt) now HB1.out)
            go_wp2_with fail
            refine HC.out.mono ?_
            rintro e w8 ⟨rfl, hg8, hw8, hf8⟩
            have HG8 := Lib.hid hg8
            have HW8 := Lib.hid hw8
            have HBX8 := Lib.hid (HBX7.out.keep hf8 rfl)
            clear hg8 hw8 hf8 HC HW7 HBX7 b0 b1 b2
            have HC := Lib.hid (HW8.out.restR HF.out (by omega) (fun i hi => hi ▸ HBX8.out.lt) now HB1.out)
            obtain ⟨b0, b1, b2⟩ := HBX8.out.cells
            go_wp2_with fail
            refine HC.out.mono ?_
            rintro e w9 ⟨rfl, hw9, hf9⟩
            have HW9 := Lib.hid hw9
            have HBX9 := Lib.hid (HBX8.out.keep hf9 rfl)
            clear hw9 hf9 HC HW8 HBX8 b0 b1 b2
            go_wp2
            go_meet
            exact ⟨rfl, _, HG8, HW9, HBX9⟩
          clear HB1
          go_wp2
          go_meet
          exact ⟨rfl, st, Lib.hid (HF.out.mono (by omega)), HW7, HBX7⟩
        case rest =>
          obtain ⟨rfl, st1, HG8, HW8, HBX8⟩ := hcut
          clear HW7 HBX7 HF b0 b1 b2 HCP HB1
          have HXA : Hid (w.Extends wc) := HW8.out.old
          have HAR : Hid (∀ q, q < nl → ∃ b off, ra = some ⟨b, off, none⟩ ∧ wc.cell? ⟨b, off + q * 10, none⟩ = some (.int .i64 (rl.getD q Rc.zero).p) ∧ wc.cell? ⟨b, off + q * 10 + 1, none⟩ = some (.int .i64 (rl.getD q Rc.zero).n)) := fun q hq => by
            obtain ⟨_, h⟩ := HR.out.at
            obtain ⟨b, off, e, _, hk⟩ := h (by omega)
            obtain ⟨a, c, hr, _⟩ := hk q hq
            obtain ⟨c0, c1, _⟩ := RCell.ten hr
            exact ⟨b, off, e, HXA.out.cell_of c0, HXA.out.cell_of c1⟩
          have HOKQ : Hid (∀ q, q < nl → IdOk (rl.getD q Rc.zero)) := fun q hq => by
            obtain ⟨k1, k2⟩ := HOK.out _ (getD_mem0 (l := rl) (k := q) (by rw [← HNL.out]; exact hq))
            exact ⟨bounds_i64 k1, bounds_i64 k2⟩
          have HASK : Hid (∃ Ds Dr, SAt wc ts Ds st1 ∧ RSt wc tr Dr st1) := by
            obtain ⟨Ds, Do, Dr, h1, _, h3, _⟩ := HW8.out
            exact ⟨Ds, Dr, h1, h3⟩
          obtain ⟨Ds, Dr, hS, hR⟩ := HASK.out
          have hi := HG8.out.inv
          have hl := HG8.out.room
          have htl : st1.t.length ≤ 1000000 := by have := HG8.out.few; omega
          have HIDS : Hid (∀ w', wc.Extends w' → Calls Try.prog 39 #[.pointer (some ⟨ts, 0, none⟩)] w' (IdsOut w' (SM.ids st1))) := fun w' hx => ids16_any ts Ds st1 w' (hS.ext hx) hl
          have HRID : Hid (∀ w', wc.Extends w' → Calls Try.prog 40 #[.pointer (some ⟨tr, 0, none⟩)] w' (IdsOut w' (SM.ids st1))) := fun w' hx => rids16_any tr Dr st1 w' (hR.ext hx) hl
          have HCNT : Hid (∀ w', wc.Extends w' → Calls Try.prog 36 #[.pointer (some ⟨ts, 0, none⟩)] w' fun e w2 => e = .returned (.int .i64 ((st1.l.length : Nat) : Int)) ∧ w' = w2) := fun w' hx => count_any ts Ds st1 w' (hS.ext hx)
          have HLEN : Hid (∀ w', wc.Extends w' → Calls Try.prog 37 #[.pointer (some ⟨ts, 0, none⟩)] w' fun e w2 => e = .returned (.int .i64 ((LM.size st1.lg : Nat) : Int)) ∧ w' = w2) := fun w' hx => slen_any ts Ds st1 w' (hS.ext hx)
          have HGET : Hid (∀ w' (r : Rc), wc.Extends w' → Calls Try.prog 43 #[.pointer (some ⟨ts, 0, none⟩), .agg #[.int .i64 r.p, .int .i64 r.n]] w' (RcsOut w' (st1.l.filter (isOf r)))) := fun w' r hx => get16_any ts Ds st1 r w' (hS.ext hx) hl fun y hy => ⟨(hi.sym y hy).1, (hi.sym y hy).2.1⟩
          have HRGT : Hid (∀ w' (r : Rc), wc.Extends w' → Calls Try.prog 44 #[.pointer (some ⟨tr, 0, none⟩), .agg #[.int .i64 r.p, .int .i64 r.n]] w' (RcsOut w' (st1.l.filter (isOf r)))) := fun w' r hx => rget16_any tr Dr st1 r w' (hR.ext hx) hl (fun y hy => by
            obtain ⟨h1, h2, _⟩ := hi.sym y hy
            obtain ⟨⟨⟨_, _, _, h6, _⟩, _⟩, _, h8⟩ := h1.2.2.2.2 h2
            omega)
          have HGON : Hid (∀ w' r, wc.Extends w' → IdOk r → Calls Try.prog 45 #[.pointer (some ⟨ts, 0, none⟩), .agg #[.int .i64 r.p, .int .i64 r.n]] w' fun e w2 => e = .returned (.bool (decide (SM.Has st1.t r))) ∧ w'.Extends w2) := fun w' r hx hr => gone_any ts Ds st1 r w' (hS.ext hx) hr
          have HTOM : Hid (∀ w' r, wc.Extends w' → Calls Try.prog 41 #[.pointer (some ⟨tr, 0, none⟩), .agg #[.int .i64 r.p, .int .i64 r.n]] w' (TombOut w' (decide (SM.Has st1.t r)))) := fun w' r hx => rtomb_any tr Dr st1 r w' (hR.ext hx) htl
          have hidl : (SM.ids st1).length ≤ 1000 := by
            have := SM.dd_le (st1.l.map ipOf) (st1.l.map ipOf).length
            unfold SM.ids SM.comp
            rw [List.length_map] at this ⊢
            omega
          obtain ⟨DB, v1, v2, ps, qs, h⟩ := hR
          obtain ⟨sa', sc, hb, k0, k1, k2, k3, f1, f2⟩ := h.cells
          obtain ⟨a1, cap1, hv1⟩ := h.own1.slice
          rw [h.len1] at hv1
          rw [LM.spell_length] at k3
          rw [hv1] at k1
          have HC1 := Lib.hid k1
          have HC3 := Lib.hid k3
          clear hv1 h hb k0 k1 k2 k3 f1 f2 hS hi hl htl HASK HR HOK HNL HAT
          generalize SM.ids st1 = L at *
          generalize st1.l.length = n1 at *
          generalize LM.size st1.lg = nz at *
          go_wp2_with fail
          have HXD : Hid (wc.Extends wc.drew) := Gr.ext_drew (Gr.ext_refl wc)
          refine Gr.region 28 [(false,0),(false,2),(false,3),(false,4),(false,5),(false,6),(true,1),(false,7),(false,8),(false,9),(false,10),(false,11),(false,13),(false,14),(false,15),(false,16),(false,17),(false,18),(true,12),(false,19),(false,20),(false,21),(false,22),(false,24),(true,23),(true,25),(true,26),(false,27)] (by kernel_rfl) (by kernel_rfl) (fun d _ _ _ _ h => by cases d <;> exact h) ?_
          simp only [Gr.pick, List.getElem?_cons_zero, List.getElem?_cons_succ, List.drop_succ_cons, List.drop_zero]
          generalize wc.drew = wd at *
          iterate 3
            refine Gr.walk_t ?_ (Or.inl ⟨by rfl, ?_⟩) ?_
            rotate_left
            · intro w' hw'
              clear hw'
              go_simp
              try with_reducible rfl
            simp only [Act.put, List.setIfInBounds_toArray, List.set_cons_zero, List.set_cons_succ]
          refine Gr.walk_t ?_ (Or.inl ⟨by rfl, ?_⟩) ?_
          rotate_left
          · intro w' hw'
            have b0 := (Gr.ext_trans HXD.out hw').cell_of HC1.out
            clear hw'
            go_simp
            try with_reducible rfl
          simp only [Act.put, List.setIfInBounds_toArray, List.set_cons_zero, List.set_cons_succ]
          iterate 2
            refine Gr.walk_t ?_ (Or.inl ⟨by rfl, ?_⟩) ?_
            rotate_left
            · intro w' hw'
              have b0 := (Gr.ext_trans HXD.out hw').cell_of HC1.out
              clear hw'
              go_simp
              try with_reducible rfl
            simp only [Act.put, List.setIfInBounds_toArray, List.set_cons_zero, List.set_cons_succ]
          refine Gr.walk_c (fun K hK => ?_)
          go_simp
          refine (HCNT.out wd HXD.out).mono ?_
          rintro e wa ⟨rfl, rfl⟩
          try go_simp
          refine hK.out _ _ ((Gr.ext_refl _)) ?_
          clear hK K
          iterate 11
            refine Gr.walk_t ?_ (Or.inl ⟨by rfl, ?_⟩) ?_
            rotate_left
            · intro w' hw'
              have b0 := (Gr.ext_trans HXD.out hw').cell_of HC3.out
              clear hw'
              go_simp
              try with_reducible rfl
            simp only [Act.put, List.setIfInBounds_toArray, List.set_cons_zero, List.set_cons_succ]
          refine Gr.walk_c (fun K hK => ?_)
          go_simp
          refine (HLEN.out wd HXD.out).mono ?_
          rintro e wa ⟨rfl, rfl⟩
          try go_simp
          refine hK.out _ _ ((Gr.ext_refl _)) ?_
          clear hK K
          iterate 5
            refine Gr.walk_t ?_ (Or.inl ⟨by rfl, ?_⟩) ?_
            rotate_left
            · intro w' hw'
              clear hw'
              go_simp
              try with_reducible rfl
            simp only [Act.put, List.setIfInBounds_toArray, List.set_cons_zero, List.set_cons_succ]
          refine Gr.walk_c (fun K hK => ?_)
          go_simp
          refine (HIDS.out wd HXD.out).mono ?_
          rintro e wa ⟨vi, rfl, hxa, hia⟩
          have HXa := Lib.hid (Gr.ext_trans HXD.out hxa)
          have HIa := Lib.hid hia
          try go_simp
          refine hK.out _ _ (hxa) ?_
          clear hK K
          clear hxa hia HXD HIDS HCNT HLEN
          refine Gr.walk_c (fun K hK => ?_)
          go_simp
          refine (HRID.out wa HXa.out).mono ?_
          rintro e wb ⟨vj, rfl, hxb, hib⟩
          have HXb := Lib.hid (Gr.ext_trans HXa.out hxb)
          have HIb := Lib.hid (HIa.out.ext hxb)
          have HJb := Lib.hid hib
          try go_simp
          refine hK.out _ _ (hxb) ?_
          clear hK K
          clear hxb hib HXa HIa HRID
          refine Gr.walk_c (fun K hK => ?_)
          go_simp
          refine (sameids16_any vi vj L wb HIb.out HJb.out (by omega)).mono ?_
          rintro e we ⟨rfl, hxe⟩
          have HXe := Lib.hid (Gr.ext_trans HXb.out hxe)
          try go_simp
          refine hK.out _ _ (hxe) ?_
          clear hK K
          clear hxe HXb HIb HJb
          refine Gr.walk_t ?_ (Or.inl ⟨by rfl, ?_⟩) ?_
          rotate_left
          · intro w' hw'
            clear hw'
            go_simp
            try with_reducible rfl
          simp only [Act.put, List.setIfInBounds_toArray, List.set_cons_zero, List.set_cons_succ]
          refine Gr.walk_nil ?_
          clear HC1 HC3
          go_wp2_with fail
          go_loopw [14] (fun s14 wr => ∃ q : Nat, q ≤ nl ∧ s14 = .int .i64 q ∧ Hid (wc.Extends wr)) (fun s14 _ => nl - (intOf s14).toNat)
          case atStart => exact ⟨0, by omega, by rfl, HXe⟩
          case round =>
            clear HXe
            obtain ⟨q, hq, rfl, HX⟩ := hrel
            by_cases h2 : q < nl
            · obtain ⟨b', off', era, c0, c1⟩ := HAR.out q h2
              subst era
              have HC : Hid (∀ wx, wr.Extends wx → wx.cell? ⟨ga, 2, none⟩ = some (.slice (some ⟨b', off', none⟩) nl rc) ∧ wx.cell? ⟨b', off' + q * 10, none⟩ = some (.int .i64 (rl.getD q Rc.zero).p) ∧ wx.cell? ⟨b', off' + q * 10 + 1, none⟩ = some (.int .i64 (rl.getD q Rc.zero).n)) := fun wx hx => by
                have h2 := Gr.ext_trans HX.out hx
                exact ⟨(HBX8.out.ext h2).cells.2.2, h2.cell_of c0, h2.cell_of c1⟩
              have HIK := Lib.hid (HOKQ.out q h2)
              clear c0 c1
              generalize rl.getD q Rc.zero = x at *
              obtain ⟨c2, c0, c1⟩ := HC.out wr (Gr.ext_refl _)
              go_wp2_with fail
              refine (HTOM.out wr x HX.out).mono ?_
              rintro e w3 ⟨⟨qp, qn, qb, qs', qm, qk, qe, qg, qu, qd⟩, tu, rfl, hx3, ta, tc, htu⟩
              simp only at htu
              subst htu
              simp only [Rc.val]
              clear c2 c0 c1
              have HX3 := Lib.hid hx3
              clear hx3
              go_upto_region 43 with fail
              generalize hw4 : World.alloc w3 _ = w4
              have hx4 : wr.Extends w4 := by subst hw4; exact Gr.ext_trans HX3.out (ext_alloc _ _)
              have HX4 : Hid (wr.Extends w4) := hx4
              clear hw4 hx4 HX3
              generalize w3.heap.size = b7
              go_wp2_with fail
              have HXD : Hid (wr.Extends w4.drew) := Gr.ext_trans HX4.out (Gr.ext_drew (Gr.ext_refl w4))
              refine Gr.region 29 [(false,0),(false,1),(false,2),(false,3),(false,4),(false,5),(false,6),(false,8),(false,9),(false,10),(false,11),(false,12),(false,13),(false,14),(true,7),(true,15),(true,16),(false,17),(false,18),(false,19),(false,20),(false,21),(false,22),(false,23),(false,24),(false,25),(false,27),(true,26),(false,28)] (by kernel_rfl) (by kernel_rfl) (fun d _ _ _ _ h => by cases d <;> exact h) ?_
              simp only [Gr.pick, List.getElem?_cons_zero, List.getElem?_cons_succ, List.drop_succ_cons, List.drop_zero]
              generalize w4.drew = wd at *
              iterate 14
                refine Gr.walk_t ?_ (Or.inl ⟨by rfl, ?_⟩) ?_
                rotate_left
                · intro w' hw'
                  obtain ⟨c2, c0, c1⟩ := HC.out w' (Gr.ext_trans HXD.out hw')
                  clear hw'
                  go_simp
                  try with_reducible rfl
                simp only [Act.put, List.setIfInBounds_toArray, List.set_cons_zero, List.set_cons_succ]
              refine Gr.walk_c (fun K hK => ?_)
              go_simp
              refine (HGET.out wd x (Gr.ext_trans HX.out HXD.out)).mono ?_
              rintro e w5 ⟨v5, rfl, hx5, hr5⟩
              have HX5 := Lib.hid (Gr.ext_trans HXD.out hx5)
              have HR5 := Lib.hid hr5
              try go_simp
              refine hK.out _ _ (hx5) ?_
              clear hK K
              clear hx5 hr5
              refine Gr.walk_c (fun K hK => ?_)
              go_simp
              refine (HRGT.out w5 x (Gr.ext_trans HX.out HX5.out)).mono ?_
              rintro e w6 ⟨v6, rfl, hx6, hr6⟩
              have HX6 := Lib.hid (Gr.ext_trans HX5.out hx6)
              have HR56 := Lib.hid (HR5.out.ext hx6)
              have HR6 := Lib.hid hr6
              try go_simp
              refine hK.out _ _ (hx6) ?_
              clear hK K
              clear hx6 hr6 HX5 HR5
              refine Gr.walk_c (fun K hK => ?_)
              go_simp
              refine (same_recs v5 v6 _ w6 HR56.out HR6.out).mono ?_
              rintro e w7 ⟨rfl, hx7⟩
              have HX7 := Lib.hid (Gr.ext_trans HX6.out hx7)
              try go_simp
              refine hK.out _ _ (hx7) ?_
              clear hK K
              clear hx7 HX6 HR56 HR6 HXD
              iterate 10
                refine Gr.walk_t ?_ (Or.inl ⟨by rfl, ?_⟩) ?_
                rotate_left
                · intro w' hw'
                  obtain ⟨c2, c0, c1⟩ := HC.out w' (Gr.ext_trans HX7.out hw')
                  clear hw'
                  go_simp
                  try with_reducible rfl
                simp only [Act.put, List.setIfInBounds_toArray, List.set_cons_zero, List.set_cons_succ]
              refine Gr.walk_c (fun K hK => ?_)
              go_simp
              refine (HGON.out w7 x (Gr.ext_trans HX.out HX7.out) HIK.out).mono ?_
              rintro e w8 ⟨rfl, hx8⟩
              have HX8 : Hid (wc.Extends w8) := Gr.ext_trans HX.out (Gr.ext_trans HX7.out hx8)
              try go_simp
              refine hK.out _ _ (hx8) ?_
              clear hK K
              clear hx8 HX7 HC HX
              refine Gr.walk_t ?_ (Or.inl ⟨by rfl, ?_⟩) ?_
              rotate_left
              · intro w' hw'
                clear hw'
                go_simp
                try with_reducible rfl
              simp only [Act.put, List.setIfInBounds_toArray, List.set_cons_zero, List.set_cons_succ]
              refine Gr.walk_nil ?_
              go_wp2
              go_roundw
              case rel => exact ⟨q + 1, by omega, by go_num, HX8⟩
              case measure => simp [intOf]; omega
            · obtain rfl : q = nl := by omega
              obtain ⟨c0, c1, c2⟩ := (HBX8.out.ext HX.out).cells
              have HW9 : Hid (W3 w (fun _ => False) wr ts tq tr st1 so1 st1) := HW8.out.avoid HX.out (fun i hi => hi.elim)
              clear HAR HOKQ HGET HRGT HGON HTOM HX HW8 HBX8
              go_wp2
              go_roundw
              case rel => exact ⟨k + 1, st1, so1, by omega, by go_num, HW9, Lib.hid (HG8.out.mono (by omega)), Lib.hid (HG7.out.mono (by omega))⟩
              case measure => simp [intOf]; omega
      · obtain rfl : k = na := by omega
        clear HAT
        go_wp2
        go_ret
        exact ⟨rfl, Gr.below_of HW.out.old⟩
end Go.Proofs.Ytdbdnfjgmdkneaa
