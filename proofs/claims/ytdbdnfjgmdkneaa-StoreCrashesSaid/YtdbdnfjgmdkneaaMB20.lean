/- In one text: RefWrite, RefCut, RefAhead, RefAdd0, RefAdd1, RefCopy. -/
import Derived.Deep.DeepCutAuto
import Derived.Deep.CutBlock
import Derived.Test.YtdbdnfjgmdkneaaMB4
import Derived.Test.YtdbdnfjgmdkneaaMB5
import Derived.Test.YtdbdnfjgmdkneaaMB9
import Derived.Test.YtdbdnfjgmdkneaaMB11
import Derived.Test.YtdbdnfjgmdkneaaMB14
import Derived.Test.YtdbdnfjgmdkneaaMB19
namespace Go.Proofs.Ytdbdnfjgmdkneaa
set_option maxRecDepth 20000
open Go.RowKit Go.Deep Go.Maps
set_option linter.unusedVariables false
theorem RLeft.close {w w1 w2 w3 : World} {t z : Nat} {D : Nat → Prop} {st' : Sto} (hx : w.Extends w1) (hL : RLeft w1 t D st' w2) (hg : w2.grownBy w3 (some z)) (hz : w.heap.size ≤ z) (hz1 : z < w1.heap.size) (hD : ∀ i, D i → i < w.heap.size) : RLeft w t D st' w3 := by
  have hs := hx.size
  have h2 := hL.2.size
  have h3 := hg.size
  have hnz : ∀ i, Nx D w1 w2 i → i ≠ z := fun i hi e => by
    subst e
    rcases hi with hi | hi
    · have := hD i hi; omega
    · omega
  refine ⟨(hL.1.away h3 (fun g hg' hl => hg.block g hl (fun e => hnz g hg' (Option.some.inj e)))).mono fun i hi => ?_, ?_⟩
  · rcases hi with hi | hi
    · exact .inl hi
    · exact .inr (by omega)
  · exact ((Fr.ext (D := D) hx).trans hL.2 fun _ _ h => h).trans (Fr.grown (D := fun i => i = z) hg fun g e => (Option.some.inj e).symm) fun i hi e => by subst e; omega
section
variable {w wr w5 : World} {t : Nat} {D DB : Nat → Prop} {st : Sto} {v1 v2 : Value} {ps qs : List Pr}
theorem RSX.beside {z : Nat} (h : RSX w t D DB st v1 v2 ps qs) (hg : w.grownBy w5 (some z)) (hz : ¬ D z) : RSX w5 t D DB st v1 v2 ps qs := h.away hg.size fun g hg' hl => hg.block g hl fun e => hz ((Option.some.inj e) ▸ hg')
/-- Other symbols, in an array of the call's own. -/
theorem RSX.putL (h : RSX w t D DB st v1 v2 ps qs) (hx : w.Extends wr) {u1 : Value} {ps' : List Pr} (h1 : OwnR wr u1 ps') (b1 : ∀ g, u1.ownBlock = some g → w.heap.size ≤ g)
    (hps : ∀ p ∈ ps', p ∈ ps ∨ (U8s wr p.2 p.1.d ∧ ∀ g, p.2.ownBlock = some g → w.heap.size ≤ g ∧ ∃ cs, wr.heap[g]? = some (.cells cs 5 (0, 0)))) (hw5 : w5 = wr.setCell ⟨t, 1, none⟩ u1) : RSX w5 t (Nx D w w5) DB { st with l := recs ps' } u1 v2 ps' qs ∧ Fr D w w5 := by
  have hr := h.ext hx
  obtain ⟨l5, g5⟩ := hr.log.front (i := 1) (by omega) hw5
  have hlt := h.lt
  obtain ⟨sa, sc, hb, _⟩ := hr.cells
  have hst : ∀ T, T ≠ 64 → Still T wr w5 := fun T hT => Still.grown g5 hb (Ne.symm hT)
  have hsz : wr.heap.size ≤ w5.heap.size := g5.size
  have hxs := hx.size
  have hne1 : u1.ownBlock ≠ some t := fun e => by have := b1 t e; omega
  have hne2 : v2.ownBlock ≠ some t := fun e => by
    obtain ⟨cs, hc⟩ := hr.own2.block t e
    rw [hb] at hc
    simp only [Option.some.injEq, Obj.cells.injEq] at hc
    exact absurd hc.2.1 (by decide)
  refine ⟨⟨l5, .inl h.here, h1.kept g5 (.inr hne1), hr.own2.kept g5 (.inr hne2), rfl, h.recs2, fun g hg => .inr ⟨b1 g hg, Nat.lt_of_lt_of_le (h1.1.lt g hg).2 hsz⟩, fun g hg => .inl (h.in2 g hg), fun g hgB => ?_, fun g hg1 hg2 => ?_, fun p hp => ?_, fun p hp => ?_⟩, ?_⟩
  · obtain ⟨k1, cs, k2⟩ := hr.inB g hgB
    exact ⟨.inl k1, cs, (hst _ (by decide) g cs _ k2).trans k2⟩
  · have := b1 g hg1
    have := (h.own2.1.lt g hg2).2
    omega
  · rcases hps p hp with hp | ⟨k1, k2⟩
    · exact ((hr.data p hp).mono fun i hi => .inl hi).still hsz (hst _ (by decide))
    · refine ⟨k1.same hsz (.inr fun g hg => ?_), .inr fun g hg => ?_⟩
      · obtain ⟨_, cs, k3⟩ := k2 g hg
        exact hst _ (by decide) g cs _ k3
      · obtain ⟨k4, cs, k3⟩ := k2 g hg
        exact ⟨.inr ⟨k4, Nat.lt_of_lt_of_le (Array.getElem?_eq_some_iff.1 k3).1 hsz⟩, cs, _, (hst _ (by decide) g cs _ k3).trans k3⟩
  · rcases hps p hp with hp | ⟨k1, k2⟩
    · exact h.dataB p hp
    · refine .inr fun g hg hB => ?_
      obtain ⟨_, cs, k3⟩ := h.inB g hB
      have := (Array.getElem?_eq_some_iff.1 k3).1
      have := (k2 g hg).1
      omega
  · exact (Fr.ext (D := D) hx).trans (Fr.grown (D := D) g5 (fun g e => by have := Option.some.inj e; subst this; exact h.here)) fun _ _ h => h
theorem set_getD {ps : List Pr} {k i : Nat} (x : Pr) (hk : k < ps.length) : upd (fun j => ps.getD j zp) k x i = (ps.set k x).getD i zp := by
  unfold upd
  rw [List.getD_eq_getElem?_getD, List.getElem?_set]
  by_cases h : i = k
  · subst h; rw [if_pos rfl, if_pos rfl, if_pos hk]; rfl
  · rw [if_neg h, if_neg (fun e => h e.symm), ← List.getD_eq_getElem?_getD]
theorem OwnR.till {g n cap k : Nat} (h : OwnR w (.slice (some ⟨g, 0, none⟩) n cap) ps) (hk : k < ps.length) (u : Int) (hw : w5 = w.setCell ⟨g, k * 10 + 8, none⟩ (.int .i64 u)) : OwnR w5 (.slice (some ⟨g, 0, none⟩) n cap) (ps.set k ({ (ps.getD k zp).1 with u := u }, (ps.getD k zp).2)) ∧ w.grownBy w5 (some g) := by
  obtain ⟨ha, hn⟩ := h.arr
  obtain ⟨h1, h2⟩ := ha.till (i := k) (by omega) u hw
  refine ⟨h1.own (Nat.le_refl _) (by rw [List.length_set]; exact hn.symm) (fun j hj => ?_) (fun p hp => ?_), h2⟩
  · exact set_getD _ hk
  · rcases List.mem_or_eq_of_mem_set hp with hp | rfl
    · exact h.2 p hp
    · obtain ⟨a, c, e⟩ := h.2 _ (getD_mem hk)
      exact ⟨a, c, e⟩
/-- An array of records is another block than the store's, and holds no bytes. -/
theorem RSX.rec_ne {g : Nat} (h : RSX w t D DB st v1 v2 ps qs) (hg : ∃ cs, w.heap[g]? = some (.cells cs 28 (0, 0))) : t ≠ g := fun e => by
  obtain ⟨sa, sc, hb, _⟩ := h.cells
  obtain ⟨cs, hc⟩ := hg
  subst e
  rw [hb] at hc
  simp only [Option.some.injEq, Obj.cells.injEq] at hc
  exact absurd hc.2.1 (by decide)
/-- A symbol's Until, in place. -/
theorem RSX.tillL {g n cap k : Nat} (h : RSX w t D DB st (.slice (some ⟨g, 0, none⟩) n cap) v2 ps qs) (hk : k < ps.length) (u : Int) (hw : w5 = w.setCell ⟨g, k * 10 + 8, none⟩ (.int .i64 u)) :
    RSX w5 t D DB { st with l := st.l.set k (SM.till (st.l.getD k Rc.zero) u) } (.slice (some ⟨g, 0, none⟩) n cap) v2 (ps.set k ({ (ps.getD k zp).1 with u := u }, (ps.getD k zp).2)) qs ∧ Fr D w w5 := by
  obtain ⟨h1, h2⟩ := h.own1.till hk u hw
  have hgb := h.own1.block g rfl
  obtain ⟨cg, hcg⟩ := hgb
  have hst : ∀ T, T ≠ 28 → Still T w w5 := fun T hT => Still.grown h2 hcg (Ne.symm hT)
  have hmem : ∀ p ∈ ps.set k ({ (ps.getD k zp).1 with u := u }, (ps.getD k zp).2), ∃ q ∈ ps, p.2 = q.2 ∧ p.1.d = q.1.d := fun p hp => by
    rcases List.mem_or_eq_of_mem_set hp with hp | rfl
    · exact ⟨p, hp, rfl, rfl⟩
    · exact ⟨_, getD_mem hk, rfl, rfl⟩
  refine ⟨⟨h.log.grown h2 (h.rec_ne ⟨cg, hcg⟩) (.inr ⟨cg, _, _, hcg, by decide⟩), h.here, h1, h.own2.kept h2 ?_, ?_, h.recs2, h.in1, h.in2, fun g' hg' => ?_, h.apart, fun p hp => ?_, fun p hp => ?_⟩, Fr.grown h2 fun g' e => by have := Option.some.inj e; subst this; exact h.in1 _ rfl⟩
  · exact .inr fun e => h.apart g rfl e
  · show List.map _ _ = _
    rw [List.map_set, ← h.recs1, recs_at]; rfl
  · obtain ⟨k1, cs, k2⟩ := h.inB g' hg'
    exact ⟨k1, cs, (hst _ (by decide) g' cs _ k2).trans k2⟩
  · obtain ⟨q, hq, e1, e2⟩ := hmem p hp
    rw [e1, e2]
    exact (h.data q hq).still h2.size (hst _ (by decide))
  · obtain ⟨q, hq, e1, e2⟩ := hmem p hp
    rw [e1, e2]
    exact h.dataB q hq
/-- A tombstone's Until, in place. -/
theorem RSX.tillT {g n cap k : Nat} (h : RSX w t D DB st v1 (.slice (some ⟨g, 0, none⟩) n cap) ps qs) (hk : k < qs.length) (u : Int) (hw : w5 = w.setCell ⟨g, k * 10 + 8, none⟩ (.int .i64 u)) :
    RSX w5 t D DB { st with t := st.t.set k (SM.till (st.t.getD k Rc.zero) u) } v1 (.slice (some ⟨g, 0, none⟩) n cap) ps (qs.set k ({ (qs.getD k zp).1 with u := u }, (qs.getD k zp).2)) ∧ Fr D w w5 := by
  obtain ⟨h1, h2⟩ := h.own2.till hk u hw
  have hgb := h.own2.block g rfl
  obtain ⟨cg, hcg⟩ := hgb
  have hst : ∀ T, T ≠ 28 → Still T w w5 := fun T hT => Still.grown h2 hcg (Ne.symm hT)
  refine ⟨⟨h.log.grown h2 (h.rec_ne ⟨cg, hcg⟩) (.inr ⟨cg, _, _, hcg, by decide⟩), h.here, h.own1.kept h2 ?_, h1, h.recs1, ?_, h.in1, h.in2, fun g' hg' => ?_, h.apart, fun p hp => ?_, h.dataB⟩, Fr.grown h2 fun g' e => by have := Option.some.inj e; subst this; exact h.in2 _ rfl⟩
  · exact .inr fun e => h.apart g e rfl
  · show List.map _ _ = _
    rw [List.map_set, ← h.recs2, recs_at]; rfl
  · obtain ⟨k1, cs, k2⟩ := h.inB g' hg'
    exact ⟨k1, cs, (hst _ (by decide) g' cs _ k2).trans k2⟩
  · exact (h.data p hp).still h2.size (hst _ (by decide))
/-- Other tombstones, in the old array or a new one. -/
theorem RSX.putT {w9 : World} (h : RSX w t D DB st v1 v2 ps qs) (hg9 : w.grownBy w9 v2.ownBlock) {u2 : Value} {qs' : List Pr} (h2 : OwnR w9 u2 qs') (hn : NewBlk w v2 u2) (hw5 : w5 = w9.setCell ⟨t, 2, none⟩ u2) :
    RSX w5 t (Nx D w w5) DB { st with t := recs qs' } v1 u2 ps qs' ∧ Fr D w w5 := by
  have hlt := h.lt
  obtain ⟨sa, sc, hb, _⟩ := h.cells
  have hv2 : ∀ T, T ≠ 28 → Still T w w9 := fun T hT => by
    cases hv : v2.ownBlock with
    | none => rw [hv] at hg9; exact fun i cs f hi => hg9.block i (Array.getElem?_eq_some_iff.1 hi).1 (fun e => nomatch e)
    | some g =>
      obtain ⟨cg, hcg⟩ := h.own2.block g hv
      rw [hv] at hg9
      exact Still.grown hg9 hcg (Ne.symm hT)
  have hb9 := (hv2 _ (by decide) t _ _ hb).trans hb
  have hl9 := h.log.keep (hv2 _ (by decide) t _ _ hb) (fun g cs _ hc => hv2 _ (by decide) g cs _ hc)
  obtain ⟨l5, g5⟩ := hl9.front (i := 2) (by omega) hw5
  have hst : ∀ T, T ≠ 64 → Still T w9 w5 := fun T hT => Still.grown g5 hb9 (Ne.symm hT)
  have hby := (hv2 5 (by decide)).trans (hst _ (by decide))
  have hne1 : v1.ownBlock ≠ some t := fun e => h.rec_ne (h.own1.block t e) rfl
  have hne2 : u2.ownBlock ≠ some t := fun e => by
    rcases hn with h0 | ⟨g, h0, h3⟩
    · rw [h0] at e; exact h.rec_ne (h.own2.block t e) rfl
    · rw [h0] at e; have := Option.some.inj e; omega
  have hs9 := hg9.size
  have hs5 := g5.size
  refine ⟨⟨l5, .inl h.here, (h.own1.kept hg9 ?_).kept g5 (.inr hne1), h2.kept g5 (.inr hne2), h.recs1, rfl, fun g hg => .inl (h.in1 g hg), fun g hg => ?_, fun g hgB => ?_, fun g hg1 hg2 => ?_, fun p hp => ((h.data p hp).mono fun i hi => .inl hi).still (Nat.le_trans hs9 hs5) hby, h.dataB⟩, ?_⟩
  · cases hv : v1.ownBlock with
    | none => exact .inl rfl
    | some g => exact .inr fun e => h.apart g hv e.symm
  · rcases hn with h0 | ⟨g', h0, h3⟩
    · exact .inl (h.in2 g (h0 ▸ hg))
    · have hl := (h2.1.lt g hg).2
      rw [h0] at hg; have := Option.some.inj hg; subst this
      exact .inr ⟨h3, Nat.lt_of_lt_of_le hl hs5⟩
  · obtain ⟨k1, cs, k2⟩ := h.inB g hgB
    exact ⟨.inl k1, cs, (hby g cs _ k2).trans k2⟩
  · rcases hn with h0 | ⟨g', h0, h3⟩
    · exact h.apart g hg1 (h0 ▸ hg2)
    · have := (h.own1.1.lt g hg1).2
      rw [h0] at hg2; have := Option.some.inj hg2; omega
  · exact (Fr.grown (D := D) hg9 (fun g e => h.in2 g e)).trans (Fr.grown (D := D) g5 (fun g e => by have := Option.some.inj e; subst this; exact h.here)) fun _ _ h => h
end
end Go.Proofs.Ytdbdnfjgmdkneaa
namespace Go.Proofs.Ytdbdnfjgmdkneaa
set_option maxRecDepth 20000
open Go.RowKit Go.Deep Go.Maps
set_option linter.unusedVariables false
theorem OwnB.app {w' : World} {B : Nat} {v' : Value} {ps qs : List Pr} (hs : ∀ q ∈ ps, Slc q) (hq : ∀ q ∈ qs, Slc q) (ho : w'.ownsRow B 28 10 v' (ps.length + qs.length) (flat ps ++ flat qs)) : OwnB w' B v' (ps ++ qs) := by
  refine ⟨by rw [flat_append, List.length_append]; exact ho, fun q hq' => ?_⟩
  rcases List.mem_append.1 hq' with h | h
  · exact hs q h
  · exact hq q h
theorem wp_app_recs {o : Oper} {a : Act} {K : Act → World → Prop} {Q : Exit → Act → World → Prop} {w : World} (s x : Operand)
    (ho : o.op = .call { callee := .builtin .append, args := #[s, x], argTypes := #[47, 47] })
    (B : Nat) (v : Value) (ps : List Pr) (hs : a.eval s = v) (hown : OwnB w B v ps) (y : Value) (m : Nat) (qs : List Pr) (hx : a.eval x = y) (hm : qs.length = m) (hsrc : Src Try.prog 10 47 y m (flat qs) w) (hq : ∀ q ∈ qs, Slc q)
    (h63 : ps.length + qs.length ≤ 10000) (hB : B ≤ w.heap.size) (h : ∀ v' w', OwnB w' B v' (ps ++ qs) → w.grownBy w' v.ownBlock → K (a.put o.dst v') w') : o.wp Try.prog a w K Q := by
  subst hm
  obtain ⟨i, hi, hz0, hz1, hz2⟩ := info_parts recinfo
  refine wp_append_own_src3 w s x 47 47 ho B 28 i (Rc.zero.val (.slice none 0 0)) 10 96 recUnder hi hz0 hz1 hz2 rfl v ps.length (flat ps) hs hown.1 y qs.length (flat qs) hx hsrc (by unfold maxLen; omega) (by omega) hB (fun _ => True) (fun _ _ _ _ _ _ _ _ => trivial) (fun _ _ => trivial) (fun _ _ => trivial) ?_
  intro v' w' ho' hg' _ _
  exact h v' w' (OwnB.app hown.2 hq ho') hg'
theorem seg_take (ps : List Pr) (k : Nat) (hk : k ≤ ps.length) : seg (fun j => ps.getD j zp) 0 k = ps.take k := by
  apply List.ext_getElem?
  intro j
  unfold seg
  rw [List.getElem?_map, List.getElem?_take]
  by_cases h : j < k
  · rw [if_pos h, List.getElem?_range h]
    simp [show j < ps.length by omega]
  · rw [if_neg h, List.getElem?_eq_none (by simpa using h)]; rfl
theorem seg_drop (ps : List Pr) (k : Nat) (hk : k ≤ ps.length) : seg (fun j => ps.getD j zp) k (ps.length - k) = ps.drop k := by
  apply List.ext_getElem?
  intro j
  unfold seg
  rw [List.getElem?_map, List.getElem?_drop]
  by_cases h : j < ps.length - k
  · rw [List.getElem?_range h]
    simp [show k + j < ps.length by omega]
  · rw [List.getElem?_eq_none (by simpa using h), List.getElem?_eq_none (by omega)]; rfl
/-- x[:k] and x[k:]. -/
theorem OwnR.cuts {w : World} {v : Value} {ps : List Pr} (h : OwnR w v ps) {k : Nat} (hk : k ≤ ps.length) : ∃ a1 c1 a2 c2,
    (∀ w' : World, (Instr.slice 47 v none (some (.int .i64 (k : Nat))) none).run Try.prog w' = .ok (.slice a1 k c1) w') ∧
    (∀ w' : World, OwnR w' v ps → Src Try.prog 10 47 (.slice a1 k c1) k (flat (ps.take k)) w') ∧
    (∀ w' : World, (Instr.slice 47 v (some (.int .i64 (k : Nat))) none none).run Try.prog w' = .ok (.slice a2 (ps.length - k) c2) w') ∧
    (∀ w' : World, OwnR w' v ps → Src Try.prog 10 47 (.slice a2 (ps.length - k) c2) (ps.length - k) (flat (ps.drop k)) w') := by
  rcases h.kinds with ⟨rfl, rfl⟩ | ⟨g, cap, rfl⟩
  · obtain rfl : k = 0 := by simpa using hk
    refine ⟨none, 0, none, 0, fun w' => ?_, fun w' _ => Src.ofNil w' recUnder 0, fun w' => ?_, fun w' _ => Src.ofNil w' recUnder 0⟩
    · rw [run_slice_h (P := Try.prog) w' 47 _ 0 0 elemRec .i64 ((0 : Nat) : Int) (by omega) (by omega), sizeRec]
      simp [Result.andThen_ok, sliced]
    · rw [run_slice_l (P := Try.prog) w' 47 _ 0 0 elemRec .i64 ((0 : Nat) : Int) (by omega) (by omega), sizeRec]
      simp [Result.andThen_ok, sliced]
  · obtain ⟨ha, hn⟩ := h.arr
    have hcap : ps.length ≤ cap := by obtain ⟨cur, _, _, h3, _⟩ := ha; exact h3
    obtain ⟨o, h1, h2⟩ := cutr_from g ps.length cap k hk hcap
    refine ⟨some ⟨g, 0, none⟩, cap, some ⟨g, o, none⟩, cap - k, fun w' => cutr_to g ps.length cap k (by omega) w', fun w' ho => ?_, h1, fun w' ho => ?_⟩
    · have := ho.arr.1.src (fun j hj => ho.2 _ (getD_mem hj)) 0 k cap (by omega)
      rw [seg_take ps k hk, Nat.zero_mul] at this
      exact this
    · rcases h2 with rfl | h2
      · have := ho.arr.1.src (fun j hj => ho.2 _ (getD_mem hj)) k (ps.length - k) (cap - k) (by omega)
        rw [seg_drop ps k hk] at this
        exact this
      · subst h2
        rw [Nat.sub_self, List.drop_length]
        exact Src.ofSlice w' recUnder ⟨g, o, none⟩ 0 (cap - ps.length) [] rfl (by simp) (by simp)
theorem take_drop_erase (ps : List Pr) (m : Nat) : ps.take m ++ ps.drop (m + 1) = ps.eraseIdx m := (List.eraseIdx_eq_take_drop_succ ps m).symm
end Go.Proofs.Ytdbdnfjgmdkneaa
namespace Go.Proofs.Ytdbdnfjgmdkneaa
set_option maxRecDepth 20000
open Go.RowKit Go.Deep Go.Maps
set_option linter.unusedVariables false
set_option maxHeartbeats 1000000 in
theorem ahead_any (r q : Rc) (a a' : Option Addr) (n n' c c' : Nat) (w : World) :
    Calls Try.prog 107 #[r.val (.slice a n c), q.val (.slice a' n' c')] w fun e w' => e = .returned (.bool (decide (SM.Lt r q))) ∧ w.Extends w' := by
  obtain ⟨p, m, b, s, t, k, e, g, u, d⟩ := r
  obtain ⟨p', m', b', s', t', k', e', g', u', d'⟩ := q
  obtain ⟨B, HB, HI⟩ : ∃ B, B = decide (SM.Lt ⟨p, m, b, s, t, k, e, g, u, d⟩ ⟨p', m', b', s', t', k', e', g', u', d'⟩) ∧ (B = true ↔ (p < p' ∨ (p = p' ∧ (m < m' ∨ (m = m' ∧ (k < k' ∨ (k = k' ∧ e < e'))))))) := ⟨_, rfl, by rw [decide_eq_true_eq]; exact Iff.rfl⟩
  rw [← HB]
  have HS := Lib.hid HI
  clear HB HI
  show Calls Try.prog 107 #[.agg #[.int .i64 p, .int .i64 m, .int .i64 b, .int .i64 s, .int .i64 t, .int .i64 k, .int .i64 e, .bool g, .int .i64 u, .slice a n c], .agg #[.int .i64 p', .int .i64 m', .int .i64 b', .int .i64 s', .int .i64 t', .int .i64 k', .int .i64 e', .bool g', .int .i64 u', .slice a' n' c']] w _
  go_enter Try.func107, Try.ntmps107
  go_upto_region 1 with fail
  generalize hw1 : World.alloc w _ = w1
  generalize hw2 : World.alloc w1 _ = w2
  have hx1 : w.Extends w1 := by subst hw1; exact ext_alloc _ _
  have hx2 : w1.Extends w2 := by subst hw2; exact ext_alloc _ _
  have hs1 : w1.heap.size = w.heap.size + 1 := by subst hw1; simp
  have hb1 : w1.rangeAt w.heap.size 0 (Rc.cells ⟨p, m, b, s, t, k, e, g, u, d⟩ (.slice a n c)) := by subst hw1; exact box_rec w 28 ⟨p, m, b, s, t, k, e, g, u, d⟩ _
  have hb2 : w2.rangeAt (w.heap.size + 1) 0 (Rc.cells ⟨p', m', b', s', t', k', e', g', u', d'⟩ (.slice a' n' c')) := by rw [← hs1]; subst hw2; exact box_rec w1 28 ⟨p', m', b', s', t', k', e', g', u', d'⟩ _
  obtain ⟨c0, c1, c2, c3, c4, c5, c6, c7, c8, c9⟩ := RCell.ten (rangeAt_ext hb1 hx2)
  obtain ⟨d0, d1, d2, d3, d4, d5, d6, d7, d8, d9⟩ := RCell.ten hb2
  simp only [Nat.zero_add] at c0 c1 c2 c3 c4 c5 c6 c7 c8 c9 d0 d1 d2 d3 d4 d5 d6 d7 d8 d9
  have HX := Lib.hid (Gr.ext_trans hx1 hx2)
  clear hw1 hw2 hx1 hx2 hs1 hb1 hb2
  obtain ⟨y, hy⟩ : ∃ y, y = w.heap.size := ⟨_, rfl⟩
  obtain ⟨z, hz⟩ : ∃ z, z = w.heap.size + 1 := ⟨_, rfl⟩
  rw [← hz] at d0 d1 d2 d3 d4 d5 d6 d7 d8 d9 ⊢
  rw [← hy] at c0 c1 c2 c3 c4 c5 c6 c7 c8 c9 ⊢
  clear hy hz
  rcases Int.lt_trichotomy p p' with h0 | h0 | h0
  · have hB : B = true := HS.out.2 (by omega)
    have hn : (p == p') = false := by rw [beq_eq_false_iff_ne]; omega
    have hn2 : ¬ p = p' := by omega
    go_wp2
    go_ret
    exact ⟨by first | (rw [hB]; rfl) | rfl | rw [hB], HX.out⟩
  · subst h0
    rcases Int.lt_trichotomy m m' with h1 | h1 | h1
    · have hB : B = true := HS.out.2 (by omega)
      have hn : (m == m') = false := by rw [beq_eq_false_iff_ne]; omega
      have hn2 : ¬ m = m' := by omega
      go_wp2
      go_ret
      exact ⟨by first | (rw [hB]; rfl) | rfl | rw [hB], HX.out⟩
    · subst h1
      rcases Int.lt_trichotomy k k' with h2 | h2 | h2
      · have hB : B = true := HS.out.2 (by omega)
        have hn : (k == k') = false := by rw [beq_eq_false_iff_ne]; omega
        have hn2 : ¬ k = k' := by omega
        go_wp2
        go_ret
        exact ⟨by first | (rw [hB]; rfl) | rfl | rw [hB], HX.out⟩
      · subst h2
        by_cases h3 : e < e'
        · have hB : B = true := HS.out.2 (by omega)
          go_wp2
          go_ret
          exact ⟨by first | (rw [hB]; rfl) | rfl | rw [hB], HX.out⟩
        · have hB : B = false := Bool.eq_false_iff.2 fun h => by have := HS.out.1 h; omega
          go_wp2
          go_ret
          exact ⟨by first | (rw [hB]; rfl) | rfl | rw [hB], HX.out⟩
      · have hB : B = false := Bool.eq_false_iff.2 fun h => by have := HS.out.1 h; omega
        have hn : (k == k') = false := by rw [beq_eq_false_iff_ne]; omega
        have hn2 : ¬ k = k' := by omega
        have hn3 : ¬ k < k' := by omega
        go_wp2
        go_ret
        exact ⟨by first | (rw [hB]; rfl) | rfl | rw [hB], HX.out⟩
    · have hB : B = false := Bool.eq_false_iff.2 fun h => by have := HS.out.1 h; omega
      have hn : (m == m') = false := by rw [beq_eq_false_iff_ne]; omega
      have hn2 : ¬ m = m' := by omega
      have hn3 : ¬ m < m' := by omega
      go_wp2
      go_ret
      exact ⟨by first | (rw [hB]; rfl) | rfl | rw [hB], HX.out⟩
  · have hB : B = false := Bool.eq_false_iff.2 fun h => by have := HS.out.1 h; omega
    have hn : (p == p') = false := by rw [beq_eq_false_iff_ne]; omega
    have hn2 : ¬ p = p' := by omega
    have hn3 : ¬ p < p' := by omega
    go_wp2
    go_ret
    exact ⟨by first | (rw [hB]; rfl) | rfl | rw [hB], HX.out⟩
end Go.Proofs.Ytdbdnfjgmdkneaa
namespace Go.Proofs.Ytdbdnfjgmdkneaa
set_option maxRecDepth 20000
open Go.RowKit Go.Deep Go.Maps
set_option linter.unusedVariables false
theorem U8s.keepD {w w' : World} {D : Nat → Prop} {u : Value} {xs : List Nat} (h : U8s w u xs) (hf : Fr D w w') (hsep : xs = [] ∨ ∀ g, u.ownBlock = some g → ¬ D g) : U8s w' u xs := by
  refine h.same hf.size ?_
  rcases hsep with e | hsep
  · exact .inl e
  rcases h with ⟨e, _⟩ | ⟨b, off, cap, rfl, _, _, h3, _⟩
  · exact .inl e
  · refine .inr fun g hg => ?_
    have e : b = g := by simpa [Value.ownBlock] using hg
    subst e
    exact hf.away b h3 (hsep b hg)
/-- What add answers, and leaves. -/
def RAddOut (w : World) (t : Nat) (D : Nat → Prop) (st : Sto) (r : Rc) (e : Ending) (w' : World) : Prop := ∃ (kr : Rc) (a : Option Addr) (c : Nat), e = .returned (.tuple #[kr.val (.slice a kr.d.length c), .bool (SM.addOf st r).2.1.isSome, .int .i64 (((SM.addOf st r).2.2 : Nat) : Int)]) ∧ RLeft w t D (SM.addOf st r).1 w' ∧ ∀ k, (SM.addOf st r).2.1 = some k → kr = k ∧ U8s w' (.slice a kr.d.length c) kr.d
set_option maxHeartbeats 2000000 in
theorem radd_gone (t : Nat) (D : Nat → Prop) (st : Sto) (r : Rc) (ua : Option Addr) (uc : Nat) (w : World) (h : RSt w t D st) (hD : ∀ i, D i → i < w.heap.size) (hi : SM.Inv st) (htl : st.t.length ≤ 1000000) (hu : U8s w (.slice ua r.d.length uc) r.d) (hsep : r.d = [] ∨ ∀ g, (Value.slice ua r.d.length uc).ownBlock = some g → ¬ D g) (hrl : r.d.length ≤ 1000) (hh : SM.Has st.t r) :
    Calls Try.prog 92 #[.pointer (some ⟨t, 0, none⟩), r.val (.slice ua r.d.length uc)] w (RAddOut w t D st r) := by
  have HAD : Hid (SM.addOf st r = (st, none, 0)) := if_pos hh
  obtain ⟨DB, v1, v2, ps, qs, h⟩ := h
  have hl : st.l.length ≤ 1000 := Nat.le_trans hi.room hi.most
  have HD := Lib.hid hD
  have HH := Lib.hid h
  have HUF : Hid (∀ w', Fr D w w' → U8s w' (.slice ua r.d.length uc) r.d) := fun w' hf => hu.keepD hf hsep
  have HTOMB : Hid (∀ w', w.Extends w' → Calls Try.prog 41 #[.pointer (some ⟨t, 0, none⟩), .agg #[.int .i64 r.p, .int .i64 r.n]] w' (TombOut w' true)) := fun w' hx => by
    have := rtomb_any t D st r w' ⟨_, _, _, _, _, h.ext hx⟩ htl
    rwa [decide_eq_true hh] at this
  have HTL := Lib.hid h.lt
  have HOUT : Hid (∀ (kr : Rc) a c w', RLeft w t D (SM.addOf st r).1 w' → (∀ k, (SM.addOf st r).2.1 = some k → kr = k ∧ U8s w' (.slice a kr.d.length c) kr.d) → RAddOut w t D st r (.returned (.tuple #[kr.val (.slice a kr.d.length c), .bool (SM.addOf st r).2.1.isSome, .int .i64 (((SM.addOf st r).2.2 : Nat) : Int)])) w') := fun kr a c w' h1 h2 => ⟨kr, a, c, rfl, h1, h2⟩
  have HRL := Lib.hid hrl
  clear h hD hi htl hu hsep hrl hh hl
  obtain ⟨rp, rn, rb, rs, rm, rk, re, rg, ru, rd⟩ := r
  show Calls Try.prog 92 #[_, .agg #[.int .i64 rp, .int .i64 rn, .int .i64 rb, .int .i64 rs, .int .i64 rm, .int .i64 rk, .int .i64 re, .bool rg, .int .i64 ru, .slice ua rd.length uc]] w _
  generalize RAddOut w t D st ⟨rp, rn, rb, rs, rm, rk, re, rg, ru, rd⟩ = Q at *
  go_enter Try.func92, Try.ntmps92
  go_upto_region 1 with fail
  generalize hw1 : World.alloc w _ = w1
  generalize hw2 : World.alloc w1 _ = w2
  have hs1 : w1.heap.size = w.heap.size + 1 := by subst hw1; simp
  have hx1 : w.Extends w1 := by subst hw1; exact ext_alloc _ _
  have hx2 : w1.Extends w2 := by subst hw2; exact ext_alloc _ _
  have ha1 : Arr w1 w.heap.size 1 1 (fun _ => ((⟨rp, rn, rb, rs, rm, rk, re, rg, ru, rd⟩ : Rc), (.slice ua rd.length uc))) := by subst hw1; exact Arr.box w (⟨rp, rn, rb, rs, rm, rk, re, rg, ru, rd⟩ : Rc) _
  have ha2 : Arr w2 w1.heap.size 1 1 (fun _ => (Rc.zero, .slice none 0 0)) := by subst hw2; exact Arr.box w1 Rc.zero _
  rw [hs1] at ha2
  have ha1 := ha1.ext hx2
  have HX2 := Lib.hid (Gr.ext_trans hx1 hx2)
  obtain ⟨y, hy⟩ : ∃ y, y = w.heap.size := ⟨_, rfl⟩
  rw [← hy] at ha1 ha2 ⊢
  have HYW := Lib.hid hy
  have HA1 := Lib.hid ha1
  have HA2 := Lib.hid ha2
  obtain ⟨c0, c1, -, -, -, -, -, -, -, -⟩ := RCell.ten (ha1.one rfl)
  simp only [Nat.zero_add] at c0 c1
  clear hw1 hw2 hs1 hx1 hx2 hy ha1 ha2
  go_wp2_with fail
  refine (HTOMB.out w2 HX2.out).mono ?_
  rintro e w3 ⟨⟨qp, qn, qb, qs', qm, qk, qe, qg, qu, qd⟩, tu, rfl, hx3, ta, tc, htu⟩
  simp only at htu
  subst htu
  simp only [Rc.val]
  go_upto_region 2 with fail
  generalize hw4 : World.alloc w3 _ = w4
  have hx4 : w2.Extends w4 := by subst hw4; exact Gr.ext_trans hx3 (ext_alloc _ _)
  have HX4 := Lib.hid (Gr.ext_trans HX2.out hx4)
  have HY4 := Lib.hid (HA1.out.ext hx4)
  have HZ4 := Lib.hid (HA2.out.ext hx4)
  have HZL : Hid (y + 1 < w4.heap.size) := HZ4.out.lt
  clear hw4 hx3 hx4 HX2 HA1 HA2 c0 c1 HTOMB
  generalize w3.heap.size = b7
  obtain ⟨c0, c1, c2, c3, c4, c5, c6, c7, c8, c9⟩ := RCell.ten (HY4.out.one rfl)
  simp only [Nat.zero_add] at c0 c1 c2 c3 c4 c5 c6 c7 c8 c9
  have HSLC : Hid (Slc ((⟨rp, rn, rb, rs, rm, rk, re, rg, ru, rd⟩, (.slice ua rd.length uc)) : Pr)) := ⟨_, _, rfl⟩
  go_wp2_with (refine wpList_store_rec rfl 28 recsize _ _ rfl (y + 1) 0 0 1 1 _ (⟨rp, rn, rb, rs, rm, rk, re, rg, ru, rd⟩, (.slice ua rd.length uc)) rfl rfl rfl HZ4.out (by omega) HSLC.out ?_)
  intro w7 ha7 hg7
  have HP : Hid (Q (.returned (.tuple #[Rc.val ⟨rp, rn, rb, rs, rm, rk, re, rg, ru, rd⟩ (.slice ua rd.length uc), .bool false, .int .i64 0])) w7) := by
    have h := HOUT.out ⟨rp, rn, rb, rs, rm, rk, re, rg, ru, rd⟩ ua uc w7
    rw [HAD.out] at h
    have hyw := HYW.out
    have hzl := HZL.out
    exact h (RLeft.close HX4.out (RLeft.ext ⟨_, _, _, _, _, HH.out.ext HX4.out⟩ (Gr.ext_refl _)) hg7 (by omega) hzl HD.out) (fun k hk => nomatch hk)
  clear c0 c1 c2 c3 c4 c5 c6 c7 c8 c9 hg7
  obtain ⟨d0, d1, d2, d3, d4, d5, d6, d7, d8, d9⟩ := RCell.ten (ha7.one (p := (⟨rp, rn, rb, rs, rm, rk, re, rg, ru, rd⟩, (.slice ua rd.length uc))) rfl)
  simp only [Nat.zero_add] at d0 d1 d2 d3 d4 d5 d6 d7 d8 d9
  clear ha7
  repeat (first | go_values | go_skip | go_guarded | go_step)
  refine bodyPost_ret (v := .tuple #[Rc.val ⟨rp, rn, rb, rs, rm, rk, re, rg, ru, rd⟩ (.slice ua rd.length uc), .bool false, .int .i64 0]) (by simp [results, Try.results92, go_sem, d0, d1, d2, d3, d4, d5, d6, d7, d8, d9]; try rfl) rfl ?_
  exact HP.out
end Go.Proofs.Ytdbdnfjgmdkneaa
namespace Go.Proofs.Ytdbdnfjgmdkneaa
set_option maxRecDepth 20000
open Go.RowKit Go.Deep Go.Maps
set_option linter.unusedVariables false
set_option maxHeartbeats 4000000 in
theorem radd_taken (t : Nat) (D : Nat → Prop) (st : Sto) (r : Rc) (ua : Option Addr) (uc : Nat) (w : World) (h : RSt w t D st) (hD : ∀ i, D i → i < w.heap.size) (hi : SM.Inv st) (htl : st.t.length ≤ 1000000) (hu : U8s w (.slice ua r.d.length uc) r.d) (hsep : r.d = [] ∨ ∀ g, (Value.slice ua r.d.length uc).ownBlock = some g → ¬ D g) (hrl : r.d.length ≤ 1000) (hh : ¬ SM.Has st.t r) (hT : SM.Taken r st.l) :
    Calls Try.prog 92 #[.pointer (some ⟨t, 0, none⟩), r.val (.slice ua r.d.length uc)] w (RAddOut w t D st r) := by
  obtain ⟨DB, v1, v2, ps, qs, h⟩ := h
  have hl : st.l.length ≤ 1000 := Nat.le_trans hi.room hi.most
  have HD := Lib.hid hD
  have HH := Lib.hid h
  have HUF : Hid (∀ w', Fr D w w' → U8s w' (.slice ua r.d.length uc) r.d) := fun w' hf => hu.keepD hf hsep
  have HTOMB : Hid (∀ w', w.Extends w' → Calls Try.prog 41 #[.pointer (some ⟨t, 0, none⟩), .agg #[.int .i64 r.p, .int .i64 r.n]] w' (TombOut w' false)) := fun w' hx => by
    have := rtomb_any t D st r w' ⟨_, _, _, _, _, h.ext hx⟩ htl
    rwa [decide_eq_false hh] at this
  have HTL := Lib.hid h.lt
  have HOUT : Hid (∀ (kr : Rc) a c w', RLeft w t D (SM.addOf st r).1 w' → (∀ k, (SM.addOf st r).2.1 = some k → kr = k ∧ U8s w' (.slice a kr.d.length c) kr.d) → RAddOut w t D st r (.returned (.tuple #[kr.val (.slice a kr.d.length c), .bool (SM.addOf st r).2.1.isSome, .int .i64 (((SM.addOf st r).2.2 : Nat) : Int)])) w') := fun kr a c w' h1 h2 => ⟨kr, a, c, rfl, h1, h2⟩
  have HRL := Lib.hid hrl
  have HAT1 := Lib.hid h.own1.at_
  have HSL1 : Hid (∀ k, k < ps.length → Slc (ps.getD k zp)) := fun k hk => h.own1.2 _ (getD_mem hk)
  have hpr : ∀ k, (ps.getD k zp).1 = st.l.getD k Rc.zero := fun k => by rw [← recs_at, h.recs1]
  obtain ⟨P, hP⟩ : ∃ P, P = SM.pos r st.l := ⟨_, rfl⟩
  have HPL : Hid (P ≤ ps.length) := by show P ≤ _; rw [h.len1, hP]; exact SM.pos_le r st.l
  have HLT : Hid (∀ k, k < P → SM.Lt (ps.getD k zp).1 r) := fun k hk => by rw [hpr]; exact SM.pos_lt r st.l k (by omega)
  have HGE : Hid (P < ps.length → ¬ SM.Lt (ps.getD P zp).1 r) := fun hk => by rw [hpr, hP]; exact SM.pos_at r st.l (by rw [← hP, ← h.len1]; exact hk)
  obtain ⟨hT1, hT2⟩ := (SM.taken_iff r st.l).1 hT
  rw [← hP] at hT1 hT2
  rw [← h.len1] at hT1
  rw [← hpr] at hT2
  have HWA : Hid ((ps.getD P zp).1.u < r.u → SM.addOf st r = ({ st with l := st.l.set P (SM.till (ps.getD P zp).1 r.u) }, some (SM.till (ps.getD P zp).1 r.u), 0)) := fun hu => by
    unfold SM.addOf
    rw [if_neg hh, ← hP, ← hpr, if_pos ⟨by rw [← h.len1]; exact hT1, hT2⟩, if_pos hu]
  have HWB : Hid (¬ (ps.getD P zp).1.u < r.u → SM.addOf st r = (st, none, 0)) := fun hu => by
    unfold SM.addOf
    rw [if_neg hh, ← hP, ← hpr, if_pos ⟨by rw [← h.len1]; exact hT1, hT2⟩, if_neg hu]
  have HE1 : Hid (∀ wr g cap w6 w7, w.Extends wr → w.heap.size + 1 < wr.heap.size → v1 = .slice (some ⟨g, 0, none⟩) ps.length cap → w6 = wr.setCell ⟨g, P * 10 + 8, none⟩ (.int .i64 r.u) → w6.grownBy w7 (some (w.heap.size + 1)) → RLeft w t D { st with l := st.l.set P (SM.till (ps.getD P zp).1 r.u) } w7 ∧ U8s w7 (ps.getD P zp).2 (ps.getD P zp).1.d) := fun wr g cap w6 w7 hx hz hv e6 hg7 => by
    subst hv
    obtain ⟨k1, k2⟩ := (h.ext hx).tillL hT1 r.u e6
    have k1 : RSX w6 t D DB { st with l := st.l.set P (SM.till (st.l.getD P Rc.zero) r.u) } _ _ _ _ := k1
    rw [← hpr] at k1
    refine ⟨RLeft.close hx ⟨⟨_, _, _, _, _, k1.mono fun i hi => .inl hi⟩, k2⟩ hg7 (by omega) hz hD, ?_⟩
    have k3 := k1.beside hg7 (fun hd => by have := hD _ hd; omega)
    exact (k3.data ({ (ps.getD P zp).1 with u := r.u }, (ps.getD P zp).2) (List.mem_iff_getElem.2 ⟨P, by rw [List.length_set]; exact hT1, by simp⟩)).1
  have HE2 : Hid (∀ wr w7, w.Extends wr → w.heap.size + 1 < wr.heap.size → wr.grownBy w7 (some (w.heap.size + 1)) → RLeft w t D st w7) := fun wr w7 hx hz hg7 => RLeft.close hx (RLeft.ext ⟨_, _, _, _, _, h.ext hx⟩ (Gr.ext_refl _)) hg7 (by omega) hz hD
  have HCE : Hid (∀ wr g cap, w.Extends wr → v1 = .slice (some ⟨g, 0, none⟩) ps.length cap → wr.frozen? ⟨g, P * 10 + 8, none⟩ = false ∧ g ≠ t ∧ g < w.heap.size ∧ ∀ w6, w6 = wr.setCell ⟨g, P * 10 + 8, none⟩ (.int .i64 r.u) → w6.rangeAt g (P * 10) (({ (ps.getD P zp).1 with u := r.u } : Rc).cells (ps.getD P zp).2) ∧ wr.grownBy w6 (some g)) := fun wr g cap hx hv => by
    subst hv
    have ho := h.own1.ext hx
    refine ⟨ho.arr.1.frozen _, fun e => h.rec_ne (h.own1.block g rfl) e.symm, (h.own1.1.lt g rfl).2, fun w6 e6 => ?_⟩
    obtain ⟨k1, k2⟩ := ho.till hT1 r.u e6
    have k3 := k1.arr.1.range (k := P) hT1
    rw [← set_getD _ hT1] at k3
    unfold upd at k3
    rw [if_pos rfl] at k3
    exact ⟨k3, k2⟩
  obtain ⟨sa, sc, hb, c0, c1, c2, c3, f1, f2⟩ := h.cells
  have HC0 := Lib.hid c0
  have HC1 := Lib.hid c1
  have HF1 := Lib.hid f1
  have HFZ := Lib.hid f1
  have HLE1 := Lib.hid h.len1
  rw [← h.len1] at hl
  have HPE := Lib.hid hP
  clear hP
  obtain ⟨a1, cap1, rfl⟩ := h.own1.slice
  generalize hn1 : ps.length = n1 at *
  have HNN1 := Lib.hid hn1
  clear hn1
  clear h hD hi htl hu hsep hrl hh hb c0 c1 c2 c3 f1 f2 hpr
  obtain ⟨rp, rn, rb, rs, rm, rk, re, rg, ru, rd⟩ := r
  show Calls Try.prog 92 #[_, .agg #[.int .i64 rp, .int .i64 rn, .int .i64 rb, .int .i64 rs, .int .i64 rm, .int .i64 rk, .int .i64 re, .bool rg, .int .i64 ru, .slice ua rd.length uc]] w _
  generalize RAddOut w t D st ⟨rp, rn, rb, rs, rm, rk, re, rg, ru, rd⟩ = Q at *
  go_enter Try.func92, Try.ntmps92
  go_upto_region 1 with fail
  generalize hw1 : World.alloc w _ = w1
  generalize hw2 : World.alloc w1 _ = w2
  have hs1 : w1.heap.size = w.heap.size + 1 := by subst hw1; simp
  have hx1 : w.Extends w1 := by subst hw1; exact ext_alloc _ _
  have hx2 : w1.Extends w2 := by subst hw2; exact ext_alloc _ _
  have ha1 : Arr w1 w.heap.size 1 1 (fun _ => ((⟨rp, rn, rb, rs, rm, rk, re, rg, ru, rd⟩ : Rc), (.slice ua rd.length uc))) := by subst hw1; exact Arr.box w (⟨rp, rn, rb, rs, rm, rk, re, rg, ru, rd⟩ : Rc) _
  have ha2 : Arr w2 w1.heap.size 1 1 (fun _ => (Rc.zero, .slice none 0 0)) := by subst hw2; exact Arr.box w1 Rc.zero _
  rw [hs1] at ha2
  have ha1 := ha1.ext hx2
  have HX2 := Lib.hid (Gr.ext_trans hx1 hx2)
  obtain ⟨y, hy⟩ : ∃ y, y = w.heap.size := ⟨_, rfl⟩
  rw [← hy] at ha1 ha2 ⊢
  have HYW := Lib.hid hy
  have HA1 := Lib.hid ha1
  have HA2 := Lib.hid ha2
  obtain ⟨c0, c1, -, -, -, -, -, -, -, -⟩ := RCell.ten (ha1.one rfl)
  simp only [Nat.zero_add] at c0 c1
  clear hw1 hw2 hs1 hx1 hx2 hy ha1 ha2
  go_wp2_with fail
  refine (HTOMB.out w2 HX2.out).mono ?_
  rintro e w3 ⟨⟨qp, qn, qb, qs', qm, qk, qe, qg, qu, qd⟩, tu, rfl, hx3, ta, tc, htu⟩
  simp only at htu
  subst htu
  simp only [Rc.val]
  go_upto_region 2 with fail
  generalize hw4 : World.alloc w3 _ = w4
  have hx4 : w2.Extends w4 := by subst hw4; exact Gr.ext_trans hx3 (ext_alloc _ _)
  have HX4 := Lib.hid (Gr.ext_trans HX2.out hx4)
  have HY4 := Lib.hid (HA1.out.ext hx4)
  have HZ4 := Lib.hid (HA2.out.ext hx4)
  have HZL : Hid (y + 1 < w4.heap.size) := HZ4.out.lt
  clear hw4 hx3 hx4 HX2 HA1 HA2 c0 c1 HTOMB
  generalize w3.heap.size = b7
  have HRY : Hid (∀ wx, w4.Extends wx → wx.rangeAt y 0 (Rc.cells ⟨rp, rn, rb, rs, rm, rk, re, rg, ru, rd⟩ (.slice ua rd.length uc)) ∧ wx.cell? ⟨t, 1, none⟩ = some (.slice a1 n1 cap1) ∧ wx.cell? ⟨t, 0, none⟩ = some (.int .i64 ((st.m : Nat) : Int))) := fun wx hx => ⟨(HY4.out.ext hx).one rfl, (Gr.ext_trans HX4.out hx).cell_of HC1.out, (Gr.ext_trans HX4.out hx).cell_of HC0.out⟩
  go_upto_block 0 with fail
  go_cut [9] (fun s9 wx => s9 = .int .i64 ((P : Nat) : Int) ∧ Hid (w4.Extends wx))
  case first =>
    go_wp2_with fail
    go_loopw [9] (fun s9 wr => ∃ k : Nat, k ≤ P ∧ s9 = .int .i64 k ∧ Hid (w4.Extends wr)) (fun s9 _ => n1 - (intOf s9).toNat)
    case atStart => exact ⟨0, by omega, by rfl, Lib.hid (Gr.ext_refl _)⟩
    case round =>
      obtain ⟨k, hk, rfl, HX⟩ := hrel
      have HRW : Hid (∀ wx, wr.drew.Extends wx → wx.cell? ⟨t, 1, none⟩ = some (.slice a1 n1 cap1) ∧ wx.rangeAt y 0 (Rc.cells ⟨rp, rn, rb, rs, rm, rk, re, rg, ru, rd⟩ (.slice ua rd.length uc)) ∧ w4.Extends wx) := fun wx hx => by
        have h2 := Gr.ext_trans HX.out (Gr.ext_trans (Gr.ext_drew (Gr.ext_refl wr)) hx)
        obtain ⟨q1, q2, _⟩ := HRY.out wx h2
        exact ⟨q2, q1, h2⟩
      by_cases h1 : k < n1
      · obtain ⟨g, ⟨cap', e⟩, hr⟩ := HAT1.out k h1
        cases e
        have HRG : Hid (∀ wx, wr.drew.Extends wx → wx.rangeAt g (k * 10) ((ps.getD k zp).1.cells (ps.getD k zp).2)) := fun wx hx => rangeAt_ext hr (Gr.ext_trans HX4.out (HRW.out wx hx).2.2)
        have HSK := Lib.hid (HSL1.out k h1)
        have HLK : Hid (k < P → SM.Lt (ps.getD k zp).1 ⟨rp, rn, rb, rs, rm, rk, re, rg, ru, rd⟩) := fun h => HLT.out k h
        have HGK : Hid (k = P → ¬ SM.Lt (ps.getD k zp).1 ⟨rp, rn, rb, rs, rm, rk, re, rg, ru, rd⟩) := fun h => by subst h; exact HGE.out h1
        clear hr
        generalize ps.getD k zp = p at *
        obtain ⟨⟨xp, xn, xb, xs, xm, xk, xe, xg, xu, xd⟩, u⟩ := p
        obtain ⟨sua, suc, hu⟩ := id HSK.out
        simp only at hu
        subst hu
        simp only at HLK HGK
        have hd : decide (k < n1) = true := decide_eq_true h1
        go_wp2_with fail
        refine Gr.region 17 [(false,0),(false,1),(false,2),(false,3),(false,4),(false,5),(false,6),(false,7),(false,8),(false,9),(false,10),(false,11),(false,12),(false,13),(false,14),(false,15),(true,16)] (by kernel_rfl) (by kernel_rfl) (fun d _ _ _ _ h => by cases d <;> exact h) ?_
        simp only [Gr.pick, List.getElem?_cons_zero, List.getElem?_cons_succ, List.drop_succ_cons, List.drop_zero]
        generalize wr.drew = wd at *
        iterate 14
          refine Gr.walk_t ?_ (Or.inl ⟨by rfl, ?_⟩) ?_
          rotate_left
          · intro w' hw'
            obtain ⟨b0, -, -⟩ := HRW.out w' hw'
            clear hw'
            go_simp
            try with_reducible rfl
          simp only [Act.put, List.setIfInBounds_toArray, List.set_cons_zero, List.set_cons_succ]
        refine Gr.walk_t ?_ (Or.inl ⟨by rfl, ?_⟩) ?_
        rotate_left
        · intro w' hw'
          obtain ⟨b0, -, -⟩ := HRW.out w' hw'
          obtain ⟨c0, c1, c2, c3, c4, c5, c6, c7, c8, c9⟩ := RCell.ten (HRG.out w' hw')
          clear hw'
          go_simp
          try with_reducible rfl
        simp only [Act.put, List.setIfInBounds_toArray, List.set_cons_zero, List.set_cons_succ]
        refine Gr.walk_t ?_ (Or.inl ⟨by rfl, ?_⟩) ?_
        rotate_left
        · intro w' hw'
          obtain ⟨-, b1, -⟩ := HRW.out w' hw'
          obtain ⟨d0, d1, d2, d3, d4, d5, d6, d7, d8, d9⟩ := RCell.ten b1
          simp only [Nat.zero_add] at d0 d1 d2 d3 d4 d5 d6 d7 d8 d9
          clear b1
          clear hw'
          go_simp
          try with_reducible rfl
        simp only [Act.put, List.setIfInBounds_toArray, List.set_cons_zero, List.set_cons_succ]
        obtain ⟨LB, hLB⟩ : ∃ LB, LB = decide (SM.Lt ⟨xp, xn, xb, xs, xm, xk, xe, xg, xu, xd⟩ ⟨rp, rn, rb, rs, rm, rk, re, rg, ru, rd⟩) := ⟨_, rfl⟩
        have HAH : Hid (Calls Try.prog 107 #[Rc.val ⟨xp, xn, xb, xs, xm, xk, xe, xg, xu, xd⟩ (.slice sua xd.length suc), Rc.val ⟨rp, rn, rb, rs, rm, rk, re, rg, ru, rd⟩ (.slice ua rd.length uc)] wd fun e w' => e = .returned (.bool LB) ∧ wd.Extends w') := by rw [hLB]; exact ahead_any _ _ _ _ _ _ _ _ wd
        have HLB := Lib.hid hLB
        clear hLB
        refine Gr.walk_c (fun K hK => ?_)
        go_simp
        refine (HAH.out).mono ?_
        rintro e w6 ⟨rfl, hx6⟩
        have HX6 : Hid (w4.Extends w6) := (HRW.out w6 hx6).2.2
        try go_simp
        refine hK.out _ _ (hx6) ?_
        clear hK K
        clear hx6 HAH HRW HRG HX
        refine Gr.walk_nil ?_
        rcases Nat.lt_or_ge k P with hkP | hkP
        · have e : LB = true := by rw [HLB.out]; exact decide_eq_true (HLK.out hkP)
          clear HLB HLK HGK
          subst e
          go_wp2
          go_roundw
          case rel => exact ⟨k + 1, by omega, by go_num, HX6⟩
          case measure => simp [intOf]; omega
        · have HEK : Hid (k = P) := by show _ = _; omega
          have e : LB = false := by rw [HLB.out]; exact decide_eq_false (HGK.out HEK.out)
          clear HLB HLK HGK
          subst e
          go_wp2_with fail
          go_meet
          exact ⟨by rw [HEK.out], HX6⟩
      · have hd : decide (k < n1) = false := decide_eq_false h1
        have HEK : Hid (k = P) := by have := HPL.out; show _ = _; omega
        go_wp2_with fail
        refine Gr.region 17 [(false,0),(false,1),(false,2),(false,3),(false,4),(false,5),(false,6),(false,7),(false,8),(false,9),(false,10),(false,11),(false,12),(false,13),(false,14),(false,15),(true,16)] (by kernel_rfl) (by kernel_rfl) (fun d _ _ _ _ h => by cases d <;> exact h) ?_
        simp only [Gr.pick, List.getElem?_cons_zero, List.getElem?_cons_succ, List.drop_succ_cons, List.drop_zero]
        have HX6 : Hid (w4.Extends wr.drew) := Gr.ext_trans HX.out (Gr.ext_drew (Gr.ext_refl wr))
        generalize wr.drew = wd at *
        iterate 8
          refine Gr.walk_t ?_ (Or.inl ⟨by rfl, ?_⟩) ?_
          rotate_left
          · intro w' hw'
            obtain ⟨b0, -, -⟩ := HRW.out w' hw'
            clear hw'
            go_simp
            try with_reducible rfl
          simp only [Act.put, List.setIfInBounds_toArray, List.set_cons_zero, List.set_cons_succ]
        refine Gr.walk_t _ (Or.inr ⟨by rfl, rfl⟩) ?_
        simp only [Act.put, List.setIfInBounds_toArray, List.set_cons_zero, List.set_cons_succ]
        refine Gr.walk_t _ (Or.inr ⟨by rfl, rfl⟩) ?_
        simp only [Act.put, List.setIfInBounds_toArray, List.set_cons_zero, List.set_cons_succ]
        refine Gr.walk_t _ (Or.inr ⟨by rfl, rfl⟩) ?_
        simp only [Act.put, List.setIfInBounds_toArray, List.set_cons_zero, List.set_cons_succ]
        refine Gr.walk_t _ (Or.inr ⟨by rfl, rfl⟩) ?_
        simp only [Act.put, List.setIfInBounds_toArray, List.set_cons_zero, List.set_cons_succ]
        refine Gr.walk_t _ (Or.inr ⟨by rfl, rfl⟩) ?_
        simp only [Act.put, List.setIfInBounds_toArray, List.set_cons_zero, List.set_cons_succ]
        refine Gr.walk_t _ (Or.inr ⟨by rfl, rfl⟩) ?_
        simp only [Act.put, List.setIfInBounds_toArray, List.set_cons_zero, List.set_cons_succ]
        refine Gr.walk_t _ (Or.inr ⟨by rfl, rfl⟩) ?_
        simp only [Act.put, List.setIfInBounds_toArray, List.set_cons_zero, List.set_cons_succ]
        refine Gr.walk_t _ (Or.inr ⟨by rfl, rfl⟩) ?_
        simp only [Act.put, List.setIfInBounds_toArray, List.set_cons_zero, List.set_cons_succ]
        refine Gr.walk_c (fun K hK => ?_)
        rw [if_neg (by intro h; cases h)]
        refine hK.out _ _ (Gr.ext_refl _) ?_
        clear hK K
        simp only [Act.put, List.setIfInBounds_toArray, List.set_cons_zero, List.set_cons_succ]
        refine Gr.walk_nil ?_
        go_wp2_with fail
        go_meet
        exact ⟨by rw [HEK.out], HX6⟩
  obtain ⟨rfl, HXC⟩ := hcut
  clear HLT HGE
  obtain ⟨g, ⟨cap', e⟩, hr⟩ := HAT1.out P hT1
  have HV := Lib.hid e
  cases e
  have hz4 := HZL.out
  have HRD : Hid (∀ wx, wc.Extends wx → (wx.rangeAt g (P * 10) ((ps.getD P zp).1.cells (ps.getD P zp).2) ∧ wx.cell? ⟨t, 1, none⟩ = some (.slice (some ⟨g, 0, none⟩) n1 cap1) ∧ wx.rangeAt y 0 (Rc.cells ⟨rp, rn, rb, rs, rm, rk, re, rg, ru, rd⟩ (.slice ua rd.length uc))) ∧ w.Extends wx ∧ y + 1 < wx.heap.size ∧ Arr wx (y + 1) 1 1 (fun _ => (Rc.zero, .slice none 0 0))) := fun wx hx => by
    have h2 := Gr.ext_trans HXC.out hx
    obtain ⟨q1, q2, _⟩ := HRY.out wx h2
    exact ⟨⟨rangeAt_ext hr (Gr.ext_trans HX4.out h2), q2, q1⟩, Gr.ext_trans HX4.out h2, Nat.lt_of_lt_of_le hz4 h2.size, HZ4.out.ext h2⟩
  have HE1K := Lib.hid (fun wr w6 w7 hx hz => HE1.out wr g _ w6 w7 hx hz HV.out)
  have HCEK := Lib.hid (fun wr hx => HCE.out wr g _ hx HV.out)
  have HSK := Lib.hid (HSL1.out P hT1)
  clear hr hz4 HRY HXC HV HCE HE1 HC0 HC1 HF1
  rw [← HYW.out] at HE1K HE2
  generalize ps.getD P zp = p at *
  obtain ⟨⟨xp, xn, xb, xs, xm, xk, xe, xg, xu, xd⟩, u⟩ := p
  obtain ⟨sua, suc, hu⟩ := id HSK.out
  simp only at hu
  subst hu
  simp only at HWA HWB hT2
  have HNL := Lib.hid hT2
  have hd : decide (P < n1) = true := decide_eq_true hT1
  clear hT2
  go_wp2_with fail
  refine Gr.region 18 [(false,0),(false,1),(false,2),(false,3),(false,4),(false,5),(false,6),(false,7),(false,8),(false,9),(false,10),(false,11),(false,12),(false,13),(false,14),(false,15),(true,16),(false,17)] (by kernel_rfl) (by kernel_rfl) (fun d _ _ _ _ h => by cases d <;> exact h) ?_
  simp only [Gr.pick, List.getElem?_cons_zero, List.getElem?_cons_succ, List.drop_succ_cons, List.drop_zero]
  have HXD : Hid (wc.Extends wc.drew) := Gr.ext_drew (Gr.ext_refl wc)
  generalize wc.drew = wd at *
  iterate 8
    refine Gr.walk_t ?_ (Or.inl ⟨by rfl, ?_⟩) ?_
    rotate_left
    · intro w' hw'
      obtain ⟨⟨-, b0, -⟩, -⟩ := HRD.out w' (Gr.ext_trans HXD.out hw')
      clear hw'
      go_simp
      try with_reducible rfl
    simp only [Act.put, List.setIfInBounds_toArray, List.set_cons_zero, List.set_cons_succ]
  refine Gr.walk_t ?_ (Or.inl ⟨by rfl, ?_⟩) ?_
  rotate_left
  · intro w' hw'
    obtain ⟨⟨-, -, b1⟩, -⟩ := HRD.out w' (Gr.ext_trans HXD.out hw')
    obtain ⟨d0, d1, d2, d3, d4, d5, d6, d7, d8, d9⟩ := RCell.ten b1
    simp only [Nat.zero_add] at d0 d1 d2 d3 d4 d5 d6 d7 d8 d9
    clear b1
    clear hw'
    go_simp
    try with_reducible rfl
  simp only [Act.put, List.setIfInBounds_toArray, List.set_cons_zero, List.set_cons_succ]
  iterate 6
    refine Gr.walk_t ?_ (Or.inl ⟨by rfl, ?_⟩) ?_
    rotate_left
    · intro w' hw'
      obtain ⟨⟨-, b0, -⟩, -⟩ := HRD.out w' (Gr.ext_trans HXD.out hw')
      clear hw'
      go_simp
      try with_reducible rfl
    simp only [Act.put, List.setIfInBounds_toArray, List.set_cons_zero, List.set_cons_succ]
  refine Gr.walk_t ?_ (Or.inl ⟨by rfl, ?_⟩) ?_
  rotate_left
  · intro w' hw'
    obtain ⟨⟨b1, -, -⟩, -⟩ := HRD.out w' (Gr.ext_trans HXD.out hw')
    obtain ⟨c0, c1, c2, c3, c4, c5, c6, c7, c8, c9⟩ := RCell.ten b1
    clear b1
    clear hw'
    go_simp
    try with_reducible rfl
  simp only [Act.put, List.setIfInBounds_toArray, List.set_cons_zero, List.set_cons_succ]
  have HAH : Hid (Calls Try.prog 107 #[Rc.val ⟨rp, rn, rb, rs, rm, rk, re, rg, ru, rd⟩ (.slice ua rd.length uc), Rc.val ⟨xp, xn, xb, xs, xm, xk, xe, xg, xu, xd⟩ (.slice sua xd.length suc)] wd fun e w' => e = .returned (.bool false) ∧ wd.Extends w') := by
    have := ahead_any ⟨rp, rn, rb, rs, rm, rk, re, rg, ru, rd⟩ ⟨xp, xn, xb, xs, xm, xk, xe, xg, xu, xd⟩ ua sua rd.length xd.length uc suc wd
    rwa [decide_eq_false HNL.out] at this
  refine Gr.walk_c (fun K hK => ?_)
  go_simp
  refine (HAH.out).mono ?_
  rintro e w6 ⟨rfl, hx6⟩
  have HX6 : Hid (wc.Extends w6) := Gr.ext_trans HXD.out hx6
  try go_simp
  refine hK.out _ _ (hx6) ?_
  clear hK K
  clear hx6 HAH HXD
  refine Gr.walk_t ?_ (Or.inl ⟨by rfl, ?_⟩) ?_
  rotate_left
  · intro w' hw'
    clear hw'
    go_simp
    try with_reducible rfl
  simp only [Act.put, List.setIfInBounds_toArray, List.set_cons_zero, List.set_cons_succ]
  refine Gr.walk_nil ?_
  go_wp2_with fail
  refine Gr.region 10 [(false,0),(false,1),(false,2),(false,3),(false,4),(false,5),(false,6),(false,7),(false,8),(false,9)] (by kernel_rfl) (by kernel_rfl) (fun d _ _ _ _ h => by cases d <;> exact h) ?_
  simp only [Gr.pick, List.getElem?_cons_zero, List.getElem?_cons_succ, List.drop_succ_cons, List.drop_zero]
  have HXE : Hid (wc.Extends w6.drew) := Gr.ext_trans HX6.out (Gr.ext_drew (Gr.ext_refl w6))
  generalize w6.drew = we at *
  iterate 10
    refine Gr.walk_t ?_ (Or.inl ⟨by rfl, ?_⟩) ?_
    rotate_left
    · intro w' hw'
      obtain ⟨⟨c', b0, d'⟩, -⟩ := HRD.out w' (Gr.ext_trans HXE.out hw')
      obtain ⟨-, -, -, -, -, -, -, -, c8, -⟩ := RCell.ten c'
      obtain ⟨-, -, -, -, -, -, -, -, d8, -⟩ := RCell.ten d'
      simp only [Nat.zero_add] at d8
      clear c' d'
      clear hw'
      go_simp
      try with_reducible rfl
    simp only [Act.put, List.setIfInBounds_toArray, List.set_cons_zero, List.set_cons_succ]
  refine Gr.walk_nil ?_
  by_cases hu : xu < ru
  · have HAD := Lib.hid (HWA.out hu)
    have hu2 : ¬ ru ≤ xu := by omega
    clear HWA HWB
    go_wp2_with fail
    refine Gr.region 7 [(false,0),(false,1),(false,2),(false,3),(false,4),(false,5),(false,6)] (by kernel_rfl) (by kernel_rfl) (fun d _ _ _ _ h => by cases d <;> exact h) ?_
    simp only [Gr.pick, List.getElem?_cons_zero, List.getElem?_cons_succ, List.drop_succ_cons, List.drop_zero]
    have HXG : Hid (wc.Extends we.drew) := Gr.ext_trans HXE.out (Gr.ext_drew (Gr.ext_refl we))
    generalize we.drew = wf at *
    iterate 7
      refine Gr.walk_t ?_ (Or.inl ⟨by rfl, ?_⟩) ?_
      rotate_left
      · intro w' hw'
        obtain ⟨⟨-, b0, d'⟩, -⟩ := HRD.out w' (Gr.ext_trans HXG.out hw')
        obtain ⟨-, -, -, -, -, -, -, -, d8, -⟩ := RCell.ten d'
        simp only [Nat.zero_add] at d8
        clear d'
        clear hw'
        go_simp
        try with_reducible rfl
      simp only [Act.put, List.setIfInBounds_toArray, List.set_cons_zero, List.set_cons_succ]
    refine Gr.walk_nil ?_
    obtain ⟨⟨c', b0, d'⟩, hxf, hzf, hzz⟩ := HRD.out wf HXG.out
    obtain ⟨c0, c1, c2, c3, c4, c5, c6, c7, c8, c9⟩ := RCell.ten c'
    obtain ⟨hfz, hgt, hgl, hfq⟩ := HCEK.out wf hxf
    go_upto_region 10 with fail
    generalize hw6 : World.setCell wf _ _ = w8
    obtain ⟨hr6, hg6⟩ := hfq w8 hw6.symm
    have HEND := Lib.hid (fun w7 => HE1K.out wf w8 w7 hxf hzf hw6.symm)
    have HAZ : Hid (Arr w8 (y + 1) 1 1 (fun _ => (Rc.zero, .slice none 0 0))) := hzz.kept (hg6.block (y + 1) hzf (by have := HYW.out; simp; omega))
    have b6 : w8.cell? ⟨t, 1, none⟩ = some (.slice (some ⟨g, 0, none⟩) n1 cap1) := by
      rw [World.cell?_of_block (w := wf) (w' := w8) (a := ⟨t, 1, none⟩) (hg6.block t (Nat.lt_of_lt_of_le HTL.out hxf.size) (by simpa using Ne.symm hgt))]; exact b0
    clear c0 c1 c2 c3 c4 c5 c6 c7 c8 c9 c' d' hfz hgt hgl hfq hw6 hg6 b0 hxf hzf hzz HRD HCEK HE1K HE2
    obtain ⟨c0, c1, c2, c3, c4, c5, c6, c7, c8, c9⟩ := RCell.ten hr6
    simp only at c0 c1 c2 c3 c4 c5 c6 c7 c8 c9
    clear hr6
    have HSLC : Hid (Slc ((⟨xp, xn, xb, xs, xm, xk, xe, xg, ru, xd⟩, (.slice sua xd.length suc)) : Pr)) := ⟨_, _, rfl⟩
    go_wp2_with (refine wpList_store_rec rfl 28 recsize _ _ rfl (y + 1) 0 0 1 1 _ (⟨xp, xn, xb, xs, xm, xk, xe, xg, ru, xd⟩, (.slice sua xd.length suc)) rfl rfl rfl HAZ.out (by omega) HSLC.out ?_)
    intro w7 ha7 hg7
    have HP : Hid (Q (.returned (.tuple #[Rc.val ⟨xp, xn, xb, xs, xm, xk, xe, xg, ru, xd⟩ (.slice sua xd.length suc), .bool true, .int .i64 0])) w7) := by
      have h := HOUT.out ⟨xp, xn, xb, xs, xm, xk, xe, xg, ru, xd⟩ sua suc w7
      rw [HAD.out] at h
      obtain ⟨k1, k2⟩ := HEND.out w7 hg7
      exact h k1 (fun k hk => ⟨Option.some.inj hk, k2⟩)
    clear c0 c1 c2 c3 c4 c5 c6 c7 c8 c9 hg7
    obtain ⟨d0, d1, d2, d3, d4, d5, d6, d7, d8, d9⟩ := RCell.ten (ha7.one (p := (⟨xp, xn, xb, xs, xm, xk, xe, xg, ru, xd⟩, (.slice sua xd.length suc))) rfl)
    simp only [Nat.zero_add] at d0 d1 d2 d3 d4 d5 d6 d7 d8 d9
    clear ha7
    repeat (first | go_values | go_skip | go_guarded | go_step)
    refine bodyPost_ret (v := .tuple #[Rc.val ⟨xp, xn, xb, xs, xm, xk, xe, xg, ru, xd⟩ (.slice sua xd.length suc), .bool true, .int .i64 0]) (by simp [results, Try.results92, go_sem, d0, d1, d2, d3, d4, d5, d6, d7, d8, d9]; try rfl) rfl ?_
    exact HP.out
  · have HAD := Lib.hid (HWB.out (by omega))
    clear HWA HWB
    obtain ⟨⟨-, -, d'⟩, hxf, hzf, hzz⟩ := HRD.out we HXE.out
    obtain ⟨c0, c1, c2, c3, c4, c5, c6, c7, c8, c9⟩ := RCell.ten d'
    simp only [Nat.zero_add] at c0 c1 c2 c3 c4 c5 c6 c7 c8 c9
    have HAZ := Lib.hid hzz
    have HEND := Lib.hid (fun w7 => HE2.out we w7 hxf hzf)
    clear d' hxf hzf hzz HRD HCEK HE1K HE2
    have HSLC : Hid (Slc ((⟨rp, rn, rb, rs, rm, rk, re, rg, ru, rd⟩, (.slice ua rd.length uc)) : Pr)) := ⟨_, _, rfl⟩
    go_wp2_with (refine wpList_store_rec rfl 28 recsize _ _ rfl (y + 1) 0 0 1 1 _ (⟨rp, rn, rb, rs, rm, rk, re, rg, ru, rd⟩, (.slice ua rd.length uc)) rfl rfl rfl HAZ.out (by omega) HSLC.out ?_)
    intro w7 ha7 hg7
    have HP : Hid (Q (.returned (.tuple #[Rc.val ⟨rp, rn, rb, rs, rm, rk, re, rg, ru, rd⟩ (.slice ua rd.length uc), .bool false, .int .i64 0])) w7) := by
      have h := HOUT.out ⟨rp, rn, rb, rs, rm, rk, re, rg, ru, rd⟩ ua uc w7
      rw [HAD.out] at h
      exact h (HEND.out w7 hg7) (fun k hk => nomatch hk)
    clear c0 c1 c2 c3 c4 c5 c6 c7 c8 c9 hg7
    obtain ⟨d0, d1, d2, d3, d4, d5, d6, d7, d8, d9⟩ := RCell.ten (ha7.one (p := (⟨rp, rn, rb, rs, rm, rk, re, rg, ru, rd⟩, (.slice ua rd.length uc))) rfl)
    simp only [Nat.zero_add] at d0 d1 d2 d3 d4 d5 d6 d7 d8 d9
    clear ha7
    repeat (first | go_values | go_skip | go_guarded | go_step)
    refine bodyPost_ret (v := .tuple #[Rc.val ⟨rp, rn, rb, rs, rm, rk, re, rg, ru, rd⟩ (.slice ua rd.length uc), .bool false, .int .i64 0]) (by simp [results, Try.results92, go_sem, d0, d1, d2, d3, d4, d5, d6, d7, d8, d9]; try rfl) rfl ?_
    exact HP.out
end Go.Proofs.Ytdbdnfjgmdkneaa
namespace Go.Proofs.Ytdbdnfjgmdkneaa
set_option maxRecDepth 20000
open Go.RowKit Go.Deep Go.Maps
set_option linter.unusedVariables false
/-- The data lie in blocks of bytes from B on. -/
def DataB (w : World) (B : Nat) (ps : List Pr) : Prop := ∀ p ∈ ps, U8s w p.2 p.1.d ∧ ∀ g, p.2.ownBlock = some g → B ≤ g ∧ ∃ cs, w.heap[g]? = some (.cells cs 5 (0, 0))
theorem DataB.grown {w w' : World} {B b : Nat} {v : Value} {n : Nat} {vs : List Value} {ps : List Pr} (h : DataB w B ps) (ho : w.ownsRow b 28 10 v n vs) (hg : w.grownBy w' v.ownBlock) : DataB w' B ps := fun p hp => by
  obtain ⟨h1, h2⟩ := h p hp
  have hb : ∀ g, p.2.ownBlock = some g → w'.heap[g]? = w.heap[g]? := fun g hg' => by
    obtain ⟨_, cs, hc⟩ := h2 g hg'
    refine hg.block g (Array.getElem?_eq_some_iff.1 hc).1 fun e => ?_
    rcases ho.2 with ⟨rfl, _⟩ | ⟨g', cap, cur, rfl, _, hh, _⟩
    · cases e
    · have e' : g = g' := by simpa [Value.ownBlock] using e
      subst e'
      rw [hh] at hc
      simp only [Option.some.injEq, Obj.cells.injEq] at hc
      exact absurd hc.2.1 (by decide)
  refine ⟨h1.same hg.size (.inr hb), fun g hg' => ?_⟩
  obtain ⟨h3, cs, h4⟩ := h2 g hg'
  exact ⟨h3, cs, (hb g hg').trans h4⟩
theorem DataB.ext {w w' : World} {B : Nat} {ps : List Pr} (h : DataB w B ps) (hx : w.Extends w') : DataB w' B ps := fun p hp => by
  obtain ⟨h1, h2⟩ := h p hp
  refine ⟨h1.ext hx, fun g hg => ?_⟩
  obtain ⟨h3, cs, h4⟩ := h2 g hg
  exact ⟨h3, cs, (hx.block g (Array.getElem?_eq_some_iff.1 h4).1).trans h4⟩
end Go.Proofs.Ytdbdnfjgmdkneaa
