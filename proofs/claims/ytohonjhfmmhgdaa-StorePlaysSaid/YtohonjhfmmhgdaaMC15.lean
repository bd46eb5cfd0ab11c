/- In one text: RefExp, StoSure, LogAll, RecReader. -/
import Derived.Deep.DeepCutAuto
import Derived.BigRegion
import Derived.WalkKit
import Derived.Handy
import Derived.Lib.Hide
import Derived.Test.YtohonjhfmmhgdaaMC3
import Derived.Test.YtohonjhfmmhgdaaMC6
import Derived.Test.YtohonjhfmmhgdaaMC12
import Derived.Test.YtohonjhfmmhgdaaMC13
import Derived.Test.YtohonjhfmmhgdaaMC14
namespace Go.Proofs.Ytohonjhfmmhgdaa
set_option maxRecDepth 20000
open Go.RowKit Go.Deep Go.Maps
set_option linter.unusedVariables false
/-- What a call leaves of a store of the reference. -/
def RLeft (w : World) (t : Nat) (D : Nat → Prop) (st : Sto) (w' : World) : Prop := RSt w' t (Nx D w w') st ∧ Fr D w w'
theorem RLeft.ext {w w' : World} {t : Nat} {D : Nat → Prop} {st : Sto} (h : RSt w t D st) (hx : w.Extends w') : RLeft w t D st w' := ⟨(h.ext hx).mono fun i hi => .inl hi, Fr.ext hx⟩
theorem RLeft.next {a b c : World} {t : Nat} {D : Nat → Prop} {st st' : Sto} (h : RLeft a t D st b) (k : RLeft b t (Nx D a b) st' c) : RLeft a t D st' c := ⟨k.1.mono fun i hi => Nx.next h.2.size k.2.size hi, h.2.next k.2⟩
/-- A slice of records of a call's own, in memory from B on. -/
def OwnB (w : World) (B : Nat) (v : Value) (ps : List Pr) : Prop := w.ownsRow B 43 10 v ps.length (flat ps) ∧ ∀ p ∈ ps, Slc p
theorem OwnB.nil (w : World) (B : Nat) : OwnB w B (.slice none 0 0) [] := ⟨World.ownsRow_nil _ _ _ _, fun p hp => by cases hp⟩
theorem OwnB.own {w : World} {B : Nat} {v : Value} {ps : List Pr} (h : OwnB w B v ps) : OwnR w v ps := by
  refine ⟨⟨h.1.1, ?_⟩, h.2⟩
  rcases h.1.2 with h4 | ⟨g, cap, cur, e, _, hrest⟩
  · exact .inl h4
  · exact .inr ⟨g, cap, cur, e, Nat.zero_le _, hrest⟩
theorem OwnB.ext {w w' : World} {B : Nat} {v : Value} {ps : List Pr} (h : OwnB w B v ps) (hx : w.Extends w') : OwnB w' B v ps := by
  have hg : w.grownBy w' none := ⟨hx.os, hx.tape, hx.output, hx.size, fun i hi _ => hx.block i hi⟩
  exact ⟨h.1.kept hg (by cases v.ownBlock <;> simp), h.2⟩
theorem OwnB.slice {w : World} {B : Nat} {v : Value} {ps : List Pr} (h : OwnB w B v ps) : ∃ a cap, v = .slice a ps.length cap := h.own.slice
theorem OwnB.snoc {w' : World} {B : Nat} {v' : Value} {ps : List Pr} {p : Pr} (hs : ∀ q ∈ ps, Slc q) (hp : Slc p) (ho : w'.ownsRow B 43 10 v' (ps.length + 1) (flat ps ++ p.1.cells p.2)) : OwnB w' B v' (ps ++ [p]) := by
  refine ⟨?_, fun q hq => ?_⟩
  · rw [flat_append, List.length_append]
    have e : flat [p] = p.1.cells p.2 := by rw [flat_cons, flat_nil, List.append_nil]
    rw [e]
    exact ho
  · rcases List.mem_append.1 hq with hq | hq
    · exact hs q hq
    · rw [List.mem_singleton] at hq; subst hq; exact hp
/-- Both slices put, of some of what the store had. -/
theorem RSX.put_both {w wr w5 w6 : World} {t : Nat} {D DB : Nat → Prop} {st : Sto} {v1 v2 u1 u2 : Value} {ps qs ps' qs' : List Pr} (h : RSX w t D DB st v1 v2 ps qs) (hx : w.Extends wr) (h1 : OwnR wr u1 ps') (h2 : OwnR wr u2 qs') (b1 : ∀ g, u1.ownBlock = some g → w.heap.size ≤ g) (b2 : ∀ g, u2.ownBlock = some g → w.heap.size ≤ g)
    (hap : ∀ g, u1.ownBlock = some g → u2.ownBlock ≠ some g) (hps : ∀ p ∈ ps', p ∈ ps) (hw5 : w5 = wr.setCell ⟨t, 1, none⟩ u1) (hw6 : w6 = w5.setCell ⟨t, 2, none⟩ u2) : RLeft w t D { st with l := recs ps', t := recs qs' } w6 := by
  have hr := h.ext hx
  obtain ⟨l5, g5⟩ := hr.log.front (i := 1) (by omega) hw5
  obtain ⟨l6, g6⟩ := RAt.front (i := 2) l5 (by omega) hw6
  have hg := grown_trans g5 g6
  have hlt := h.lt
  obtain ⟨sa, sc, hb, _⟩ := hr.cells
  have hst : ∀ T, T ≠ 54 → Still T wr w6 := fun T hT => Still.grown hg hb (Ne.symm hT)
  have hsz : wr.heap.size ≤ w6.heap.size := hg.size
  have hxs := hx.size
  have new : ∀ u qq, OwnR wr u qq → (∀ g, u.ownBlock = some g → w.heap.size ≤ g) → (∀ g, u.ownBlock = some g → Nx D w w6 g) := fun u qq ho hb g hg => .inr ⟨hb g hg, Nat.lt_of_lt_of_le (ho.1.lt g hg).2 hsz⟩
  have kep : ∀ u qq, OwnR wr u qq → (∀ g, u.ownBlock = some g → w.heap.size ≤ g) → OwnR w6 u qq := fun u qq ho hb => ho.kept hg (.inr fun e => by have := hb t e; omega)
  refine ⟨⟨DB, u1, u2, ps', qs', ⟨l6, .inl h.here, kep _ _ h1 b1, kep _ _ h2 b2, rfl, rfl, new _ _ h1 b1, new _ _ h2 b2, fun g hgB => ?_, hap, fun p hp => ?_, fun p hp => h.dataB p (hps p hp)⟩⟩, ?_⟩
  · obtain ⟨k1, cs, k2⟩ := hr.inB g hgB
    exact ⟨.inl k1, cs, (hst _ (by decide) g cs _ k2).trans k2⟩
  · exact ((hr.data p (hps p hp)).mono fun i hi => .inl hi).still hsz (hst _ (by decide))
  · exact (Fr.ext (D := D) hx).trans (Fr.grown (D := D) hg (fun g e => by have := Option.some.inj e; subst this; exact h.here)) fun _ _ h => h
theorem fl_mem {q : Rc → Bool} {ps : List Pr} : ∀ p ∈ ps.filter (fun p => !q p.1), p ∈ ps := fun p hp => (List.mem_filter.1 hp).1
set_option maxHeartbeats 4000000 in
theorem rexpire_any (t : Nat) (D : Nat → Prop) (st : Sto) (now : Int) (w : World) (h : RSt w t D st) (hl : st.l.length ≤ 1000) (htl : st.t.length ≤ 1000000) :
    Calls Try.prog 16 #[.pointer (some ⟨t, 0, none⟩), .int .i64 now] w fun e w' => e = .returned (.int .i64 ((st.l.length : Nat) + (st.t.length : Nat) - ((SM.expire st now).l.length : Nat) - ((SM.expire st now).t.length : Nat))) ∧ RLeft w t D (SM.expire st now) w' := by
  obtain ⟨DB, v1, v2, ps, qs, h⟩ := h
  have HAT1 := Lib.hid h.own1.at_
  have HAT2 := Lib.hid h.own2.at_
  have HSL1 : Hid (∀ k, k < ps.length → Slc (ps.getD k zp)) := fun k hk => h.own1.2 _ (getD_mem hk)
  have HSL2 : Hid (∀ k, k < qs.length → Slc (qs.getD k zp)) := fun k hk => h.own2.2 _ (getD_mem hk)
  have HFS1 : Hid (∀ k, ∀ p ∈ fl (isOld now) ps k, Slc p) := fun k p hp => h.own1.2 p (List.mem_of_mem_take (List.mem_filter.1 hp).1)
  have HFS2 : Hid (∀ k, ∀ p ∈ fl (isOld now) qs k, Slc p) := fun k p hp => h.own2.2 p (List.mem_of_mem_take (List.mem_filter.1 hp).1)
  obtain ⟨sa, sc, hb, c0, c1, c2, c3, f1, f2⟩ := h.cells
  have HC1 := Lib.hid c1
  have HC2 := Lib.hid c2
  have HF1 := Lib.hid f1
  have HF2 := Lib.hid f2
  have HTL := Lib.hid h.lt
  have HY1 : Hid (∀ k, k < ps.length → (ps.getD k zp).1.u < now → fl (isOld now) ps (k + 1) = fl (isOld now) ps k) := fun k hk hq => fl_yes hk (decide_eq_true hq)
  have HN1 : Hid (∀ k, k < ps.length → ¬ (ps.getD k zp).1.u < now → fl (isOld now) ps (k + 1) = fl (isOld now) ps k ++ [ps.getD k zp]) := fun k hk hq => fl_no hk (decide_eq_false hq)
  have HY2 : Hid (∀ k, k < qs.length → (qs.getD k zp).1.u < now → fl (isOld now) qs (k + 1) = fl (isOld now) qs k) := fun k hk hq => fl_yes hk (decide_eq_true hq)
  have HN2 : Hid (∀ k, k < qs.length → ¬ (qs.getD k zp).1.u < now → fl (isOld now) qs (k + 1) = fl (isOld now) qs k ++ [qs.getD k zp]) := fun k hk hq => fl_no hk (decide_eq_false hq)
  have HL1 := Lib.hid (fl_le (isOld now) ps)
  have HL2 := Lib.hid (fl_le (isOld now) qs)
  have HZ1 : Hid (fl (isOld now) ps 0 = []) := rfl
  have HZ2 : Hid (fl (isOld now) qs 0 = []) := rfl
  have er1 : recs (fl (isOld now) ps ps.length) = (SM.expire st now).l := by
    rw [fl_all, recs_filter ps (fun x => !isOld now x), h.recs1]; rfl
  have er2 : recs (fl (isOld now) qs qs.length) = (SM.expire st now).t := by
    rw [fl_all, recs_filter qs (fun x => !isOld now x), h.recs2]; rfl
  have HFIN : Hid (∀ w2 wr u1 u2 w5 w6, w.Extends w2 → w2.Extends wr → OwnB w2 w.heap.size u1 (fl (isOld now) ps ps.length) → OwnB wr w2.heap.size u2 (fl (isOld now) qs qs.length) → w5 = wr.setCell ⟨t, 1, none⟩ u1 → w6 = w5.setCell ⟨t, 2, none⟩ u2 → RLeft w t D (SM.expire st now) w6) := fun w2 wr u1 u2 w5 w6 hx2 hxr ho1 ho2 e5 e6 => by
    have hs2 := hx2.size
    have := h.put_both (Gr.ext_trans hx2 hxr) (ho1.ext hxr).own ho2.own (fun g hg => (ho1.1.lt g hg).1) (fun g hg => Nat.le_trans hs2 (ho2.1.lt g hg).1) (fun g hg hg2 => by
      have a1 := (ho1.1.lt g hg).2
      have a2 := (ho2.1.lt g hg2).1
      omega) (fun p hp => by rw [fl_all] at hp; exact fl_mem p hp) e5 e6
    rw [er1, er2] at this
    exact this
  have HR1 : Hid ((fl (isOld now) ps ps.length).length = (SM.expire st now).l.length) := by show _ = _; rw [← er1, recs_length]
  have HR2 : Hid ((fl (isOld now) qs qs.length).length = (SM.expire st now).t.length) := by show _ = _; rw [← er2, recs_length]
  rw [← HR1.out, ← HR2.out, ← h.len1, ← h.len2]
  rw [← h.len1] at hl
  rw [← h.len2] at htl
  obtain ⟨a1, cap1, rfl⟩ := h.own1.slice
  obtain ⟨a2, cap2, rfl⟩ := h.own2.slice
  obtain ⟨i2, hi', hz0', hz1', hz2'⟩ := info_parts recinfo
  have HI' := Lib.hid hi'; clear hi'
  have HZ0' := Lib.hid hz0'; clear hz0'
  have HZ1' := Lib.hid hz1'; clear hz1'
  have HZ2' := Lib.hid hz2'; clear hz2'
  clear h hb c0 c1 c2 c3 f1 f2 er1 er2 HR1 HR2
  generalize SM.expire st now = st' at *
  generalize ps.length = n1 at *
  generalize qs.length = n2 at *
  generalize fl (isOld now) ps = G1 at *
  generalize fl (isOld now) qs = G2 at *
  have hc1 := HC1.out
  go_enter Try.func16, Try.ntmps16
  go_wp2_with fail
  have HXW : Hid (w.Extends w) := Gr.ext_refl w
  have HCW := HC1
  go_loopw [5, 7] (fun s5 s7 wr => ∃ k : Nat, k ≤ n1 ∧ s7 = .int .i64 k ∧ Hid (w.Extends wr) ∧ Hid (OwnB wr w.heap.size s5 (G1 k))) (fun _ s7 _ => n1 - (intOf s7).toNat)
  case atStart => exact ⟨0, by omega, by rfl, Lib.hid (Gr.ext_refl _), Lib.hid (by rw [HZ1.out]; exact OwnB.nil _ _)⟩
  case round =>
    obtain ⟨k, hk, rfl, HX, HM⟩ := hrel
    have e1 := HX.out.cell_of (HCW.out)
    by_cases h1 : k < n1
    · obtain ⟨g, ⟨cap', e⟩, hr⟩ := HAT1.out k h1
      cases e
      have hr := rangeAt_ext hr (Gr.ext_trans HXW.out HX.out)
      obtain ⟨c0, c1, c2, c3, c4, c5, c6, c7, c8, c9⟩ := RCell.ten hr
      have HSK := Lib.hid (HSL1.out k h1)
      have HYK := Lib.hid (HY1.out k h1)
      have HNK := Lib.hid (HN1.out k h1)
      have HLK := Lib.hid (HL1.out k)
      clear hr
      generalize ps.getD k zp = p at *
      obtain ⟨⟨xp, xn, xb, xs, xm, xk, xe, xg, xu, xd⟩, u⟩ := p
      obtain ⟨ua, uc, hu⟩ := id HSK.out
      simp only at hu
      subst hu
      simp only at c0 c1 c2 c3 c4 c5 c6 c7 c8 c9
      obtain ⟨va, vc, rfl⟩ := HM.out.slice
      by_cases hid : xu < now
      · have HGK : Hid (OwnB wr w.heap.size (.slice va (G1 k).length vc) (G1 (k + 1))) := by rw [HYK.out hid]; exact HM.out
        have hid2 : ¬ now ≤ xu := by omega
        clear HYK HNK HM HSK
        go_wp2
        go_roundw
        case rel => exact ⟨k + 1, by omega, by go_num, HX, HGK⟩
        case measure => simp [intOf]; omega
      · have hid2 : now ≤ xu := by omega
        have HGK := Lib.hid (HNK.out (by first | exact hid | exact hid2))
        have hx8 : wr.Extends (wr.alloc (.cells (Rc.cells ⟨xp, xn, xb, xs, xm, xk, xe, xg, xu, xd⟩ (.slice ua xd.length uc)).toArray 43)) := ext_alloc _ _
        have HSRC : Hid (Src Try.prog 10 28 (.slice (some ⟨wr.heap.size, 0, none⟩) 1 1) 1 (Rc.cells ⟨xp, xn, xb, xs, xm, xk, xe, xg, xu, xd⟩ (.slice ua xd.length uc)) (wr.alloc (.cells (Rc.cells ⟨xp, xn, xb, xs, xm, xk, xe, xg, xu, xd⟩ (.slice ua xd.length uc)).toArray 43))) := src_rec (r := ⟨xp, xn, xb, xs, xm, xk, xe, xg, xu, xd⟩) Try.underlying28 _ _ rfl rfl
        have HOWN := Lib.hid (HM.out.ext hx8).1
        have HX8 := Lib.hid (Gr.ext_trans HX.out hx8)
        have HOB : Hid (∀ g, (Value.slice va (G1 k).length vc).ownBlock = some g → w.heap.size ≤ g) := fun g hg => (HOWN.out.lt g hg).1
        have hbs := HX8.out.size
        have hgk := HLK.out
        clear hx8 HYK HNK HM hid
        generalize hgl : (G1 k).length = gl at *
        have HGL := Lib.hid hgl
        clear hgl
        go_wp2_with (at_builtin; refine wpList_append_own_src _ rfl _ _ 28 28 rfl w.heap.size 43 i2 (Rc.zero.val (.slice none 0 0)) 10 96 Try.underlying28 HI'.out HZ0'.out HZ1'.out HZ2'.out rfl _ _ _ rfl HOWN.out _ 1 (Rc.cells ⟨xp, xn, xb, xs, xm, xk, xe, xg, xu, xd⟩ (.slice ua xd.length uc)) rfl HSRC.out (by unfold maxLen; omega) (by omega) hbs ?_)
        intro v' w9 ho9 hg9 _
        have HP : Hid (w.Extends w9 ∧ OwnB w9 w.heap.size v' (G1 (k + 1))) := by
          refine ⟨HX8.out.grown hg9 HOB.out, ?_⟩
          rw [HGK.out]
          exact OwnB.snoc (HFS1.out k) HSK.out (by rw [HGL.out]; exact ho9)
        clear ho9 hg9 c0 c1 c2 c3 c4 c5 c6 c7 c8 c9 HSRC HOWN HOB HX8
        go_wp2
        go_roundw
        case rel => exact ⟨k + 1, by omega, by go_num, Lib.hid HP.out.1, Lib.hid HP.out.2⟩
        case measure => simp [intOf]; omega
    · obtain rfl : k = n1 := by omega
      have hc2 := HX.out.cell_of HC2.out
      obtain ⟨va, vc, rfl⟩ := HM.out.slice
      have hg1 := HL1.out k
      go_wp2_with fail
      obtain ⟨w2, hw2⟩ : ∃ w2, w2 = wr := ⟨_, rfl⟩
      subst hw2
      have HXW : Hid (w.Extends w2) := HX.out
      have HCW : Hid (w2.cell? ⟨t, 2, none⟩ = some (.slice a2 n2 cap2)) := hc2
      have HM1 := Lib.hid HM.out
      clear HM HX e1 hc2 hc1
      generalize hgl1 : (G1 k).length = g1 at *
      have HGL1 := Lib.hid hgl1
      clear hgl1
      go_loopw [6, 8] (fun s6 s8 wr => ∃ k2 : Nat, k2 ≤ n2 ∧ s8 = .int .i64 k2 ∧ Hid (w2.Extends wr) ∧ Hid (OwnB wr w2.heap.size s6 (G2 k2))) (fun _ s8 _ => n2 - (intOf s8).toNat)
      case atStart => exact ⟨0, by omega, by rfl, Lib.hid (Gr.ext_refl _), Lib.hid (by rw [HZ2.out]; exact OwnB.nil _ _)⟩
      case round =>
        obtain ⟨k2, hk, rfl, HX, HM⟩ := hrel
        have e1 := HX.out.cell_of (HCW.out)
        by_cases h1 : k2 < n2
        · obtain ⟨g, ⟨cap', e⟩, hr⟩ := HAT2.out k2 h1
          cases e
          have hr := rangeAt_ext hr (Gr.ext_trans HXW.out HX.out)
          obtain ⟨c0, c1, c2, c3, c4, c5, c6, c7, c8, c9⟩ := RCell.ten hr
          have HSK := Lib.hid (HSL2.out k2 h1)
          have HYK := Lib.hid (HY2.out k2 h1)
          have HNK := Lib.hid (HN2.out k2 h1)
          have HLK := Lib.hid (HL2.out k2)
          clear hr
          generalize qs.getD k2 zp = p at *
          obtain ⟨⟨xp, xn, xb, xs, xm, xk, xe, xg, xu, xd⟩, u⟩ := p
          obtain ⟨ua, uc, hu⟩ := id HSK.out
          simp only at hu
          subst hu
          simp only at c0 c1 c2 c3 c4 c5 c6 c7 c8 c9
          obtain ⟨va, vc, rfl⟩ := HM.out.slice
          by_cases hid : xu < now
          · have HGK : Hid (OwnB wr w2.heap.size (.slice va (G2 k2).length vc) (G2 (k2 + 1))) := by rw [HYK.out hid]; exact HM.out
            have hid2 : ¬ now ≤ xu := by omega
            clear HYK HNK HM HSK
            go_wp2
            go_roundw
            case rel => exact ⟨k2 + 1, by omega, by go_num, HX, HGK⟩
            case measure => simp [intOf]; omega
          · have hid2 : now ≤ xu := by omega
            have HGK := Lib.hid (HNK.out (by first | exact hid | exact hid2))
            have hx8 : wr.Extends (wr.alloc (.cells (Rc.cells ⟨xp, xn, xb, xs, xm, xk, xe, xg, xu, xd⟩ (.slice ua xd.length uc)).toArray 43)) := ext_alloc _ _
            have HSRC : Hid (Src Try.prog 10 28 (.slice (some ⟨wr.heap.size, 0, none⟩) 1 1) 1 (Rc.cells ⟨xp, xn, xb, xs, xm, xk, xe, xg, xu, xd⟩ (.slice ua xd.length uc)) (wr.alloc (.cells (Rc.cells ⟨xp, xn, xb, xs, xm, xk, xe, xg, xu, xd⟩ (.slice ua xd.length uc)).toArray 43))) := src_rec (r := ⟨xp, xn, xb, xs, xm, xk, xe, xg, xu, xd⟩) Try.underlying28 _ _ rfl rfl
            have HOWN := Lib.hid (HM.out.ext hx8).1
            have HX8 := Lib.hid (Gr.ext_trans HX.out hx8)
            have HOB : Hid (∀ g, (Value.slice va (G2 k2).length vc).ownBlock = some g → w2.heap.size ≤ g) := fun g hg => (HOWN.out.lt g hg).1
            have hbs := HX8.out.size
            have hgk := HLK.out
            clear hx8 HYK HNK HM hid
            generalize hgl : (G2 k2).length = gl at *
            have HGL := Lib.hid hgl
            clear hgl
            go_wp2_with (at_builtin; refine wpList_append_own_src _ rfl _ _ 28 28 rfl w2.heap.size 43 i2 (Rc.zero.val (.slice none 0 0)) 10 96 Try.underlying28 HI'.out HZ0'.out HZ1'.out HZ2'.out rfl _ _ _ rfl HOWN.out _ 1 (Rc.cells ⟨xp, xn, xb, xs, xm, xk, xe, xg, xu, xd⟩ (.slice ua xd.length uc)) rfl HSRC.out (by unfold maxLen; omega) (by omega) hbs ?_)
            intro v' w9 ho9 hg9 _
            have HP : Hid (w2.Extends w9 ∧ OwnB w9 w2.heap.size v' (G2 (k2 + 1))) := by
              refine ⟨HX8.out.grown hg9 HOB.out, ?_⟩
              rw [HGK.out]
              exact OwnB.snoc (HFS2.out k2) HSK.out (by rw [HGL.out]; exact ho9)
            clear ho9 hg9 c0 c1 c2 c3 c4 c5 c6 c7 c8 c9 HSRC HOWN HOB HX8
            go_wp2
            go_roundw
            case rel => exact ⟨k2 + 1, by omega, by go_num, Lib.hid HP.out.1, Lib.hid HP.out.2⟩
            case measure => simp [intOf]; omega
        · obtain rfl : k2 = n2 := by omega
          obtain ⟨va2, vc2, rfl⟩ := HM.out.slice
          have hg2 := HL2.out k2
          generalize hgl2 : (G2 k2).length = g2 at *
          have hwr1 : IntKind.i64.wrap ((k : Int) + (k2 : Int)) = (k : Int) + (k2 : Int) := by rw [IntKind.wrap_i64]; omega
          have hwr2 : IntKind.i64.wrap ((k : Int) + (k2 : Int) - (g1 : Int)) = (k : Int) + (k2 : Int) - (g1 : Int) := by rw [IntKind.wrap_i64]; omega
          have hwr3 : IntKind.i64.wrap ((k : Int) + (k2 : Int) - (g1 : Int) - (g2 : Int)) = (k : Int) + (k2 : Int) - (g1 : Int) - (g2 : Int) := by rw [IntKind.wrap_i64]; omega
          have HGL2 := Lib.hid hgl2
          clear hgl2
          have HCE : Hid (∀ w', wr.Extends w' → w'.cell? ⟨t, 1, none⟩ = some (.slice a1 k cap1) ∧ w'.cell? ⟨t, 2, none⟩ = some (.slice a2 k2 cap2) ∧ w'.frozen? ⟨t, 1, none⟩ = false ∧ w'.frozen? ⟨t, 2, none⟩ = false) := fun w' hx => by
            have h3 := Gr.ext_trans (Gr.ext_trans HXW.out HX.out) hx
            exact ⟨h3.cell_of HC1.out, h3.cell_of HC2.out, (h3.frozen ⟨t, 1, none⟩ HTL.out).trans HF1.out, (h3.frozen ⟨t, 2, none⟩ HTL.out).trans HF2.out⟩
          have HXD := Lib.hid (Gr.ext_drew (Gr.ext_refl wr))
          have HFN : Hid (∀ w5 w6, w5 = wr.drew.setCell ⟨t, 1, none⟩ (.slice va g1 vc) → w6 = w5.setCell ⟨t, 2, none⟩ (.slice va2 g2 vc2) → RLeft w t D st' w6) := fun w5 w6 e5 e6 => HFIN.out w2 wr.drew _ _ w5 w6 HXW.out (Gr.ext_trans HX.out HXD.out) HM1.out (HM.out.ext HXD.out) e5 e6
          clear HM HM1
          go_wp2_with fail
          refine Gr.region 17 [(false,0),(false,1),(false,2),(false,3),(false,4),(false,5),(false,6),(false,7),(false,8),(false,9),(false,10),(false,11),(false,12),(false,13),(false,14),(false,15),(false,16)] (by kernel_rfl) (by kernel_rfl) (fun d _ _ _ _ h => by cases d <;> exact h) ?_
          simp only [Gr.pick, List.getElem?_cons_zero, List.getElem?_cons_succ, List.drop_succ_cons, List.drop_zero]
          generalize wr.drew = wd at *
          iterate 17
            refine Gr.walk_t ?_ (Or.inl ⟨by rfl, ?_⟩) ?_
            rotate_left
            · intro w' hw'
              obtain ⟨e1, e2, e3, e4⟩ := HCE.out w' (Gr.ext_trans HXD.out hw')
              clear hw'
              go_simp
              try with_reducible rfl
            simp only [Act.put, List.setIfInBounds_toArray, List.set_cons_zero, List.set_cons_succ]
          refine Gr.walk_nil ?_
          obtain ⟨e1, e2, e3, e4⟩ := HCE.out wd HXD.out
          go_wp2
          go_ret
          exact ⟨by first | rfl | (rw [HGL1.out, HGL2.out]; rfl) | (rw [HGL2.out]; rfl) | (rw [HGL1.out]; rfl), HFN.out _ _ rfl rfl⟩
end Go.Proofs.Ytohonjhfmmhgdaa
namespace Go.Proofs.Ytohonjhfmmhgdaa
set_option maxRecDepth 20000
open Go.RowKit Go.Deep Go.Maps
set_option linter.unusedVariables false
namespace SM
def sure (st : Sto) : Sto := { st with s := LM.size st.lg }
theorem sure_inv {st : Sto} (h : Inv st) : Inv (sure st) := ⟨h.sorted, h.sym, h.tomb, h.apart, h.alive, h.most, h.room, h.fine, Nat.le_refl _⟩
end SM
theorem ssure_any (t : Nat) (D : Nat → Prop) (st : Sto) (w : World) (h : SAt w t D st) :
    Calls Try.prog 17 #[.pointer (some ⟨t, 0, none⟩)] w fun e w' => e = .returned (.tuple #[]) ∧ Left w t D (SM.sure st) w' := by
  obtain ⟨v, mp, ps, h⟩ := h
  refine (sure15_any t st.s st.lg w h.log).mono ?_
  rintro e w2 ⟨rfl, hl, hg⟩
  obtain ⟨h1, h2⟩ := h.logged hl hg
  exact ⟨rfl, ⟨_, _, _, h1.mono fun i hi => .inl hi⟩, h2⟩
theorem slen_any (t : Nat) (D : Nat → Prop) (st : Sto) (w : World) (h : SAt w t D st) :
    Calls Try.prog 22 #[.pointer (some ⟨t, 0, none⟩)] w fun e w' => e = .returned (.int .i64 ((LM.size st.lg : Nat) : Int)) ∧ w = w' := by
  obtain ⟨v, mp, ps, h⟩ := h
  exact len15_any t st.s st.lg w h.log
/-- A store of the reference whose log is another one, or has another block. -/
theorem RSX.logged {w w2 : World} {t : Nat} {D DB DB' : Nat → Prop} {st : Sto} {v1 v2 : Value} {ps qs : List Pr} {lg : List (List Nat)} {s : Nat} (h : RSX w t D DB st v1 v2 ps qs) (hl : RAt w2 t 3 [.int .i64 ((st.m : Nat) : Int), v1, v2] 54 DB' (LM.spell lg) s) (hs : w.heap.size ≤ w2.heap.size) (hrec : Still 43 w w2)
    (hB : ∀ g, DB' g → (DB g ∨ w.heap.size ≤ g) ∧ ∃ cs, w2.heap[g]? = some (.cells cs 5 (0, 0))) (hd : ∀ g, g < w.heap.size → D g → ¬ DB g → (∃ cs f, w.heap[g]? = some (.cells cs 5 f)) → w2.heap[g]? = w.heap[g]?) : RSt w2 t (Nx D w w2) { st with lg := lg, s := s } := by
  have hdl : ∀ p ∈ ps, p.1.d = [] ∨ ∀ g, p.2.ownBlock = some g → g < w.heap.size ∧ D g ∧ ¬ DB g ∧ ∃ cs f, w.heap[g]? = some (.cells cs 5 f) := fun p hp => by
    obtain ⟨k1, k2⟩ := h.data p hp
    rcases k2 with k2 | k2
    · exact .inl k2
    · rcases h.dataB p hp with k3 | k3
      · exact .inl k3
      · refine .inr fun g hg => ?_
        obtain ⟨k4, cs, f, k5⟩ := k2 g hg
        exact ⟨(Array.getElem?_eq_some_iff.1 k5).1, k4, k3 g hg, cs, f, k5⟩
  refine ⟨DB', v1, v2, ps, qs, ⟨hl, .inl h.here, h.own1.same fun g cs _ hc => hrec g cs _ hc, h.own2.same fun g cs _ hc => hrec g cs _ hc, h.recs1, h.recs2, fun g hg => .inl (h.in1 g hg), fun g hg => .inl (h.in2 g hg), fun g hg => ?_, h.apart, fun p hp => ?_, fun p hp => ?_⟩⟩
  · obtain ⟨k1, cs, k2⟩ := hB g hg
    refine ⟨?_, cs, k2⟩
    rcases k1 with k1 | k1
    · exact .inl (h.inB g k1).1
    · exact .inr ⟨k1, (Array.getElem?_eq_some_iff.1 k2).1⟩
  · obtain ⟨k1, _⟩ := h.data p hp
    rcases hdl p hp with k2 | k2
    · exact ⟨k1.same hs (.inl k2), .inl k2⟩
    · refine ⟨k1.same hs (.inr fun g hg => ?_), .inr fun g hg => ?_⟩
      · obtain ⟨a1, a2, a3, a4⟩ := k2 g hg
        exact hd g a1 a2 a3 a4
      · obtain ⟨a1, a2, a3, cs, f, a4⟩ := k2 g hg
        exact ⟨.inl a2, cs, f, (hd g a1 a2 a3 ⟨cs, f, a4⟩).trans a4⟩
  · rcases hdl p hp with k2 | k2
    · exact .inl k2
    · refine .inr fun g hg hB2 => ?_
      obtain ⟨a1, a2, a3, _⟩ := k2 g hg
      rcases (hB g hB2).1 with k3 | k3
      · exact a3 k3
      · omega
theorem rssure_any (t : Nat) (D : Nat → Prop) (st : Sto) (w : World) (h : RSt w t D st) :
    Calls Try.prog 18 #[.pointer (some ⟨t, 3, none⟩)] w fun e w' => e = .returned (.tuple #[]) ∧ RLeft w t D (SM.sure st) w' := by
  obtain ⟨DB, v1, v2, ps, qs, h⟩ := h
  refine (rsure15_any t st.s DB (LM.spell st.lg) w h.log).mono ?_
  rintro e w2 ⟨rfl, hl, hg⟩
  obtain ⟨sa, sc, hb, _⟩ := h.cells
  have hst : ∀ T, T ≠ 54 → Still T w w2 := fun T hT => Still.grown hg hb (Ne.symm hT)
  rw [LM.spell_length] at hl
  refine ⟨rfl, h.logged hl hg.size (hst _ (by decide)) (fun g hB => ?_) (fun g _ _ _ hc => ?_), Fr.grown hg (fun g e => by have := Option.some.inj e; subst this; exact h.here)⟩
  · obtain ⟨_, cs, k2⟩ := h.inB g hB
    exact ⟨.inl hB, cs, (hst _ (by decide) g cs _ k2).trans k2⟩
  · obtain ⟨cs, f, hc⟩ := hc
    exact hst _ (by decide) g cs f hc
end Go.Proofs.Ytohonjhfmmhgdaa
namespace Go.Proofs.Ytohonjhfmmhgdaa
set_option maxRecDepth 20000
open Go.RowKit Go.Deep
set_option linter.unusedVariables false
/-- The first i and the last i of n exchanged. -/
def turned (n i : Nat) (f : Nat → Value) : Nat → Value := fun m => if m < n ∧ (m < i ∨ n - i ≤ m) then f (n - 1 - m) else f m
theorem turned_zero (n : Nat) (f : Nat → Value) : turned n 0 f = f := by
  funext m; unfold turned; rw [if_neg (by omega)]
theorem turned_mid {n i : Nat} (f : Nat → Value) (m : Nat) (h1 : i ≤ m) (h2 : m < n - i) : turned n i f m = f m := by
  unfold turned; rw [if_neg (by omega)]
theorem turned_next {n i : Nat} (f : Nat → Value) (h : i + 1 < n - i) : (fun m => if m = n - 1 - i then f i else if m = i then f (n - 1 - i) else turned n i f m) = turned n (i + 1) f := by
  funext m
  unfold turned
  by_cases h1 : m = n - 1 - i
  · subst h1; rw [if_pos rfl, if_pos (by omega)]; congr 1; omega
  · rw [if_neg h1]
    by_cases h2 : m = i
    · subst h2; rw [if_pos rfl, if_pos (by omega)]
    · rw [if_neg h2]
      by_cases h3 : m < n ∧ (m < i ∨ n - i ≤ m)
      · rw [if_pos h3, if_pos (by omega)]
      · rw [if_neg h3, if_neg (by omega)]
theorem turned_all {n i : Nat} (f : Nat → Value) (h : n - i ≤ i + 1) (m : Nat) (hm : m < n) : turned n i f m = f (n - 1 - m) := by
  unfold turned
  by_cases h3 : m < n ∧ (m < i ∨ n - i ≤ m)
  · rw [if_pos h3]
  · rw [if_neg h3]; congr 1; omega
theorem reverse15_nil (w : World) : Calls Try.prog 61 #[.slice none 0 0] w fun e w' => e = .returned (.tuple #[]) ∧ w = w' := by
  go_enter Try.func61, Try.ntmps61
  go_wp2_with fail
  go_loopw [2, 3] (fun s2 s3 wr => s2 = .int .i64 0 ∧ s3 = .int .i64 (-1) ∧ w = wr) (fun _ _ _ => 0)
  case atStart => exact ⟨rfl, by rfl, rfl⟩
  case round =>
    obtain ⟨rfl, rfl, rfl⟩ := hrel
    go_wp2
    go_end0
    exact ⟨rfl, rfl⟩
theorem reverse15_any (g n c cap : Nat) (T : TypeId) (f : Nat → Value) (w : World) (h : w.rowIs g T cap f) (hn : n ≤ cap) (hm : cap ≤ maxLen) (hs : ∀ m, m < n → ∃ a k d, f m = .slice a k d) :
    Calls Try.prog 61 #[.slice (some ⟨g, 0, none⟩) n c] w fun e w' => e = .returned (.tuple #[]) ∧ (∃ f', w'.rowIs g T cap f' ∧ ∀ m, m < n → f' m = f (n - 1 - m)) ∧ w.grownBy w' (some g) := by
  have HS := Lib.hid hs
  have HR : Hid (w.rowIs g T cap (turned n 0 f)) := by rw [turned_zero]; exact h
  unfold maxLen at hm
  clear h hs
  go_enter Try.func61, Try.ntmps61
  go_wp2_with fail
  go_loopw [2, 3] (fun s2 s3 wr => ∃ i : Nat, i ≤ n ∧ s2 = .int .i64 (i : Nat) ∧ s3 = .int .i64 ((n : Int) - 1 - (i : Int)) ∧ Hid (wr.rowIs g T cap (turned n i f)) ∧ Hid (w.grownBy wr (some g))) (fun s2 _ _ => n - (intOf s2).toNat)
  case atStart => exact ⟨0, by omega, rfl, by simp, HR, grown_refl _ _⟩
  case round =>
    obtain ⟨i, hi, rfl, rfl, HW, HG⟩ := hrel
    by_cases h1 : i + 1 < n - i
    · obtain ⟨j, hj⟩ : ∃ j, j = n - 1 - i := ⟨_, rfl⟩
      have ej : (n : Int) - 1 - (i : Int) = (j : Int) := by omega
      rw [ej]
      obtain ⟨a1, k1, d1, e1⟩ := HS.out i (by omega)
      obtain ⟨a2, k2, d2, e2⟩ := HS.out j (by omega)
      have c1 := HW.out.cell (i := i) (by omega)
      have c2 := HW.out.cell (i := j) (by omega)
      rw [turned_mid f i (Nat.le_refl _) (by omega), e1] at c1
      rw [turned_mid f j (by omega) (by omega), e2] at c2
      have z1 := HW.out.frozen i
      have z2 := HW.out.frozen j
      have hij : i ≠ j := by omega
      have HP : Hid (∀ w2, w2 = (wr.drew.setCell ⟨g, i, none⟩ (.slice a2 k2 d2)).setCell ⟨g, j, none⟩ (.slice a1 k1 d1) → w2.rowIs g T cap (turned n (i + 1) f) ∧ w.grownBy w2 (some g)) := fun w2 e => by
        subst e
        refine ⟨?_, grown_setCell (grown_setCell (grown_drew HG.out) _ _) _ _⟩
        have hr := ((HW.out.drew.set i (.slice a2 k2 d2)).set j (.slice a1 k1 d1))
        refine hr.congr fun m _ => ?_
        rw [← turned_next f h1, ← hj, e1, e2]
      have hj1 : i + j + 1 ≤ n := by omega
      have hj2 : n ≤ i + j + 1 := by omega
      have hj3 : i < j := by omega
      have ek : (j : Int) - 1 = (n : Int) - 1 - ((i + 1 : Nat) : Int) := by omega
      have HE := Lib.hid ek
      clear HW HG HR HS e1 e2 hj ek ej hij h1
      go_wp2_with fail
      go_region
      all_goals
        go_wp2
        go_roundw
        case rel => exact ⟨i + 1, by omega, by go_num, by rw [← HE.out], Lib.hid (HP.out _ rfl).1, Lib.hid (HP.out _ rfl).2⟩
        case measure => simp [intOf]; omega
    · have HP : Hid ((∃ f', wr.rowIs g T cap f' ∧ ∀ m, m < n → f' m = f (n - 1 - m)) ∧ w.grownBy wr (some g)) := ⟨⟨_, HW.out, fun m hm => turned_all f (by omega) m hm⟩, HG.out⟩
      clear HW HG HR HS
      go_wp2
      go_end0
      exact ⟨rfl, HP.out⟩
/-- Such a slice, turned round in place. -/
theorem LRows.turned {w : World} {B : Nat} {v : Value} {l : List (List Nat)} (h : LRows w B v l) (hB : B ≤ w.heap.size) :
    Calls Try.prog 61 #[v] w fun e w' => e = .returned (.tuple #[]) ∧ RwsB w' B v l.reverse ∧ Below B w w' := by
  obtain ⟨vs, ho, hr⟩ := h
  have hl : vs.length = l.length := by have := ho.1; omega
  rcases id ho.2 with ⟨rfl, h0⟩ | ⟨g, cap, cur, rfl, hbg, hg, hnc, hcm, hcs, htake⟩
  · obtain rfl : l = [] := List.eq_nil_of_length_eq_zero h0
    refine (reverse15_nil w).mono ?_
    rintro e w2 ⟨rfl, rfl⟩
    exact ⟨rfl, .inl ⟨rfl, none, 0, rfl⟩, Below.refl _ _⟩
  · have hcell : ∀ j, j < l.length → ∃ u, cur[j]? = some u ∧ RowB w u (l.getD j []) := fun j hj => by
      obtain ⟨u, h1, h2⟩ := hr j hj
      refine ⟨u, ?_, h2⟩
      rw [← htake, List.getElem?_take, if_pos (by omega)] at h1
      simpa using h1
    have hrow : w.rowIs g 41 cap (fun i => (cur[i]?).getD (.slice none 0 0)) := ⟨cur, hg, by omega, fun i hi => by
      show cur[i]? = some ((cur[i]?).getD _)
      rw [Array.getElem?_eq_getElem (by omega)]; rfl⟩
    refine (reverse15_any g l.length cap cap 41 _ w hrow hnc hcm (fun m hm => ?_)).mono ?_
    · obtain ⟨u, h1, h2⟩ := hcell m hm
      obtain ⟨a, k, rfl, _⟩ := h2.1.slice
      exact ⟨a, _, k, by rw [h1]; rfl⟩
    · rintro e w2 ⟨rfl, ⟨f', hf, hff⟩, hgr⟩
      refine ⟨rfl, .inr ⟨g, 0, cap, by rw [List.length_reverse], by rw [List.length_reverse]; exact hnc, hcm, hbg, hf.lt, fun k hk => ?_⟩, below_grown hgr hbg hB⟩
      rw [List.length_reverse] at hk
      obtain ⟨u, h1, h2⟩ := hcell (l.length - 1 - k) (by omega)
      refine ⟨u, ?_, ?_⟩
      · rw [Nat.zero_add, hf.cell (by omega), hff k hk, h1]; rfl
      · have := h2.grown (v := .slice (some ⟨g, 0, none⟩) l.length cap) ho (by decide) hgr
        rw [show l.reverse.getD k [] = l.getD (l.length - 1 - k) [] by simp [List.getD_eq_getElem?_getD, List.getElem?_reverse hk]]
        exact this
def sliceLen : Value → Nat
  | .slice _ n _ => n
  | _ => 0
set_option maxHeartbeats 1000000 in
theorem all15_new (t s : Nat) {R : List Value} {T : TypeId} (l : List (List Nat)) (w : World) (h : LAt w t R T l s) (hl : l.length ≤ 1000000) :
    Calls Try.prog 42 #[.pointer (some ⟨t, 0, none⟩)] w (LMade w l) := by
  obtain ⟨p, h0, h1, f0, f1, hc, hf, hb, hT⟩ := h.cells
  obtain ⟨r, hr⟩ : ∃ r, r = l.reverse := ⟨_, rfl⟩
  have HRL : Hid (l = r.reverse) := by rw [hr, List.reverse_reverse]; rfl
  have hrl : r.length ≤ 1000000 := by rw [hr, List.length_reverse]; exact hl
  have HF : Hid (∀ j, j < r.length → (r.getD j []).length ≤ 65535 ∧ ∀ y ∈ r.getD j [], y < 256) := fun j hj => by
    have hm : r.getD j [] ∈ l := by
      rw [← List.mem_reverse, ← hr, List.getD_eq_getElem?_getD, List.getElem?_eq_getElem hj]; exact List.getElem_mem _
    exact hf _ hm
  rw [← hr] at hc
  have HSN := Lib.hid (take_snoc r)
  have HTL : Hid (∀ k, k ≤ r.length → (r.take k).length = k) := fun k hk => by rw [List.length_take]; omega
  have HST : Hid (∀ k p, Chain w p (r.drop k) → k ≤ r.length → (p = none ∧ k = r.length) ∨ (k < r.length ∧ ∃ b q, p = some ⟨b, 0, none⟩ ∧ w.cell? ⟨b, 0, none⟩ = some (.pointer q) ∧ w.cell? ⟨b, 1, none⟩ = some (.string (strOf (r.getD k []))) ∧ Chain w q (r.drop (k + 1)))) := fun k p hcp hk => by
    by_cases e : k = r.length
    · rw [e, List.drop_length] at hcp
      exact .inl ⟨hcp, e⟩
    · have hlt : k < r.length := by omega
      rw [List.drop_eq_getElem_cons hlt] at hcp
      obtain ⟨b, q, hp, c0, c1, c2, hc2⟩ := hcp.cells
      refine .inr ⟨hlt, b, q, hp, c0, ?_, hc2⟩
      rw [c1, List.getD_eq_getElem?_getD, List.getElem?_eq_getElem hlt]; rfl
  have HC : Hid (Chain w p (r.drop 0)) := by rw [List.drop_zero]; exact hc
  obtain ⟨n, hn⟩ : ∃ n, n = r.length := ⟨_, rfl⟩
  rw [← hn] at HF HTL HST hrl
  have HN := Lib.hid hn
  clear h1 f0 f1 hc hf hb h hr hl hn
  obtain ⟨i1, hi', hz0', hz1', hz2'⟩ := info_parts bytesinfo
  have HI' := Lib.hid hi'; clear hi'
  have HZ0' := Lib.hid hz0'; clear hz0'
  have HZ1' := Lib.hid hz1'; clear hz1'
  have HZ2' := Lib.hid hz2'; clear hz2'
  go_enter Try.func42, Try.ntmps42
  go_wp2_with fail
  clear h0
  go_loopw [3, 4] (fun s3 s4 wr => ∃ (k : Nat) (p : Option Addr), k ≤ n ∧ s4 = .pointer p ∧ Hid (Chain w p (r.drop k)) ∧ Hid (w.Extends wr) ∧ Hid (LRows wr w.heap.size s3 (r.take k)) ∧ sliceLen s3 = k) (fun s3 _ _ => n - sliceLen s3)
  case atStart => exact ⟨0, p, by omega, rfl, HC, Gr.ext_refl _, LRows.nil _ _, rfl⟩
  case round =>
    obtain ⟨k, p, hk, rfl, HCH, HX, HR, hsl⟩ := hrel
    have HSL := Lib.hid hsl
    clear hsl
    rcases HST.out k p HCH.out hk with ⟨rfl, hkn⟩ | ⟨hlt, b, q, rfl, c0, c1, hcq⟩
    · have hRev := LRows.turned HR.out HX.out.size
      rw [show r.take k = r by rw [hkn, HN.out, List.take_length], ← HRL.out] at hRev
      have HREV := Lib.hid hRev
      clear hRev
      go_wp2_with fail
      refine HREV.out.mono ?_
      rintro e w2 ⟨rfl, hrw, hbl⟩
      have HP : Hid (LMade w l (.returned u3) w2) := ⟨u3, rfl, Gr.ext_of ((Gr.below_of HX.out).trans hbl), hrw⟩
      clear hrw hbl HREV
      go_wp2
      go_ret
      exact HP.out
    · have HC0 := Lib.hid c0
      have hd1 := HX.out.cell_of c1
      have hfk := HF.out k hlt
      obtain ⟨v, w2, hcv, hx2, hrow⟩ := bytes_of_string (r.getD k []) wr (by unfold maxLen; omega) hfk.2
      obtain ⟨va, vc, rfl, _⟩ := hrow.1.slice
      have HX2 := Lib.hid (Gr.ext_trans HX.out hx2)
      have hbs := HX2.out.size
      obtain ⟨vs, hown, hrows⟩ := HR.out.ext hx2
      rw [HTL.out k hk] at hown
      have HOWN := Lib.hid hown
      have HROWS := Lib.hid hrows
      have HROW := Lib.hid hrow
      have HCQ := Lib.hid hcq
      have HS := Lib.hid (HSN.out k (by have := HN.out; omega))
      have HOB : Hid (∀ g, u3.ownBlock = some g → w.heap.size ≤ g) := fun g hg => (HOWN.out.lt g hg).1
      have h0n : (r.getD k []).length ≤ 65535 := hfk.1
      clear hown hrows hrow hcq hfk hx2 c0 c1 HR
      generalize hqq : (r.getD k []).length = ql at *
      have HQQ := Lib.hid hqq
      clear hqq
      generalize strOf (r.getD k []) = sx at *
      go_wp2_with (at_builtin; refine wpList_append_own_src _ rfl _ _ 83 83 rfl w.heap.size 41 i1 (.slice none 0 0) 1 24 Try.underlying83 HI'.out HZ0'.out HZ1'.out HZ2'.out rfl _ _ _ rfl (HOWN.out.alloc _) _ 1 [.slice va ql vc] rfl (src_one Try.underlying83 _ _ rfl rfl) (by unfold maxLen; omega) (by omega) (by simp; omega) ?_)
      intro v' w3 ho3 hg3 _
      obtain ⟨ya, yc, rfl⟩ := owns_slice ho3
      have HP : Hid (w.Extends w3 ∧ LRows w3 w.heap.size (.slice ya (k + 1) yc) (r.take (k + 1))) := by
        refine ⟨Gr.ext_of (((Gr.below_of HX2.out).alloc hbs _).grown hg3 (by simp; omega) HOB.out), ?_⟩
        rw [← HS.out]
        have e := HTL.out k hk
        exact LRows.snoc (w := w2.alloc _) (by rw [e]; exact HOWN.out.alloc _) (fun j hj => by obtain ⟨u, h1, h2⟩ := HROWS.out j hj; exact ⟨u, h1, h2.ext (ext_alloc _ _)⟩) (HROW.out.ext (ext_alloc _ _)) hg3 (by rw [e]; exact ho3)
      clear ho3 hg3
      have hd0 := HP.out.1.cell_of HC0.out
      clear hd1
      go_wp2
      go_roundw
      case rel => exact ⟨k + 1, q, by omega, by rfl, HCQ, Lib.hid HP.out.1, Lib.hid HP.out.2, by rfl⟩
      case measure => rw [HSL.out]; simp [sliceLen]; omega
end Go.Proofs.Ytohonjhfmmhgdaa
namespace Go.Proofs.Ytohonjhfmmhgdaa
set_option maxRecDepth 20000
open Go.RowKit Go.Deep
set_option linter.unusedVariables false
theorem number_any (t W : Nat) (s : List Nat × Bool) (w : World) (hW : W ≤ 4) (h : CurAt 119 w t s) :
    Calls Try.prog 77 #[.pointer (some ⟨t, 0, none⟩), .int .i64 W] w (TakeOut 119 w t W s) := by
  obtain ⟨a, c, h0, h1, f0, f1, hu, hh⟩ := h.cells
  obtain ⟨xs, b⟩ := s
  simp only at h0 h1 hu hh
  cases b with
  | true =>
    have HP : Hid (TakeOut 119 w t W (xs, true) (.returned (.int .i64 (0 : Nat))) (w.setCell ⟨t, 1, none⟩ (.bool true))) := by
      refine ⟨by unfold KM.gn; rw [if_pos (Or.inl rfl)], ?_, grown_set _ _ _ _⟩
      unfold KM.gs; rw [if_pos (Or.inl rfl)]
      exact CurAt.short hh hu
    clear hu hh
    go_enter Try.func77, Try.ntmps77
    go_wp2
    go_ret
    exact HP.out
  | false =>
    by_cases hl : xs.length < W
    · have HP : Hid (TakeOut 119 w t W (xs, false) (.returned (.int .i64 (0 : Nat))) (w.setCell ⟨t, 1, none⟩ (.bool true))) := by
        refine ⟨by unfold KM.gn; rw [if_pos (Or.inr hl)], ?_, grown_set _ _ _ _⟩
        unfold KM.gs; rw [if_pos (Or.inr hl)]
        exact CurAt.short hh hu
      clear hu hh
      generalize xs.length = n at *
      go_enter Try.func77, Try.ntmps77
      go_wp2
      go_ret
      exact HP.out
    · obtain ⟨a2, c2, hsl, hd2⟩ := cut_from hu W (by omega)
      have HSL := Lib.hid hsl
      have HP : Hid (TakeOut 119 w t W (xs, false) (.returned (.int .i64 (KM.num (xs.take W) : Nat))) (w.setCell ⟨t, 0, none⟩ (.slice a2 (xs.length - W) c2))) := by
        have c : ¬ ((xs, false).2 = true ∨ (xs, false).1.length < W) := by simp; omega
        refine ⟨by unfold KM.gn; rw [if_neg c], ?_, grown_set _ _ _ _⟩
        unfold KM.gs; rw [if_neg c]
        exact CurAt.left hh (by rw [List.length_drop]) hd2
      obtain ⟨a3, c3, hsl3, hd3⟩ := cut_to hu W (by omega)
      have HSL3 := Lib.hid hsl3
      have HC := Lib.hid hd3.cell.2
      have HLT := Lib.hid hu.lt
      have HNT : Hid (∀ q, q < W → KM.num (xs.take (q + 1)) = KM.num (xs.take q) * 256 + (xs.take W).getD q 0) := fun q hq => by
        rw [KM.num_take_succ xs q (by omega), List.getD_eq_getElem?_getD (l := xs.take W), List.getElem?_take, if_pos hq, ← List.getD_eq_getElem?_getD]
      have HLT3 := Lib.hid hd3.lt
      have hlen := hu.len
      unfold maxLen at hlen
      clear hu hh hsl hd2 hsl3 hd3
      go_enter Try.func77, Try.ntmps77
      go_wp2_with (refine wpList_slice rfl 41 (.tmp 27) none (some (.tmp 28)) rfl elemBytes _ _ _ rfl rfl rfl (HSL3.out _) ?_)
      go_loopw [5, 31] (fun s5 s31 wr => ∃ q : Nat, q ≤ W ∧ s5 = .int .i64 (KM.num (xs.take q) : Nat) ∧ s31 = .int .i64 (q : Nat) ∧ wr = w) (fun _ s31 _ => (W - intOf s31).toNat)
      case atStart => exact ⟨0, by omega, by rfl, by rfl, rfl⟩
      case round =>
        obtain ⟨q, hq, rfl, rfl, rfl⟩ := hrel
        by_cases h : q < W
        · have hb := KM.num_take_lt xs HLT.out q (by omega)
          have HS := Lib.hid (HNT.out q h)
          obtain ⟨g, off, rfl, hg, hcell⟩ := HC.out (by omega)
          have hc := hcell q (by omega)
          have hx : (xs.take W).getD q 0 < 256 := getD_lt _ HLT3.out q
          generalize (xs.take W).getD q 0 = x at *
          generalize KM.num (xs.take q) = m at *
          have hor := i64_or_byte m x (by omega) hx
          clear hcell
          go_wp2
          go_roundw
          case rel => exact ⟨q + 1, by omega, by rw [HS.out]; go_num, by go_num, trivial⟩
          case measure => simp [intOf]; omega
        · obtain rfl : q = W := by omega
          go_wp2_with (refine wpList_slice rfl 41 (.tmp 45) (some (.tmp 46)) none rfl elemBytes _ _ _ rfl rfl rfl (HSL.out _) ?_)
          go_ret
          exact HP.out
theorem of_any (v : Value) (xs : List Nat) (w : World) (h : U8s w v xs) :
    Calls Try.prog 63 #[v] w fun e w' => ∃ t, e = .returned (.pointer (some ⟨t, 0, none⟩)) ∧ CurAt 119 w' t (xs, false) ∧ w.Extends w' ∧ w.heap.size ≤ t := by
  obtain ⟨a, c, rfl, _, _⟩ := h.slice
  have HP : Hid (∃ t, Ending.returned (.pointer (some ⟨w.heap.size, 0, none⟩)) = .returned (.pointer (some ⟨t, 0, none⟩)) ∧ CurAt 119 (w.alloc (.cells #[.slice a xs.length c, .bool false] 119)) t (xs, false) ∧ w.Extends (w.alloc (.cells #[.slice a xs.length c, .bool false] 119)) ∧ w.heap.size ≤ t) :=
    ⟨_, rfl, CurAt.new h, ext_alloc _ _, Nat.le_refl _⟩
  clear h
  go_enter Try.func63, Try.ntmps63
  go_wp2
  go_ret
  exact HP.out
theorem short_any (t : Nat) (s : List Nat × Bool) (w : World) (h : CurAt 119 w t s) :
    Calls Try.prog 79 #[.pointer (some ⟨t, 0, none⟩)] w fun e w' => e = .returned (.bool s.2) ∧ w = w' := by
  obtain ⟨a, c, h0, h1, f0, f1, hu, hh⟩ := h.cells
  clear hu hh
  go_enter Try.func79, Try.ntmps79
  go_wp2
  go_ret
  exact ⟨rfl, rfl⟩
theorem rest_any (t : Nat) (s : List Nat × Bool) (w : World) (h : CurAt 119 w t s) :
    Calls Try.prog 78 #[.pointer (some ⟨t, 0, none⟩)] w fun e w' => ∃ a c, e = .returned (.slice a s.1.length c) ∧ U8s w' (.slice a s.1.length c) s.1 ∧ CurAt 119 w' t ([], s.2) ∧ w.grownBy w' (some t) := by
  obtain ⟨a, c, h0, h1, f0, f1, hu, hh⟩ := h.cells
  have HP : Hid (∃ a' c', Ending.returned (.slice a s.1.length c) = .returned (.slice a' s.1.length c') ∧ U8s (w.setCell ⟨t, 0, none⟩ (.slice none 0 0)) (.slice a' s.1.length c') s.1 ∧ CurAt 119 (w.setCell ⟨t, 0, none⟩ (.slice none 0 0)) t ([], s.2) ∧ w.grownBy (w.setCell ⟨t, 0, none⟩ (.slice none 0 0)) (some t)) :=
    ⟨a, c, rfl, hu.beside hh (cur_cells _ _ _ _) (grown_set _ _ _ _), CurAt.left hh rfl (nil_u8s _ _ _), grown_set _ _ _ _⟩
  clear hu hh h
  go_enter Try.func78, Try.ntmps78
  go_wp2
  go_ret
  exact HP.out
end Go.Proofs.Ytohonjhfmmhgdaa
