/- (*open).add: a call gets the next tag. Written by gen_add21.py. -/
import Derived.Test.YtiiidbomfkjfgaaCalAt
import Derived.Deep.DeepCutAuto
namespace Go.Proofs.Ytiiidbomfkjfgaa
set_option maxRecDepth 20000
open Go.RowKit Go.Deep Go.Maps
set_option linter.unusedVariables false
def OAddOut (t : Nat) (D : Nat → Prop) (last : Nat) (cs : List Cl) (o p u : Int) (w : World) (e : Ending) (w' : World) : Prop :=
  e = .returned (.int .i64 ((last : Int) + 1)) ∧ Fr D w w' ∧ OAt w' t (Nx D w w') (last + 1) (cs ++ [⟨(last : Int) + 1, o, p, u⟩])
/-- On the way: the call's box at s, and the new one that waits. -/
structure Mid (w : World) (D : Nat → Prop) (s : Nat) (x : Wt) (w' : World) : Prop where
  fr : Fr D w w'
  box : w'.heap[s]? = some (.cells (CCL x.c).toArray 30 (0, 0))
  at_ : WAt w' x.b x.c 0
  old : w.heap.size ≤ s ∧ s < x.b
theorem Mid.ext {w w1 w2 : World} {D : Nat → Prop} {s : Nat} {x : Wt} (h : Mid w D s x w1) (hx : w1.Extends w2) : Mid w D s x w2 :=
  ⟨h.fr.trans (D' := fun _ => False) (Fr.ext hx) (fun _ _ h => h.elim), (hx.block s (Array.getElem?_eq_some_iff.1 h.box).1).trans h.box, h.at_.ext hx, h.old⟩
theorem Mid.turn {w w1 w2 : World} {D : Nat → Prop} {s m : Nat} {x : Wt} (h : Mid w D s x w1) (hg : w1.grownBy w2 (some m)) (hm : IsMapB w1 m) (hD : m < w.heap.size → D m) : Mid w D s x w2 := by
  obtain ⟨es, c, hm⟩ := hm
  refine ⟨h.fr.trans (D' := fun i => i = m) (Fr.grown hg fun g e => by rw [← Option.some.inj e]) (fun i hi e => by subst e; exact hD hi), (hg.block s (Array.getElem?_eq_some_iff.1 h.box).1 fun e => ?_).trans h.box, h.at_.kept (hg.block _ h.at_.lt fun e => ?_), h.old⟩
  · have e := Option.some.inj e
    subst e
    rw [h.box] at hm; cases hm
  · have e := Option.some.inj e
    rw [← e, show w1.heap[x.b]? = _ from h.at_] at hm; cases hm
theorem Mid.comes {w w1 : World} {D : Nat → Prop} {s t : Nat} {x : Wt} {q : List Wt} (h : Mid w D s x w1) (hq : ∀ i ∈ bsOf q, i < w.heap.size) (ht : t < w.heap.size) : Comes w1 t q x :=
  ⟨⟨0, h.at_⟩, fun e => by have := hq _ e; have := h.old; omega, fun e => by have := h.old; omega⟩
theorem Mid.cells {w w1 : World} {D : Nat → Prop} {s : Nat} {x : Wt} (h : Mid w D s x w1) : w1.cell? ⟨s, 0, none⟩ = some (.int .i64 x.c.t) ∧ w1.cell? ⟨s, 1, none⟩ = some (.int .i64 x.c.o) := by
  constructor <;> (rw [cell_of_row _ _ _ _ _ _ h.box]; rfl)
set_option maxHeartbeats 4000000 in
theorem oadd_any (t : Nat) (D : Nat → Prop) (last : Nat) (cs : List Cl) (o p u z : Int) (w : World) (h : OAt w t D last cs) (hl : last + 1 ≤ 8000) (ho : In64 o) :
    Calls Try.prog 10 #[.pointer (some ⟨t, 0, none⟩), .agg #[.int .i64 z, .int .i64 o, .int .i64 p, .int .i64 u]] w (OAddOut t D last cs o p u w) := by
  obtain ⟨mt, mo, v, q, ft, fo, sl, hX, hcs⟩ := h
  obtain ⟨c0, c1, c2, c3⟩ := hX.p.cells
  have f0 := hX.p.frozen 0
  have htl := hX.p.lt
  have HTL := Lib.hid htl
  have HX := Lib.hid hX
  have HCS := Lib.hid hcs
  have HO := Lib.hid ho
  have HLB := Lib.hid hl
  have HT64 : Hid (In64 ((last : Int) + 1)) := by constructor <;> omega
  have HOQ : Hid (∀ i ∈ bsOf q, i < w.heap.size) := fun i hi => each_lt hX.p.que.each hi
  have HQL : Hid (q.length ≤ 8000) := Nat.le_trans hX.r.len hX.r.big
  have H4 : Hid (∀ s b w4, s = w.heap.size → b = w.heap.size + 1 → w4 = ((w.setCell ⟨t, 0, none⟩ (.int .i64 ((last : Int) + 1))).alloc (.cells (CCL ⟨(last : Int) + 1, o, p, u⟩).toArray 30)).alloc (.cells (WC ⟨(last : Int) + 1, o, p, u⟩ 0) 48) →
      OP w4 t mt mo v q ((last : Int) + 1) last last ft fo sl ∧ Mid w D s ⟨b, ⟨(last : Int) + 1, o, p, u⟩⟩ w4) := fun s b w4 hs hb e => by
    subst e; subst hs; subst hb
    have x1 : (w.setCell ⟨t, 0, none⟩ (.int .i64 ((last : Int) + 1))).heap.size = w.heap.size := by simp
    have p1 := hX.p.last ((last : Int) + 1)
    refine ⟨(p1.ext (ext_alloc _ _)).ext (ext_alloc _ _), ?_, ?_, ?_, ?_⟩
    · have f1 : Fr D w (w.setCell ⟨t, 0, none⟩ (.int .i64 ((last : Int) + 1))) := Fr.set (Fr.refl _ _) (hX.d t (.inl (.inl rfl))) _
      exact (f1.trans (D' := fun _ => False) (Fr.ext (ext_alloc _ _)) (fun _ _ h => h.elim)).trans (D' := fun _ => False) (Fr.ext (ext_alloc _ _)) (fun _ _ h => h.elim)
    · have := heap_alloc_new (w.setCell ⟨t, 0, none⟩ (.int .i64 ((last : Int) + 1))) (.cells (CCL ⟨(last : Int) + 1, o, p, u⟩).toArray 30)
      rw [x1] at this
      exact ((ext_alloc _ _).block _ (by simp)).trans this
    · have := heap_alloc_new ((w.setCell ⟨t, 0, none⟩ (.int .i64 ((last : Int) + 1))).alloc (.cells (CCL ⟨(last : Int) + 1, o, p, u⟩).toArray 30)) (.cells (WC ⟨(last : Int) + 1, o, p, u⟩ 0) 48)
      rw [World.size_alloc, x1] at this
      exact this
    · exact ⟨Nat.le_refl _, Nat.lt_succ_self _⟩
  clear hX hcs ho
  go_enter Try.func10, Try.ntmps10
  go_upto_region 4 with fail
  obtain ⟨x, hx⟩ : ∃ x : Wt, x = ⟨w.heap.size + 1, ⟨(last : Int) + 1, o, p, u⟩⟩ := ⟨_, rfl⟩
  generalize hw4 : World.alloc (World.alloc _ _) _ = w4
  obtain ⟨hp4, hm4⟩ := H4.out _ _ w4 rfl rfl hw4.symm
  rw [← hx] at hm4
  have HXB : Hid (w.heap.size + 1 = x.b) := by rw [hx]; rfl
  have HXC : Hid (x.c = ⟨(last : Int) + 1, o, p, u⟩) := by rw [hx]; rfl
  have HP4 := Lib.hid hp4
  have HM4 := Lib.hid hm4
  rw [HXB.out]
  generalize hs : w.heap.size = s at *
  have HS := Lib.hid hs
  clear H4 hw4 c0 c1 c2 c3 f0 hx hp4 hm4 hs
  have kk : ∀ wz, Mid w D s x wz → wz.cell? ⟨s, 0, none⟩ = some (.int .i64 ((last : Int) + 1)) ∧ wz.cell? ⟨s, 1, none⟩ = some (.int .i64 o) := fun wz hz => by
    have := hz.cells
    rw [HXC.out] at this
    exact this
  have KK := Lib.hid kk
  clear kk
  refine Gr.region 7 [(false,0),(false,1),(false,2),(false,3),(false,4),(false,5),(false,6)] (by kernel_rfl) (by kernel_rfl) (fun d _ _ _ _ h => by cases d <;> exact h) ?_
  simp only [Gr.pick, List.getElem?_cons_zero, List.getElem?_cons_succ, List.drop_succ_cons, List.drop_zero]
  generalize hwd : w4.drew = w5 at *
  have HP5 : Hid (OP w5 t mt mo v q ((last : Int) + 1) last last ft fo sl) := by rw [← hwd]; exact HP4.out.ext (Gr.ext_drew (Gr.ext_refl _))
  have HM5 : Hid (Mid w D s x w5) := by rw [← hwd]; exact HM4.out.ext (Gr.ext_drew (Gr.ext_refl _))
  clear hwd HP4 HM4
  iterate 3
    refine Gr.walk_t ?_ (Or.inl ⟨by rfl, ?_⟩) ?_
    rotate_left
    · intro w' hw'
      clear hw'
      go_simp
      try with_reducible rfl
    simp only [Act.put, List.setIfInBounds_toArray, List.set_cons_zero, List.set_cons_succ]
  refine Gr.walk_t ?_ (Or.inl ⟨by rfl, ?_⟩) ?_
  rotate_left
  · intro w' hw'
    have hc := (HP5.out.ext hw').cells.2.1
    clear hw'
    go_simp
    try with_reducible rfl
  simp only [Act.put, List.setIfInBounds_toArray, List.set_cons_zero, List.set_cons_succ]
  refine Gr.walk_t ?_ (Or.inl ⟨by rfl, ?_⟩) ?_
  rotate_left
  · intro w' hw'
    clear hw'
    go_simp
    try with_reducible rfl
  simp only [Act.put, List.setIfInBounds_toArray, List.set_cons_zero, List.set_cons_succ]
  refine Gr.walk_t ?_ (Or.inl ⟨by rfl, ?_⟩) ?_
  rotate_left
  · intro w' hw'
    have hc := (KK.out w' (HM5.out.ext hw')).1
    clear hw'
    go_simp
    try with_reducible rfl
  simp only [Act.put, List.setIfInBounds_toArray, List.set_cons_zero, List.set_cons_succ]
  refine Gr.walk_t ?_ (Or.inl ⟨by rfl, ?_⟩) ?_
  rotate_left
  · intro w' hw'
    clear hw'
    go_simp
    try with_reducible rfl
  simp only [Act.put, List.setIfInBounds_toArray, List.set_cons_zero, List.set_cons_succ]
  refine Gr.walk_nil ?_
  obtain ⟨w6, hr6, hb6, hg6⟩ := HP5.out.tags.put (t := 38) Try.underlying38 HT64.out (by omega) x.b
  have hr6 : (Instr.mapUpdate 38 (.map (some mt)) (.int .i64 ((last : Int) + 1)) (pv x.b)).run Try.prog w5 = .ok () w6 := hr6
  have HP6 := Lib.hid (HP5.out.put_tag hb6 hg6)
  have HM6 := Lib.hid (HM5.out.turn hg6 HP5.out.tmap (fun _ => HX.out.d mt (.inr (.inl rfl))))
  clear hb6 hg6 HP5 HM5
  go_wp2_with fail
  refine Gr.region 7 [(false,0),(false,1),(false,2),(false,3),(false,4),(false,5),(false,6)] (by kernel_rfl) (by kernel_rfl) (fun d _ _ _ _ h => by cases d <;> exact h) ?_
  simp only [Gr.pick, List.getElem?_cons_zero, List.getElem?_cons_succ, List.drop_succ_cons, List.drop_zero]
  generalize hwd : w6.drew = w7 at *
  have HP7 : Hid (OP w7 t mt mo v q ((last : Int) + 1) (last + 1) last (upd ft ((last : Int) + 1) (some x.b)) fo sl) := by rw [← hwd]; exact HP6.out.ext (Gr.ext_drew (Gr.ext_refl _))
  have HM7 : Hid (Mid w D s x w7) := by rw [← hwd]; exact HM6.out.ext (Gr.ext_drew (Gr.ext_refl _))
  clear hwd HP6 HM6 hr6
  iterate 3
    refine Gr.walk_t ?_ (Or.inl ⟨by rfl, ?_⟩) ?_
    rotate_left
    · intro w' hw'
      clear hw'
      go_simp
      try with_reducible rfl
    simp only [Act.put, List.setIfInBounds_toArray, List.set_cons_zero, List.set_cons_succ]
  refine Gr.walk_t ?_ (Or.inl ⟨by rfl, ?_⟩) ?_
  rotate_left
  · intro w' hw'
    have hc := (HP7.out.ext hw').cells.2.2.1
    clear hw'
    go_simp
    try with_reducible rfl
  simp only [Act.put, List.setIfInBounds_toArray, List.set_cons_zero, List.set_cons_succ]
  refine Gr.walk_t ?_ (Or.inl ⟨by rfl, ?_⟩) ?_
  rotate_left
  · intro w' hw'
    clear hw'
    go_simp
    try with_reducible rfl
  simp only [Act.put, List.setIfInBounds_toArray, List.set_cons_zero, List.set_cons_succ]
  refine Gr.walk_t ?_ (Or.inl ⟨by rfl, ?_⟩) ?_
  rotate_left
  · intro w' hw'
    have hc := (KK.out w' (HM7.out.ext hw')).2
    clear hw'
    go_simp
    try with_reducible rfl
  simp only [Act.put, List.setIfInBounds_toArray, List.set_cons_zero, List.set_cons_succ]
  refine Gr.walk_t ?_ (Or.inl ⟨by rfl, ?_⟩) ?_
  rotate_left
  · intro w' hw'
    have hk : (Instr.lookup 39 (.map (some mo)) (.int .i64 o) false).run Try.prog w' = .ok (.map (fo o)) w' := (HP7.out.ext hw').ops.look Try.underlying39 (wtags_zero _) HO.out
    clear hw'
    go_simp
    try with_reducible rfl
  simp only [Act.put, List.setIfInBounds_toArray, List.set_cons_zero, List.set_cons_succ]
  refine Gr.walk_nil ?_
  have hnil := fun w => eql_tags_nil (fo o) w
  cases hfo : fo o with
  | none =>
    rw [hfo] at hnil
    have hnil : ∀ w, (binOp .eql 54 (.map none) (.map none)).run Try.prog w = .ok (.bool true) w := hnil
    have HFO := Lib.hid hfo
    clear hfo
    go_wp2_with fail
    refine Gr.region 7 [(false,0),(false,1),(false,2),(false,3),(false,4),(false,5),(true,6)] (by kernel_rfl) (by kernel_rfl) (fun d _ _ _ _ h => by cases d <;> exact h) ?_
    simp only [Gr.pick, List.getElem?_cons_zero, List.getElem?_cons_succ, List.drop_succ_cons, List.drop_zero]
    generalize hwd : w7.drew = w8 at *
    have HP8 : Hid (OP w8 t mt mo v q ((last : Int) + 1) (last + 1) last (upd ft ((last : Int) + 1) (some x.b)) fo sl) := by rw [← hwd]; exact HP7.out.ext (Gr.ext_drew (Gr.ext_refl _))
    have HM8 : Hid (Mid w D s x w8) := by rw [← hwd]; exact HM7.out.ext (Gr.ext_drew (Gr.ext_refl _))
    clear hwd HP7 HM7 hnil
    iterate 3
      refine Gr.walk_t ?_ (Or.inl ⟨by rfl, ?_⟩) ?_
      rotate_left
      · intro w' hw'
        clear hw'
        go_simp
        try with_reducible rfl
      simp only [Act.put, List.setIfInBounds_toArray, List.set_cons_zero, List.set_cons_succ]
    refine Gr.walk_t ?_ (Or.inl ⟨by rfl, ?_⟩) ?_
    rotate_left
    · intro w' hw'
      have hc := (HP8.out.ext hw').cells.2.2.1
      clear hw'
      go_simp
      try with_reducible rfl
    simp only [Act.put, List.setIfInBounds_toArray, List.set_cons_zero, List.set_cons_succ]
    refine Gr.walk_t ?_ (Or.inl ⟨by rfl, ?_⟩) ?_
    rotate_left
    · intro w' hw'
      clear hw'
      go_simp
      try with_reducible rfl
    simp only [Act.put, List.setIfInBounds_toArray, List.set_cons_zero, List.set_cons_succ]
    refine Gr.walk_t ?_ (Or.inl ⟨by rfl, ?_⟩) ?_
    rotate_left
    · intro w' hw'
      have hc := (KK.out w' (HM8.out.ext hw')).2
      clear hw'
      go_simp
      try with_reducible rfl
    simp only [Act.put, List.setIfInBounds_toArray, List.set_cons_zero, List.set_cons_succ]
    refine Gr.walk_c (fun K hK => ?_)
    rw [if_pos (by rfl)]
    refine wp_makeMap 54 rfl ?_
    generalize hw : World.alloc w8 _ = w9
    have HX9 : Hid (w8.Extends w9) := by rw [← hw]; exact ext_alloc _ _
    have HS9 : Hid (SetAt w9 w8.heap.size []) := by rw [← hw]; exact SetAt.new w8
    have HB9 : Hid (w.heap.size ≤ w8.heap.size) := HM8.out.fr.size
    generalize hnb : w8.heap.size = nb at *
    have HNB := Lib.hid hnb
    clear hw hnb
    simp only [Act.put, List.setIfInBounds_toArray, List.set_cons_zero, List.set_cons_succ]
    try go_simp
    refine hK.out _ _ (HX9.out) ?_
    clear hK K
    refine Gr.walk_nil ?_
    have HP9 := Lib.hid (HP8.out.ext HX9.out)
    have HM9 := Lib.hid (HM8.out.ext HX9.out)
    obtain ⟨wa, hra, hba, hga⟩ := HP9.out.ops.put (t := 39) Try.underlying39 HO.out (by omega) nb
    have hra : (Instr.mapUpdate 39 (.map (some mo)) (.int .i64 o) (.map (some nb))).run Try.prog w9 = .ok () wa := hra
    have hnew : ∀ o' b', fo o' = some b' → b' < nb := fun o' b' hb' => by rw [← HNB.out]; exact (HP8.out.sets o' b' hb').lt
    have HPA : Hid (OP wa t mt mo v q ((last : Int) + 1) (last + 1) (last + 1) (upd ft ((last : Int) + 1) (some x.b)) (upd fo o (some nb)) sl) := by
      refine HP9.out.put_op hba hga (fun o' b' hb' => ?_) (fun o' b' hb' => ?_) (fun o1 o2 b' h1 h2 => ?_)
      · by_cases e : o' = o
        · subst e
          rw [upd_same] at hb'
          cases hb'
          rw [HX.out.r.empty HFO.out]; exact HS9.out
        · rw [upd_other _ e] at hb'
          exact HP9.out.sets o' b' hb'
      · by_cases e : o' = o
        · subst e
          rw [upd_same] at hb'
          cases hb'
          have h1 := HP8.out.tags.lt
          have h2 := HP8.out.ops.lt
          rw [HNB.out] at h1 h2
          exact ⟨by omega, by omega⟩
        · rw [upd_other _ e] at hb'
          exact HP9.out.nset o' b' hb'
      · by_cases e1 : o1 = o
        · by_cases e2 : o2 = o
          · rw [e1, e2]
          · rw [e1, upd_same] at h1
            rw [upd_other _ e2] at h2
            cases h1
            exact absurd (hnew _ _ h2) (Nat.lt_irrefl _)
        · by_cases e2 : o2 = o
          · rw [e2, upd_same] at h2
            rw [upd_other _ e1] at h1
            cases h2
            exact absurd (hnew _ _ h1) (Nat.lt_irrefl _)
          · rw [upd_other _ e1] at h1
            rw [upd_other _ e2] at h2
            exact HP9.out.inj _ _ _ h1 h2
    have HMA := Lib.hid (HM9.out.turn hga HP9.out.omap (fun _ => HX.out.d mo (.inr (.inr (.inl rfl)))))
    have HFA : Hid (upd fo o (some nb) o = some nb) := upd_same _ _ _
    have HFC : Hid (∀ o', (∃ b, upd fo o (some nb) o' = some b) ↔ (∃ b, fo o' = some b) ∨ o' = x.c.o) := fun o' => by
      rw [HXC.out]
      by_cases e : o' = o
      · subst e
        rw [upd_same]
        exact ⟨fun _ => .inr rfl, fun _ => ⟨nb, rfl⟩⟩
      · rw [upd_other _ e]
        exact ⟨.inl, fun h => h.resolve_right e⟩
    have HFD : Hid (∀ o' b', upd fo o (some nb) o' = some b' → D b' ∨ w.heap.size ≤ b') := fun o' b' hb' => by
      by_cases e : o' = o
      · subst e
        rw [upd_same] at hb'
        cases hb'
        exact .inr (by have := HB9.out; have := HS.out; omega)
      · rw [upd_other _ e] at hb'
        exact .inl (HX.out.d b' (.inr (.inr (.inr ⟨o', hb'⟩))))
    clear hba hga hnew HP8 HM8 HP9 HM9 HX9 HS9 HB9 HNB HFO
    generalize upd fo o (some nb) = fx at *
    go_wp2_with fail
    refine Gr.region 10 [(false,0),(false,1),(false,2),(false,3),(false,4),(false,5),(false,6),(false,7),(false,8),(false,9)] (by kernel_rfl) (by kernel_rfl) (fun d _ _ _ _ h => by cases d <;> exact h) ?_
    simp only [Gr.pick, List.getElem?_cons_zero, List.getElem?_cons_succ, List.drop_succ_cons, List.drop_zero]
    generalize hwd : wa.drew = wb at *
    have HPB : Hid (OP wb t mt mo v q ((last : Int) + 1) (last + 1) (last + 1) (upd ft ((last : Int) + 1) (some x.b)) fx sl) := by rw [← hwd]; exact HPA.out.ext (Gr.ext_drew (Gr.ext_refl _))
    have HMB : Hid (Mid w D s x wb) := by rw [← hwd]; exact HMA.out.ext (Gr.ext_drew (Gr.ext_refl _))
    clear hwd HPA HMA
    iterate 3
      refine Gr.walk_t ?_ (Or.inl ⟨by rfl, ?_⟩) ?_
      rotate_left
      · intro w' hw'
        clear hw'
        go_simp
        try with_reducible rfl
      simp only [Act.put, List.setIfInBounds_toArray, List.set_cons_zero, List.set_cons_succ]
    refine Gr.walk_t ?_ (Or.inl ⟨by rfl, ?_⟩) ?_
    rotate_left
    · intro w' hw'
      have hc := (HPB.out.ext hw').cells.2.2.1
      clear hw'
      go_simp
      try with_reducible rfl
    simp only [Act.put, List.setIfInBounds_toArray, List.set_cons_zero, List.set_cons_succ]
    refine Gr.walk_t ?_ (Or.inl ⟨by rfl, ?_⟩) ?_
    rotate_left
    · intro w' hw'
      clear hw'
      go_simp
      try with_reducible rfl
    simp only [Act.put, List.setIfInBounds_toArray, List.set_cons_zero, List.set_cons_succ]
    refine Gr.walk_t ?_ (Or.inl ⟨by rfl, ?_⟩) ?_
    rotate_left
    · intro w' hw'
      have hc := (KK.out w' (HMB.out.ext hw')).2
      clear hw'
      go_simp
      try with_reducible rfl
    simp only [Act.put, List.setIfInBounds_toArray, List.set_cons_zero, List.set_cons_succ]
    refine Gr.walk_t ?_ (Or.inl ⟨by rfl, ?_⟩) ?_
    rotate_left
    · intro w' hw'
      have hk : (Instr.lookup 39 (.map (some mo)) (.int .i64 o) false).run Try.prog w' = .ok (.map (some nb)) w' := ((HPB.out.ext hw').ops.look Try.underlying39 (wtags_zero _) HO.out).trans (by rw [HFA.out]; rfl)
      clear hw'
      go_simp
      try with_reducible rfl
    simp only [Act.put, List.setIfInBounds_toArray, List.set_cons_zero, List.set_cons_succ]
    refine Gr.walk_t ?_ (Or.inl ⟨by rfl, ?_⟩) ?_
    rotate_left
    · intro w' hw'
      clear hw'
      go_simp
      try with_reducible rfl
    simp only [Act.put, List.setIfInBounds_toArray, List.set_cons_zero, List.set_cons_succ]
    refine Gr.walk_t ?_ (Or.inl ⟨by rfl, ?_⟩) ?_
    rotate_left
    · intro w' hw'
      have hc := (KK.out w' (HMB.out.ext hw')).1
      clear hw'
      go_simp
      try with_reducible rfl
    simp only [Act.put, List.setIfInBounds_toArray, List.set_cons_zero, List.set_cons_succ]
    refine Gr.walk_t ?_ (Or.inl ⟨by rfl, ?_⟩) ?_
    rotate_left
    · intro w' hw'
      clear hw'
      go_simp
      try with_reducible rfl
    simp only [Act.put, List.setIfInBounds_toArray, List.set_cons_zero, List.set_cons_succ]
    refine Gr.walk_nil ?_
    obtain ⟨wc, hrc, hbc, hgc⟩ := (HPB.out.sets o nb HFA.out).tput HT64.out (HX.out.r.new o) (by have := HX.out.r.le o; omega)
    have HPC := Lib.hid (HPB.out.put_set HFA.out hbc hgc)
    have HMC := Lib.hid (HMB.out.turn hgc (HPB.out.smap HFA.out) (fun hh => (HFD.out _ _ HFA.out).resolve_right (by omega)))
    clear hbc hgc HPB HMB
    have hc3 := HPC.out.cells.2.2.2
    have HAD := Lib.hid (wadd_any t 3 v q x wc HPC.out.que (by have := HQL.out; omega) HX.out.hp (HMC.out.comes (fun i hi => by rw [HS.out]; exact HOQ.out i hi) (by rw [HS.out]; exact HTL.out)))
    go_wp2_with fail
    refine HAD.out.mono ?_
    rintro e wd ⟨rfl, v', q', hpq, hhq, hqd, hwd⟩
    have hrt : ∀ i ∈ bsOf (q ++ [x]), ∃ cs, wc.heap[i]? = some (.cells cs 48 (0, 0)) := fun i hi => by
      simp only [bsOf, List.map_append, List.mem_append, List.map_cons, List.map_nil, List.mem_singleton] at hi
      rcases hi with hi | rfl
      · exact each_type HPC.out.que.each hi
      · exact ⟨_, HMC.out.at_⟩
    have HPD := Lib.hid (HPC.out.put_q hqd hwd hrt)
    have hbd : wd.heap[s]? = some (.cells (CCL x.c).toArray 30 (0, 0)) := by
      refine (hwd.fr.away s (Array.getElem?_eq_some_iff.1 HMC.out.box).1 fun hd => ?_).trans HMC.out.box
      have hb := HMC.out.box
      rcases hd with e | e | e
      · subst e
        rw [HPC.out.row] at hb
        simp only [Option.some.injEq, Obj.cells.injEq] at hb
        exact absurd hb.2.1 (by decide)
      · obtain ⟨_, cs', h3⟩ := HPC.out.que.own.block e
        rw [h3] at hb
        simp only [Option.some.injEq, Obj.cells.injEq] at hb
        exact absurd hb.2.1 (by decide)
      · obtain ⟨cs', h3⟩ := hrt s e
        rw [h3] at hb
        simp only [Option.some.injEq, Obj.cells.injEq] at hb
        exact absurd hb.2.1 (by decide)
    have hcd : wd.cell? ⟨s, 0, none⟩ = some (.int .i64 ((last : Int) + 1)) := by
      rw [cell_of_row _ _ _ _ _ _ hbd, HXC.out]; rfl
    have HFR : Hid (Fr D w wd) := HMC.out.fr.trans hwd.fr fun i hi hd => by
      rcases hd with rfl | e | e
      · exact HX.out.d _ (.inl (.inl rfl))
      · exact HX.out.d _ (.inl (.inr (.inl e)))
      · simp only [bsOf, List.map_append, List.mem_append, List.map_cons, List.map_nil, List.mem_singleton] at e
        rcases e with e | rfl
        · exact HX.out.d _ (.inl (.inr (.inr e)))
        · have := HMC.out.old; omega
    have HFIN : Hid (OAddOut t D last cs o p u w (.returned (.int .i64 ((last : Int) + 1))) wd) := by
      refine ⟨rfl, HFR.out, mt, mo, v', q', _, fx, _, ⟨HPD.out, ?_, hhq, fun i hi => ?_⟩, ?_⟩
      · have hcr := HX.out.r.add (x := x) (fo' := fx) HLB.out (by rw [HXC.out]) (by rw [HXC.out]; exact HO.out) HFC.out
        rw [HXC.out] at hcr
        exact hcr.perm hpq
      · have hlt := HPD.out.odlt hi
        rcases hi with (rfl | e | e) | rfl | rfl | ⟨o', e⟩
        · exact .inl (HX.out.d _ (.inl (.inl rfl)))
        · rcases hwd.new with h2 | ⟨g, h2, h3⟩
          · exact .inl (HX.out.d _ (.inl (.inr (.inl (h2 ▸ e)))))
          · rw [h2] at e
            have := Option.some.inj e
            subst this
            exact .inr ⟨Nat.le_trans HMC.out.fr.size h3, hlt⟩
        · have e2 := (bs_perm hpq).1 e
          simp only [bsOf, List.map_append, List.mem_append, List.map_cons, List.map_nil, List.mem_singleton] at e2
          rcases e2 with e2 | rfl
          · exact .inl (HX.out.d _ (.inl (.inr (.inr e2))))
          · exact .inr ⟨by have := HMC.out.old; omega, hlt⟩
        · exact .inl (HX.out.d _ (.inr (.inl rfl)))
        · exact .inl (HX.out.d _ (.inr (.inr (.inl rfl))))
        · rcases HFD.out o' i e with h | h
          · exact .inl h
          · exact .inr ⟨h, hlt⟩
      · refine (hpq.map Wt.c).trans ?_
        rw [List.map_append, List.map_singleton, HXC.out]
        exact HCS.out.append_right _
    clear hqd hwd hrt hbd hpq hhq HPD HFR HPC HMC HAD
    go_wp2
    go_ret
    exact HFIN.out
  | some nb =>
    rw [hfo] at hnil
    have hnil : ∀ w, (binOp .eql 54 (.map (some nb)) (.map none)).run Try.prog w = .ok (.bool false) w := hnil
    have HPA := Lib.hid (HP7.out.mono (Nat.le_refl _) (Nat.le_succ last))
    have HMA := Lib.hid HM7.out
    have HFA : Hid (fo o = some nb) := hfo
    have HFC : Hid (∀ o', (∃ b, fo o' = some b) ↔ (∃ b, fo o' = some b) ∨ o' = x.c.o) := fun o' => by
      rw [HXC.out]
      exact ⟨.inl, fun h => h.elim id (fun e => ⟨nb, by rw [e]; exact HFA.out⟩)⟩
    have HFD : Hid (∀ o' b', fo o' = some b' → D b' ∨ w.heap.size ≤ b') := fun o' b' hb' => .inl (HX.out.d b' (.inr (.inr (.inr ⟨o', hb'⟩))))
    clear hfo HP7 HM7
    obtain ⟨fx, hfx⟩ : ∃ fx, fx = fo := ⟨_, rfl⟩
    rw [← hfx] at HPA HFA HFD
    have HFC : Hid (∀ o', (∃ b, fx o' = some b) ↔ (∃ b, fo o' = some b) ∨ o' = x.c.o) := fun o' => by rw [hfx]; exact HFC.out o'
    clear hfx
    obtain ⟨wa, hwa⟩ : ∃ wa, wa = w7 := ⟨_, rfl⟩
    rw [← hwa] at HPA HMA ⊢
    clear hwa w7
    go_wp2_with fail
    refine Gr.region 10 [(false,0),(false,1),(false,2),(false,3),(false,4),(false,5),(false,6),(false,7),(false,8),(false,9)] (by kernel_rfl) (by kernel_rfl) (fun d _ _ _ _ h => by cases d <;> exact h) ?_
    simp only [Gr.pick, List.getElem?_cons_zero, List.getElem?_cons_succ, List.drop_succ_cons, List.drop_zero]
    generalize hwd : wa.drew = wb at *
    have HPB : Hid (OP wb t mt mo v q ((last : Int) + 1) (last + 1) (last + 1) (upd ft ((last : Int) + 1) (some x.b)) fx sl) := by rw [← hwd]; exact HPA.out.ext (Gr.ext_drew (Gr.ext_refl _))
    have HMB : Hid (Mid w D s x wb) := by rw [← hwd]; exact HMA.out.ext (Gr.ext_drew (Gr.ext_refl _))
    clear hwd HPA HMA
    iterate 3
      refine Gr.walk_t ?_ (Or.inl ⟨by rfl, ?_⟩) ?_
      rotate_left
      · intro w' hw'
        clear hw'
        go_simp
        try with_reducible rfl
      simp only [Act.put, List.setIfInBounds_toArray, List.set_cons_zero, List.set_cons_succ]
    refine Gr.walk_t ?_ (Or.inl ⟨by rfl, ?_⟩) ?_
    rotate_left
    · intro w' hw'
      have hc := (HPB.out.ext hw').cells.2.2.1
      clear hw'
      go_simp
      try with_reducible rfl
    simp only [Act.put, List.setIfInBounds_toArray, List.set_cons_zero, List.set_cons_succ]
    refine Gr.walk_t ?_ (Or.inl ⟨by rfl, ?_⟩) ?_
    rotate_left
    · intro w' hw'
      clear hw'
      go_simp
      try with_reducible rfl
    simp only [Act.put, List.setIfInBounds_toArray, List.set_cons_zero, List.set_cons_succ]
    refine Gr.walk_t ?_ (Or.inl ⟨by rfl, ?_⟩) ?_
    rotate_left
    · intro w' hw'
      have hc := (KK.out w' (HMB.out.ext hw')).2
      clear hw'
      go_simp
      try with_reducible rfl
    simp only [Act.put, List.setIfInBounds_toArray, List.set_cons_zero, List.set_cons_succ]
    refine Gr.walk_t ?_ (Or.inl ⟨by rfl, ?_⟩) ?_
    rotate_left
    · intro w' hw'
      have hk : (Instr.lookup 39 (.map (some mo)) (.int .i64 o) false).run Try.prog w' = .ok (.map (some nb)) w' := ((HPB.out.ext hw').ops.look Try.underlying39 (wtags_zero _) HO.out).trans (by rw [HFA.out]; rfl)
      clear hw'
      go_simp
      try with_reducible rfl
    simp only [Act.put, List.setIfInBounds_toArray, List.set_cons_zero, List.set_cons_succ]
    refine Gr.walk_t ?_ (Or.inl ⟨by rfl, ?_⟩) ?_
    rotate_left
    · intro w' hw'
      clear hw'
      go_simp
      try with_reducible rfl
    simp only [Act.put, List.setIfInBounds_toArray, List.set_cons_zero, List.set_cons_succ]
    refine Gr.walk_t ?_ (Or.inl ⟨by rfl, ?_⟩) ?_
    rotate_left
    · intro w' hw'
      have hc := (KK.out w' (HMB.out.ext hw')).1
      clear hw'
      go_simp
      try with_reducible rfl
    simp only [Act.put, List.setIfInBounds_toArray, List.set_cons_zero, List.set_cons_succ]
    refine Gr.walk_t ?_ (Or.inl ⟨by rfl, ?_⟩) ?_
    rotate_left
    · intro w' hw'
      clear hw'
      go_simp
      try with_reducible rfl
    simp only [Act.put, List.setIfInBounds_toArray, List.set_cons_zero, List.set_cons_succ]
    refine Gr.walk_nil ?_
    obtain ⟨wc, hrc, hbc, hgc⟩ := (HPB.out.sets o nb HFA.out).tput HT64.out (HX.out.r.new o) (by have := HX.out.r.le o; omega)
    have HPC := Lib.hid (HPB.out.put_set HFA.out hbc hgc)
    have HMC := Lib.hid (HMB.out.turn hgc (HPB.out.smap HFA.out) (fun hh => (HFD.out _ _ HFA.out).resolve_right (by omega)))
    clear hbc hgc HPB HMB
    have hc3 := HPC.out.cells.2.2.2
    have HAD := Lib.hid (wadd_any t 3 v q x wc HPC.out.que (by have := HQL.out; omega) HX.out.hp (HMC.out.comes (fun i hi => by rw [HS.out]; exact HOQ.out i hi) (by rw [HS.out]; exact HTL.out)))
    go_wp2_with fail
    refine HAD.out.mono ?_
    rintro e wd ⟨rfl, v', q', hpq, hhq, hqd, hwd⟩
    have hrt : ∀ i ∈ bsOf (q ++ [x]), ∃ cs, wc.heap[i]? = some (.cells cs 48 (0, 0)) := fun i hi => by
      simp only [bsOf, List.map_append, List.mem_append, List.map_cons, List.map_nil, List.mem_singleton] at hi
      rcases hi with hi | rfl
      · exact each_type HPC.out.que.each hi
      · exact ⟨_, HMC.out.at_⟩
    have HPD := Lib.hid (HPC.out.put_q hqd hwd hrt)
    have hbd : wd.heap[s]? = some (.cells (CCL x.c).toArray 30 (0, 0)) := by
      refine (hwd.fr.away s (Array.getElem?_eq_some_iff.1 HMC.out.box).1 fun hd => ?_).trans HMC.out.box
      have hb := HMC.out.box
      rcases hd with e | e | e
      · subst e
        rw [HPC.out.row] at hb
        simp only [Option.some.injEq, Obj.cells.injEq] at hb
        exact absurd hb.2.1 (by decide)
      · obtain ⟨_, cs', h3⟩ := HPC.out.que.own.block e
        rw [h3] at hb
        simp only [Option.some.injEq, Obj.cells.injEq] at hb
        exact absurd hb.2.1 (by decide)
      · obtain ⟨cs', h3⟩ := hrt s e
        rw [h3] at hb
        simp only [Option.some.injEq, Obj.cells.injEq] at hb
        exact absurd hb.2.1 (by decide)
    have hcd : wd.cell? ⟨s, 0, none⟩ = some (.int .i64 ((last : Int) + 1)) := by
      rw [cell_of_row _ _ _ _ _ _ hbd, HXC.out]; rfl
    have HFR : Hid (Fr D w wd) := HMC.out.fr.trans hwd.fr fun i hi hd => by
      rcases hd with rfl | e | e
      · exact HX.out.d _ (.inl (.inl rfl))
      · exact HX.out.d _ (.inl (.inr (.inl e)))
      · simp only [bsOf, List.map_append, List.mem_append, List.map_cons, List.map_nil, List.mem_singleton] at e
        rcases e with e | rfl
        · exact HX.out.d _ (.inl (.inr (.inr e)))
        · have := HMC.out.old; omega
    have HFIN : Hid (OAddOut t D last cs o p u w (.returned (.int .i64 ((last : Int) + 1))) wd) := by
      refine ⟨rfl, HFR.out, mt, mo, v', q', _, fx, _, ⟨HPD.out, ?_, hhq, fun i hi => ?_⟩, ?_⟩
      · have hcr := HX.out.r.add (x := x) (fo' := fx) HLB.out (by rw [HXC.out]) (by rw [HXC.out]; exact HO.out) HFC.out
        rw [HXC.out] at hcr
        exact hcr.perm hpq
      · have hlt := HPD.out.odlt hi
        rcases hi with (rfl | e | e) | rfl | rfl | ⟨o', e⟩
        · exact .inl (HX.out.d _ (.inl (.inl rfl)))
        · rcases hwd.new with h2 | ⟨g, h2, h3⟩
          · exact .inl (HX.out.d _ (.inl (.inr (.inl (h2 ▸ e)))))
          · rw [h2] at e
            have := Option.some.inj e
            subst this
            exact .inr ⟨Nat.le_trans HMC.out.fr.size h3, hlt⟩
        · have e2 := (bs_perm hpq).1 e
          simp only [bsOf, List.map_append, List.mem_append, List.map_cons, List.map_nil, List.mem_singleton] at e2
          rcases e2 with e2 | rfl
          · exact .inl (HX.out.d _ (.inl (.inr (.inr e2))))
          · exact .inr ⟨by have := HMC.out.old; omega, hlt⟩
        · exact .inl (HX.out.d _ (.inr (.inl rfl)))
        · exact .inl (HX.out.d _ (.inr (.inr (.inl rfl))))
        · rcases HFD.out o' i e with h | h
          · exact .inl h
          · exact .inr ⟨h, hlt⟩
      · refine (hpq.map Wt.c).trans ?_
        rw [List.map_append, List.map_singleton, HXC.out]
        exact HCS.out.append_right _
    clear hqd hwd hrt hbd hpq hhq HPD HFR HPC HMC HAD
    go_wp2
    go_ret
    exact HFIN.out
end Go.Proofs.Ytiiidbomfkjfgaa
