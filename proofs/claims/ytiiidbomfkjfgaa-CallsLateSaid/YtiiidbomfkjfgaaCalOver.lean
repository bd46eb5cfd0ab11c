/- (*open).over: a call is over. -/
import Derived.Test.YtiiidbomfkjfgaaCalAt
import Derived.Deep.DeepCutAuto
namespace Go.Proofs.Ytiiidbomfkjfgaa
set_option maxRecDepth 20000
open Go.RowKit Go.Deep Go.Maps
set_option linter.unusedVariables false
/-- What was written since; and block y, the call that goes. -/
structure Gone (w : World) (D : Nat → Prop) (y : Wt) (k : Nat) (w' : World) : Prop where
  fr : Fr D w w'
  at_ : WAt w' y.b y.c k
theorem Gone.ext {w w1 w2 : World} {D : Nat → Prop} {y : Wt} {k : Nat} (h : Gone w D y k w1) (hx : w1.Extends w2) : Gone w D y k w2 :=
  ⟨h.fr.trans (D' := fun _ => False) (Fr.ext hx) (fun _ _ h => h.elim), h.at_.ext hx⟩
theorem Gone.turn {w w1 w2 : World} {D : Nat → Prop} {y : Wt} {k m : Nat} (h : Gone w D y k w1) (hg : w1.grownBy w2 (some m)) (hm : IsMapB w1 m) (hD : D m) : Gone w D y k w2 := by
  obtain ⟨es, c, hm⟩ := hm
  refine ⟨h.fr.trans (D' := fun i => i = m) (Fr.grown hg fun g e => by rw [← Option.some.inj e]) (fun i hi e => by subst e; exact hD), h.at_.kept (hg.block _ h.at_.lt fun e => ?_)⟩
  have e := Option.some.inj e
  rw [← e, show w1.heap[y.b]? = _ from h.at_] at hm; cases hm
def OOverOut (t : Nat) (D : Nat → Prop) (last mt mo : Nat) (q : List Wt) (y : Wt) (w : World) (e : Ending) (w' : World) : Prop :=
  e = .returned (.tuple #[]) ∧ Fr D w w' ∧ (∃ k, WAt w' y.b y.c k) ∧ ∃ v' q' ft' fo' sl', OX w' t D last mt mo v' q' ft' fo' sl' ∧ (y :: q').Perm q
theorem getD_mem {q : List Wt} {i : Nat} (hi : i < q.length) : q.getD i zw ∈ q := by
  rw [List.getD_eq_getElem?_getD, List.getElem?_eq_getElem hi]; exact List.getElem_mem hi
set_option maxHeartbeats 4000000 in
theorem oover_any (t : Nat) (D : Nat → Prop) (last mt mo i : Nat) (v : Value) (q : List Wt) (ft fo : Int → Option Nat) (sl : Int → List Int) (w : World) (h : OX w t D last mt mo v q ft fo sl) (hi : i < q.length) :
    Calls Try.prog 11 #[.pointer (some ⟨t, 0, none⟩), pv (q.getD i zw).b] w (OOverOut t D last mt mo q (q.getD i zw) w) := by
  have hmem := getD_mem hi
  have HDR := Lib.hid (wdrop_any t 3 i v q w h.p.que hi (Nat.le_trans h.r.len (Nat.le_trans h.r.big (by omega))) h.hp)
  have HX := Lib.hid h
  generalize q.getD i zw = y at *
  have HT64 : Hid (In64 y.c.t) := by have h1 := h.r.rng y hmem; have h2 := h.r.big; constructor <;> omega
  have HO := Lib.hid (h.r.opr y hmem)
  have HMEM := Lib.hid hmem
  obtain ⟨ob, hob⟩ := (h.r.op y.c.o).2 ⟨y, hmem, rfl⟩
  have HOB := Lib.hid hob
  have HIN : Hid (y.c.t ∈ sl y.c.o) := (h.r.set y.c.o y.c.t).2 ⟨y, hmem, rfl, rfl⟩
  have hc3 := h.p.cells.2.2.2
  clear h hi hmem hob
  go_enter Try.func11, Try.ntmps11
  go_wp2_with fail
  refine HDR.out.mono ?_
  rintro e w1 ⟨rfl, v1, q1, hpq, hh1, hq1, hw1, ⟨k1, hk1⟩, hv1⟩
  have HP1 := Lib.hid (HX.out.p.put_q hq1 hw1 (fun i hi => each_type HX.out.p.que.each hi))
  have HG1 : Hid (Gone w D y k1 w1) := ⟨hw1.fr.mono fun i hi => HX.out.d i (.inl hi), hk1⟩
  have HPQ := Lib.hid hpq
  have HH1 := Lib.hid hh1
  have HV1 : Hid (∀ g, v1.ownBlock = some g → D g) := fun g hg => HX.out.d _ (.inl (.inr (.inl (hv1 ▸ hg))))
  have hc0 : ∀ wz, Gone w D y k1 wz → wz.cell? ⟨y.b, 0, none⟩ = some (.int .i64 y.c.t) ∧ wz.cell? ⟨y.b, 1, none⟩ = some (.int .i64 y.c.o) := fun wz hz => ⟨hz.at_.cells.1, hz.at_.cells.2.1⟩
  have KK := Lib.hid hc0
  clear hpq hh1 hq1 hw1 hk1 hv1 hc0 HDR hc3
  go_wp2_with fail
  refine Gr.region 9 [(false,0),(false,1),(false,2),(false,3),(false,4),(false,5),(false,6),(false,7),(false,8)] (by kernel_rfl) (by kernel_rfl) (fun d _ _ _ _ h => by cases d <;> exact h) ?_
  simp only [Gr.pick, List.getElem?_cons_zero, List.getElem?_cons_succ, List.drop_succ_cons, List.drop_zero]
  generalize hwd : w1.drew = w2 at *
  have HP2 : Hid (OP w2 t mt mo v1 q1 last last last ft fo sl) := by rw [← hwd]; exact HP1.out.ext (Gr.ext_drew (Gr.ext_refl _))
  have HG2 : Hid (Gone w D y k1 w2) := by rw [← hwd]; exact HG1.out.ext (Gr.ext_drew (Gr.ext_refl _))
  clear hwd HP1 HG1
  iterate 3
    refine Gr.walk_t ?_ (Or.inl ⟨by rfl, ?_⟩) ?_
    rotate_left
    · intro w' hw'
      clear hw'
      go_simp
      try with_reducible rfl
    simp only [Act.put, List.setIfInBounds_toArray, List.set_cons_zero, List.set_cons_succ]
  refine Gr.walk_t ?_ (Or.inl ⟨by rfl, ?_⟩) ?_
  rotate_left
  · intro w' hw'
    have hc := (HP2.out.ext hw').cells.2.1
    clear hw'
    go_simp
    try with_reducible rfl
  simp only [Act.put, List.setIfInBounds_toArray, List.set_cons_zero, List.set_cons_succ]
  iterate 4
    refine Gr.walk_t ?_ (Or.inl ⟨by rfl, ?_⟩) ?_
    rotate_left
    · intro w' hw'
      clear hw'
      go_simp
      try with_reducible rfl
    simp only [Act.put, List.setIfInBounds_toArray, List.set_cons_zero, List.set_cons_succ]
  refine Gr.walk_t ?_ (Or.inl ⟨by rfl, ?_⟩) ?_
  rotate_left
  · intro w' hw'
    have hc := (KK.out w' (HG2.out.ext hw')).1
    clear hw'
    go_simp
    try with_reducible rfl
  simp only [Act.put, List.setIfInBounds_toArray, List.set_cons_zero, List.set_cons_succ]
  refine Gr.walk_nil ?_
  obtain ⟨w3, hr3, hb3, hg3⟩ := HP2.out.tags.del (t := 38) Try.underlying38 HT64.out
  have HP3 := Lib.hid (HP2.out.put_tag hb3 hg3)
  have HG3 := Lib.hid (HG2.out.turn hg3 HP2.out.tmap (HX.out.d mt (.inr (.inl rfl))))
  clear hb3 hg3 HP2 HG2
  go_wp2_with fail
  clear hr3
  refine Gr.region 15 [(false,0),(false,1),(false,2),(false,3),(false,4),(false,5),(false,6),(false,7),(false,8),(false,9),(false,10),(false,11),(false,12),(false,13),(false,14)] (by kernel_rfl) (by kernel_rfl) (fun d _ _ _ _ h => by cases d <;> exact h) ?_
  simp only [Gr.pick, List.getElem?_cons_zero, List.getElem?_cons_succ, List.drop_succ_cons, List.drop_zero]
  generalize hwd : w3.drew = w4 at *
  have HP4 : Hid (OP w4 t mt mo v1 q1 last last last (upd ft y.c.t none) fo sl) := by rw [← hwd]; exact HP3.out.ext (Gr.ext_drew (Gr.ext_refl _))
  have HG4 : Hid (Gone w D y k1 w4) := by rw [← hwd]; exact HG3.out.ext (Gr.ext_drew (Gr.ext_refl _))
  clear hwd HP3 HG3
  iterate 3
    refine Gr.walk_t ?_ (Or.inl ⟨by rfl, ?_⟩) ?_
    rotate_left
    · intro w' hw'
      clear hw'
      go_simp
      try with_reducible rfl
    simp only [Act.put, List.setIfInBounds_toArray, List.set_cons_zero, List.set_cons_succ]
  refine Gr.walk_t ?_ (Or.inl ⟨by rfl, ?_⟩) ?_
  rotate_left
  · intro w' hw'
    have hc := (HP4.out.ext hw').cells.2.2.1
    clear hw'
    go_simp
    try with_reducible rfl
  simp only [Act.put, List.setIfInBounds_toArray, List.set_cons_zero, List.set_cons_succ]
  iterate 4
    refine Gr.walk_t ?_ (Or.inl ⟨by rfl, ?_⟩) ?_
    rotate_left
    · intro w' hw'
      clear hw'
      go_simp
      try with_reducible rfl
    simp only [Act.put, List.setIfInBounds_toArray, List.set_cons_zero, List.set_cons_succ]
  refine Gr.walk_t ?_ (Or.inl ⟨by rfl, ?_⟩) ?_
  rotate_left
  · intro w' hw'
    have hc := (KK.out w' (HG4.out.ext hw')).2
    clear hw'
    go_simp
    try with_reducible rfl
  simp only [Act.put, List.setIfInBounds_toArray, List.set_cons_zero, List.set_cons_succ]
  refine Gr.walk_t ?_ (Or.inl ⟨by rfl, ?_⟩) ?_
  rotate_left
  · intro w' hw'
    have hk : (Instr.lookup 39 (.map (some mo)) (.int .i64 y.c.o) false).run Try.prog w' = .ok (.map (some ob)) w' := ((HP4.out.ext hw').ops.look Try.underlying39 (wtags_zero _) HO.out).trans (by rw [HOB.out]; rfl)
    clear hw'
    go_simp
    try with_reducible rfl
  simp only [Act.put, List.setIfInBounds_toArray, List.set_cons_zero, List.set_cons_succ]
  iterate 4
    refine Gr.walk_t ?_ (Or.inl ⟨by rfl, ?_⟩) ?_
    rotate_left
    · intro w' hw'
      clear hw'
      go_simp
      try with_reducible rfl
    simp only [Act.put, List.setIfInBounds_toArray, List.set_cons_zero, List.set_cons_succ]
  refine Gr.walk_t ?_ (Or.inl ⟨by rfl, ?_⟩) ?_
  rotate_left
  · intro w' hw'
    have hc := (KK.out w' (HG4.out.ext hw')).1
    clear hw'
    go_simp
    try with_reducible rfl
  simp only [Act.put, List.setIfInBounds_toArray, List.set_cons_zero, List.set_cons_succ]
  refine Gr.walk_nil ?_
  obtain ⟨w5, hr5, hb5, hg5⟩ := (HP4.out.sets _ ob HOB.out).tdel HT64.out HIN.out (HX.out.r.nd _)
  have HP5 := Lib.hid (HP4.out.put_set HOB.out hb5 hg5)
  have HG5 := Lib.hid (HG4.out.turn hg5 (HP4.out.smap HOB.out) (HX.out.d ob (.inr (.inr (.inr ⟨_, HOB.out⟩)))))
  clear hb5 hg5 HP4 HG4
  have HCR : Hid (∀ fo', (∀ o, (∃ b, fo' o = some b) ↔ (∃ b, fo o = some b) ∧ (o = y.c.o → outI y.c.t (sl y.c.o) ≠ [])) → CR q1 last (upd ft y.c.t none) fo' (fun z => if z = y.c.o then outI y.c.t (sl y.c.o) else sl z)) := fun fo' hfo => HX.out.r.over HPQ.out hfo
  have HSL : Hid ((fun z => if z = y.c.o then outI y.c.t (sl y.c.o) else sl z) y.c.o = outI y.c.t (sl y.c.o)) := if_pos rfl
  generalize hlo : (fun z => if z = y.c.o then outI y.c.t (sl y.c.o) else sl z) = sl2 at *
  generalize hou : outI y.c.t (sl y.c.o) = lo at *
  clear hlo hou
  have HD : Hid (∀ i fo', (∀ o b, fo' o = some b → fo o = some b) → OD t mt mo v1 q1 fo' i → D i) := fun i fo' hf hi => by
    rcases hi with (rfl | e | e) | rfl | rfl | ⟨o, e⟩
    · exact HX.out.d _ (.inl (.inl rfl))
    · exact HV1.out _ e
    · refine HX.out.d _ (.inl (.inr (.inr ?_)))
      have := (bs_perm HPQ.out (i := i)).1
      exact this (List.mem_cons_of_mem _ e)
    · exact HX.out.d _ (.inr (.inl rfl))
    · exact HX.out.d _ (.inr (.inr (.inl rfl)))
    · exact HX.out.d _ (.inr (.inr (.inr ⟨o, hf _ _ e⟩)))
  go_wp2_with fail
  clear hr5
  refine Gr.region 11 [(false,0),(false,1),(false,2),(false,3),(false,4),(false,5),(false,6),(false,7),(false,8),(false,9),(false,10)] (by kernel_rfl) (by kernel_rfl) (fun d _ _ _ _ h => by cases d <;> exact h) ?_
  simp only [Gr.pick, List.getElem?_cons_zero, List.getElem?_cons_succ, List.drop_succ_cons, List.drop_zero]
  generalize hwd : w5.drew = w6 at *
  have HP6 : Hid (OP w6 t mt mo v1 q1 last last last (upd ft y.c.t none) fo sl2) := by rw [← hwd]; exact HP5.out.ext (Gr.ext_drew (Gr.ext_refl _))
  have HG6 : Hid (Gone w D y k1 w6) := by rw [← hwd]; exact HG5.out.ext (Gr.ext_drew (Gr.ext_refl _))
  clear hwd HP5 HG5
  iterate 3
    refine Gr.walk_t ?_ (Or.inl ⟨by rfl, ?_⟩) ?_
    rotate_left
    · intro w' hw'
      clear hw'
      go_simp
      try with_reducible rfl
    simp only [Act.put, List.setIfInBounds_toArray, List.set_cons_zero, List.set_cons_succ]
  refine Gr.walk_t ?_ (Or.inl ⟨by rfl, ?_⟩) ?_
  rotate_left
  · intro w' hw'
    have hc := (HP6.out.ext hw').cells.2.2.1
    clear hw'
    go_simp
    try with_reducible rfl
  simp only [Act.put, List.setIfInBounds_toArray, List.set_cons_zero, List.set_cons_succ]
  iterate 4
    refine Gr.walk_t ?_ (Or.inl ⟨by rfl, ?_⟩) ?_
    rotate_left
    · intro w' hw'
      clear hw'
      go_simp
      try with_reducible rfl
    simp only [Act.put, List.setIfInBounds_toArray, List.set_cons_zero, List.set_cons_succ]
  refine Gr.walk_t ?_ (Or.inl ⟨by rfl, ?_⟩) ?_
  rotate_left
  · intro w' hw'
    have hc := (KK.out w' (HG6.out.ext hw')).2
    clear hw'
    go_simp
    try with_reducible rfl
  simp only [Act.put, List.setIfInBounds_toArray, List.set_cons_zero, List.set_cons_succ]
  refine Gr.walk_t ?_ (Or.inl ⟨by rfl, ?_⟩) ?_
  rotate_left
  · intro w' hw'
    have hk : (Instr.lookup 39 (.map (some mo)) (.int .i64 y.c.o) false).run Try.prog w' = .ok (.map (some ob)) w' := ((HP6.out.ext hw').ops.look Try.underlying39 (wtags_zero _) HO.out).trans (by rw [HOB.out]; rfl)
    clear hw'
    go_simp
    try with_reducible rfl
  simp only [Act.put, List.setIfInBounds_toArray, List.set_cons_zero, List.set_cons_succ]
  refine Gr.walk_t ?_ (Or.inl ⟨by rfl, ?_⟩) ?_
  rotate_left
  · intro w' hw'
    have hk : ∀ ty, (Builtin.len_ #[54] ty #[.map (some ob)]).run Try.prog w' = .ok (.int .i64 ((lo.length : Nat) : Int)) w' := fun ty => by have := ((HP6.out.ext hw').sets _ ob HOB.out).tlen ty; rw [HSL.out] at this; exact this
    clear hw'
    go_simp
    try with_reducible rfl
  simp only [Act.put, List.setIfInBounds_toArray, List.set_cons_zero, List.set_cons_succ]
  refine Gr.walk_nil ?_
  cases hlo : lo with
  | nil =>
    have HF : Hid (∀ o, (∃ b, upd fo y.c.o none o = some b) ↔ (∃ b, fo o = some b) ∧ (o = y.c.o → lo ≠ [])) := fun o => by
      by_cases e : o = y.c.o
      · subst e
        rw [upd_same]
        exact ⟨fun ⟨b, hb⟩ => (nomatch hb), fun ⟨_, h⟩ => absurd hlo (h rfl)⟩
      · rw [upd_other _ e]
        exact ⟨fun h => ⟨h, fun e2 => absurd e2 e⟩, fun h => h.1⟩
    have HCR2 := Lib.hid (HCR.out _ HF.out)
    clear HCR HF
    rw [hlo] at HSL
    clear hlo
    simp only [List.length_nil, Int.cast_ofNat_Int]
    go_wp2_with fail
    refine Gr.region 9 [(false,0),(false,1),(false,2),(false,3),(false,4),(false,5),(false,6),(false,7),(false,8)] (by kernel_rfl) (by kernel_rfl) (fun d _ _ _ _ h => by cases d <;> exact h) ?_
    simp only [Gr.pick, List.getElem?_cons_zero, List.getElem?_cons_succ, List.drop_succ_cons, List.drop_zero]
    generalize hwd : w6.drew = w7 at *
    have HP7 : Hid (OP w7 t mt mo v1 q1 last last last (upd ft y.c.t none) fo sl2) := by rw [← hwd]; exact HP6.out.ext (Gr.ext_drew (Gr.ext_refl _))
    have HG7 : Hid (Gone w D y k1 w7) := by rw [← hwd]; exact HG6.out.ext (Gr.ext_drew (Gr.ext_refl _))
    clear hwd HP6 HG6
    iterate 3
      refine Gr.walk_t ?_ (Or.inl ⟨by rfl, ?_⟩) ?_
      rotate_left
      · intro w' hw'
        clear hw'
        go_simp
        try with_reducible rfl
      simp only [Act.put, List.setIfInBounds_toArray, List.set_cons_zero, List.set_cons_succ]
    refine Gr.walk_t ?_ (Or.inl ⟨by rfl, ?_⟩) ?_
    rotate_left
    · intro w' hw'
      have hc := (HP7.out.ext hw').cells.2.2.1
      clear hw'
      go_simp
      try with_reducible rfl
    simp only [Act.put, List.setIfInBounds_toArray, List.set_cons_zero, List.set_cons_succ]
    iterate 4
      refine Gr.walk_t ?_ (Or.inl ⟨by rfl, ?_⟩) ?_
      rotate_left
      · intro w' hw'
        clear hw'
        go_simp
        try with_reducible rfl
      simp only [Act.put, List.setIfInBounds_toArray, List.set_cons_zero, List.set_cons_succ]
    refine Gr.walk_t ?_ (Or.inl ⟨by rfl, ?_⟩) ?_
    rotate_left
    · intro w' hw'
      have hc := (KK.out w' (HG7.out.ext hw')).2
      clear hw'
      go_simp
      try with_reducible rfl
    simp only [Act.put, List.setIfInBounds_toArray, List.set_cons_zero, List.set_cons_succ]
    refine Gr.walk_nil ?_
    obtain ⟨w8, hr8, hb8, hg8⟩ := HP7.out.ops.del (t := 39) Try.underlying39 HO.out
    have hsub : ∀ o b, upd fo y.c.o none o = some b → fo o = some b := fun o b hb => by
      by_cases e : o = y.c.o
      · subst e
        rw [upd_same] at hb; cases hb
      · rwa [upd_other _ e] at hb
    have HFIN : Hid (OOverOut t D last mt mo q y w (.returned (.tuple #[])) w8) := by
      have hg := HG7.out.turn hg8 HP7.out.omap (HX.out.d mo (.inr (.inr (.inl rfl))))
      have hp := HP7.out.put_op hb8 hg8 (sl' := sl2) (fun o b hb => HP7.out.sets o b (hsub o b hb)) (fun o b hb => HP7.out.nset o b (hsub o b hb)) (fun o o' b h1 h2 => HP7.out.inj o o' b (hsub o b h1) (hsub o' b h2))
      exact ⟨rfl, hg.fr, ⟨k1, hg.at_⟩, v1, q1, _, _, sl2, ⟨hp, HCR2.out, HH1.out, fun i hi => HD.out i _ hsub hi⟩, HPQ.out⟩
    clear hb8 hg8 hsub HP7 HG7 HCR2
    go_wp2
    go_end0
    exact HFIN.out
  | cons z lr =>
    have HF : Hid (∀ o, (∃ b, fo o = some b) ↔ (∃ b, fo o = some b) ∧ (o = y.c.o → lo ≠ [])) := fun o => ⟨fun h => ⟨h, fun _ e => by rw [hlo] at e; cases e⟩, fun h => h.1⟩
    have HFIN : Hid (OOverOut t D last mt mo q y w (.returned (.tuple #[])) w6) :=
      ⟨rfl, HG6.out.fr, ⟨k1, HG6.out.at_⟩, v1, q1, _, fo, sl2, ⟨HP6.out, HCR.out _ HF.out, HH1.out, fun i hi => HD.out i _ (fun _ _ h => h) hi⟩, HPQ.out⟩
    obtain ⟨m, hm⟩ : ∃ m, (z :: lr).length = m := ⟨_, rfl⟩
    have hm0 : ¬ ((m : Int) = 0) := by rw [← hm, List.length_cons]; omega
    have hm1 : ((m : Int) == 0) = false := by simpa using hm0
    rw [hm]
    clear HF HCR HP6 HG6 hm hlo
    go_wp2
    go_end0
    exact HFIN.out
end Go.Proofs.Ytiiidbomfkjfgaa
