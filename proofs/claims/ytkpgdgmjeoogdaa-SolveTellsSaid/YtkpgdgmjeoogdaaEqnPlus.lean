/- Package solve: an equation plus another one. -/
import Derived.Test.YtkpgdgmjeoogdaaEqn
namespace Go.Proofs.Ytkpgdgmjeoogdaa
open Go.RowKit
set_option linter.unusedVariables false
theorem Own.ext {w w' : World} {b : Nat} {T : TypeId} {xs : List Nat} (h : Own w b T xs) (hx : w.Extends w') : Own w' b T xs := h.block (hx.block b h.lt)
/-- A new row of a call's own. -/
def MadeOwn (w : World) (xs : List Nat) (e : Ending) (w' : World) : Prop := ∃ b, e = .returned (.slice (some ⟨b, 0, none⟩) xs.length xs.length) ∧ w.Extends w' ∧ Own w' b 5 xs
theorem cut_nat (m : Nat) (h : m ≤ 1000) : RM.cut (m : Int) = m := by unfold RM.cut; omega
theorem sum_own (m : Nat) (v : Value) (l : List (List Nat)) (w : World) (hm : m ≤ 1000) (hv : Rws w v l) : Calls Try.prog 10 #[.int .i64 m, v] w (MadeOwn w (RM.sum m l)) :=
  (sum_any m v l w hv).mono fun e w' ⟨he, hb, ho⟩ => by
    rw [cut_nat m hm] at he ho
    exact ⟨w.heap.size, by rw [RM.sum_length]; exact he, Gr.ext_of hb, ho⟩
theorem own_not {w : World} {b : Nat} {T T' : TypeId} {xs : List Nat} {cs : Array Value} (h : Own w b T xs) (hT : T ≠ T') : ¬ w.heap[b]? = some (.cells cs T' (0, 0)) := fun h' => by
  obtain ⟨c, hc, _⟩ := h.1
  rw [hc] at h'
  simp only [Option.some.injEq, Obj.cells.injEq] at h'
  exact hT h'.2.1
theorem eqn_fin (w4 w : World) (b bl br ln rn : Nat) (xs ys : List Nat) (cs : Array Value) (h1 : Own w4 bl 5 xs) (h2 : Own w4 br 5 ys) (n1 : bl ≠ b + 2) (n2 : br ≠ b + 2) (hx : w.Extends w4) (hb : w.heap.size ≤ b + 2) :
    Own (w4.setRow (b + 2) cs) bl 5 xs ∧ Own (w4.setRow (b + 2) cs) br 5 ys ∧ Below w.heap.size w (w4.setRow (b + 2) cs) :=
  ⟨h1.block (setRow_other _ _ _ _ n1), h2.block (setRow_other _ _ _ _ n2), (Gr.below_of hx).trans ⟨rfl, rfl, rfl, by simp, fun i hi => setRow_other _ _ i _ (by omega)⟩⟩
theorem three_cells (w : World) (T : TypeId) (u v x y : Value) (c d : Value) : (((w.alloc (.cells #[u, v] T)).alloc (.cells #[x, y] T)).alloc (.cells #[c, d] T)).cell? ⟨w.heap.size, 0, none⟩ = some u ∧ (((w.alloc (.cells #[u, v] T)).alloc (.cells #[x, y] T)).alloc (.cells #[c, d] T)).cell? ⟨w.heap.size, 1, none⟩ = some v ∧
    (((w.alloc (.cells #[u, v] T)).alloc (.cells #[x, y] T)).alloc (.cells #[c, d] T)).cell? ⟨w.heap.size + 1, 0, none⟩ = some x ∧ (((w.alloc (.cells #[u, v] T)).alloc (.cells #[x, y] T)).alloc (.cells #[c, d] T)).cell? ⟨w.heap.size + 1, 1, none⟩ = some y ∧
    (((w.alloc (.cells #[u, v] T)).alloc (.cells #[x, y] T)).alloc (.cells #[c, d] T)).heap[w.heap.size + 2]? = some (.cells #[c, d] T) := by
  have h := (heap_alloc_new w (.cells #[u, v] T))
  have h2 : ((w.alloc (.cells #[u, v] T)).alloc (.cells #[x, y] T)).heap[w.heap.size]? = some (.cells #[u, v] T) := by rw [Go.heap_alloc_old _ _ (by simp), h]
  have h3 : (((w.alloc (.cells #[u, v] T)).alloc (.cells #[x, y] T)).alloc (.cells #[c, d] T)).heap[w.heap.size]? = some (.cells #[u, v] T) := by rw [Go.heap_alloc_old _ _ (by simp; omega), h2]
  have h4 : (((w.alloc (.cells #[u, v] T)).alloc (.cells #[x, y] T)).alloc (.cells #[c, d] T)).heap[w.heap.size + 1]? = some (.cells #[x, y] T) := by rw [Go.heap_alloc_old _ _ (by simp), heap_alloc2_new]
  have h5 := heap_alloc_new ((w.alloc (.cells #[u, v] T)).alloc (.cells #[x, y] T)) (.cells #[c, d] T)
  exact ⟨by rw [cell_of_row _ _ _ _ _ _ h3]; rfl, by rw [cell_of_row _ _ _ _ _ _ h3]; rfl, by rw [cell_of_row _ _ _ _ _ _ h4]; rfl, by rw [cell_of_row _ _ _ _ _ _ h4]; rfl, by simpa using h5⟩
set_option maxHeartbeats 2000000 in
theorem eqPlus_any (u v p q : Value) (l1 r1 l2 r2 : List Nat) (w : World) (hu : U8s w u l1) (hv : U8s w v r1) (hp : U8s w p l2) (hq : U8s w q r2) (hl : l1.length ≤ 1000) (hr : r1.length ≤ 1000) :
    Calls Try.prog 45 #[.agg #[u, v], .agg #[p, q]] w (MadeEqn w (RM.sum l1.length [l1, l2]) (RM.sum r1.length [r1, r2])) := by
  have HU := Lib.hid hu
  have HV := Lib.hid hv
  have HP := Lib.hid hp
  have HQ := Lib.hid hq
  obtain ⟨ua, uc, rfl, _, _⟩ := hu.slice
  obtain ⟨va, vc, rfl, _, _⟩ := hv.slice
  obtain ⟨pa, pc, rfl, _, _⟩ := hp.slice
  obtain ⟨qa, qc, rfl, _, _⟩ := hq.slice
  clear hu hv hp hq
  generalize hln : l1.length = ln at *
  generalize hrn : r1.length = rn at *
  have HLN := Lib.hid hln; clear hln
  have HRN := Lib.hid hrn; clear hrn
  go_enter Try.func45, Try.ntmps45
  go_wp2_with fail
  generalize hw2 : World.alloc (World.alloc (World.alloc w _) _) _ = w2
  have hx2 : w.Extends w2 := by subst hw2; exact Gr.ext_trans (Gr.ext_trans (ext_alloc _ _) (ext_alloc _ _)) (ext_alloc _ _)
  have hc2 := three_cells w 74 (.slice ua ln uc) (.slice va rn vc) (.slice pa l2.length pc) (.slice qa r2.length qc) (.slice none 0 0) (.slice none 0 0)
  rw [hw2] at hc2
  have hs2 : w2.heap.size = w.heap.size + 3 := by subst hw2; simp
  obtain ⟨b, hb⟩ : ∃ b, b = w.heap.size := ⟨_, rfl⟩
  rw [← hb] at hc2 hs2 ⊢
  have hbs : b + 2 < w2.drew.heap.size := by show b + 2 < w2.heap.size; omega
  have HBB := Lib.hid hb; clear hb
  have HL1 : Hid (∀ w', w2.Extends w' → w'.cell? ⟨b, 0, none⟩ = some (.slice ua ln uc)) := fun w' hw' => hw'.cell_of hc2.1
  have HL2 : Hid (∀ w', w2.Extends w' → w'.cell? ⟨b, 1, none⟩ = some (.slice va rn vc)) := fun w' hw' => hw'.cell_of hc2.2.1
  have HL3 : Hid (∀ w', w2.Extends w' → w'.cell? ⟨b + 1, 0, none⟩ = some (.slice pa l2.length pc)) := fun w' hw' => hw'.cell_of hc2.2.2.1
  have HL4 : Hid (∀ w', w2.Extends w' → w'.cell? ⟨b + 1, 1, none⟩ = some (.slice qa r2.length qc)) := fun w' hw' => hw'.cell_of hc2.2.2.2.1
  have HX2 := Lib.hid (Gr.ext_drew hx2)
  have HG2 : Hid (w2.drew.heap[b + 2]? = _) := hc2.2.2.2.2
  have HS2 := Lib.hid hs2
  clear hw2 hc2 hx2 hs2
  refine Gr.regionE 19 5 [(false,0),(false,1),(false,2),(false,3),(false,4),(false,5),(false,6),(false,9),(false,10),(false,11),(false,12),(false,13),(false,14),(false,15)] (by kernel_rfl) (by kernel_rfl) (fun d _ _ _ _ h => by cases d <;> exact h) ?_
  simp only [Gr.pick, List.getElem?_cons_zero, List.getElem?_cons_succ]
  obtain ⟨wd, hwd⟩ : ∃ x, x = w2.drew := ⟨_, rfl⟩
  have hT : ∀ {w'}, wd.Extends w' → w2.Extends w' := fun h => Gr.of_drew (hwd ▸ h)
  rw [← hwd] at HX2 HG2 hbs ⊢
  clear hwd
  iterate 14
    refine Gr.walkE_t ?_ (Or.inl ⟨by rfl, ?_⟩) ?_
    rotate_left
    · intro w' hw'
      have hc1 := HL1.out w' (hT hw')
      have hc2 := HL2.out w' (hT hw')
      have hc3 := HL3.out w' (hT hw')
      have hc4 := HL4.out w' (hT hw')
      clear hw'
      go_simp
      try with_reducible rfl
    simp only [Act.put, List.setIfInBounds_toArray, List.set_cons_zero, List.set_cons_succ]
  refine Gr.walkE_nil ?_
  have HX := Lib.hid (Gr.ext_refl wd)
  clear hT HL1 HL2 HL3 HL4
  refine Gr.Left.two (i := 7) (j := 16) (by kernel_rfl) (by kernel_rfl) (Gr.Step.mk rfl (fun K hK => ?_)) (Gr.Step.mk rfl (fun K hK => ?_))
  · skip
    go_simp
    generalize hw : World.alloc _ _ = w1_
    have hx : wd.Extends w1_ := by subst hw; exact ext_alloc _ _
    have HA0 : Rws w1_ (.slice (some ⟨wd.heap.size, 0, none⟩) 2 2) [l1, l2] := by subst hw; exact rws_two _ _ _ _ _ _ _ (HU.out.ext (Gr.ext_trans HX2.out HX.out)) (HP.out.ext (Gr.ext_trans HX2.out HX.out))
    clear hw
    refine hK.out _ _ hx ?_
    clear hK K
    have HA := Lib.hid HA0
    clear HA0
    have HX := Lib.hid (Gr.ext_trans HX.out hx)
    clear hx
    refine Gr.Left.two (i := 8) (j := 16) (by kernel_rfl) (by kernel_rfl) (Gr.Step.mk rfl (fun K hK => ?_)) (Gr.Step.mk rfl (fun K hK => ?_))
    · skip
      go_simp
      refine (sum_own ln _ [l1, l2] _ hl HA.out).mono ?_
      rintro e w2_ ⟨bl, he, hx, ho⟩
      rw [RM.sum_length] at he
      subst he
      have HL0 := ho
      clear ho
      try go_simp
      refine hK.out _ _ hx ?_
      clear hK K
      have HA := Lib.hid (HA.out.ext hx)
      have HL := Lib.hid HL0
      clear HL0
      have HX := Lib.hid (Gr.ext_trans HX.out hx)
      clear hx
      refine Gr.Left.one (i := 16) (by kernel_rfl) (by kernel_rfl) (Gr.Step.mk rfl (fun K hK => ?_))
      go_simp
      generalize hw : World.alloc _ _ = w3_
      have hx : w2_.Extends w3_ := by subst hw; exact ext_alloc _ _
      have HB0 : Rws w3_ (.slice (some ⟨w2_.heap.size, 0, none⟩) 2 2) [r1, r2] := by subst hw; exact rws_two _ _ _ _ _ _ _ (HV.out.ext (Gr.ext_trans HX2.out HX.out)) (HQ.out.ext (Gr.ext_trans HX2.out HX.out))
      clear hw
      refine hK.out _ _ hx ?_
      clear hK K
      have HA := Lib.hid (HA.out.ext hx)
      have HL := Lib.hid (HL.out.ext hx)
      have HB := Lib.hid HB0
      clear HB0
      have HX := Lib.hid (Gr.ext_trans HX.out hx)
      clear hx
      refine Gr.Left.one (i := 17) (by kernel_rfl) (by kernel_rfl) (Gr.Step.mk rfl (fun K hK => ?_))
      go_simp
      refine (sum_own rn _ [r1, r2] _ hr HB.out).mono ?_
      rintro e w4_ ⟨br, he, hx, ho⟩
      rw [RM.sum_length] at he
      subst he
      have HR0 := ho
      clear ho
      try go_simp
      refine hK.out _ _ hx ?_
      clear hK K
      have HA := Lib.hid (HA.out.ext hx)
      have HL := Lib.hid (HL.out.ext hx)
      have HB := Lib.hid (HB.out.ext hx)
      have HR := Lib.hid HR0
      clear HR0
      have HX := Lib.hid (Gr.ext_trans HX.out hx)
      clear hx
      refine Gr.Left.take (i := 18) rfl (by kernel_rfl) (fun d _ _ _ _ h => by cases d <;> exact h) ?_ (Or.inl ⟨by rfl, ?_⟩) ?_
      rotate_left
      · intro w' hw'
        clear hw'
        go_simp
        try with_reducible rfl
      simp only [Act.put, List.setIfInBounds_toArray, List.set_cons_zero, List.set_cons_succ]
      refine Gr.Left.done (by kernel_rfl) ?_
      simp only [List.drop_succ_cons, List.drop_zero]
      have hg4 := (HX.out.block (b + 2) hbs).trans HG2.out
      have hnl : bl ≠ b + 2 := fun h => own_not HL.out (by decide) (h ▸ hg4)
      have hnr : br ≠ b + 2 := fun h => own_not HR.out (by decide) (h ▸ hg4)
      have HX0 := Lib.hid (Gr.ext_trans HX2.out HX.out)
      have HFIN := Lib.hid (eqn_fin w4_ w b bl br ln rn (RM.sum ln [l1, l2]) (RM.sum rn [r1, r2]) #[.slice (some ⟨bl, 0, none⟩) ln ln, .slice (some ⟨br, 0, none⟩) rn rn] HL.out HR.out hnl hnr HX0.out (by rw [← HBB.out]; exact Nat.le_add_right _ _))
      have hres : (w4_.setRow (b + 2) #[.slice (some ⟨bl, 0, none⟩) ln ln, .slice (some ⟨br, 0, none⟩) rn rn]).heap[b + 2]? = some (.cells #[.slice (some ⟨bl, 0, none⟩) ln ln, .slice (some ⟨br, 0, none⟩) rn rn] 74 (0, 0)) := setRow_heap _ _ _ _ _ _ hg4
      refine wpList_store_row rfl 74 (.tmp 4) (.tmp 23) rfl (b + 2) _ rfl rfl 74 _ hg4 (eqinfo2 _ _) rfl (one2 _ _ _ _ _ _) ?_
      go_wp2
      exact bodyPost_ret (v := .agg #[.slice (some ⟨bl, 0, none⟩) ln ln, .slice (some ⟨br, 0, none⟩) rn rn]) (results_cell_row rfl _ _ (b + 2) 74 _ (0, 0) _ rfl hres Try.underlying74 rfl (eqinfo2 _ _)) rfl ⟨bl, br, by rw [RM.sum_length, RM.sum_length], HFIN.out⟩
    · skip
      go_simp
      generalize hw : World.alloc _ _ = w5_
      have hx : w1_.Extends w5_ := by subst hw; exact ext_alloc _ _
      have HB0 : Rws w5_ (.slice (some ⟨w1_.heap.size, 0, none⟩) 2 2) [r1, r2] := by subst hw; exact rws_two _ _ _ _ _ _ _ (HV.out.ext (Gr.ext_trans HX2.out HX.out)) (HQ.out.ext (Gr.ext_trans HX2.out HX.out))
      clear hw
      refine hK.out _ _ hx ?_
      clear hK K
      have HA := Lib.hid (HA.out.ext hx)
      have HB := Lib.hid HB0
      clear HB0
      have HX := Lib.hid (Gr.ext_trans HX.out hx)
      clear hx
      refine Gr.Left.one (i := 8) (by kernel_rfl) (by kernel_rfl) (Gr.Step.mk rfl (fun K hK => ?_))
      go_simp
      refine (sum_own ln _ [l1, l2] _ hl HA.out).mono ?_
      rintro e w6_ ⟨bl, he, hx, ho⟩
      rw [RM.sum_length] at he
      subst he
      have HL0 := ho
      clear ho
      try go_simp
      refine hK.out _ _ hx ?_
      clear hK K
      have HA := Lib.hid (HA.out.ext hx)
      have HB := Lib.hid (HB.out.ext hx)
      have HL := Lib.hid HL0
      clear HL0
      have HX := Lib.hid (Gr.ext_trans HX.out hx)
      clear hx
      refine Gr.Left.one (i := 17) (by kernel_rfl) (by kernel_rfl) (Gr.Step.mk rfl (fun K hK => ?_))
      go_simp
      refine (sum_own rn _ [r1, r2] _ hr HB.out).mono ?_
      rintro e w7_ ⟨br, he, hx, ho⟩
      rw [RM.sum_length] at he
      subst he
      have HR0 := ho
      clear ho
      try go_simp
      refine hK.out _ _ hx ?_
      clear hK K
      have HA := Lib.hid (HA.out.ext hx)
      have HB := Lib.hid (HB.out.ext hx)
      have HL := Lib.hid (HL.out.ext hx)
      have HR := Lib.hid HR0
      clear HR0
      have HX := Lib.hid (Gr.ext_trans HX.out hx)
      clear hx
      refine Gr.Left.take (i := 18) rfl (by kernel_rfl) (fun d _ _ _ _ h => by cases d <;> exact h) ?_ (Or.inl ⟨by rfl, ?_⟩) ?_
      rotate_left
      · intro w' hw'
        clear hw'
        go_simp
        try with_reducible rfl
      simp only [Act.put, List.setIfInBounds_toArray, List.set_cons_zero, List.set_cons_succ]
      refine Gr.Left.done (by kernel_rfl) ?_
      simp only [List.drop_succ_cons, List.drop_zero]
      have hg4 := (HX.out.block (b + 2) hbs).trans HG2.out
      have hnl : bl ≠ b + 2 := fun h => own_not HL.out (by decide) (h ▸ hg4)
      have hnr : br ≠ b + 2 := fun h => own_not HR.out (by decide) (h ▸ hg4)
      have HX0 := Lib.hid (Gr.ext_trans HX2.out HX.out)
      have HFIN := Lib.hid (eqn_fin w7_ w b bl br ln rn (RM.sum ln [l1, l2]) (RM.sum rn [r1, r2]) #[.slice (some ⟨bl, 0, none⟩) ln ln, .slice (some ⟨br, 0, none⟩) rn rn] HL.out HR.out hnl hnr HX0.out (by rw [← HBB.out]; exact Nat.le_add_right _ _))
      have hres : (w7_.setRow (b + 2) #[.slice (some ⟨bl, 0, none⟩) ln ln, .slice (some ⟨br, 0, none⟩) rn rn]).heap[b + 2]? = some (.cells #[.slice (some ⟨bl, 0, none⟩) ln ln, .slice (some ⟨br, 0, none⟩) rn rn] 74 (0, 0)) := setRow_heap _ _ _ _ _ _ hg4
      refine wpList_store_row rfl 74 (.tmp 4) (.tmp 23) rfl (b + 2) _ rfl rfl 74 _ hg4 (eqinfo2 _ _) rfl (one2 _ _ _ _ _ _) ?_
      go_wp2
      exact bodyPost_ret (v := .agg #[.slice (some ⟨bl, 0, none⟩) ln ln, .slice (some ⟨br, 0, none⟩) rn rn]) (results_cell_row rfl _ _ (b + 2) 74 _ (0, 0) _ rfl hres Try.underlying74 rfl (eqinfo2 _ _)) rfl ⟨bl, br, by rw [RM.sum_length, RM.sum_length], HFIN.out⟩
  · skip
    go_simp
    generalize hw : World.alloc _ _ = w8_
    have hx : wd.Extends w8_ := by subst hw; exact ext_alloc _ _
    have HB0 : Rws w8_ (.slice (some ⟨wd.heap.size, 0, none⟩) 2 2) [r1, r2] := by subst hw; exact rws_two _ _ _ _ _ _ _ (HV.out.ext (Gr.ext_trans HX2.out HX.out)) (HQ.out.ext (Gr.ext_trans HX2.out HX.out))
    clear hw
    refine hK.out _ _ hx ?_
    clear hK K
    have HB := Lib.hid HB0
    clear HB0
    have HX := Lib.hid (Gr.ext_trans HX.out hx)
    clear hx
    refine Gr.Left.one (i := 7) (by kernel_rfl) (by kernel_rfl) (Gr.Step.mk rfl (fun K hK => ?_))
    go_simp
    generalize hw : World.alloc _ _ = w9_
    have hx : w8_.Extends w9_ := by subst hw; exact ext_alloc _ _
    have HA0 : Rws w9_ (.slice (some ⟨w8_.heap.size, 0, none⟩) 2 2) [l1, l2] := by subst hw; exact rws_two _ _ _ _ _ _ _ (HU.out.ext (Gr.ext_trans HX2.out HX.out)) (HP.out.ext (Gr.ext_trans HX2.out HX.out))
    clear hw
    refine hK.out _ _ hx ?_
    clear hK K
    have HB := Lib.hid (HB.out.ext hx)
    have HA := Lib.hid HA0
    clear HA0
    have HX := Lib.hid (Gr.ext_trans HX.out hx)
    clear hx
    refine Gr.Left.one (i := 8) (by kernel_rfl) (by kernel_rfl) (Gr.Step.mk rfl (fun K hK => ?_))
    go_simp
    refine (sum_own ln _ [l1, l2] _ hl HA.out).mono ?_
    rintro e w10_ ⟨bl, he, hx, ho⟩
    rw [RM.sum_length] at he
    subst he
    have HL0 := ho
    clear ho
    try go_simp
    refine hK.out _ _ hx ?_
    clear hK K
    have HB := Lib.hid (HB.out.ext hx)
    have HA := Lib.hid (HA.out.ext hx)
    have HL := Lib.hid HL0
    clear HL0
    have HX := Lib.hid (Gr.ext_trans HX.out hx)
    clear hx
    refine Gr.Left.one (i := 17) (by kernel_rfl) (by kernel_rfl) (Gr.Step.mk rfl (fun K hK => ?_))
    go_simp
    refine (sum_own rn _ [r1, r2] _ hr HB.out).mono ?_
    rintro e w11_ ⟨br, he, hx, ho⟩
    rw [RM.sum_length] at he
    subst he
    have HR0 := ho
    clear ho
    try go_simp
    refine hK.out _ _ hx ?_
    clear hK K
    have HB := Lib.hid (HB.out.ext hx)
    have HA := Lib.hid (HA.out.ext hx)
    have HL := Lib.hid (HL.out.ext hx)
    have HR := Lib.hid HR0
    clear HR0
    have HX := Lib.hid (Gr.ext_trans HX.out hx)
    clear hx
    refine Gr.Left.take (i := 18) rfl (by kernel_rfl) (fun d _ _ _ _ h => by cases d <;> exact h) ?_ (Or.inl ⟨by rfl, ?_⟩) ?_
    rotate_left
    · intro w' hw'
      clear hw'
      go_simp
      try with_reducible rfl
    simp only [Act.put, List.setIfInBounds_toArray, List.set_cons_zero, List.set_cons_succ]
    refine Gr.Left.done (by kernel_rfl) ?_
    simp only [List.drop_succ_cons, List.drop_zero]
    have hg4 := (HX.out.block (b + 2) hbs).trans HG2.out
    have hnl : bl ≠ b + 2 := fun h => own_not HL.out (by decide) (h ▸ hg4)
    have hnr : br ≠ b + 2 := fun h => own_not HR.out (by decide) (h ▸ hg4)
    have HX0 := Lib.hid (Gr.ext_trans HX2.out HX.out)
    have HFIN := Lib.hid (eqn_fin w11_ w b bl br ln rn (RM.sum ln [l1, l2]) (RM.sum rn [r1, r2]) #[.slice (some ⟨bl, 0, none⟩) ln ln, .slice (some ⟨br, 0, none⟩) rn rn] HL.out HR.out hnl hnr HX0.out (by rw [← HBB.out]; exact Nat.le_add_right _ _))
    have hres : (w11_.setRow (b + 2) #[.slice (some ⟨bl, 0, none⟩) ln ln, .slice (some ⟨br, 0, none⟩) rn rn]).heap[b + 2]? = some (.cells #[.slice (some ⟨bl, 0, none⟩) ln ln, .slice (some ⟨br, 0, none⟩) rn rn] 74 (0, 0)) := setRow_heap _ _ _ _ _ _ hg4
    refine wpList_store_row rfl 74 (.tmp 4) (.tmp 23) rfl (b + 2) _ rfl rfl 74 _ hg4 (eqinfo2 _ _) rfl (one2 _ _ _ _ _ _) ?_
    go_wp2
    exact bodyPost_ret (v := .agg #[.slice (some ⟨bl, 0, none⟩) ln ln, .slice (some ⟨br, 0, none⟩) rn rn]) (results_cell_row rfl _ _ (b + 2) 74 _ (0, 0) _ rfl hres Try.underlying74 rfl (eqinfo2 _ _)) rfl ⟨bl, br, by rw [RM.sum_length, RM.sum_length], HFIN.out⟩
end Go.Proofs.Ytkpgdgmjeoogdaa
