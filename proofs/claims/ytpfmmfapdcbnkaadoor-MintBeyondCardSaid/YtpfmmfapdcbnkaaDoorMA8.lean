/- In one text: Take1. -/
import Derived.Deep.DeepCutAuto
import Derived.Test.YtpfmmfapdcbnkaaDoorMA6
import Derived.Test.YtpfmmfapdcbnkaaDoorMA7
namespace Go.Proofs.YtpfmmfapdcbnkaaDoor
set_option maxRecDepth 20000
open Go.RowKit
set_option linter.unusedVariables false
/-- What the two cells of an equation hold. -/
def eqCells (bl br W S : Nat) (i : Nat) : Value := if i = 0 then .slice (some ⟨bl, 0, none⟩) W W else .slice (some ⟨br, 0, none⟩) S S
/-- A variable that holds an equation. -/
structure EqVar (w : World) (be bl br W S : Nat) (l x : List Nat) : Prop where
  cells : w.rowIs be 121 2 (eqCells bl br W S)
  left : Own w bl 5 l
  right : Own w br 5 x
  ll : l.length = W
  xl : x.length = S
theorem EqVar.ext {w w' : World} {be bl br W S : Nat} {l x : List Nat} (h : EqVar w be bl br W S l x) (hx : w.Extends w') : EqVar w' be bl br W S l x :=
  ⟨h.cells.of_block (hx.block _ h.cells.lt), h.left.ext hx, h.right.ext hx, h.ll, h.xl⟩
theorem one_cells (w : World) (T : TypeId) (u v : Value) : (w.alloc (.cells #[u, v] T)).cell? ⟨w.heap.size, 0, none⟩ = some u ∧ (w.alloc (.cells #[u, v] T)).cell? ⟨w.heap.size, 1, none⟩ = some v := by
  have h := (heap_alloc_new w (.cells #[u, v] T))
  exact ⟨by rw [cell_of_row _ _ _ _ _ _ h]; rfl, by rw [cell_of_row _ _ _ _ _ _ h]; rfl⟩
theorem grown_ext {a b : World} {r : Option Nat} (h : a.Extends b) : a.grownBy b r := ⟨h.os, h.tape, h.output, h.size, fun i hi _ => h.block i hi⟩
theorem grown_setRowT {a b : World} {g : Nat} (h : a.grownBy b (some g)) (cs : Array Value) : a.grownBy (b.setRow g cs) (some g) :=
  ⟨h.os, h.tape, h.output, by simpa using h.size, fun k hk hr => (setRow_other b g k cs (fun e => hr (by rw [e]))).trans (h.block k hk hr)⟩
theorem take_put {w : World} {p g W S r k : Nat} {st : Nat → Option LA.Eqn} {u v : Value} {s : LA.Eqn} (h : Sys w p g W S r st) (hk : k < W) (he : EqAt w W S u v s) :
    Sys (((w.setCell ⟨g, k * 2, none⟩ u).setCell ⟨g, k * 2 + 1, none⟩ v).setCell ⟨p, 2, none⟩ (.int .i64 ((r : Int) + 1))) p g W S (r + 1) (LA.upd st k s) := by
  obtain ⟨hp, hg, hpg⟩ := h.pg
  obtain ⟨vs, hvs, hst⟩ := h.steps
  have hne : ∀ b, b ≠ p → b ≠ g → (((w.setCell ⟨g, k * 2, none⟩ u).setCell ⟨g, k * 2 + 1, none⟩ v).setCell ⟨p, 2, none⟩ (.int .i64 ((r : Int) + 1))).heap[b]? = w.heap[b]? := fun b h1 h2 => by
    rw [Below.heap_setCell _ ⟨p, 2, none⟩ _ b h1, Below.heap_setCell _ ⟨g, k * 2 + 1, none⟩ _ b h2, Below.heap_setCell _ ⟨g, k * 2, none⟩ _ b h2]
  obtain ⟨cp, hcp, _⟩ := h.head
  obtain ⟨cg, hcg, _⟩ := id hvs
  have hbl : ∀ b, b < w.heap.size → (∀ cs T, w.heap[b]? = some (.cells cs T (0, 0)) → T = 5) → (((w.setCell ⟨g, k * 2, none⟩ u).setCell ⟨g, k * 2 + 1, none⟩ v).setCell ⟨p, 2, none⟩ (.int .i64 ((r : Int) + 1))).heap[b]? = w.heap[b]? := fun b hb hT =>
    hne b (fun e => by subst e; exact absurd (hT _ _ hcp) (by decide)) (fun e => by subst e; exact absurd (hT _ _ hcg) (by decide))
  have hhead := ((h.head.setOther (a := ⟨g, k * 2, none⟩) hpg u).setOther (a := ⟨g, k * 2 + 1, none⟩) hpg v).set 2 (.int .i64 ((r : Int) + 1))
  have hrow := ((hvs.set (k * 2) u).set (k * 2 + 1) v).setOther (a := ⟨p, 2, none⟩) (Ne.symm hpg) (.int .i64 ((r : Int) + 1))
  refine ⟨hhead.congr fun i hi => ?_, ⟨_, hrow, fun c hc => ?_⟩, h.hW, h.hS⟩
  · match i, hi with
    | 0, _ => rfl
    | 1, _ => rfl
    | 2, _ => rfl
  · unfold LA.upd
    by_cases hck : c = k
    · subst hck
      rw [if_pos rfl]
      show EqAt _ W S (if c * 2 = c * 2 + 1 then v else if c * 2 = c * 2 then u else vs (c * 2)) (if c * 2 + 1 = c * 2 + 1 then v else if c * 2 + 1 = c * 2 then u else vs (c * 2 + 1)) s
      rw [if_neg (by omega), if_pos rfl, if_pos rfl]
      exact he.block hbl
    · rw [if_neg hck]
      have h1 := (hst c hc).block hbl
      cases hs : st c with
      | none =>
        rw [hs] at h1
        exact ⟨by show (if c * 2 = k * 2 + 1 then v else if c * 2 = k * 2 then u else vs (c * 2)) = _; rw [if_neg (by omega), if_neg (by omega)]; exact h1.1, by show (if c * 2 + 1 = k * 2 + 1 then v else if c * 2 + 1 = k * 2 then u else vs (c * 2 + 1)) = _; rw [if_neg (by omega), if_neg (by omega)]; exact h1.2⟩
      | some q =>
        rw [hs] at h1
        show EqAt _ W S (if c * 2 = k * 2 + 1 then v else if c * 2 = k * 2 then u else vs (c * 2)) (if c * 2 + 1 = k * 2 + 1 then v else if c * 2 + 1 = k * 2 then u else vs (c * 2 + 1)) q
        rw [if_neg (by omega), if_neg (by omega), if_neg (by omega), if_neg (by omega)]
        exact h1
theorem eqcells_set {w : World} {be : Nat} {cs : Array Value} (bl br W S : Nat) (h : w.heap[be]? = some (.cells cs 121 (0, 0))) :
    (w.setRow be #[.slice (some ⟨bl, 0, none⟩) W W, .slice (some ⟨br, 0, none⟩) S S]).rowIs be 121 2 (eqCells bl br W S) :=
  ⟨_, setRow_heap _ _ _ _ _ _ h, rfl, fun i hi => by
    match i, hi with
    | 0, _ => rfl
    | 1, _ => rfl⟩
theorem take_mid (w w4 : World) (be bl br W S : Nat) (xs ys : List Nat) (hbl : w.heap.size ≤ be) (hE : w4.heap[be]? = some (.cells #[nilS, nilS] 121 (0, 0))) (hl : Own w4 bl 5 (RM.sum W [xs])) (hr : Own w4 br 5 (RM.sum S [ys])) (hx : w.Extends w4) :
    EqVar (w4.setRow be #[.slice (some ⟨bl, 0, none⟩) W W, .slice (some ⟨br, 0, none⟩) S S]) be bl br W S (RM.sum W [xs]) (RM.sum S [ys]) ∧ w.Extends (w4.setRow be #[.slice (some ⟨bl, 0, none⟩) W W, .slice (some ⟨br, 0, none⟩) S S]) ∧ w.heap.size ≤ be :=
  ⟨⟨eqcells_set bl br W S hE, hl.block (setRow_other _ _ _ _ fun e => own_not hl (by decide) (e ▸ hE)), hr.block (setRow_other _ _ _ _ fun e => own_not hr (by decide) (e ▸ hE)), RM.sum_length _ _, RM.sum_length _ _⟩,
    Gr.ext_of ((Gr.below_of hx).trans ⟨rfl, rfl, rfl, by simp, fun i hi => setRow_other _ _ i _ (by omega)⟩), hbl⟩
def TakeMid (w : World) (W S : Nat) (xs ys : List Nat) (s7 : Value) (wx : World) : Prop :=
  ∃ be bl br, s7 = .pointer (some ⟨be, 0, none⟩) ∧ EqVar wx be bl br W S (RM.sum W [xs]) (RM.sum S [ys]) ∧ w.Extends wx ∧ w.heap.size ≤ be
/-- What take does: a new step, or nothing; and what it tells. -/
def TakeOut (w : World) (p g W S r : Nat) (st : Nat → Option LA.Eqn) (e0 : LA.Eqn) (e : Ending) (w' : World) : Prop :=
  ((∃ (k : Nat) (s : LA.Eqn), k < W ∧ st k = none ∧ LA.Red W S st e0 s k ∧ s.1.getD k 0 ≠ 0 ∧ e = .returned (.bool true) ∧ Sys w' p g W S (r + 1) (LA.upd st k (RM.scale (FM.inv (s.1.getD k 0)) s.1, RM.scale (FM.inv (s.1.getD k 0)) s.2))) ∨
    ∃ s : LA.Eqn, LA.Red W S st e0 s W ∧ e = .returned (.bool (allZ s.2)) ∧ Sys w' p g W S r st) ∧
  ∀ B, B ≤ p → B ≤ g → B ≤ w.heap.size → Below B w w'
set_option maxHeartbeats 8000000 in
set_option maxRecDepth 100000 in
theorem take_any (p g W S r : Nat) (st : Nat → Option (List Nat × List Nat)) (u v : Value) (xs ys : List Nat) (w : World) (hs : Sys w p g W S r st) (hgood : LA.Good W S st) (hr : r ≤ 300) (hu : U8s w u xs) (hv : U8s w v ys) :
    Calls Tryd.prog 53 #[.pointer (some ⟨p, 0, none⟩), u, v] w (TakeOut w p g W S r st (RM.sum W [xs], RM.sum S [ys])) := by
  obtain ⟨hc0, hc1, hc2⟩ := hs.cells
  have hW := hs.hW
  have hS := hs.hS
  have HGOOD := Lib.hid hgood; clear hgood
  have HU := Lib.hid hu
  have HV := Lib.hid hv
  obtain ⟨ua, uc, rfl, _, _⟩ := hu.slice
  obtain ⟨va, vc, rfl, _, _⟩ := hv.slice
  clear hu hv
  generalize hxn : xs.length = xn at *
  generalize hyn : ys.length = yn at *
  have HXN := Lib.hid hxn; clear hxn
  have HYN := Lib.hid hyn; clear hyn
  have HL1 : Hid (∀ w', w.Extends w' → w'.cell? ⟨p, 0, none⟩ = some (.int .i64 S)) := fun w' hw' => hw'.cell_of hc0
  have HL2 : Hid (∀ w', w.Extends w' → w'.cell? ⟨p, 1, none⟩ = some (.slice (some ⟨g, 0, none⟩) W W)) := fun w' hw' => hw'.cell_of hc1
  have HSY := Lib.hid hs
  have HD0 := Lib.hid (LA.dim_cut W S (xs, ys) HU.out.lt HV.out.lt)
  clear hs hc0 hc1 hc2
  go_enter Tryd.func53, Tryd.ntmps53
  go_upto_region 1 with fail
  go_cut [7] (fun s7 wx => TakeMid w W S xs ys s7 wx)
  case first =>
    refine Gr.regionE 17 6 [(false,0),(false,1),(false,2),(false,3),(false,4),(false,5),(false,8),(false,9),(false,10),(false,11),(false,12)] (by kernel_rfl) (by kernel_rfl) (fun d _ _ _ _ h => by cases d <;> exact h) ?_
    simp only [Gr.pick, List.getElem?_cons_zero, List.getElem?_cons_succ]
    obtain ⟨wd, hwd⟩ : ∃ x, x = w.drew := ⟨_, rfl⟩
    have hT : ∀ {w'}, wd.Extends w' → w.Extends w' := fun h => Gr.of_drew (hwd ▸ h)
    have HX2 : Hid (w.Extends wd) := hwd ▸ Gr.ext_drew (Gr.ext_refl w)
    rw [← hwd]
    clear hwd
    iterate 11
      refine Gr.walkE_t ?_ (Or.inl ⟨by rfl, ?_⟩) ?_
      rotate_left
      · intro w' hw'
        have hc1 := HL1.out w' (hT hw')
        have hc2 := HL2.out w' (hT hw')
        clear hw'
        go_simp
        try with_reducible rfl
      simp only [Act.put, List.setIfInBounds_toArray, List.set_cons_zero, List.set_cons_succ]
    refine Gr.walkE_nil ?_
    have HX := Lib.hid (Gr.ext_refl wd)
    clear hT HL1 HL2
    refine Gr.Left.three (i := 6) (j := 13) (k := 16) (by kernel_rfl) (by kernel_rfl) (Gr.Step.mk rfl (fun K hK => ?_)) (Gr.Step.mk rfl (fun K hK => ?_)) (Gr.Step.mk rfl (fun K hK => ?_))
    · skip
      go_simp
      generalize hw : World.alloc _ _ = w1_
      have hx : wd.Extends w1_ := by subst hw; exact ext_alloc _ _
      have HA0 : Rws w1_ (.slice (some ⟨wd.heap.size, 0, none⟩) 1 1) [xs] := by subst hw; exact rws_one _ _ _ _ _ (HU.out.ext (Gr.ext_trans HX2.out HX.out))
      clear hw
      refine hK.out _ _ hx ?_
      clear hK K
      have HA := Lib.hid HA0
      clear HA0
      have HX := Lib.hid (Gr.ext_trans HX.out hx)
      clear hx
      refine Gr.Left.three (i := 7) (j := 13) (k := 16) (by kernel_rfl) (by kernel_rfl) (Gr.Step.mk rfl (fun K hK => ?_)) (Gr.Step.mk rfl (fun K hK => ?_)) (Gr.Step.mk rfl (fun K hK => ?_))
      · skip
        go_simp
        refine (sum_own W _ [xs] _ (by omega) HA.out).mono ?_
        rintro e w2_ ⟨bl, he, hx, ho⟩
        rw [RM.sum_length] at he
        subst he
        have HL0 := ho
        clear ho
        try go_simp
        refine hK.out _ _ hx ?_
        clear hK K
        have HA := Lib.hid (HA.out.ext hx)
        have HL := Lib.hid HL0
        clear HL0
        have HX := Lib.hid (Gr.ext_trans HX.out hx)
        clear hx
        refine Gr.Left.two (i := 13) (j := 16) (by kernel_rfl) (by kernel_rfl) (Gr.Step.mk rfl (fun K hK => ?_)) (Gr.Step.mk rfl (fun K hK => ?_))
        · skip
          go_simp
          generalize hw : World.alloc _ _ = w3_
          have hx : w2_.Extends w3_ := by subst hw; exact ext_alloc _ _
          have HB0 : Rws w3_ (.slice (some ⟨w2_.heap.size, 0, none⟩) 1 1) [ys] := by subst hw; exact rws_one _ _ _ _ _ (HV.out.ext (Gr.ext_trans HX2.out HX.out))
          clear hw
          refine hK.out _ _ hx ?_
          clear hK K
          have HA := Lib.hid (HA.out.ext hx)
          have HL := Lib.hid (HL.out.ext hx)
          have HB := Lib.hid HB0
          clear HB0
          have HX := Lib.hid (Gr.ext_trans HX.out hx)
          clear hx
          refine Gr.Left.two (i := 14) (j := 16) (by kernel_rfl) (by kernel_rfl) (Gr.Step.mk rfl (fun K hK => ?_)) (Gr.Step.mk rfl (fun K hK => ?_))
          · skip
            go_simp
            refine (sum_own S _ [ys] _ hS HB.out).mono ?_
            rintro e w4_ ⟨br, he, hx, ho⟩
            rw [RM.sum_length] at he
            subst he
            have HR0 := ho
            clear ho
            try go_simp
            refine hK.out _ _ hx ?_
            clear hK K
            have HA := Lib.hid (HA.out.ext hx)
            have HL := Lib.hid (HL.out.ext hx)
            have HB := Lib.hid (HB.out.ext hx)
            have HR := Lib.hid HR0
            clear HR0
            have HX := Lib.hid (Gr.ext_trans HX.out hx)
            clear hx
            refine Gr.Left.take (i := 15) rfl (by kernel_rfl) (fun d _ _ _ _ h => by cases d <;> exact h) ?_ (Or.inl ⟨by rfl, ?_⟩) ?_
            rotate_left
            · intro w' hw'
              clear hw'
              go_simp
              try with_reducible rfl
            simp only [Act.put, List.setIfInBounds_toArray, List.set_cons_zero, List.set_cons_succ]
            refine Gr.Left.one (i := 16) (by kernel_rfl) (by kernel_rfl) (Gr.Step.mk rfl (fun K hK => ?_))
            go_simp
            generalize hw : World.alloc _ _ = w5_
            have hx : w4_.Extends w5_ := by subst hw; exact ext_alloc _ _
            have HE0 : w4_.heap.size < w5_.heap.size ∧ w5_.heap[w4_.heap.size]? = some (.cells #[nilS, nilS] 121 (0, 0)) := by subst hw; exact ⟨by simp, heap_alloc_new _ _⟩
            clear hw
            obtain ⟨be, hbe⟩ : ∃ x, x = w4_.heap.size := ⟨_, rfl⟩
            rw [← hbe] at HE0 ⊢
            have hbl : w.heap.size ≤ be := by rw [hbe]; exact (Gr.ext_trans HX2.out HX.out).size
            clear hbe
            refine hK.out _ _ hx ?_
            clear hK K
            have HA := Lib.hid (HA.out.ext hx)
            have HL := Lib.hid (HL.out.ext hx)
            have HB := Lib.hid (HB.out.ext hx)
            have HR := Lib.hid (HR.out.ext hx)
            have HE := Lib.hid HE0
            clear HE0
            have HX := Lib.hid (Gr.ext_trans HX.out hx)
            clear hx
            refine Gr.Left.done (by kernel_rfl) ?_
            simp only [List.drop_succ_cons, List.drop_zero]
            have HF := Lib.hid (take_mid w w5_ be bl br W S xs ys hbl HE.out.2 HL.out HR.out (Gr.ext_trans HX2.out HX.out))
            refine wpList_store_row rfl 121 (.tmp 7) (.tmp 26) rfl be _ rfl rfl 121 _ HE.out.2 (eqinfo2 _ _) rfl (one2 _ _ _ _ _ _) ?_
            go_wp2_with fail
            go_meet
            exact ⟨be, bl, br, rfl, HF.out⟩
          · skip
            go_simp
            generalize hw : World.alloc _ _ = w6_
            have hx : w3_.Extends w6_ := by subst hw; exact ext_alloc _ _
            have HE0 : w3_.heap.size < w6_.heap.size ∧ w6_.heap[w3_.heap.size]? = some (.cells #[nilS, nilS] 121 (0, 0)) := by subst hw; exact ⟨by simp, heap_alloc_new _ _⟩
            clear hw
            obtain ⟨be, hbe⟩ : ∃ x, x = w3_.heap.size := ⟨_, rfl⟩
            rw [← hbe] at HE0 ⊢
            have hbl : w.heap.size ≤ be := by rw [hbe]; exact (Gr.ext_trans HX2.out HX.out).size
            clear hbe
            refine hK.out _ _ hx ?_
            clear hK K
            have HA := Lib.hid (HA.out.ext hx)
            have HL := Lib.hid (HL.out.ext hx)
            have HB := Lib.hid (HB.out.ext hx)
            have HE := Lib.hid HE0
            clear HE0
            have HX := Lib.hid (Gr.ext_trans HX.out hx)
            clear hx
            refine Gr.Left.one (i := 14) (by kernel_rfl) (by kernel_rfl) (Gr.Step.mk rfl (fun K hK => ?_))
            go_simp
            refine (sum_own S _ [ys] _ hS HB.out).mono ?_
            rintro e w7_ ⟨br, he, hx, ho⟩
            rw [RM.sum_length] at he
            subst he
            have HR0 := ho
            clear ho
            try go_simp
            refine hK.out _ _ hx ?_
            clear hK K
            have HA := Lib.hid (HA.out.ext hx)
            have HL := Lib.hid (HL.out.ext hx)
            have HB := Lib.hid (HB.out.ext hx)
            have HE := Lib.hid (And.intro (Nat.lt_of_lt_of_le HE.out.1 (hx).size) (((hx).block _ HE.out.1).trans HE.out.2))
            have HR := Lib.hid HR0
            clear HR0
            have HX := Lib.hid (Gr.ext_trans HX.out hx)
            clear hx
            refine Gr.Left.take (i := 15) rfl (by kernel_rfl) (fun d _ _ _ _ h => by cases d <;> exact h) ?_ (Or.inl ⟨by rfl, ?_⟩) ?_
            rotate_left
            · intro w' hw'
              clear hw'
              go_simp
              try with_reducible rfl
            simp only [Act.put, List.setIfInBounds_toArray, List.set_cons_zero, List.set_cons_succ]
            refine Gr.Left.done (by kernel_rfl) ?_
            simp only [List.drop_succ_cons, List.drop_zero]
            have HF := Lib.hid (take_mid w w7_ be bl br W S xs ys hbl HE.out.2 HL.out HR.out (Gr.ext_trans HX2.out HX.out))
            refine wpList_store_row rfl 121 (.tmp 7) (.tmp 26) rfl be _ rfl rfl 121 _ HE.out.2 (eqinfo2 _ _) rfl (one2 _ _ _ _ _ _) ?_
            go_wp2_with fail
            go_meet
            exact ⟨be, bl, br, rfl, HF.out⟩
        · skip
          go_simp
          generalize hw : World.alloc _ _ = w8_
          have hx : w2_.Extends w8_ := by subst hw; exact ext_alloc _ _
          have HE0 : w2_.heap.size < w8_.heap.size ∧ w8_.heap[w2_.heap.size]? = some (.cells #[nilS, nilS] 121 (0, 0)) := by subst hw; exact ⟨by simp, heap_alloc_new _ _⟩
          clear hw
          obtain ⟨be, hbe⟩ : ∃ x, x = w2_.heap.size := ⟨_, rfl⟩
          rw [← hbe] at HE0 ⊢
          have hbl : w.heap.size ≤ be := by rw [hbe]; exact (Gr.ext_trans HX2.out HX.out).size
          clear hbe
          refine hK.out _ _ hx ?_
          clear hK K
          have HA := Lib.hid (HA.out.ext hx)
          have HL := Lib.hid (HL.out.ext hx)
          have HE := Lib.hid HE0
          clear HE0
          have HX := Lib.hid (Gr.ext_trans HX.out hx)
          clear hx
          refine Gr.Left.one (i := 13) (by kernel_rfl) (by kernel_rfl) (Gr.Step.mk rfl (fun K hK => ?_))
          go_simp
          generalize hw : World.alloc _ _ = w9_
          have hx : w8_.Extends w9_ := by subst hw; exact ext_alloc _ _
          have HB0 : Rws w9_ (.slice (some ⟨w8_.heap.size, 0, none⟩) 1 1) [ys] := by subst hw; exact rws_one _ _ _ _ _ (HV.out.ext (Gr.ext_trans HX2.out HX.out))
          clear hw
          refine hK.out _ _ hx ?_
          clear hK K
          have HA := Lib.hid (HA.out.ext hx)
          have HL := Lib.hid (HL.out.ext hx)
          have HE := Lib.hid (And.intro (Nat.lt_of_lt_of_le HE.out.1 (hx).size) (((hx).block _ HE.out.1).trans HE.out.2))
          have HB := Lib.hid HB0
          clear HB0
          have HX := Lib.hid (Gr.ext_trans HX.out hx)
          clear hx
          refine Gr.Left.one (i := 14) (by kernel_rfl) (by kernel_rfl) (Gr.Step.mk rfl (fun K hK => ?_))
          go_simp
          refine (sum_own S _ [ys] _ hS HB.out).mono ?_
          rintro e w10_ ⟨br, he, hx, ho⟩
          rw [RM.sum_length] at he
          subst he
          have HR0 := ho
          clear ho
          try go_simp
          refine hK.out _ _ hx ?_
          clear hK K
          have HA := Lib.hid (HA.out.ext hx)
          have HL := Lib.hid (HL.out.ext hx)
          have HE := Lib.hid (And.intro (Nat.lt_of_lt_of_le HE.out.1 (hx).size) (((hx).block _ HE.out.1).trans HE.out.2))
          have HB := Lib.hid (HB.out.ext hx)
          have HR := Lib.hid HR0
          clear HR0
          have HX := Lib.hid (Gr.ext_trans HX.out hx)
          clear hx
          refine Gr.Left.take (i := 15) rfl (by kernel_rfl) (fun d _ _ _ _ h => by cases d <;> exact h) ?_ (Or.inl ⟨by rfl, ?_⟩) ?_
          rotate_left
          · intro w' hw'
            clear hw'
            go_simp
            try with_reducible rfl
          simp only [Act.put, List.setIfInBounds_toArray, List.set_cons_zero, List.set_cons_succ]
          refine Gr.Left.done (by kernel_rfl) ?_
          simp only [List.drop_succ_cons, List.drop_zero]
          have HF := Lib.hid (take_mid w w10_ be bl br W S xs ys hbl HE.out.2 HL.out HR.out (Gr.ext_trans HX2.out HX.out))
          refine wpList_store_row rfl 121 (.tmp 7) (.tmp 26) rfl be _ rfl rfl 121 _ HE.out.2 (eqinfo2 _ _) rfl (one2 _ _ _ _ _ _) ?_
          go_wp2_with fail
          go_meet
          exact ⟨be, bl, br, rfl, HF.out⟩
      · skip
        go_simp
        generalize hw : World.alloc _ _ = w11_
        have hx : w1_.Extends w11_ := by subst hw; exact ext_alloc _ _
        have HB0 : Rws w11_ (.slice (some ⟨w1_.heap.size, 0, none⟩) 1 1) [ys] := by subst hw; exact rws_one _ _ _ _ _ (HV.out.ext (Gr.ext_trans HX2.out HX.out))
        clear hw
        refine hK.out _ _ hx ?_
        clear hK K
        have HA := Lib.hid (HA.out.ext hx)
        have HB := Lib.hid HB0
        clear HB0
        have HX := Lib.hid (Gr.ext_trans HX.out hx)
        clear hx
        refine Gr.Left.two (i := 7) (j := 16) (by kernel_rfl) (by kernel_rfl) (Gr.Step.mk rfl (fun K hK => ?_)) (Gr.Step.mk rfl (fun K hK => ?_))
        · skip
          go_simp
          refine (sum_own W _ [xs] _ (by omega) HA.out).mono ?_
          rintro e w12_ ⟨bl, he, hx, ho⟩
          rw [RM.sum_length] at he
          subst he
          have HL0 := ho
          clear ho
          try go_simp
          refine hK.out _ _ hx ?_
          clear hK K
          have HA := Lib.hid (HA.out.ext hx)
          have HB := Lib.hid (HB.out.ext hx)
          have HL := Lib.hid HL0
          clear HL0
          have HX := Lib.hid (Gr.ext_trans HX.out hx)
          clear hx
          refine Gr.Left.two (i := 14) (j := 16) (by kernel_rfl) (by kernel_rfl) (Gr.Step.mk rfl (fun K hK => ?_)) (Gr.Step.mk rfl (fun K hK => ?_))
          · skip
            go_simp
            refine (sum_own S _ [ys] _ hS HB.out).mono ?_
            rintro e w13_ ⟨br, he, hx, ho⟩
            rw [RM.sum_length] at he
            subst he
            have HR0 := ho
            clear ho
            try go_simp
            refine hK.out _ _ hx ?_
            clear hK K
            have HA := Lib.hid (HA.out.ext hx)
            have HB := Lib.hid (HB.out.ext hx)
            have HL := Lib.hid (HL.out.ext hx)
            have HR := Lib.hid HR0
            clear HR0
            have HX := Lib.hid (Gr.ext_trans HX.out hx)
            clear hx
            refine Gr.Left.take (i := 15) rfl (by kernel_rfl) (fun d _ _ _ _ h => by cases d <;> exact h) ?_ (Or.inl ⟨by rfl, ?_⟩) ?_
            rotate_left
            · intro w' hw'
              clear hw'
              go_simp
              try with_reducible rfl
            simp only [Act.put, List.setIfInBounds_toArray, List.set_cons_zero, List.set_cons_succ]
            refine Gr.Left.one (i := 16) (by kernel_rfl) (by kernel_rfl) (Gr.Step.mk rfl (fun K hK => ?_))
            go_simp
            generalize hw : World.alloc _ _ = w14_
            have hx : w13_.Extends w14_ := by subst hw; exact ext_alloc _ _
            have HE0 : w13_.heap.size < w14_.heap.size ∧ w14_.heap[w13_.heap.size]? = some (.cells #[nilS, nilS] 121 (0, 0)) := by subst hw; exact ⟨by simp, heap_alloc_new _ _⟩
            clear hw
            obtain ⟨be, hbe⟩ : ∃ x, x = w13_.heap.size := ⟨_, rfl⟩
            rw [← hbe] at HE0 ⊢
            have hbl : w.heap.size ≤ be := by rw [hbe]; exact (Gr.ext_trans HX2.out HX.out).size
            clear hbe
            refine hK.out _ _ hx ?_
            clear hK K
            have HA := Lib.hid (HA.out.ext hx)
            have HB := Lib.hid (HB.out.ext hx)
            have HL := Lib.hid (HL.out.ext hx)
            have HR := Lib.hid (HR.out.ext hx)
            have HE := Lib.hid HE0
            clear HE0
            have HX := Lib.hid (Gr.ext_trans HX.out hx)
            clear hx
            refine Gr.Left.done (by kernel_rfl) ?_
            simp only [List.drop_succ_cons, List.drop_zero]
            have HF := Lib.hid (take_mid w w14_ be bl br W S xs ys hbl HE.out.2 HL.out HR.out (Gr.ext_trans HX2.out HX.out))
            refine wpList_store_row rfl 121 (.tmp 7) (.tmp 26) rfl be _ rfl rfl 121 _ HE.out.2 (eqinfo2 _ _) rfl (one2 _ _ _ _ _ _) ?_
            go_wp2_with fail
            go_meet
            exact ⟨be, bl, br, rfl, HF.out⟩
          · skip
            go_simp
            generalize hw : World.alloc _ _ = w15_
            have hx : w12_.Extends w15_ := by subst hw; exact ext_alloc _ _
            have HE0 : w12_.heap.size < w15_.heap.size ∧ w15_.heap[w12_.heap.size]? = some (.cells #[nilS, nilS] 121 (0, 0)) := by subst hw; exact ⟨by simp, heap_alloc_new _ _⟩
            clear hw
            obtain ⟨be, hbe⟩ : ∃ x, x = w12_.heap.size := ⟨_, rfl⟩
            rw [← hbe] at HE0 ⊢
            have hbl : w.heap.size ≤ be := by rw [hbe]; exact (Gr.ext_trans HX2.out HX.out).size
            clear hbe
            refine hK.out _ _ hx ?_
            clear hK K
            have HA := Lib.hid (HA.out.ext hx)
            have HB := Lib.hid (HB.out.ext hx)
            have HL := Lib.hid (HL.out.ext hx)
            have HE := Lib.hid HE0
            clear HE0
            have HX := Lib.hid (Gr.ext_trans HX.out hx)
            clear hx
            refine Gr.Left.one (i := 14) (by kernel_rfl) (by kernel_rfl) (Gr.Step.mk rfl (fun K hK => ?_))
            go_simp
            refine (sum_own S _ [ys] _ hS HB.out).mono ?_
            rintro e w16_ ⟨br, he, hx, ho⟩
            rw [RM.sum_length] at he
            subst he
            have HR0 := ho
            clear ho
            try go_simp
            refine hK.out _ _ hx ?_
            clear hK K
            have HA := Lib.hid (HA.out.ext hx)
            have HB := Lib.hid (HB.out.ext hx)
            have HL := Lib.hid (HL.out.ext hx)
            have HE := Lib.hid (And.intro (Nat.lt_of_lt_of_le HE.out.1 (hx).size) (((hx).block _ HE.out.1).trans HE.out.2))
            have HR := Lib.hid HR0
            clear HR0
            have HX := Lib.hid (Gr.ext_trans HX.out hx)
            clear hx
            refine Gr.Left.take (i := 15) rfl (by kernel_rfl) (fun d _ _ _ _ h => by cases d <;> exact h) ?_ (Or.inl ⟨by rfl, ?_⟩) ?_
            rotate_left
            · intro w' hw'
              clear hw'
              go_simp
              try with_reducible rfl
            simp only [Act.put, List.setIfInBounds_toArray, List.set_cons_zero, List.set_cons_succ]
            refine Gr.Left.done (by kernel_rfl) ?_
            simp only [List.drop_succ_cons, List.drop_zero]
            have HF := Lib.hid (take_mid w w16_ be bl br W S xs ys hbl HE.out.2 HL.out HR.out (Gr.ext_trans HX2.out HX.out))
            refine wpList_store_row rfl 121 (.tmp 7) (.tmp 26) rfl be _ rfl rfl 121 _ HE.out.2 (eqinfo2 _ _) rfl (one2 _ _ _ _ _ _) ?_
            go_wp2_with fail
            go_meet
            exact ⟨be, bl, br, rfl, HF.out⟩
        · skip
          go_simp
          generalize hw : World.alloc _ _ = w17_
          have hx : w11_.Extends w17_ := by subst hw; exact ext_alloc _ _
          have HE0 : w11_.heap.size < w17_.heap.size ∧ w17_.heap[w11_.heap.size]? = some (.cells #[nilS, nilS] 121 (0, 0)) := by subst hw; exact ⟨by simp, heap_alloc_new _ _⟩
          clear hw
          obtain ⟨be, hbe⟩ : ∃ x, x = w11_.heap.size := ⟨_, rfl⟩
          rw [← hbe] at HE0 ⊢
          have hbl : w.heap.size ≤ be := by rw [hbe]; exact (Gr.ext_trans HX2.out HX.out).size
          clear hbe
          refine hK.out _ _ hx ?_
          clear hK K
          have HA := Lib.hid (HA.out.ext hx)
          have HB := Lib.hid (HB.out.ext hx)
          have HE := Lib.hid HE0
          clear HE0
          have HX := Lib.hid (Gr.ext_trans HX.out hx)
          clear hx
          refine Gr.Left.one (i := 7) (by kernel_rfl) (by kernel_rfl) (Gr.Step.mk rfl (fun K hK => ?_))
          go_simp
          refine (sum_own W _ [xs] _ (by omega) HA.out).mono ?_
          rintro e w18_ ⟨bl, he, hx, ho⟩
          rw [RM.sum_length] at he
          subst he
          have HL0 := ho
          clear ho
          try go_simp
          refine hK.out _ _ hx ?_
          clear hK K
          have HA := Lib.hid (HA.out.ext hx)
          have HB := Lib.hid (HB.out.ext hx)
          have HE := Lib.hid (And.intro (Nat.lt_of_lt_of_le HE.out.1 (hx).size) (((hx).block _ HE.out.1).trans HE.out.2))
          have HL := Lib.hid HL0
          clear HL0
          have HX := Lib.hid (Gr.ext_trans HX.out hx)
          clear hx
          refine Gr.Left.one (i := 14) (by kernel_rfl) (by kernel_rfl) (Gr.Step.mk rfl (fun K hK => ?_))
          go_simp
          refine (sum_own S _ [ys] _ hS HB.out).mono ?_
          rintro e w19_ ⟨br, he, hx, ho⟩
          rw [RM.sum_length] at he
          subst he
          have HR0 := ho
          clear ho
          try go_simp
          refine hK.out _ _ hx ?_
          clear hK K
          have HA := Lib.hid (HA.out.ext hx)
          have HB := Lib.hid (HB.out.ext hx)
          have HE := Lib.hid (And.intro (Nat.lt_of_lt_of_le HE.out.1 (hx).size) (((hx).block _ HE.out.1).trans HE.out.2))
          have HL := Lib.hid (HL.out.ext hx)
          have HR := Lib.hid HR0
          clear HR0
          have HX := Lib.hid (Gr.ext_trans HX.out hx)
          clear hx
          refine Gr.Left.take (i := 15) rfl (by kernel_rfl) (fun d _ _ _ _ h => by cases d <;> exact h) ?_ (Or.inl ⟨by rfl, ?_⟩) ?_
          rotate_left
          · intro w' hw'
            clear hw'
            go_simp
            try with_reducible rfl
          simp only [Act.put, List.setIfInBounds_toArray, List.set_cons_zero, List.set_cons_succ]
          refine Gr.Left.done (by kernel_rfl) ?_
          simp only [List.drop_succ_cons, List.drop_zero]
          have HF := Lib.hid (take_mid w w19_ be bl br W S xs ys hbl HE.out.2 HL.out HR.out (Gr.ext_trans HX2.out HX.out))
          refine wpList_store_row rfl 121 (.tmp 7) (.tmp 26) rfl be _ rfl rfl 121 _ HE.out.2 (eqinfo2 _ _) rfl (one2 _ _ _ _ _ _) ?_
          go_wp2_with fail
          go_meet
          exact ⟨be, bl, br, rfl, HF.out⟩
      · skip
        go_simp
        generalize hw : World.alloc _ _ = w20_
        have hx : w1_.Extends w20_ := by subst hw; exact ext_alloc _ _
        have HE0 : w1_.heap.size < w20_.heap.size ∧ w20_.heap[w1_.heap.size]? = some (.cells #[nilS, nilS] 121 (0, 0)) := by subst hw; exact ⟨by simp, heap_alloc_new _ _⟩
        clear hw
        obtain ⟨be, hbe⟩ : ∃ x, x = w1_.heap.size := ⟨_, rfl⟩
        rw [← hbe] at HE0 ⊢
        have hbl : w.heap.size ≤ be := by rw [hbe]; exact (Gr.ext_trans HX2.out HX.out).size
        clear hbe
        refine hK.out _ _ hx ?_
        clear hK K
        have HA := Lib.hid (HA.out.ext hx)
        have HE := Lib.hid HE0
        clear HE0
        have HX := Lib.hid (Gr.ext_trans HX.out hx)
        clear hx
        refine Gr.Left.two (i := 7) (j := 13) (by kernel_rfl) (by kernel_rfl) (Gr.Step.mk rfl (fun K hK => ?_)) (Gr.Step.mk rfl (fun K hK => ?_))
        · skip
          go_simp
          refine (sum_own W _ [xs] _ (by omega) HA.out).mono ?_
          rintro e w21_ ⟨bl, he, hx, ho⟩
          rw [RM.sum_length] at he
          subst he
          have HL0 := ho
          clear ho
          try go_simp
          refine hK.out _ _ hx ?_
          clear hK K
          have HA := Lib.hid (HA.out.ext hx)
          have HE := Lib.hid (And.intro (Nat.lt_of_lt_of_le HE.out.1 (hx).size) (((hx).block _ HE.out.1).trans HE.out.2))
          have HL := Lib.hid HL0
          clear HL0
          have HX := Lib.hid (Gr.ext_trans HX.out hx)
          clear hx
          refine Gr.Left.one (i := 13) (by kernel_rfl) (by kernel_rfl) (Gr.Step.mk rfl (fun K hK => ?_))
          go_simp
          generalize hw : World.alloc _ _ = w22_
          have hx : w21_.Extends w22_ := by subst hw; exact ext_alloc _ _
          have HB0 : Rws w22_ (.slice (some ⟨w21_.heap.size, 0, none⟩) 1 1) [ys] := by subst hw; exact rws_one _ _ _ _ _ (HV.out.ext (Gr.ext_trans HX2.out HX.out))
          clear hw
          refine hK.out _ _ hx ?_
          clear hK K
          have HA := Lib.hid (HA.out.ext hx)
          have HE := Lib.hid (And.intro (Nat.lt_of_lt_of_le HE.out.1 (hx).size) (((hx).block _ HE.out.1).trans HE.out.2))
          have HL := Lib.hid (HL.out.ext hx)
          have HB := Lib.hid HB0
          clear HB0
          have HX := Lib.hid (Gr.ext_trans HX.out hx)
          clear hx
          refine Gr.Left.one (i := 14) (by kernel_rfl) (by kernel_rfl) (Gr.Step.mk rfl (fun K hK => ?_))
          go_simp
          refine (sum_own S _ [ys] _ hS HB.out).mono ?_
          rintro e w23_ ⟨br, he, hx, ho⟩
          rw [RM.sum_length] at he
          subst he
          have HR0 := ho
          clear ho
          try go_simp
          refine hK.out _ _ hx ?_
          clear hK K
          have HA := Lib.hid (HA.out.ext hx)
          have HE := Lib.hid (And.intro (Nat.lt_of_lt_of_le HE.out.1 (hx).size) (((hx).block _ HE.out.1).trans HE.out.2))
          have HL := Lib.hid (HL.out.ext hx)
          have HB := Lib.hid (HB.out.ext hx)
          have HR := Lib.hid HR0
          clear HR0
          have HX := Lib.hid (Gr.ext_trans HX.out hx)
          clear hx
          refine Gr.Left.take (i := 15) rfl (by kernel_rfl) (fun d _ _ _ _ h => by cases d <;> exact h) ?_ (Or.inl ⟨by rfl, ?_⟩) ?_
          rotate_left
          · intro w' hw'
            clear hw'
            go_simp
            try with_reducible rfl
          simp only [Act.put, List.setIfInBounds_toArray, List.set_cons_zero, List.set_cons_succ]
          refine Gr.Left.done (by kernel_rfl) ?_
          simp only [List.drop_succ_cons, List.drop_zero]
          have HF := Lib.hid (take_mid w w23_ be bl br W S xs ys hbl HE.out.2 HL.out HR.out (Gr.ext_trans HX2.out HX.out))
          refine wpList_store_row rfl 121 (.tmp 7) (.tmp 26) rfl be _ rfl rfl 121 _ HE.out.2 (eqinfo2 _ _) rfl (one2 _ _ _ _ _ _) ?_
          go_wp2_with fail
          go_meet
          exact ⟨be, bl, br, rfl, HF.out⟩
        · skip
          go_simp
          generalize hw : World.alloc _ _ = w24_
          have hx : w20_.Extends w24_ := by subst hw; exact ext_alloc _ _
          have HB0 : Rws w24_ (.slice (some ⟨w20_.heap.size, 0, none⟩) 1 1) [ys] := by subst hw; exact rws_one _ _ _ _ _ (HV.out.ext (Gr.ext_trans HX2.out HX.out))
          clear hw
          refine hK.out _ _ hx ?_
          clear hK K
          have HA := Lib.hid (HA.out.ext hx)
          have HE := Lib.hid (And.intro (Nat.lt_of_lt_of_le HE.out.1 (hx).size) (((hx).block _ HE.out.1).trans HE.out.2))
          have HB := Lib.hid HB0
          clear HB0
          have HX := Lib.hid (Gr.ext_trans HX.out hx)
          clear hx
          refine Gr.Left.one (i := 7) (by kernel_rfl) (by kernel_rfl) (Gr.Step.mk rfl (fun K hK => ?_))
          go_simp
          refine (sum_own W _ [xs] _ (by omega) HA.out).mono ?_
          rintro e w25_ ⟨bl, he, hx, ho⟩
          rw [RM.sum_length] at he
          subst he
          have HL0 := ho
          clear ho
          try go_simp
          refine hK.out _ _ hx ?_
          clear hK K
          have HA := Lib.hid (HA.out.ext hx)
          have HE := Lib.hid (And.intro (Nat.lt_of_lt_of_le HE.out.1 (hx).size) (((hx).block _ HE.out.1).trans HE.out.2))
          have HB := Lib.hid (HB.out.ext hx)
          have HL := Lib.hid HL0
          clear HL0
          have HX := Lib.hid (Gr.ext_trans HX.out hx)
          clear hx
          refine Gr.Left.one (i := 14) (by kernel_rfl) (by kernel_rfl) (Gr.Step.mk rfl (fun K hK => ?_))
          go_simp
          refine (sum_own S _ [ys] _ hS HB.out).mono ?_
          rintro e w26_ ⟨br, he, hx, ho⟩
          rw [RM.sum_length] at he
          subst he
          have HR0 := ho
          clear ho
          try go_simp
          refine hK.out _ _ hx ?_
          clear hK K
          have HA := Lib.hid (HA.out.ext hx)
          have HE := Lib.hid (And.intro (Nat.lt_of_lt_of_le HE.out.1 (hx).size) (((hx).block _ HE.out.1).trans HE.out.2))
          have HB := Lib.hid (HB.out.ext hx)
          have HL := Lib.hid (HL.out.ext hx)
          have HR := Lib.hid HR0
          clear HR0
          have HX := Lib.hid (Gr.ext_trans HX.out hx)
          clear hx
          refine Gr.Left.take (i := 15) rfl (by kernel_rfl) (fun d _ _ _ _ h => by cases d <;> exact h) ?_ (Or.inl ⟨by rfl, ?_⟩) ?_
          rotate_left
          · intro w' hw'
            clear hw'
            go_simp
            try with_reducible rfl
          simp only [Act.put, List.setIfInBounds_toArray, List.set_cons_zero, List.set_cons_succ]
          refine Gr.Left.done (by kernel_rfl) ?_
          simp only [List.drop_succ_cons, List.drop_zero]
          have HF := Lib.hid (take_mid w w26_ be bl br W S xs ys hbl HE.out.2 HL.out HR.out (Gr.ext_trans HX2.out HX.out))
          refine wpList_store_row rfl 121 (.tmp 7) (.tmp 26) rfl be _ rfl rfl 121 _ HE.out.2 (eqinfo2 _ _) rfl (one2 _ _ _ _ _ _) ?_
          go_wp2_with fail
          go_meet
          exact ⟨be, bl, br, rfl, HF.out⟩
    · skip
      go_simp
      generalize hw : World.alloc _ _ = w27_
      have hx : wd.Extends w27_ := by subst hw; exact ext_alloc _ _
      have HB0 : Rws w27_ (.slice (some ⟨wd.heap.size, 0, none⟩) 1 1) [ys] := by subst hw; exact rws_one _ _ _ _ _ (HV.out.ext (Gr.ext_trans HX2.out HX.out))
      clear hw
      refine hK.out _ _ hx ?_
      clear hK K
      have HB := Lib.hid HB0
      clear HB0
      have HX := Lib.hid (Gr.ext_trans HX.out hx)
      clear hx
      refine Gr.Left.two (i := 6) (j := 16) (by kernel_rfl) (by kernel_rfl) (Gr.Step.mk rfl (fun K hK => ?_)) (Gr.Step.mk rfl (fun K hK => ?_))
      · skip
        go_simp
        generalize hw : World.alloc _ _ = w28_
        have hx : w27_.Extends w28_ := by subst hw; exact ext_alloc _ _
        have HA0 : Rws w28_ (.slice (some ⟨w27_.heap.size, 0, none⟩) 1 1) [xs] := by subst hw; exact rws_one _ _ _ _ _ (HU.out.ext (Gr.ext_trans HX2.out HX.out))
        clear hw
        refine hK.out _ _ hx ?_
        clear hK K
        have HB := Lib.hid (HB.out.ext hx)
        have HA := Lib.hid HA0
        clear HA0
        have HX := Lib.hid (Gr.ext_trans HX.out hx)
        clear hx
        refine Gr.Left.two (i := 7) (j := 16) (by kernel_rfl) (by kernel_rfl) (Gr.Step.mk rfl (fun K hK => ?_)) (Gr.Step.mk rfl (fun K hK => ?_))
        · skip
          go_simp
          refine (sum_own W _ [xs] _ (by omega) HA.out).mono ?_
          rintro e w29_ ⟨bl, he, hx, ho⟩
          rw [RM.sum_length] at he
          subst he
          have HL0 := ho
          clear ho
          try go_simp
          refine hK.out _ _ hx ?_
          clear hK K
          have HB := Lib.hid (HB.out.ext hx)
          have HA := Lib.hid (HA.out.ext hx)
          have HL := Lib.hid HL0
          clear HL0
          have HX := Lib.hid (Gr.ext_trans HX.out hx)
          clear hx
          refine Gr.Left.two (i := 14) (j := 16) (by kernel_rfl) (by kernel_rfl) (Gr.Step.mk rfl (fun K hK => ?_)) (Gr.Step.mk rfl (fun K hK => ?_))
          · skip
            go_simp
            refine (sum_own S _ [ys] _ hS HB.out).mono ?_
            rintro e w30_ ⟨br, he, hx, ho⟩
            rw [RM.sum_length] at he
            subst he
            have HR0 := ho
            clear ho
            try go_simp
            refine hK.out _ _ hx ?_
            clear hK K
            have HB := Lib.hid (HB.out.ext hx)
            have HA := Lib.hid (HA.out.ext hx)
            have HL := Lib.hid (HL.out.ext hx)
            have HR := Lib.hid HR0
            clear HR0
            have HX := Lib.hid (Gr.ext_trans HX.out hx)
            clear hx
            refine Gr.Left.take (i := 15) rfl (by kernel_rfl) (fun d _ _ _ _ h => by cases d <;> exact h) ?_ (Or.inl ⟨by rfl, ?_⟩) ?_
            rotate_left
            · intro w' hw'
              clear hw'
              go_simp
              try with_reducible rfl
            simp only [Act.put, List.setIfInBounds_toArray, List.set_cons_zero, List.set_cons_succ]
            refine Gr.Left.one (i := 16) (by kernel_rfl) (by kernel_rfl) (Gr.Step.mk rfl (fun K hK => ?_))
            go_simp
            generalize hw : World.alloc _ _ = w31_
            have hx : w30_.Extends w31_ := by subst hw; exact ext_alloc _ _
            have HE0 : w30_.heap.size < w31_.heap.size ∧ w31_.heap[w30_.heap.size]? = some (.cells #[nilS, nilS] 121 (0, 0)) := by subst hw; exact ⟨by simp, heap_alloc_new _ _⟩
            clear hw
            obtain ⟨be, hbe⟩ : ∃ x, x = w30_.heap.size := ⟨_, rfl⟩
            rw [← hbe] at HE0 ⊢
            have hbl : w.heap.size ≤ be := by rw [hbe]; exact (Gr.ext_trans HX2.out HX.out).size
            clear hbe
            refine hK.out _ _ hx ?_
            clear hK K
            have HB := Lib.hid (HB.out.ext hx)
            have HA := Lib.hid (HA.out.ext hx)
            have HL := Lib.hid (HL.out.ext hx)
            have HR := Lib.hid (HR.out.ext hx)
            have HE := Lib.hid HE0
            clear HE0
            have HX := Lib.hid (Gr.ext_trans HX.out hx)
            clear hx
            refine Gr.Left.done (by kernel_rfl) ?_
            simp only [List.drop_succ_cons, List.drop_zero]
            have HF := Lib.hid (take_mid w w31_ be bl br W S xs ys hbl HE.out.2 HL.out HR.out (Gr.ext_trans HX2.out HX.out))
            refine wpList_store_row rfl 121 (.tmp 7) (.tmp 26) rfl be _ rfl rfl 121 _ HE.out.2 (eqinfo2 _ _) rfl (one2 _ _ _ _ _ _) ?_
            go_wp2_with fail
            go_meet
            exact ⟨be, bl, br, rfl, HF.out⟩
          · skip
            go_simp
            generalize hw : World.alloc _ _ = w32_
            have hx : w29_.Extends w32_ := by subst hw; exact ext_alloc _ _
            have HE0 : w29_.heap.size < w32_.heap.size ∧ w32_.heap[w29_.heap.size]? = some (.cells #[nilS, nilS] 121 (0, 0)) := by subst hw; exact ⟨by simp, heap_alloc_new _ _⟩
            clear hw
            obtain ⟨be, hbe⟩ : ∃ x, x = w29_.heap.size := ⟨_, rfl⟩
            rw [← hbe] at HE0 ⊢
            have hbl : w.heap.size ≤ be := by rw [hbe]; exact (Gr.ext_trans HX2.out HX.out).size
            clear hbe
            refine hK.out _ _ hx ?_
            clear hK K
            have HB := Lib.hid (HB.out.ext hx)
            have HA := Lib.hid (HA.out.ext hx)
            have HL := Lib.hid (HL.out.ext hx)
            have HE := Lib.hid HE0
            clear HE0
            have HX := Lib.hid (Gr.ext_trans HX.out hx)
            clear hx
            refine Gr.Left.one (i := 14) (by kernel_rfl) (by kernel_rfl) (Gr.Step.mk rfl (fun K hK => ?_))
            go_simp
            refine (sum_own S _ [ys] _ hS HB.out).mono ?_
            rintro e w33_ ⟨br, he, hx, ho⟩
            rw [RM.sum_length] at he
            subst he
            have HR0 := ho
            clear ho
            try go_simp
            refine hK.out _ _ hx ?_
            clear hK K
            have HB := Lib.hid (HB.out.ext hx)
            have HA := Lib.hid (HA.out.ext hx)
            have HL := Lib.hid (HL.out.ext hx)
            have HE := Lib.hid (And.intro (Nat.lt_of_lt_of_le HE.out.1 (hx).size) (((hx).block _ HE.out.1).trans HE.out.2))
            have HR := Lib.hid HR0
            clear HR0
            have HX := Lib.hid (Gr.ext_trans HX.out hx)
            clear hx
            refine Gr.Left.take (i := 15) rfl (by kernel_rfl) (fun d _ _ _ _ h => by cases d <;> exact h) ?_ (Or.inl ⟨by rfl, ?_⟩) ?_
            rotate_left
            · intro w' hw'
              clear hw'
              go_simp
              try with_reducible rfl
            simp only [Act.put, List.setIfInBounds_toArray, List.set_cons_zero, List.set_cons_succ]
            refine Gr.Left.done (by kernel_rfl) ?_
            simp only [List.drop_succ_cons, List.drop_zero]
            have HF := Lib.hid (take_mid w w33_ be bl br W S xs ys hbl HE.out.2 HL.out HR.out (Gr.ext_trans HX2.out HX.out))
            refine wpList_store_row rfl 121 (.tmp 7) (.tmp 26) rfl be _ rfl rfl 121 _ HE.out.2 (eqinfo2 _ _) rfl (one2 _ _ _ _ _ _) ?_
            go_wp2_with fail
            go_meet
            exact ⟨be, bl, br, rfl, HF.out⟩
        · skip
          go_simp
          generalize hw : World.alloc _ _ = w34_
          have hx : w28_.Extends w34_ := by subst hw; exact ext_alloc _ _
          have HE0 : w28_.heap.size < w34_.heap.size ∧ w34_.heap[w28_.heap.size]? = some (.cells #[nilS, nilS] 121 (0, 0)) := by subst hw; exact ⟨by simp, heap_alloc_new _ _⟩
          clear hw
          obtain ⟨be, hbe⟩ : ∃ x, x = w28_.heap.size := ⟨_, rfl⟩
          rw [← hbe] at HE0 ⊢
          have hbl : w.heap.size ≤ be := by rw [hbe]; exact (Gr.ext_trans HX2.out HX.out).size
          clear hbe
          refine hK.out _ _ hx ?_
          clear hK K
          have HB := Lib.hid (HB.out.ext hx)
          have HA := Lib.hid (HA.out.ext hx)
          have HE := Lib.hid HE0
          clear HE0
          have HX := Lib.hid (Gr.ext_trans HX.out hx)
          clear hx
          refine Gr.Left.one (i := 7) (by kernel_rfl) (by kernel_rfl) (Gr.Step.mk rfl (fun K hK => ?_))
          go_simp
          refine (sum_own W _ [xs] _ (by omega) HA.out).mono ?_
          rintro e w35_ ⟨bl, he, hx, ho⟩
          rw [RM.sum_length] at he
          subst he
          have HL0 := ho
          clear ho
          try go_simp
          refine hK.out _ _ hx ?_
          clear hK K
          have HB := Lib.hid (HB.out.ext hx)
          have HA := Lib.hid (HA.out.ext hx)
          have HE := Lib.hid (And.intro (Nat.lt_of_lt_of_le HE.out.1 (hx).size) (((hx).block _ HE.out.1).trans HE.out.2))
          have HL := Lib.hid HL0
          clear HL0
          have HX := Lib.hid (Gr.ext_trans HX.out hx)
          clear hx
          refine Gr.Left.one (i := 14) (by kernel_rfl) (by kernel_rfl) (Gr.Step.mk rfl (fun K hK => ?_))
          go_simp
          refine (sum_own S _ [ys] _ hS HB.out).mono ?_
          rintro e w36_ ⟨br, he, hx, ho⟩
          rw [RM.sum_length] at he
          subst he
          have HR0 := ho
          clear ho
          try go_simp
          refine hK.out _ _ hx ?_
          clear hK K
          have HB := Lib.hid (HB.out.ext hx)
          have HA := Lib.hid (HA.out.ext hx)
          have HE := Lib.hid (And.intro (Nat.lt_of_lt_of_le HE.out.1 (hx).size) (((hx).block _ HE.out.1).trans HE.out.2))
          have HL := Lib.hid (HL.out.ext hx)
          have HR := Lib.hid HR0
          clear HR0
          have HX := Lib.hid (Gr.ext_trans HX.out hx)
          clear hx
          refine Gr.Left.take (i := 15) rfl (by kernel_rfl) (fun d _ _ _ _ h => by cases d <;> exact h) ?_ (Or.inl ⟨by rfl, ?_⟩) ?_
          rotate_left
          · intro w' hw'
            clear hw'
            go_simp
            try with_reducible rfl
          simp only [Act.put, List.setIfInBounds_toArray, List.set_cons_zero, List.set_cons_succ]
          refine Gr.Left.done (by kernel_rfl) ?_
          simp only [List.drop_succ_cons, List.drop_zero]
          have HF := Lib.hid (take_mid w w36_ be bl br W S xs ys hbl HE.out.2 HL.out HR.out (Gr.ext_trans HX2.out HX.out))
          refine wpList_store_row rfl 121 (.tmp 7) (.tmp 26) rfl be _ rfl rfl 121 _ HE.out.2 (eqinfo2 _ _) rfl (one2 _ _ _ _ _ _) ?_
          go_wp2_with fail
          go_meet
          exact ⟨be, bl, br, rfl, HF.out⟩
      · skip
        go_simp
        generalize hw : World.alloc _ _ = w37_
        have hx : w27_.Extends w37_ := by subst hw; exact ext_alloc _ _
        have HE0 : w27_.heap.size < w37_.heap.size ∧ w37_.heap[w27_.heap.size]? = some (.cells #[nilS, nilS] 121 (0, 0)) := by subst hw; exact ⟨by simp, heap_alloc_new _ _⟩
        clear hw
        obtain ⟨be, hbe⟩ : ∃ x, x = w27_.heap.size := ⟨_, rfl⟩
        rw [← hbe] at HE0 ⊢
        have hbl : w.heap.size ≤ be := by rw [hbe]; exact (Gr.ext_trans HX2.out HX.out).size
        clear hbe
        refine hK.out _ _ hx ?_
        clear hK K
        have HB := Lib.hid (HB.out.ext hx)
        have HE := Lib.hid HE0
        clear HE0
        have HX := Lib.hid (Gr.ext_trans HX.out hx)
        clear hx
        refine Gr.Left.one (i := 6) (by kernel_rfl) (by kernel_rfl) (Gr.Step.mk rfl (fun K hK => ?_))
        go_simp
        generalize hw : World.alloc _ _ = w38_
        have hx : w37_.Extends w38_ := by subst hw; exact ext_alloc _ _
        have HA0 : Rws w38_ (.slice (some ⟨w37_.heap.size, 0, none⟩) 1 1) [xs] := by subst hw; exact rws_one _ _ _ _ _ (HU.out.ext (Gr.ext_trans HX2.out HX.out))
        clear hw
        refine hK.out _ _ hx ?_
        clear hK K
        have HB := Lib.hid (HB.out.ext hx)
        have HE := Lib.hid (And.intro (Nat.lt_of_lt_of_le HE.out.1 (hx).size) (((hx).block _ HE.out.1).trans HE.out.2))
        have HA := Lib.hid HA0
        clear HA0
        have HX := Lib.hid (Gr.ext_trans HX.out hx)
        clear hx
        refine Gr.Left.one (i := 7) (by kernel_rfl) (by kernel_rfl) (Gr.Step.mk rfl (fun K hK => ?_))
        go_simp
        refine (sum_own W _ [xs] _ (by omega) HA.out).mono ?_
        rintro e w39_ ⟨bl, he, hx, ho⟩
        rw [RM.sum_length] at he
        subst he
        have HL0 := ho
        clear ho
        try go_simp
        refine hK.out _ _ hx ?_
        clear hK K
        have HB := Lib.hid (HB.out.ext hx)
        have HE := Lib.hid (And.intro (Nat.lt_of_lt_of_le HE.out.1 (hx).size) (((hx).block _ HE.out.1).trans HE.out.2))
        have HA := Lib.hid (HA.out.ext hx)
        have HL := Lib.hid HL0
        clear HL0
        have HX := Lib.hid (Gr.ext_trans HX.out hx)
        clear hx
        refine Gr.Left.one (i := 14) (by kernel_rfl) (by kernel_rfl) (Gr.Step.mk rfl (fun K hK => ?_))
        go_simp
        refine (sum_own S _ [ys] _ hS HB.out).mono ?_
        rintro e w40_ ⟨br, he, hx, ho⟩
        rw [RM.sum_length] at he
        subst he
        have HR0 := ho
        clear ho
        try go_simp
        refine hK.out _ _ hx ?_
        clear hK K
        have HB := Lib.hid (HB.out.ext hx)
        have HE := Lib.hid (And.intro (Nat.lt_of_lt_of_le HE.out.1 (hx).size) (((hx).block _ HE.out.1).trans HE.out.2))
        have HA := Lib.hid (HA.out.ext hx)
        have HL := Lib.hid (HL.out.ext hx)
        have HR := Lib.hid HR0
        clear HR0
        have HX := Lib.hid (Gr.ext_trans HX.out hx)
        clear hx
        refine Gr.Left.take (i := 15) rfl (by kernel_rfl) (fun d _ _ _ _ h => by cases d <;> exact h) ?_ (Or.inl ⟨by rfl, ?_⟩) ?_
        rotate_left
        · intro w' hw'
          clear hw'
          go_simp
          try with_reducible rfl
        simp only [Act.put, List.setIfInBounds_toArray, List.set_cons_zero, List.set_cons_succ]
        refine Gr.Left.done (by kernel_rfl) ?_
        simp only [List.drop_succ_cons, List.drop_zero]
        have HF := Lib.hid (take_mid w w40_ be bl br W S xs ys hbl HE.out.2 HL.out HR.out (Gr.ext_trans HX2.out HX.out))
        refine wpList_store_row rfl 121 (.tmp 7) (.tmp 26) rfl be _ rfl rfl 121 _ HE.out.2 (eqinfo2 _ _) rfl (one2 _ _ _ _ _ _) ?_
        go_wp2_with fail
        go_meet
        exact ⟨be, bl, br, rfl, HF.out⟩
    · skip
      go_simp
      generalize hw : World.alloc _ _ = w41_
      have hx : wd.Extends w41_ := by subst hw; exact ext_alloc _ _
      have HE0 : wd.heap.size < w41_.heap.size ∧ w41_.heap[wd.heap.size]? = some (.cells #[nilS, nilS] 121 (0, 0)) := by subst hw; exact ⟨by simp, heap_alloc_new _ _⟩
      clear hw
      obtain ⟨be, hbe⟩ : ∃ x, x = wd.heap.size := ⟨_, rfl⟩
      rw [← hbe] at HE0 ⊢
      have hbl : w.heap.size ≤ be := by rw [hbe]; exact (Gr.ext_trans HX2.out HX.out).size
      clear hbe
      refine hK.out _ _ hx ?_
      clear hK K
      have HE := Lib.hid HE0
      clear HE0
      have HX := Lib.hid (Gr.ext_trans HX.out hx)
      clear hx
      refine Gr.Left.two (i := 6) (j := 13) (by kernel_rfl) (by kernel_rfl) (Gr.Step.mk rfl (fun K hK => ?_)) (Gr.Step.mk rfl (fun K hK => ?_))
      · skip
        go_simp
        generalize hw : World.alloc _ _ = w42_
        have hx : w41_.Extends w42_ := by subst hw; exact ext_alloc _ _
        have HA0 : Rws w42_ (.slice (some ⟨w41_.heap.size, 0, none⟩) 1 1) [xs] := by subst hw; exact rws_one _ _ _ _ _ (HU.out.ext (Gr.ext_trans HX2.out HX.out))
        clear hw
        refine hK.out _ _ hx ?_
        clear hK K
        have HE := Lib.hid (And.intro (Nat.lt_of_lt_of_le HE.out.1 (hx).size) (((hx).block _ HE.out.1).trans HE.out.2))
        have HA := Lib.hid HA0
        clear HA0
        have HX := Lib.hid (Gr.ext_trans HX.out hx)
        clear hx
        refine Gr.Left.two (i := 7) (j := 13) (by kernel_rfl) (by kernel_rfl) (Gr.Step.mk rfl (fun K hK => ?_)) (Gr.Step.mk rfl (fun K hK => ?_))
        · skip
          go_simp
          refine (sum_own W _ [xs] _ (by omega) HA.out).mono ?_
          rintro e w43_ ⟨bl, he, hx, ho⟩
          rw [RM.sum_length] at he
          subst he
          have HL0 := ho
          clear ho
          try go_simp
          refine hK.out _ _ hx ?_
          clear hK K
          have HE := Lib.hid (And.intro (Nat.lt_of_lt_of_le HE.out.1 (hx).size) (((hx).block _ HE.out.1).trans HE.out.2))
          have HA := Lib.hid (HA.out.ext hx)
          have HL := Lib.hid HL0
          clear HL0
          have HX := Lib.hid (Gr.ext_trans HX.out hx)
          clear hx
          refine Gr.Left.one (i := 13) (by kernel_rfl) (by kernel_rfl) (Gr.Step.mk rfl (fun K hK => ?_))
          go_simp
          generalize hw : World.alloc _ _ = w44_
          have hx : w43_.Extends w44_ := by subst hw; exact ext_alloc _ _
          have HB0 : Rws w44_ (.slice (some ⟨w43_.heap.size, 0, none⟩) 1 1) [ys] := by subst hw; exact rws_one _ _ _ _ _ (HV.out.ext (Gr.ext_trans HX2.out HX.out))
          clear hw
          refine hK.out _ _ hx ?_
          clear hK K
          have HE := Lib.hid (And.intro (Nat.lt_of_lt_of_le HE.out.1 (hx).size) (((hx).block _ HE.out.1).trans HE.out.2))
          have HA := Lib.hid (HA.out.ext hx)
          have HL := Lib.hid (HL.out.ext hx)
          have HB := Lib.hid HB0
          clear HB0
          have HX := Lib.hid (Gr.ext_trans HX.out hx)
          clear hx
          refine Gr.Left.one (i := 14) (by kernel_rfl) (by kernel_rfl) (Gr.Step.mk rfl (fun K hK => ?_))
          go_simp
          refine (sum_own S _ [ys] _ hS HB.out).mono ?_
          rintro e w45_ ⟨br, he, hx, ho⟩
          rw [RM.sum_length] at he
          subst he
          have HR0 := ho
          clear ho
          try go_simp
          refine hK.out _ _ hx ?_
          clear hK K
          have HE := Lib.hid (And.intro (Nat.lt_of_lt_of_le HE.out.1 (hx).size) (((hx).block _ HE.out.1).trans HE.out.2))
          have HA := Lib.hid (HA.out.ext hx)
          have HL := Lib.hid (HL.out.ext hx)
          have HB := Lib.hid (HB.out.ext hx)
          have HR := Lib.hid HR0
          clear HR0
          have HX := Lib.hid (Gr.ext_trans HX.out hx)
          clear hx
          refine Gr.Left.take (i := 15) rfl (by kernel_rfl) (fun d _ _ _ _ h => by cases d <;> exact h) ?_ (Or.inl ⟨by rfl, ?_⟩) ?_
          rotate_left
          · intro w' hw'
            clear hw'
            go_simp
            try with_reducible rfl
          simp only [Act.put, List.setIfInBounds_toArray, List.set_cons_zero, List.set_cons_succ]
          refine Gr.Left.done (by kernel_rfl) ?_
          simp only [List.drop_succ_cons, List.drop_zero]
          have HF := Lib.hid (take_mid w w45_ be bl br W S xs ys hbl HE.out.2 HL.out HR.out (Gr.ext_trans HX2.out HX.out))
          refine wpList_store_row rfl 121 (.tmp 7) (.tmp 26) rfl be _ rfl rfl 121 _ HE.out.2 (eqinfo2 _ _) rfl (one2 _ _ _ _ _ _) ?_
          go_wp2_with fail
          go_meet
          exact ⟨be, bl, br, rfl, HF.out⟩
        · skip
          go_simp
          generalize hw : World.alloc _ _ = w46_
          have hx : w42_.Extends w46_ := by subst hw; exact ext_alloc _ _
          have HB0 : Rws w46_ (.slice (some ⟨w42_.heap.size, 0, none⟩) 1 1) [ys] := by subst hw; exact rws_one _ _ _ _ _ (HV.out.ext (Gr.ext_trans HX2.out HX.out))
          clear hw
          refine hK.out _ _ hx ?_
          clear hK K
          have HE := Lib.hid (And.intro (Nat.lt_of_lt_of_le HE.out.1 (hx).size) (((hx).block _ HE.out.1).trans HE.out.2))
          have HA := Lib.hid (HA.out.ext hx)
          have HB := Lib.hid HB0
          clear HB0
          have HX := Lib.hid (Gr.ext_trans HX.out hx)
          clear hx
          refine Gr.Left.one (i := 7) (by kernel_rfl) (by kernel_rfl) (Gr.Step.mk rfl (fun K hK => ?_))
          go_simp
          refine (sum_own W _ [xs] _ (by omega) HA.out).mono ?_
          rintro e w47_ ⟨bl, he, hx, ho⟩
          rw [RM.sum_length] at he
          subst he
          have HL0 := ho
          clear ho
          try go_simp
          refine hK.out _ _ hx ?_
          clear hK K
          have HE := Lib.hid (And.intro (Nat.lt_of_lt_of_le HE.out.1 (hx).size) (((hx).block _ HE.out.1).trans HE.out.2))
          have HA := Lib.hid (HA.out.ext hx)
          have HB := Lib.hid (HB.out.ext hx)
          have HL := Lib.hid HL0
          clear HL0
          have HX := Lib.hid (Gr.ext_trans HX.out hx)
          clear hx
          refine Gr.Left.one (i := 14) (by kernel_rfl) (by kernel_rfl) (Gr.Step.mk rfl (fun K hK => ?_))
          go_simp
          refine (sum_own S _ [ys] _ hS HB.out).mono ?_
          rintro e w48_ ⟨br, he, hx, ho⟩
          rw [RM.sum_length] at he
          subst he
          have HR0 := ho
          clear ho
          try go_simp
          refine hK.out _ _ hx ?_
          clear hK K
          have HE := Lib.hid (And.intro (Nat.lt_of_lt_of_le HE.out.1 (hx).size) (((hx).block _ HE.out.1).trans HE.out.2))
          have HA := Lib.hid (HA.out.ext hx)
          have HB := Lib.hid (HB.out.ext hx)
          have HL := Lib.hid (HL.out.ext hx)
          have HR := Lib.hid HR0
          clear HR0
          have HX := Lib.hid (Gr.ext_trans HX.out hx)
          clear hx
          refine Gr.Left.take (i := 15) rfl (by kernel_rfl) (fun d _ _ _ _ h => by cases d <;> exact h) ?_ (Or.inl ⟨by rfl, ?_⟩) ?_
          rotate_left
          · intro w' hw'
            clear hw'
            go_simp
            try with_reducible rfl
          simp only [Act.put, List.setIfInBounds_toArray, List.set_cons_zero, List.set_cons_succ]
          refine Gr.Left.done (by kernel_rfl) ?_
          simp only [List.drop_succ_cons, List.drop_zero]
          have HF := Lib.hid (take_mid w w48_ be bl br W S xs ys hbl HE.out.2 HL.out HR.out (Gr.ext_trans HX2.out HX.out))
          refine wpList_store_row rfl 121 (.tmp 7) (.tmp 26) rfl be _ rfl rfl 121 _ HE.out.2 (eqinfo2 _ _) rfl (one2 _ _ _ _ _ _) ?_
          go_wp2_with fail
          go_meet
          exact ⟨be, bl, br, rfl, HF.out⟩
      · skip
        go_simp
        generalize hw : World.alloc _ _ = w49_
        have hx : w41_.Extends w49_ := by subst hw; exact ext_alloc _ _
        have HB0 : Rws w49_ (.slice (some ⟨w41_.heap.size, 0, none⟩) 1 1) [ys] := by subst hw; exact rws_one _ _ _ _ _ (HV.out.ext (Gr.ext_trans HX2.out HX.out))
        clear hw
        refine hK.out _ _ hx ?_
        clear hK K
        have HE := Lib.hid (And.intro (Nat.lt_of_lt_of_le HE.out.1 (hx).size) (((hx).block _ HE.out.1).trans HE.out.2))
        have HB := Lib.hid HB0
        clear HB0
        have HX := Lib.hid (Gr.ext_trans HX.out hx)
        clear hx
        refine Gr.Left.one (i := 6) (by kernel_rfl) (by kernel_rfl) (Gr.Step.mk rfl (fun K hK => ?_))
        go_simp
        generalize hw : World.alloc _ _ = w50_
        have hx : w49_.Extends w50_ := by subst hw; exact ext_alloc _ _
        have HA0 : Rws w50_ (.slice (some ⟨w49_.heap.size, 0, none⟩) 1 1) [xs] := by subst hw; exact rws_one _ _ _ _ _ (HU.out.ext (Gr.ext_trans HX2.out HX.out))
        clear hw
        refine hK.out _ _ hx ?_
        clear hK K
        have HE := Lib.hid (And.intro (Nat.lt_of_lt_of_le HE.out.1 (hx).size) (((hx).block _ HE.out.1).trans HE.out.2))
        have HB := Lib.hid (HB.out.ext hx)
        have HA := Lib.hid HA0
        clear HA0
        have HX := Lib.hid (Gr.ext_trans HX.out hx)
        clear hx
        refine Gr.Left.one (i := 7) (by kernel_rfl) (by kernel_rfl) (Gr.Step.mk rfl (fun K hK => ?_))
        go_simp
        refine (sum_own W _ [xs] _ (by omega) HA.out).mono ?_
        rintro e w51_ ⟨bl, he, hx, ho⟩
        rw [RM.sum_length] at he
        subst he
        have HL0 := ho
        clear ho
        try go_simp
        refine hK.out _ _ hx ?_
        clear hK K
        have HE := Lib.hid (And.intro (Nat.lt_of_lt_of_le HE.out.1 (hx).size) (((hx).block _ HE.out.1).trans HE.out.2))
        have HB := Lib.hid (HB.out.ext hx)
        have HA := Lib.hid (HA.out.ext hx)
        have HL := Lib.hid HL0
        clear HL0
        have HX := Lib.hid (Gr.ext_trans HX.out hx)
        clear hx
        refine Gr.Left.one (i := 14) (by kernel_rfl) (by kernel_rfl) (Gr.Step.mk rfl (fun K hK => ?_))
        go_simp
        refine (sum_own S _ [ys] _ hS HB.out).mono ?_
        rintro e w52_ ⟨br, he, hx, ho⟩
        rw [RM.sum_length] at he
        subst he
        have HR0 := ho
        clear ho
        try go_simp
        refine hK.out _ _ hx ?_
        clear hK K
        have HE := Lib.hid (And.intro (Nat.lt_of_lt_of_le HE.out.1 (hx).size) (((hx).block _ HE.out.1).trans HE.out.2))
        have HB := Lib.hid (HB.out.ext hx)
        have HA := Lib.hid (HA.out.ext hx)
        have HL := Lib.hid (HL.out.ext hx)
        have HR := Lib.hid HR0
        clear HR0
        have HX := Lib.hid (Gr.ext_trans HX.out hx)
        clear hx
        refine Gr.Left.take (i := 15) rfl (by kernel_rfl) (fun d _ _ _ _ h => by cases d <;> exact h) ?_ (Or.inl ⟨by rfl, ?_⟩) ?_
        rotate_left
        · intro w' hw'
          clear hw'
          go_simp
          try with_reducible rfl
        simp only [Act.put, List.setIfInBounds_toArray, List.set_cons_zero, List.set_cons_succ]
        refine Gr.Left.done (by kernel_rfl) ?_
        simp only [List.drop_succ_cons, List.drop_zero]
        have HF := Lib.hid (take_mid w w52_ be bl br W S xs ys hbl HE.out.2 HL.out HR.out (Gr.ext_trans HX2.out HX.out))
        refine wpList_store_row rfl 121 (.tmp 7) (.tmp 26) rfl be _ rfl rfl 121 _ HE.out.2 (eqinfo2 _ _) rfl (one2 _ _ _ _ _ _) ?_
        go_wp2_with fail
        go_meet
        exact ⟨be, bl, br, rfl, HF.out⟩
  case rest =>
    obtain ⟨be, bl0, br0, rfl, hq, hx, hbe⟩ := hcut
    have hsy := HSY.out.ext hx
    obtain ⟨hc0, hc1, hc2⟩ := hsy.cells
    have hgbe : g ≠ be := by have := HSY.out.pg; omega
    have hpbe : p ≠ be := by have := HSY.out.pg; omega
    have HSC := Lib.hid hsy
    have HQ0 := Lib.hid hq
    have HX := Lib.hid hx
    clear hsy hq hx HL1 HL2 HU HV
    generalize he0 : ((RM.sum W [xs], RM.sum S [ys]) : LA.Eqn) = e0 at *
    have HE0 := Lib.hid he0; clear he0
    go_wp2_with fail
    clear hc0 hc1 hc2
    go_loopw [32] (fun i wr => ∃ (k : Nat) (e : LA.Eqn) (bl br : Nat), k ≤ W ∧ i = .int .i64 k ∧ wc.grownBy wr (some be) ∧ EqVar wr be bl br W S e.1 e.2 ∧ LA.Red W S st e0 e k) (fun i _ => (W - intOf i).toNat)
    case atStart => exact ⟨0, e0, bl0, br0, by omega, rfl, grown_refl _ _, by rw [← HE0.out]; exact HQ0.out, LA.Red.start HD0.out⟩
    case round =>
      obtain ⟨k, e, bl, br, hk, rfl, hg, hq, hred⟩ := hrel
      by_cases h1 : k < W
      · have hsw := HSC.out.grown hg HQ0.out.cells hgbe
        obtain ⟨vs, hvs, hst⟩ := hsw.steps
        have hck := hst k h1
        have hv1 := hvs.cell (i := k * 2) (by omega)
        have hv2 := hvs.cell (i := k * 2 + 1) (by omega)
        have he1 : wr.cell? ⟨be, 0, none⟩ = some (.slice (some ⟨bl, 0, none⟩) W W) := hq.cells.cell (i := 0) (by omega)
        have he2 : wr.cell? ⟨be, 1, none⟩ = some (.slice (some ⟨br, 0, none⟩) S S) := hq.cells.cell (i := 1) (by omega)
        have hcl : wr.cell? ⟨bl, k, none⟩ = some (.int .u8 (e.1.getD k 0 : Nat)) := hq.left.1.cell (by rw [hq.ll]; exact h1)
        have hbel := hq.cells.lt
        have hbll := hq.left.lt
        have HG := Lib.hid hg
        have HQ := Lib.hid hq
        have HRED := Lib.hid hred
        have HSW := Lib.hid hsw
        have HVS := Lib.hid hvs
        clear hg hq hred hsw hvs hst
        by_cases hc0 : e.1.getD k 0 = 0
        · have HR2 := Lib.hid (HRED.out.skip hc0)
          rw [hc0] at hcl
          clear hc0
          cases hs : st k with
          | none =>
            rw [hs] at hck
            obtain ⟨ha, hb⟩ := hck
            rw [ha] at hv1
            rw [hb] at hv2
            have HS := Lib.hid hs
            clear ha hb hs HVS
            go_wp2
            go_roundw
            case rel => exact ⟨k + 1, e, bl, br, by omega, by go_num, grown_alloc HG.out _, HQ.out.ext (ext_alloc _ _), HR2.out⟩
            case measure => simp [intOf]; omega
          | some s =>
            rw [hs] at hck
            obtain ⟨b1, b2, ha, hb, ho1, hn1, ho2, hn2⟩ := hck
            rw [ha] at hv1
            rw [hb] at hv2
            have HS := Lib.hid hs
            clear ha hb hs HVS ho1 hn1 ho2 hn2
            go_wp2
            go_roundw
            case rel => exact ⟨k + 1, e, bl, br, by omega, by go_num, grown_alloc HG.out _, HQ.out.ext (ext_alloc _ _), HR2.out⟩
            case measure => simp [intOf]; omega
        · have hcx : e.1.getD k 0 < 256 := getD_lt _ HRED.out.1.2.2.1 k
          have hc0' : (((e.1.getD k 0 : Nat) : Int) == 0) = false := by simp only [beq_eq_false_iff_ne, ne_eq]; omega
          cases hs : st k with
          | some s =>
            rw [hs] at hck
            obtain ⟨b1, b2, ha, hb, ho1, hn1, ho2, hn2⟩ := hck
            rw [ha] at hv1
            rw [hb] at hv2
            have hnil := fun (w : World) => Lib.run_eql_slice_nil (P := Tryd.prog) w 67 5 (some ⟨b1, 0, none⟩) W W 0 0 Tryd.underlying67
            have HR2 := Lib.hid (HRED.out.step HGOOD.out h1 hs)
            have HO1 := Lib.hid ho1
            have HO2 := Lib.hid ho2
            have HN1 := Lib.hid hn1
            have HN2 := Lib.hid hn2
            clear ha hb hs HVS ho1 hn1 ho2 hn2
            generalize hx0 : e.1.getD k 0 = x at *
            have HX0 := Lib.hid hx0; clear hx0
            go_wp2_with fail
            generalize hwa : World.alloc wr _ = wa
            have hxa : wr.Extends wa := by subst hwa; exact ext_alloc _ _
            have hca : wa.cell? ⟨wr.heap.size, 0, none⟩ = some (.slice (some ⟨b1, 0, none⟩) W W) ∧ wa.cell? ⟨wr.heap.size, 1, none⟩ = some (.slice (some ⟨b2, 0, none⟩) S S) := by subst hwa; exact one_cells _ _ _ _
            clear hwa
            have HL1 : Hid (∀ w', wa.Extends w' → w'.cell? ⟨be, 0, none⟩ = some (.slice (some ⟨bl, 0, none⟩) W W)) := fun w' hw' => (Gr.ext_trans hxa hw').cell_of he1
            have HL2 : Hid (∀ w', wa.Extends w' → w'.cell? ⟨be, 1, none⟩ = some (.slice (some ⟨br, 0, none⟩) S S)) := fun w' hw' => (Gr.ext_trans hxa hw').cell_of he2
            have HL3 : Hid (∀ w', wa.Extends w' → w'.cell? ⟨wr.heap.size, 0, none⟩ = some (.slice (some ⟨b1, 0, none⟩) W W)) := fun w' hw' => hw'.cell_of hca.1
            have HL4 : Hid (∀ w', wa.Extends w' → w'.cell? ⟨wr.heap.size, 1, none⟩ = some (.slice (some ⟨b2, 0, none⟩) S S)) := fun w' hw' => hw'.cell_of hca.2
            have HXA := Lib.hid (Gr.ext_drew hxa)
            have HU1 : Hid (U8s wr (.slice (some ⟨b1, 0, none⟩) W W) s.1) := by have := HO1.out.u8s; rw [HN1.out] at this; exact this
            have HU2 : Hid (U8s wr (.slice (some ⟨b2, 0, none⟩) S S) s.2) := by have := HO2.out.u8s; rw [HN2.out] at this; exact this
            have HU3 : Hid (U8s wr (.slice (some ⟨bl, 0, none⟩) W W) e.1) := by have := HQ.out.left.u8s; rw [HQ.out.ll] at this; exact this
            have HU4 : Hid (U8s wr (.slice (some ⟨br, 0, none⟩) S S) e.2) := by have := HQ.out.right.u8s; rw [HQ.out.xl] at this; exact this
            clear hca hxa he1 he2 hv1 hv2 hcl
            refine Gr.region 5 [(false,0),(false,1),(false,2),(true,3),(true,4)] (by kernel_rfl) (by kernel_rfl) (fun d _ _ _ _ h => by cases d <;> exact h) ?_
            simp only [Gr.pick, List.getElem?_cons_zero, List.getElem?_cons_succ, List.drop_succ_cons, List.drop_zero]
            iterate 3
              refine Gr.walk_t ?_ (Or.inl ⟨by rfl, ?_⟩) ?_
              rotate_left
              · intro w' hw'
                have hc1 := HL1.out w' (Gr.of_drew hw')
                have hc2 := HL2.out w' (Gr.of_drew hw')
                have hc3 := HL3.out w' (Gr.of_drew hw')
                have hc4 := HL4.out w' (Gr.of_drew hw')
                clear hw'
                go_simp
                try with_reducible rfl
              simp only [Act.put, List.setIfInBounds_toArray, List.set_cons_zero, List.set_cons_succ]
            clear HL1 HL2 HL3 HL4
            refine Gr.walk_c (fun K hK => ?_)
            go_simp
            refine (eqTimes_any x _ _ s.1 s.2 _ hcx (HU1.out.ext HXA.out) (HU2.out.ext HXA.out) (by rw [HN1.out]; omega) (by rw [HN2.out]; omega)).mono ?_
            rintro _ w5 ⟨c1, c2, hret, ho5, ho6, hb5⟩
            rw [RM.scale_length, RM.scale_length, HN1.out, HN2.out] at hret
            subst hret
            have hx5 := ext_below hb5 rfl
            have HX5 := Lib.hid (Gr.ext_trans HXA.out hx5)
            have HU5 : Hid (U8s w5 (.slice (some ⟨c1, 0, none⟩) W W) (RM.scale x s.1)) := by have := ho5.u8s; rw [RM.scale_length, HN1.out] at this; exact this
            have HU6 : Hid (U8s w5 (.slice (some ⟨c2, 0, none⟩) S S) (RM.scale x s.2)) := by have := ho6.u8s; rw [RM.scale_length, HN2.out] at this; exact this
            clear ho5 ho6 hb5
            try go_simp
            refine hK.out _ _ hx5 ?_
            clear hK K hx5
            refine Gr.walk_c (fun K hK => ?_)
            go_simp
            refine (eqPlus_any _ _ _ _ e.1 e.2 (RM.scale x s.1) (RM.scale x s.2) _ (HU3.out.ext HX5.out) (HU4.out.ext HX5.out) HU5.out HU6.out (by rw [HQ.out.ll]; omega) (by rw [HQ.out.xl]; omega)).mono ?_
            rintro _ w6 ⟨d1, d2, hret, ho7, ho8, hb6⟩
            rw [RM.sum_length, RM.sum_length, HQ.out.ll, HQ.out.xl] at hret
            rw [HQ.out.ll] at ho7
            rw [HQ.out.xl] at ho8
            subst hret
            have hx6 := ext_below hb6 rfl
            have HX6 := Lib.hid (Gr.ext_trans HX5.out hx6)
            have HO7 := Lib.hid ho7
            have HO8 := Lib.hid ho8
            clear ho7 ho8 hb6
            try go_simp
            refine hK.out _ _ hx6 ?_
            clear hK K hx6
            refine Gr.walk_nil ?_
            obtain ⟨cs0, hcs0, hcs1, _⟩ := HQ.out.cells.of_block (HX6.out.block _ HQ.out.cells.lt)
            have HP : Hid (wc.grownBy (w6.setRow be #[.slice (some ⟨d1, 0, none⟩) W W, .slice (some ⟨d2, 0, none⟩) S S]) (some be) ∧ EqVar (w6.setRow be #[.slice (some ⟨d1, 0, none⟩) W W, .slice (some ⟨d2, 0, none⟩) S S]) be d1 d2 W S (RM.sum W [e.1, RM.scale x s.1]) (RM.sum S [e.2, RM.scale x s.2])) :=
              ⟨grown_setRowT (grown_trans HG.out (grown_ext HX6.out)) _, eqcells_set d1 d2 W S hcs0, HO7.out.block (setRow_other _ _ _ _ fun e => own_not HO7.out (by decide) (e ▸ hcs0)), HO8.out.block (setRow_other _ _ _ _ fun e => own_not HO8.out (by decide) (e ▸ hcs0)), RM.sum_length _ _, RM.sum_length _ _⟩
            refine wpList_store_row rfl 121 (.tmp 7) (.tmp 68) rfl be _ rfl rfl 121 _ hcs0 (eqinfo2 _ _) hcs1 (one2 _ _ _ _ _ _) ?_
            go_wp2
            go_roundw
            case rel => exact ⟨k + 1, _, d1, d2, by omega, by go_num, HP.out.1, HP.out.2, HR2.out⟩
            case measure => simp [intOf]; omega
          | none =>
            rw [hs] at hck
            obtain ⟨ha, hb⟩ := hck
            rw [ha] at hv1
            rw [hb] at hv2
            have hnil := fun (w : World) => Lib.run_eql_slice_nil (P := Tryd.prog) w 67 5 none 0 0 0 0 Tryd.underlying67
            have HS := Lib.hid hs
            have HNE := Lib.hid hc0
            clear ha hb hs hc0
            generalize hx0 : e.1.getD k 0 = x at *
            have HX0 := Lib.hid hx0; clear hx0
            go_wp2_with fail
            generalize hwa : World.alloc wr _ = wa
            have hxa : wr.Extends wa := by subst hwa; exact ext_alloc _ _
            clear hwa
            have HL1 : Hid (∀ w', wa.Extends w' → w'.cell? ⟨be, 0, none⟩ = some (.slice (some ⟨bl, 0, none⟩) W W)) := fun w' hw' => (Gr.ext_trans hxa hw').cell_of he1
            have HL2 : Hid (∀ w', wa.Extends w' → w'.cell? ⟨be, 1, none⟩ = some (.slice (some ⟨br, 0, none⟩) S S)) := fun w' hw' => (Gr.ext_trans hxa hw').cell_of he2
            have HL3 : Hid (∀ w', wa.Extends w' → w'.cell? ⟨p, 1, none⟩ = some (.slice (some ⟨g, 0, none⟩) W W)) := fun w' hw' => (Gr.ext_trans hxa hw').cell_of HSW.out.cells.2.1
            have HXA := Lib.hid (Gr.ext_drew hxa)
            have HU3 : Hid (U8s wr (.slice (some ⟨bl, 0, none⟩) W W) e.1) := by have := HQ.out.left.u8s; rw [HQ.out.ll] at this; exact this
            have HU4 : Hid (U8s wr (.slice (some ⟨br, 0, none⟩) S S) e.2) := by have := HQ.out.right.u8s; rw [HQ.out.xl] at this; exact this
            have hix := FM.inv_lt x hcx
            clear hxa he1 he2 hv1 hv2 hcl
            refine Gr.region 10 [(false,0),(false,1),(false,2),(false,3),(false,4),(false,5),(false,6),(true,7),(true,8),(false,9)] (by kernel_rfl) (by kernel_rfl) (fun d _ _ _ _ h => by cases d <;> exact h) ?_
            simp only [Gr.pick, List.getElem?_cons_zero, List.getElem?_cons_succ, List.drop_succ_cons, List.drop_zero]
            iterate 7
              refine Gr.walk_t ?_ (Or.inl ⟨by rfl, ?_⟩) ?_
              rotate_left
              · intro w' hw'
                have hc1 := HL1.out w' (Gr.of_drew hw')
                have hc2 := HL2.out w' (Gr.of_drew hw')
                have hc3 := HL3.out w' (Gr.of_drew hw')
                clear hw'
                go_simp
                try with_reducible rfl
              simp only [Act.put, List.setIfInBounds_toArray, List.set_cons_zero, List.set_cons_succ]
            clear HL1 HL2 HL3
            refine Gr.walk_c (fun K hK => ?_)
            go_simp
            refine (inv_any x hcx _).mono ?_
            rintro _ w' ⟨rfl, rfl⟩
            try go_simp
            refine hK.out _ _ (Gr.ext_refl _) ?_
            clear hK K
            refine Gr.walk_c (fun K hK => ?_)
            go_simp
            refine (eqTimes_any (FM.inv x) _ _ e.1 e.2 _ hix (HU3.out.ext HXA.out) (HU4.out.ext HXA.out) (by rw [HQ.out.ll]; omega) (by rw [HQ.out.xl]; omega)).mono ?_
            rintro _ w5 ⟨c1, c2, hret, ho5, ho6, hb5⟩
            rw [RM.scale_length, RM.scale_length, HQ.out.ll, HQ.out.xl] at hret
            subst hret
            have hx5 := ext_below hb5 rfl
            have HX5 := Lib.hid (Gr.ext_trans HXA.out hx5)
            have HEQ : Hid (EqAt w5 W S (.slice (some ⟨c1, 0, none⟩) W W) (.slice (some ⟨c2, 0, none⟩) S S) (RM.scale (FM.inv x) e.1, RM.scale (FM.inv x) e.2)) :=
              ⟨c1, c2, rfl, rfl, ho5, by rw [RM.scale_length]; exact HQ.out.ll, ho6, by rw [RM.scale_length]; exact HQ.out.xl⟩
            clear ho5 ho6 hb5
            try go_simp
            refine hK.out _ _ hx5 ?_
            clear hK K hx5
            refine Gr.walk_t ?_ (Or.inl ⟨by rfl, ?_⟩) ?_
            rotate_left
            · intro w' hw'
              clear hw'
              go_simp
              try with_reducible rfl
            simp only [Act.put, List.setIfInBounds_toArray, List.set_cons_zero, List.set_cons_succ]
            refine Gr.walk_nil ?_
            have hs5 := HSW.out.ext HX5.out
            obtain ⟨hp0, hp1, hp2⟩ := hs5.cells
            have hpf := hs5.head.frozen 2
            have hv5 := HVS.out.of_block (HX5.out.block _ HVS.out.lt)
            have hg1 := hv5.cell (i := k * 2) (by omega)
            have hg2 := hv5.cell (i := k * 2 + 1) (by omega)
            have hf1 := hv5.frozen (k * 2)
            have hf2 := hv5.frozen (k * 2 + 1)
            have hpg := hs5.pg.2.2
            have hgp := Ne.symm hpg
            have HFIN := Lib.hid (take_put hs5 h1 HEQ.out)
            have HOUT : Hid (∀ B, B ≤ p → B ≤ g → B ≤ w.heap.size → Below B w w5) := fun B h1 h2 h3 => ((Gr.below_of HX.out).mono h3).trans ((below_grown HG.out (by omega) (Nat.le_trans h3 HX.out.size)).trans ((Gr.below_of HX5.out).mono (Nat.le_trans h3 (Nat.le_trans HX.out.size HG.out.size))))
            clear hs5 hv5 HVS
            go_wp2
            go_ret
            refine ⟨.inl ⟨k, e, h1, HS.out, HRED.out, by rw [HX0.out]; exact HNE.out, rfl, ?_⟩, ?_⟩
            · rw [HX0.out]; exact HFIN.out
            · intro B h1 h2 h3
              exact (((HOUT.out B h1 h2 h3).setCell (by exact h2) _).setCell (by exact h2) _).setCell (by exact h1) _
      · obtain rfl : k = W := by omega
        have he2 : wr.cell? ⟨be, 1, none⟩ = some (.slice (some ⟨br, 0, none⟩) S S) := hq.cells.cell (i := 1) (by omega)
        have HSW := Lib.hid (HSC.out.grown hg HQ0.out.cells hgbe)
        have HOUT : Hid (∀ B, B ≤ p → B ≤ g → B ≤ w.heap.size → Below B w wr) := fun B h1 h2 h3 => ((Gr.below_of HX.out).mono h3).trans (below_grown hg (by omega) (Nat.le_trans h3 HX.out.size))
        have HU4 : Hid (U8s wr (.slice (some ⟨br, 0, none⟩) S S) e.2) := by have := hq.right.u8s; rw [hq.xl] at this; exact this
        have HRED := Lib.hid hred
        clear hg hq hred
        go_wp2_with fail
        refine (isZero_any _ e.2 _ HU4.out).mono ?_
        rintro _ w' ⟨rfl, rfl⟩
        go_wp2
        go_ret
        exact ⟨.inr ⟨e, HRED.out, rfl, HSW.out⟩, HOUT.out⟩
end Go.Proofs.YtpfmmfapdcbnkaaDoor
