/- In one text: TabSee, TabCon, TabLay, TabAll, TabDist. -/
import Derived.Shelf.SlSortCmp.NoneTotal
import Derived.Shelf.Sort.Plain
import Derived.Shelf.Slices.In.SortNone
import Derived.Shelf.SlicesG.Cmp
import Derived.Test.YtffcjnabhblbaaaProg
import Derived.Lib.QuietBelow
import Derived.Test.YtffcjnabhblbaaaMA6
import Derived.Test.YtffcjnabhblbaaaMA7
namespace Go.Proofs.Ytffcjnabhblbaaa
set_option maxRecDepth 20000
open Go.RowKit Go.Deep
set_option linter.unusedVariables false
/-- All blocks below B but g are as they were. -/
structure But (B g : Nat) (w w' : World) : Prop where
  size : w.heap.size ≤ w'.heap.size
  block : ∀ i, i < B → i ≠ g → w'.heap[i]? = w.heap[i]?
theorem But.way (B g : Nat) : GrU.Way (But B g) := ⟨fun _ => ⟨Nat.le_refl _, fun _ _ _ => rfl⟩, fun h k => ⟨Nat.le_trans h.size k.size, fun i hi hg => (k.block i hi hg).trans (h.block i hi hg)⟩⟩
theorem But.ext {B g : Nat} {w w' : World} (h : w.Extends w') (hB : B ≤ w.heap.size) : But B g w w' := ⟨h.size, fun i hi _ => h.block i (Nat.lt_of_lt_of_le hi hB)⟩
theorem But.grown {B g : Nat} {w w' : World} {y : Nat} (h : w.grownBy w' (some y)) (hB : B ≤ w.heap.size) (hy : y = g ∨ B ≤ y) : But B g w w' := ⟨h.size, fun i hi hg => h.block i (Nat.lt_of_lt_of_le hi hB) (fun e => by have := Option.some.inj e; omega)⟩
/-- A new variable of a contact. -/
theorem new_ct (W : World) : CAt (W.alloc (.cells (CL z21).toArray 47)) W.heap.size 47 [] [z21] [] := CAt.box W _ z21
def SSee (g : Nat) (T : TypeId) (pre post : List Value) (l : List Ct) (c : Ct) (w : World) (e : Ending) (w' : World) : Prop :=
  e = .returned (.tuple #[.int .i64 (seeX l c).p, .bool (seeB l c)]) ∧ BAt w' g T pre (seeL l c) post ∧ w.grownBy w' (some g)
set_option maxHeartbeats 8000000 in
theorem ssee_any (g o : Nat) (T : TypeId) (pre post : List Value) (l : List Ct) (q : Int) (w : World) (h : BAt w g T pre l post) (ho : pre.length = o) :
    Calls Try.prog 26 #[.pointer (some ⟨g, o, none⟩), .int .i64 q] w (SSee g T pre post l (ctOf q) w) := by
  have HK1 : Hid (∀ w v, Ints w v [q] → Calls Try.prog 39 #[v] w fun e w' => e = .returned (KV (KY.of [q])) ∧ w.Extends w') := fun w v h => kof_any w h
  have HS : Hid (∀ w1, BAt w1 g T pre l post → Calls Try.prog 43 #[.pointer (some ⟨g, o, none⟩), CV (ctOf q)] w1 fun e w' => e = .returned (.tuple #[CV (seeX l (ctOf q)), .bool (seeB l (ctOf q))]) ∧ BAt w' g T pre (seeL l (ctOf q)) post ∧ w1.grownBy w' (some g)) := fun w1 h1 => bsee_any g o T pre post l (ctOf q) w1 h1 ho
  have HGS : Hid (g < w.heap.size) := h.lt
  have HB := Lib.hid h
  have HEND : Hid (∀ e w', SSee g T pre post l (ctOf q) w e w' ↔ e = .returned (.tuple #[.int .i64 (seeX l (ctOf q)).p, .bool (seeB l (ctOf q))]) ∧ BAt w' g T pre (seeL l (ctOf q)) post ∧ w.grownBy w' (some g)) := fun _ _ => Iff.rfl
  obtain ⟨x1, hx1⟩ : ∃ x, KV (KY.of [q]) = x := ⟨_, rfl⟩
  have HX1 := Lib.hid hx1
  rw [hx1] at HK1
  obtain ⟨x2, hx2⟩ : ∃ x, CV (ctOf q) = x := ⟨_, rfl⟩
  have HX2 := Lib.hid hx2
  rw [hx2] at HS
  obtain ⟨x3, hx3⟩ : ∃ x, CV (seeX l (ctOf q)) = x := ⟨_, rfl⟩
  have HX3 := Lib.hid hx3
  rw [hx3] at HS
  clear hx1 hx2 hx3 h ho
  generalize seeX l (ctOf q) = xc at *
  generalize seeB l (ctOf q) = xb at *
  generalize seeL l (ctOf q) = xl at *
  generalize SSee g T pre post l (ctOf q) w = POST at *
  go_enter Try.func26, Try.ntmps26
  go_upto_region 1 with fail
  refine GrU.regionE (But.way w.heap.size g) 14 9 [(false,0),(false,1),(false,2),(false,3),(false,4)] (by kernel_rfl) (by kernel_rfl) (fun d _ _ _ _ h => by cases d <;> exact h) ?_
  simp only [Gr.pick, List.getElem?_cons_zero, List.getElem?_cons_succ]
  generalize hwd0 : w.drew = wd
  have HX : Hid (w.Extends wd) := by rw [← hwd0]; exact Gr.ext_drew (Gr.ext_refl w)
  clear hwd0
  have HB := Lib.hid (HB.out.ext HX.out)
  iterate 5
    refine GrU.walkE_t ?_ (Or.inl ⟨by rfl, ?_⟩) ?_
    rotate_left
    · intro w' hw'
      clear hw'
      go_simp
      try with_reducible rfl
    simp only [Act.put, List.setIfInBounds_toArray, List.set_cons_zero, List.set_cons_succ]
  refine GrU.walkE_nil ?_
  refine GrU.Left.two (But.way w.heap.size g) (i := 5) (j := 12) (by kernel_rfl) (by kernel_rfl) (GrU.Step.mk rfl (fun K hK => ?_)) (GrU.Step.mk rfl (fun K hK => ?_))
  · skip
    go_simp
    generalize hw : World.alloc _ _ = w1_
    have hx : wd.Extends w1_ := by subst hw; exact ext_alloc _ _
    have I140 : Ints w1_ (.slice (some ⟨wd.heap.size, 0, none⟩) 1 1) [q] := by subst hw; exact ints_one wd q 3
    clear hw
    refine hK.out _ _ (But.ext hx (by first | exact HX.out.size | exact HG.out.size)) ?_
    clear hK K
    have HX := Lib.hid (Gr.ext_trans HX.out hx)
    have HB := Lib.hid (HB.out.ext hx)
    have I14 := Lib.hid I140
    clear I140
    clear hx
    refine GrU.Left.two (But.way w.heap.size g) (i := 6) (j := 12) (by kernel_rfl) (by kernel_rfl) (GrU.Step.mk rfl (fun K hK => ?_)) (GrU.Step.mk rfl (fun K hK => ?_))
    · skip
      go_simp
      refine (HK1.out _ _ I14.out).mono ?_
      rintro e w2_ ⟨rfl, hx⟩
      try go_simp
      refine hK.out _ _ (But.ext hx (by first | exact HX.out.size | exact HG.out.size)) ?_
      clear hK K
      have HX := Lib.hid (Gr.ext_trans HX.out hx)
      have HB := Lib.hid (HB.out.ext hx)
      clear I14
      clear hx
      refine GrU.Left.take (But.way w.heap.size g) (i := 7) rfl (by kernel_rfl) (fun d _ _ _ _ h => by cases d <;> exact h) _ (Or.inl ⟨by rfl, fun w' hw' => ct_make q (by rfl) (by rfl) (by exact HX1.out.symm) HX2.out w'⟩) ?_
      simp only [Act.put, List.setIfInBounds_toArray, List.set_cons_zero, List.set_cons_succ]
      refine GrU.Left.two (But.way w.heap.size g) (i := 8) (j := 12) (by kernel_rfl) (by kernel_rfl) (GrU.Step.mk rfl (fun K hK => ?_)) (GrU.Step.mk rfl (fun K hK => ?_))
      · skip
        go_simp
        refine (HS.out _ HB.out).mono ?_
        rintro e w3_ ⟨rfl, hb, hx⟩
        have HO0 := hb
        have HG0 : w.grownBy w3_ (some g) := grown_trans (grown_below (Gr.below_of HX.out) (Nat.le_refl _)) hx
        clear hb
        try go_simp
        refine hK.out _ _ (But.grown hx HX.out.size (.inl rfl)) ?_
        clear hK K
        clear HX
        clear HB
        have HO := Lib.hid HO0
        clear HO0
        have HG := Lib.hid HG0
        clear HG0
        clear hx
        refine GrU.Left.take (But.way w.heap.size g) (i := 9) rfl (by kernel_rfl) (fun d _ _ _ _ h => by cases d <;> exact h) ?_ (Or.inl ⟨by rfl, ?_⟩) ?_
        rotate_left
        · intro w' hw'
          clear hw'
          go_simp
          try with_reducible rfl
        simp only [Act.put, List.setIfInBounds_toArray, List.set_cons_zero, List.set_cons_succ]
        refine GrU.Left.take (But.way w.heap.size g) (i := 10) rfl (by kernel_rfl) (fun d _ _ _ _ h => by cases d <;> exact h) ?_ (Or.inl ⟨by rfl, ?_⟩) ?_
        rotate_left
        · intro w' hw'
          clear hw'
          go_simp
          try with_reducible rfl
        simp only [Act.put, List.setIfInBounds_toArray, List.set_cons_zero, List.set_cons_succ]
        refine GrU.Left.take (But.way w.heap.size g) (i := 11) rfl (by kernel_rfl) (fun d _ _ _ _ h => by cases d <;> exact h) ?_ (Or.inl ⟨by rfl, ?_⟩) ?_
        rotate_left
        · intro w' hw'
          clear hw'
          go_simp
          try with_reducible rfl
        simp only [Act.put, List.setIfInBounds_toArray, List.set_cons_zero, List.set_cons_succ]
        refine GrU.Left.one (But.way w.heap.size g) (i := 12) (by kernel_rfl) (by kernel_rfl) (GrU.Step.mk rfl (fun K hK => ?_))
        go_simp
        generalize hw : World.alloc _ _ = w4_
        have hx : w3_.Extends w4_ := by subst hw; exact ext_alloc _ _
        have Y0 : CAt w4_ w3_.heap.size 47 [] [z21] [] ∧ w.heap.size ≤ w3_.heap.size := by subst hw; exact ⟨new_ct w3_, by first | exact HX.out.size | exact HG.out.size⟩
        clear hw
        refine hK.out _ _ (But.ext hx (by first | exact HX.out.size | exact HG.out.size)) ?_
        clear hK K
        have HO := Lib.hid (HO.out.ext hx)
        have HG := Lib.hid (grown_trans HG.out (grown_below (Gr.below_of hx) (Nat.le_refl _)))
        have Y := Lib.hid Y0
        clear Y0
        clear hx
        refine GrU.Left.one (But.way w.heap.size g) (i := 13) (by kernel_rfl) (by kernel_rfl) (GrU.Step.mk rfl (fun K hK => ?_))
        rw [if_pos (by rfl)]
        refine wp_store_ct (.tmp 6) (.tmp 18) rfl _ 0 0 xc 47 [] [] [z21] rfl HX3.out.symm Y.out.1 rfl Nat.zero_lt_one ?_
        intro w5_ hc hx
        have Z0 := And.intro hc Y.out.2
        clear hc
        simp only [Act.put]
        refine hK.out _ _ (But.grown hx HG.out.size (.inr Y.out.2)) ?_
        clear hK K
        have HO := Lib.hid (HO.out.grown hx (fun e => by have := Option.some.inj e; have := HGS.out; have := Y.out.2; omega))
        have HG := Lib.hid (grown_in HG.out hx (fun y hy => by have := Option.some.inj hy; have := Y.out.2; omega))
        clear Y
        have Z := Lib.hid Z0
        clear Z0
        clear hx
        refine GrU.Left.done (by kernel_rfl) ?_
        simp only [List.drop_succ_cons, List.drop_zero]
        have hp := range_peer (Z.out.1.range (o := 0) (k := 0) rfl Nat.zero_lt_one)
        simp only [List.set_cons_zero, List.getD_cons_zero] at hp
        have HP : Hid (POST (.returned (.tuple #[.int .i64 xc.p, .bool xb])) w5_) := (HEND.out _ _).2 ⟨rfl, HO.out, HG.out⟩
        go_wp2
        exact HP.out
      · skip
        go_simp
        generalize hw : World.alloc _ _ = w6_
        have hx : w2_.Extends w6_ := by subst hw; exact ext_alloc _ _
        have Y0 : CAt w6_ w2_.heap.size 47 [] [z21] [] ∧ w.heap.size ≤ w2_.heap.size := by subst hw; exact ⟨new_ct w2_, by first | exact HX.out.size | exact HG.out.size⟩
        clear hw
        refine hK.out _ _ (But.ext hx (by first | exact HX.out.size | exact HG.out.size)) ?_
        clear hK K
        have HX := Lib.hid (Gr.ext_trans HX.out hx)
        have HB := Lib.hid (HB.out.ext hx)
        have Y := Lib.hid Y0
        clear Y0
        clear hx
        refine GrU.Left.one (But.way w.heap.size g) (i := 8) (by kernel_rfl) (by kernel_rfl) (GrU.Step.mk rfl (fun K hK => ?_))
        go_simp
        refine (HS.out _ HB.out).mono ?_
        rintro e w7_ ⟨rfl, hb, hx⟩
        have HO0 := hb
        have HG0 : w.grownBy w7_ (some g) := grown_trans (grown_below (Gr.below_of HX.out) (Nat.le_refl _)) hx
        clear hb
        try go_simp
        refine hK.out _ _ (But.grown hx HX.out.size (.inl rfl)) ?_
        clear hK K
        clear HX
        clear HB
        have Y := Lib.hid (And.intro (Y.out.1.kept (hx.block _ Y.out.1.lt (fun e => by have := Option.some.inj e; have := HGS.out; have := Y.out.2; omega))) Y.out.2)
        have HO := Lib.hid HO0
        clear HO0
        have HG := Lib.hid HG0
        clear HG0
        clear hx
        refine GrU.Left.take (But.way w.heap.size g) (i := 9) rfl (by kernel_rfl) (fun d _ _ _ _ h => by cases d <;> exact h) ?_ (Or.inl ⟨by rfl, ?_⟩) ?_
        rotate_left
        · intro w' hw'
          clear hw'
          go_simp
          try with_reducible rfl
        simp only [Act.put, List.setIfInBounds_toArray, List.set_cons_zero, List.set_cons_succ]
        refine GrU.Left.take (But.way w.heap.size g) (i := 10) rfl (by kernel_rfl) (fun d _ _ _ _ h => by cases d <;> exact h) ?_ (Or.inl ⟨by rfl, ?_⟩) ?_
        rotate_left
        · intro w' hw'
          clear hw'
          go_simp
          try with_reducible rfl
        simp only [Act.put, List.setIfInBounds_toArray, List.set_cons_zero, List.set_cons_succ]
        refine GrU.Left.take (But.way w.heap.size g) (i := 11) rfl (by kernel_rfl) (fun d _ _ _ _ h => by cases d <;> exact h) ?_ (Or.inl ⟨by rfl, ?_⟩) ?_
        rotate_left
        · intro w' hw'
          clear hw'
          go_simp
          try with_reducible rfl
        simp only [Act.put, List.setIfInBounds_toArray, List.set_cons_zero, List.set_cons_succ]
        refine GrU.Left.one (But.way w.heap.size g) (i := 13) (by kernel_rfl) (by kernel_rfl) (GrU.Step.mk rfl (fun K hK => ?_))
        rw [if_pos (by rfl)]
        refine wp_store_ct (.tmp 6) (.tmp 18) rfl _ 0 0 xc 47 [] [] [z21] rfl HX3.out.symm Y.out.1 rfl Nat.zero_lt_one ?_
        intro w8_ hc hx
        have Z0 := And.intro hc Y.out.2
        clear hc
        simp only [Act.put]
        refine hK.out _ _ (But.grown hx HG.out.size (.inr Y.out.2)) ?_
        clear hK K
        clear Y
        have HO := Lib.hid (HO.out.grown hx (fun e => by have := Option.some.inj e; have := HGS.out; have := Y.out.2; omega))
        have HG := Lib.hid (grown_in HG.out hx (fun y hy => by have := Option.some.inj hy; have := Y.out.2; omega))
        have Z := Lib.hid Z0
        clear Z0
        clear hx
        refine GrU.Left.done (by kernel_rfl) ?_
        simp only [List.drop_succ_cons, List.drop_zero]
        have hp := range_peer (Z.out.1.range (o := 0) (k := 0) rfl Nat.zero_lt_one)
        simp only [List.set_cons_zero, List.getD_cons_zero] at hp
        have HP : Hid (POST (.returned (.tuple #[.int .i64 xc.p, .bool xb])) w8_) := (HEND.out _ _).2 ⟨rfl, HO.out, HG.out⟩
        go_wp2
        exact HP.out
    · skip
      go_simp
      generalize hw : World.alloc _ _ = w9_
      have hx : w1_.Extends w9_ := by subst hw; exact ext_alloc _ _
      have Y0 : CAt w9_ w1_.heap.size 47 [] [z21] [] ∧ w.heap.size ≤ w1_.heap.size := by subst hw; exact ⟨new_ct w1_, by first | exact HX.out.size | exact HG.out.size⟩
      clear hw
      refine hK.out _ _ (But.ext hx (by first | exact HX.out.size | exact HG.out.size)) ?_
      clear hK K
      have HX := Lib.hid (Gr.ext_trans HX.out hx)
      have HB := Lib.hid (HB.out.ext hx)
      have I14 := Lib.hid (I14.out.ext hx)
      have Y := Lib.hid Y0
      clear Y0
      clear hx
      refine GrU.Left.one (But.way w.heap.size g) (i := 6) (by kernel_rfl) (by kernel_rfl) (GrU.Step.mk rfl (fun K hK => ?_))
      go_simp
      refine (HK1.out _ _ I14.out).mono ?_
      rintro e w10_ ⟨rfl, hx⟩
      try go_simp
      refine hK.out _ _ (But.ext hx (by first | exact HX.out.size | exact HG.out.size)) ?_
      clear hK K
      have HX := Lib.hid (Gr.ext_trans HX.out hx)
      have HB := Lib.hid (HB.out.ext hx)
      clear I14
      have Y := Lib.hid (And.intro (Y.out.1.ext hx) Y.out.2)
      clear hx
      refine GrU.Left.take (But.way w.heap.size g) (i := 7) rfl (by kernel_rfl) (fun d _ _ _ _ h => by cases d <;> exact h) _ (Or.inl ⟨by rfl, fun w' hw' => ct_make q (by rfl) (by rfl) (by exact HX1.out.symm) HX2.out w'⟩) ?_
      simp only [Act.put, List.setIfInBounds_toArray, List.set_cons_zero, List.set_cons_succ]
      refine GrU.Left.one (But.way w.heap.size g) (i := 8) (by kernel_rfl) (by kernel_rfl) (GrU.Step.mk rfl (fun K hK => ?_))
      go_simp
      refine (HS.out _ HB.out).mono ?_
      rintro e w11_ ⟨rfl, hb, hx⟩
      have HO0 := hb
      have HG0 : w.grownBy w11_ (some g) := grown_trans (grown_below (Gr.below_of HX.out) (Nat.le_refl _)) hx
      clear hb
      try go_simp
      refine hK.out _ _ (But.grown hx HX.out.size (.inl rfl)) ?_
      clear hK K
      clear HX
      clear HB
      have Y := Lib.hid (And.intro (Y.out.1.kept (hx.block _ Y.out.1.lt (fun e => by have := Option.some.inj e; have := HGS.out; have := Y.out.2; omega))) Y.out.2)
      have HO := Lib.hid HO0
      clear HO0
      have HG := Lib.hid HG0
      clear HG0
      clear hx
      refine GrU.Left.take (But.way w.heap.size g) (i := 9) rfl (by kernel_rfl) (fun d _ _ _ _ h => by cases d <;> exact h) ?_ (Or.inl ⟨by rfl, ?_⟩) ?_
      rotate_left
      · intro w' hw'
        clear hw'
        go_simp
        try with_reducible rfl
      simp only [Act.put, List.setIfInBounds_toArray, List.set_cons_zero, List.set_cons_succ]
      refine GrU.Left.take (But.way w.heap.size g) (i := 10) rfl (by kernel_rfl) (fun d _ _ _ _ h => by cases d <;> exact h) ?_ (Or.inl ⟨by rfl, ?_⟩) ?_
      rotate_left
      · intro w' hw'
        clear hw'
        go_simp
        try with_reducible rfl
      simp only [Act.put, List.setIfInBounds_toArray, List.set_cons_zero, List.set_cons_succ]
      refine GrU.Left.take (But.way w.heap.size g) (i := 11) rfl (by kernel_rfl) (fun d _ _ _ _ h => by cases d <;> exact h) ?_ (Or.inl ⟨by rfl, ?_⟩) ?_
      rotate_left
      · intro w' hw'
        clear hw'
        go_simp
        try with_reducible rfl
      simp only [Act.put, List.setIfInBounds_toArray, List.set_cons_zero, List.set_cons_succ]
      refine GrU.Left.one (But.way w.heap.size g) (i := 13) (by kernel_rfl) (by kernel_rfl) (GrU.Step.mk rfl (fun K hK => ?_))
      rw [if_pos (by rfl)]
      refine wp_store_ct (.tmp 6) (.tmp 18) rfl _ 0 0 xc 47 [] [] [z21] rfl HX3.out.symm Y.out.1 rfl Nat.zero_lt_one ?_
      intro w12_ hc hx
      have Z0 := And.intro hc Y.out.2
      clear hc
      simp only [Act.put]
      refine hK.out _ _ (But.grown hx HG.out.size (.inr Y.out.2)) ?_
      clear hK K
      clear Y
      have HO := Lib.hid (HO.out.grown hx (fun e => by have := Option.some.inj e; have := HGS.out; have := Y.out.2; omega))
      have HG := Lib.hid (grown_in HG.out hx (fun y hy => by have := Option.some.inj hy; have := Y.out.2; omega))
      have Z := Lib.hid Z0
      clear Z0
      clear hx
      refine GrU.Left.done (by kernel_rfl) ?_
      simp only [List.drop_succ_cons, List.drop_zero]
      have hp := range_peer (Z.out.1.range (o := 0) (k := 0) rfl Nat.zero_lt_one)
      simp only [List.set_cons_zero, List.getD_cons_zero] at hp
      have HP : Hid (POST (.returned (.tuple #[.int .i64 xc.p, .bool xb])) w12_) := (HEND.out _ _).2 ⟨rfl, HO.out, HG.out⟩
      go_wp2
      exact HP.out
  · skip
    go_simp
    generalize hw : World.alloc _ _ = w13_
    have hx : wd.Extends w13_ := by subst hw; exact ext_alloc _ _
    have Y0 : CAt w13_ wd.heap.size 47 [] [z21] [] ∧ w.heap.size ≤ wd.heap.size := by subst hw; exact ⟨new_ct wd, by first | exact HX.out.size | exact HG.out.size⟩
    clear hw
    refine hK.out _ _ (But.ext hx (by first | exact HX.out.size | exact HG.out.size)) ?_
    clear hK K
    have HX := Lib.hid (Gr.ext_trans HX.out hx)
    have HB := Lib.hid (HB.out.ext hx)
    have Y := Lib.hid Y0
    clear Y0
    clear hx
    refine GrU.Left.one (But.way w.heap.size g) (i := 5) (by kernel_rfl) (by kernel_rfl) (GrU.Step.mk rfl (fun K hK => ?_))
    go_simp
    generalize hw : World.alloc _ _ = w14_
    have hx : w13_.Extends w14_ := by subst hw; exact ext_alloc _ _
    have I140 : Ints w14_ (.slice (some ⟨w13_.heap.size, 0, none⟩) 1 1) [q] := by subst hw; exact ints_one w13_ q 3
    clear hw
    refine hK.out _ _ (But.ext hx (by first | exact HX.out.size | exact HG.out.size)) ?_
    clear hK K
    have HX := Lib.hid (Gr.ext_trans HX.out hx)
    have HB := Lib.hid (HB.out.ext hx)
    have Y := Lib.hid (And.intro (Y.out.1.ext hx) Y.out.2)
    have I14 := Lib.hid I140
    clear I140
    clear hx
    refine GrU.Left.one (But.way w.heap.size g) (i := 6) (by kernel_rfl) (by kernel_rfl) (GrU.Step.mk rfl (fun K hK => ?_))
    go_simp
    refine (HK1.out _ _ I14.out).mono ?_
    rintro e w15_ ⟨rfl, hx⟩
    try go_simp
    refine hK.out _ _ (But.ext hx (by first | exact HX.out.size | exact HG.out.size)) ?_
    clear hK K
    have HX := Lib.hid (Gr.ext_trans HX.out hx)
    have HB := Lib.hid (HB.out.ext hx)
    have Y := Lib.hid (And.intro (Y.out.1.ext hx) Y.out.2)
    clear I14
    clear hx
    refine GrU.Left.take (But.way w.heap.size g) (i := 7) rfl (by kernel_rfl) (fun d _ _ _ _ h => by cases d <;> exact h) _ (Or.inl ⟨by rfl, fun w' hw' => ct_make q (by rfl) (by rfl) (by exact HX1.out.symm) HX2.out w'⟩) ?_
    simp only [Act.put, List.setIfInBounds_toArray, List.set_cons_zero, List.set_cons_succ]
    refine GrU.Left.one (But.way w.heap.size g) (i := 8) (by kernel_rfl) (by kernel_rfl) (GrU.Step.mk rfl (fun K hK => ?_))
    go_simp
    refine (HS.out _ HB.out).mono ?_
    rintro e w16_ ⟨rfl, hb, hx⟩
    have HO0 := hb
    have HG0 : w.grownBy w16_ (some g) := grown_trans (grown_below (Gr.below_of HX.out) (Nat.le_refl _)) hx
    clear hb
    try go_simp
    refine hK.out _ _ (But.grown hx HX.out.size (.inl rfl)) ?_
    clear hK K
    clear HX
    clear HB
    have Y := Lib.hid (And.intro (Y.out.1.kept (hx.block _ Y.out.1.lt (fun e => by have := Option.some.inj e; have := HGS.out; have := Y.out.2; omega))) Y.out.2)
    have HO := Lib.hid HO0
    clear HO0
    have HG := Lib.hid HG0
    clear HG0
    clear hx
    refine GrU.Left.take (But.way w.heap.size g) (i := 9) rfl (by kernel_rfl) (fun d _ _ _ _ h => by cases d <;> exact h) ?_ (Or.inl ⟨by rfl, ?_⟩) ?_
    rotate_left
    · intro w' hw'
      clear hw'
      go_simp
      try with_reducible rfl
    simp only [Act.put, List.setIfInBounds_toArray, List.set_cons_zero, List.set_cons_succ]
    refine GrU.Left.take (But.way w.heap.size g) (i := 10) rfl (by kernel_rfl) (fun d _ _ _ _ h => by cases d <;> exact h) ?_ (Or.inl ⟨by rfl, ?_⟩) ?_
    rotate_left
    · intro w' hw'
      clear hw'
      go_simp
      try with_reducible rfl
    simp only [Act.put, List.setIfInBounds_toArray, List.set_cons_zero, List.set_cons_succ]
    refine GrU.Left.take (But.way w.heap.size g) (i := 11) rfl (by kernel_rfl) (fun d _ _ _ _ h => by cases d <;> exact h) ?_ (Or.inl ⟨by rfl, ?_⟩) ?_
    rotate_left
    · intro w' hw'
      clear hw'
      go_simp
      try with_reducible rfl
    simp only [Act.put, List.setIfInBounds_toArray, List.set_cons_zero, List.set_cons_succ]
    refine GrU.Left.one (But.way w.heap.size g) (i := 13) (by kernel_rfl) (by kernel_rfl) (GrU.Step.mk rfl (fun K hK => ?_))
    rw [if_pos (by rfl)]
    refine wp_store_ct (.tmp 6) (.tmp 18) rfl _ 0 0 xc 47 [] [] [z21] rfl HX3.out.symm Y.out.1 rfl Nat.zero_lt_one ?_
    intro w17_ hc hx
    have Z0 := And.intro hc Y.out.2
    clear hc
    simp only [Act.put]
    refine hK.out _ _ (But.grown hx HG.out.size (.inr Y.out.2)) ?_
    clear hK K
    clear Y
    have HO := Lib.hid (HO.out.grown hx (fun e => by have := Option.some.inj e; have := HGS.out; have := Y.out.2; omega))
    have HG := Lib.hid (grown_in HG.out hx (fun y hy => by have := Option.some.inj hy; have := Y.out.2; omega))
    have Z := Lib.hid Z0
    clear Z0
    clear hx
    refine GrU.Left.done (by kernel_rfl) ?_
    simp only [List.drop_succ_cons, List.drop_zero]
    have hp := range_peer (Z.out.1.range (o := 0) (k := 0) rfl Nat.zero_lt_one)
    simp only [List.set_cons_zero, List.getD_cons_zero] at hp
    have HP : Hid (POST (.returned (.tuple #[.int .i64 xc.p, .bool xb])) w17_) := (HEND.out _ _).2 ⟨rfl, HO.out, HG.out⟩
    go_wp2
    exact HP.out
def TDropOut (g : Nat) (p q : Int) (b : Nat → List Ct) (w : World) (e : Ending) (w' : World) : Prop :=
  e = .returned (.bool (tdropB p b q)) ∧ TAt w' g p (tdrop p b q) ∧ w.grownBy w' (some g)
theorem tdrop_any (g : Nat) (p q : Int) (b : Nat → List Ct) (w : World) (h : TAt w g p b) :
    Calls Try.prog 9 #[.pointer (some ⟨g, 0, none⟩), .int .i64 q] w (TDropOut g p q b w) := by
  obtain ⟨k, hk⟩ : ∃ k, k = bx p q := ⟨_, rfl⟩
  have hk1 : k < 161 := by rw [hk]; exact bx_lt p q
  have HS := Lib.hid (shelfOf_any g p q w h.peer)
  have HD : Hid (∀ w1, w.Extends w1 → Calls Try.prog 23 #[.pointer (some ⟨g, 1 + k * 64, none⟩), .int .i64 q] w1 fun e w2 => ∃ r, e = .returned (.bool r) ∧ TDropOut g p q b w (.returned (.bool r)) w2) := fun w1 hx =>
    (bdrop_any g (1 + k * 64) _ (preT p b k) (postT b k) (b k) q w1 ((h.ext hx).bkt hk1) (preT_length p h.le k)).mono fun e w2 ⟨he, hb, hg⟩ =>
      ⟨_, he, by unfold tdropB; rw [← hk], by unfold tdrop; rw [← hk]; exact h.put hk1 hb, grown_trans (grown_below (Gr.below_of hx) (Nat.le_refl _)) hg⟩
  rw [← hk] at HS
  generalize TDropOut g p q b w = POST at *
  clear hk h hk1
  go_enter Try.func9, Try.ntmps9
  go_wp2_with fail
  refine HS.out.mono ?_
  rintro e w1 ⟨rfl, hx1⟩
  have HX1 := Lib.hid hx1
  clear hx1
  go_wp2_with fail
  refine (HD.out w1 HX1.out).mono ?_
  rintro e w2 ⟨r, rfl, hp⟩
  have HP := Lib.hid hp
  clear hp
  go_wp2
  exact HP.out
def TSeeOut (g : Nat) (p q : Int) (b : Nat → List Ct) (w : World) (e : Ending) (w' : World) : Prop :=
  e = .returned (.tuple #[.int .i64 (tseeX p b q), .bool (tseeB p b q)]) ∧ TAt w' g p (tsee p b q) ∧ w.grownBy w' (some g)
set_option maxHeartbeats 1000000 in
theorem tsee_any (g : Nat) (p q : Int) (b : Nat → List Ct) (w : World) (h : TAt w g p b) :
    Calls Try.prog 11 #[.pointer (some ⟨g, 0, none⟩), .int .i64 q] w (TSeeOut g p q b w) := by
  have hpe := h.peer
  by_cases h0 : Off p q
  · have HP : Hid (TSeeOut g p q b w (.returned (.tuple #[.int .i64 0, .bool false])) w) := by
      refine ⟨?_, ?_, grown_refl _ _⟩
      · unfold tseeX tseeB; rw [if_pos h0, if_pos h0]
      · unfold tsee; rw [if_pos h0]; exact h
    generalize TSeeOut g p q b w = POST at *
    by_cases h1 : q < 0
    · clear h h0
      go_enter Try.func11, Try.ntmps11
      go_wp2
      exact HP.out
    · obtain rfl : q = p := by rcases h0 with h0 | h0 <;> omega
      clear h h0
      go_enter Try.func11, Try.ntmps11
      go_wp2
      exact HP.out
  · have h1 : ¬ q < 0 := fun e => h0 (.inl e)
    have h2 : (q == p) = false := by simp; exact fun e => h0 (.inr e)
    obtain ⟨k, hk⟩ : ∃ k, k = bx p q := ⟨_, rfl⟩
    have hk1 : k < 161 := by rw [hk]; exact bx_lt p q
    have HS := Lib.hid (shelfOf_any g p q w h.peer)
    have HD : Hid (∀ w1, w.Extends w1 → Calls Try.prog 26 #[.pointer (some ⟨g, 1 + k * 64, none⟩), .int .i64 q] w1 fun e w2 => ∃ r s, e = .returned (.tuple #[.int .i64 r, .bool s]) ∧ TSeeOut g p q b w (.returned (.tuple #[.int .i64 r, .bool s])) w2) := fun w1 hx =>
      (ssee_any g (1 + k * 64) _ (preT p b k) (postT b k) (b k) q w1 ((h.ext hx).bkt hk1) (preT_length p h.le k)).mono fun e w2 ⟨he, hb, hg⟩ =>
        ⟨_, _, he, by unfold tseeX tseeB; rw [← hk, if_neg h0, if_neg h0], by unfold tsee; rw [← hk, if_neg h0]; exact h.put hk1 hb, grown_trans (grown_below (Gr.below_of hx) (Nat.le_refl _)) hg⟩
    rw [← hk] at HS
    generalize TSeeOut g p q b w = POST at *
    clear hk h hk1 h0
    go_enter Try.func11, Try.ntmps11
    go_wp2_with fail
    refine HS.out.mono ?_
    rintro e w1 ⟨rfl, hx1⟩
    have HX1 := Lib.hid hx1
    clear hx1
    go_wp2_with fail
    refine (HD.out w1 HX1.out).mono ?_
    rintro e w2 ⟨r, s, rfl, hp⟩
    have HP := Lib.hid hp
    clear hp
    go_wp2
    exact HP.out
end Go.Proofs.Ytffcjnabhblbaaa
namespace Go.Proofs.Ytffcjnabhblbaaa
set_option maxRecDepth 20000
open Go.RowKit Go.Deep
set_option linter.unusedVariables false
theorem OwnC.src {w : World} {B : Nat} {v : Value} {l : List Ct} (h : OwnC w B v l) : Src Try.prog 21 56 v l.length (flatC l) w := by
  rcases h.kinds with ⟨rfl, rfl⟩ | ⟨g, cap, rfl⟩
  · exact Src.ofNil w ctUnder 0
  · obtain ⟨_, _, _, post, ha⟩ := h.at_
    exact ha.src rfl rfl cap
theorem flat_next (b : Nat → List Ct) (k : Nat) : (List.range k).flatMap b ++ b k = (List.range (k + 1)).flatMap b := by
  rw [List.range_succ, List.flatMap_append, List.flatMap_cons, List.flatMap_nil, List.append_nil]
set_option maxHeartbeats 1000000 in
theorem contacts_any (g : Nat) (p : Int) (b : Nat → List Ct) (w : World) (h : TAt w g p b) :
    Calls Try.prog 29 #[.pointer (some ⟨g, 0, none⟩)] w (CloneC w (flatT b)) := by
  obtain ⟨iu, hiu, hz0, hz1, hz2⟩ := ctParts
  have HI := Lib.hid hiu
  have HZ0 := Lib.hid hz0
  have HZ1 := Lib.hid hz1
  have HZ2 := Lib.hid hz2
  have HA : Hid (∀ k, k < 161 → ∀ wr, w.Extends wr → Calls Try.prog 44 #[.pointer (some ⟨g, 1 + k * 64, none⟩)] wr (CloneC wr (b k))) := fun k hk wr hx =>
    ball_any g (1 + k * 64) _ (preT p b k) (postT b k) (b k) wr ((h.ext hx).bkt hk) (preT_length p h.le k)
  have HLE := Lib.hid (flat_le h.le)
  have HL3 := Lib.hid h.le
  have HEND : Hid (∀ v w', w.Extends w' → OwnC w' w.heap.size v (flatT b) → CloneC w (flatT b) (.returned v) w') := fun v w' hx ho => (clonec_of hx ho).choose_spec.choose_spec.2
  have HFT : Hid (flatT b = (List.range 161).flatMap b) := rfl
  generalize flatT b = FT at *
  generalize CloneC w FT = POST at *
  clear h hiu hz0 hz1 hz2
  go_enter Try.func29, Try.ntmps29
  go_wp2_with fail
  go_loopw [3, 7] (fun v i wr => ∃ k : Nat, k ≤ 161 ∧ i = .int .i64 k ∧ Hid (w.Extends wr) ∧ Hid (OwnC wr w.heap.size v ((List.range k).flatMap b))) (fun _ i _ => (161 - intOf i).toNat)
  case atStart => exact ⟨0, by omega, rfl, Gr.ext_refl _, OwnC.nil _ _⟩
  case round =>
    obtain ⟨k, hk, rfl, HX, HO⟩ := hrel
    by_cases h1 : k < 161
    · have hi1 : ((k : Nat) : Int) < 161 := by omega
      go_wp2_with fail
      refine (HA.out k h1 wr HX.out).mono ?_
      rintro e w2 ⟨a, c, rfl, hx2, ho2⟩
      have HX2 := Lib.hid (Gr.ext_trans HX.out hx2)
      have HO2 : Hid (OwnC w2 w.heap.size u3 ((List.range k).flatMap b)) := HO.out.ext hx2
      have HC2 := Lib.hid ho2.src
      have hl1 := HLE.out k
      have hl2 := HL3.out k
      have hbs := HX2.out.size
      have HOB : Hid (∀ x, u3.ownBlock = some x → w.heap.size ≤ x) := fun x hx => (HO2.out.block hx).1
      have HNX := Lib.hid (flat_next b k)
      clear hx2 ho2
      generalize hlb : (b k).length = nb at *
      have HNB := Lib.hid hlb
      generalize hlf : ((List.range k).flatMap b).length = nf at *
      have HNF := Lib.hid hlf
      clear hlb hlf
      have HOW : Hid (w2.ownsRow w.heap.size 47 21 u3 nf (flatC ((List.range k).flatMap b))) := by rw [← HNF.out]; exact HO2.out
      go_wp2_with (at_builtin; refine wpList_append_own_src _ rfl _ _ 56 56 rfl w.heap.size 47 iu (CV z21) 21 32 Try.underlying56 HI.out HZ0.out HZ1.out HZ2.out rfl _ _ _ rfl HOW.out _ nb (flatC (b k)) rfl HC2.out (by unfold maxLen; omega) (by omega) hbs ?_)
      intro v' w3 ho3 hg3 _
      have HP1 : Hid (w.Extends w3) := Gr.ext_of ((Gr.below_of HX2.out).grown hg3 hbs HOB.out)
      have HP2 : Hid (OwnC w3 w.heap.size v' ((List.range (k + 1)).flatMap b)) := by
        rw [← flatC_append, HNX.out] at ho3
        unfold Hid OwnC
        have e : ((List.range (k + 1)).flatMap b).length = nf + nb := by rw [← HNX.out, List.length_append, HNF.out, HNB.out]
        rw [e]
        exact ho3
      clear ho3 hg3 hbs hl1 hl2
      go_wp2
      go_roundw
      case rel => exact ⟨k + 1, by omega, by go_num, HP1, HP2⟩
      case measure => simp [intOf]; omega
    · obtain rfl : k = 161 := by omega
      have HP := Lib.hid (HEND.out u3 wr HX.out (by rw [HFT.out]; exact HO.out))
      go_wp2
      exact HP.out
/-- A row of ints of the call's own. -/
def MadeI (w : World) (xs : List Int) (e : Ending) (w' : World) : Prop := ∃ v, e = .returned v ∧ w.Extends w' ∧ w'.ownsRow w.heap.size 3 1 v xs.length (i64vs xs)
theorem tabinfo : (Try.prog.info? 3).map (fun i => (i.zero, i.size, i.bytes)) = some (some (.int .i64 0), 1, 8) := by kernel_rfl
theorem take_next (l : List Ct) {k : Nat} (hk : k < l.length) : (l.map Ct.p).take k ++ [(l.getD k z21).p] = (l.map Ct.p).take (k + 1) := by
  rw [List.take_add_one]
  simp [hk]
set_option maxHeartbeats 1000000 in
theorem peers_any (v : Value) (l : List Ct) (w : World) (hv : Cts w v l) (hl : l.length ≤ 100000) :
    Calls Try.prog 28 #[v] w (MadeI w (l.map Ct.p)) := by
  obtain ⟨i0, hi, hz0, hz1, hz2⟩ := info_parts tabinfo
  have HI := Lib.hid hi; clear hi
  have HZ0 := Lib.hid hz0; clear hz0
  have HZ1 := Lib.hid hz1; clear hz1
  have HZ2 := Lib.hid hz2; clear hz2
  obtain ⟨n, hn⟩ : ∃ n, l.length = n := ⟨_, rfl⟩
  obtain ⟨va, vc, rfl⟩ := hv.slice
  rw [hn] at hv hl ⊢
  obtain ⟨ps, hps⟩ : ∃ ps, ps = l.map Ct.p := ⟨_, rfl⟩
  have hpl : ps.length = n := by rw [hps, List.length_map, hn]
  have HN := Lib.hid hn
  have HV := Lib.hid hv
  have HEND : Hid (∀ v w', w.Extends w' → w'.ownsRow w.heap.size 3 1 v n (i64vs (ps.take n)) → MadeI w ps (.returned v) w') := fun v w' hx ho => by
    refine ⟨v, rfl, hx, ?_⟩
    rw [hpl]
    rw [List.take_of_length_le (by omega)] at ho
    exact ho
  have HTN : Hid (∀ k, k < n → ps.take k ++ [(l.getD k z21).p] = ps.take (k + 1)) := fun k hk => by rw [hps]; exact take_next l (by omega)
  rw [← hps]
  clear hps
  generalize MadeI w ps = POST at *
  clear hv hn hpl
  go_enter Try.func28, Try.ntmps28
  go_wp2_with fail
  go_loopw [3, 8] (fun v i wr => ∃ k : Nat, k ≤ n ∧ i = .int .i64 k ∧ Hid (w.Extends wr) ∧ Hid (wr.ownsRow w.heap.size 3 1 v k (i64vs (ps.take k)))) (fun _ i _ => (n - intOf i).toNat)
  case atStart => exact ⟨0, by omega, rfl, Gr.ext_refl _, World.ownsRow_nil _ _ _ _⟩
  case round =>
    obtain ⟨k, hk, rfl, HX, HO⟩ := hrel
    by_cases h1 : k < n
    · obtain ⟨vg, vo, rfl, hr⟩ := (HV.out.ext HX.out).at (k := k) (by rw [HN.out]; exact h1)
      have HTK := Lib.hid (HTN.out k h1)
      obtain ⟨y, hy⟩ : ∃ y, wr.heap.size = y := ⟨_, rfl⟩
      have HBX0 : Hid (CAt (wr.alloc (.cells (CL z21).toArray 47)) y 47 [] [z21] []) := by subst hy; exact CAt.box wr _ z21
      obtain ⟨x, hx⟩ : ∃ x, CV (l.getD k z21) = x := ⟨_, rfl⟩
      have HXV := Lib.hid hx
      generalize l.getD k z21 = ck at *
      clear hx
      go_upto_region 5 with (first | (refine wpList_load_ct rfl (.tmp 10) rfl vg (vo + k * 21) ck x HXV.out rfl hr ?_) | (refine wpList_store_ct rfl (.tmp 5) (.tmp 11) rfl y 0 0 ck 47 [] [] [z21] rfl HXV.out.symm HBX0.out rfl (Nat.zero_lt_one) ?_))
      intro w4 ha4 hg4
      have HX4 : Hid (wr.Extends w4) := var_new hy hg4
      have HXW : Hid (w.Extends w4) := Gr.ext_trans HX.out HX4.out
      have hpe := range_peer (ha4.range (o := 0) (k := 0) rfl Nat.zero_lt_one)
      simp only [List.getD_cons_zero] at hpe
      have HOW : Hid (w4.ownsRow w.heap.size 3 1 u3 k (i64vs (ps.take k))) := owns_ext HO.out HX4.out
      have HOB : Hid (∀ g, u3.ownBlock = some g → w.heap.size ≤ g) := fun g hg => (HOW.out.lt g hg).1
      have hbs := HXW.out.size
      have HSN : Hid (i64vs (ps.take k) ++ [.int .i64 ck.p] = i64vs (ps.take (k + 1))) := by show _ = _; rw [← HTK.out, i64vs_snoc]
      clear ha4 hg4 hy hr HBX0
      go_wp2_with (at_builtin; refine wpList_append_own_src _ rfl _ _ 36 36 rfl w.heap.size 3 i0 (.int .i64 0) 1 8 Try.underlying36 HI.out HZ0.out HZ1.out HZ2.out rfl _ _ _ rfl (HOW.out.alloc _) _ 1 [.int .i64 ck.p] rfl (src_one Try.underlying36 _ _ rfl rfl) (by unfold maxLen; omega) (by omega) (by simp; omega) ?_)
      intro v' w5 ho5 hg5 _
      have HP1 : Hid (w.Extends w5) := Gr.ext_of (((Gr.below_of HXW.out).alloc hbs _).grown hg5 (by simp; omega) HOB.out)
      rw [HSN.out] at ho5
      have HP2 := Lib.hid ho5
      clear ho5 hg5
      go_wp2
      go_roundw
      case rel => exact ⟨k + 1, by omega, by go_num, HP1, HP2⟩
      case measure => simp [intOf]; omega
    · obtain rfl : k = n := by omega
      have HP := Lib.hid (HEND.out u3 wr HX.out HO.out)
      go_wp2
      exact HP.out
end Go.Proofs.Ytffcjnabhblbaaa
namespace Go.Proofs.Ytffcjnabhblbaaa
set_option maxRecDepth 20000
open Go.Shelf
def sortCt_ren : Go.Shelf.Ren := ⟨fun | 6 => 31 | 15 => 46 | 14 => 47 | 28 => 66 | 29 => 67 | 20 => 68 | 21 => 69 | 22 => 70 | 23 => 71 | 24 => 72 | 25 => 73 | 26 => 74 | 27 => 75 | 46 => 84 | 47 => 80 | 48 => 81 | 49 => 85 | 50 => 86 | 57 => 89 | n => n, fun | 22 => 56 | 24 => 47 | 25 => 72 | 3 => 3 | 39 => 87 | 0 => 0 | 53 => 75 | 55 => 77 | 4 => 4 | 46 => 96 | 45 => 95 | 50 => 33 | 5 => 5 | 9 => 9 | 66 => 111 | 70 => 115 | 76 => 119 | 77 => 120 | n => n, fun | n => n⟩
theorem sortCt : Go.Proofs.SlLaysF0.n6 Try.prog sortCt_ren := {
  mixed := by kernel_rfl
  f6 := ⟨Try.f31.name, by decide, Try.func31.trans (congrArg some (by kernel_rfl))⟩
  f14 := ⟨Try.f47.name, by decide, Try.func47.trans (congrArg some (by kernel_rfl))⟩
  f15 := Try.func46.trans (congrArg some (by kernel_rfl))
  f20 := ⟨Try.f68.name, by decide, Try.func68.trans (congrArg some (by kernel_rfl))⟩
  f21 := ⟨Try.f69.name, by decide, Try.func69.trans (congrArg some (by kernel_rfl))⟩
  f22 := ⟨Try.f70.name, by decide, Try.func70.trans (congrArg some (by kernel_rfl))⟩
  f23 := ⟨Try.f71.name, by decide, Try.func71.trans (congrArg some (by kernel_rfl))⟩
  f24 := ⟨Try.f72.name, by decide, Try.func72.trans (congrArg some (by kernel_rfl))⟩
  f25 := ⟨Try.f73.name, by decide, Try.func73.trans (congrArg some (by kernel_rfl))⟩
  f26 := ⟨Try.f74.name, by decide, Try.func74.trans (congrArg some (by kernel_rfl))⟩
  f27 := ⟨Try.f75.name, by decide, Try.func75.trans (congrArg some (by kernel_rfl))⟩
  f28 := Try.func66.trans (congrArg some (by kernel_rfl))
  f29 := Try.func67.trans (congrArg some (by kernel_rfl))
  f46 := ⟨Try.f84.name, by decide, Try.func84.trans (congrArg some (by kernel_rfl))⟩
  f47 := Try.func80.trans (congrArg some (by kernel_rfl))
  f48 := Try.func81.trans (congrArg some (by kernel_rfl))
  f49 := ⟨Try.f85.name, by decide, Try.func85.trans (congrArg some (by kernel_rfl))⟩
  f50 := ⟨Try.f86.name, by decide, Try.func86.trans (congrArg some (by kernel_rfl))⟩
  f57 := ⟨Try.f89.name, by decide, Try.func89.trans (congrArg some (by kernel_rfl))⟩
  t0 := Try.underlying0
  a0 := Try.isAgg0
  z0 := Try.sizeOf0
  v0 := Try.zeroValue0
  t3 := Try.underlying3
  a3 := Try.isAgg3
  z3 := Try.sizeOf3
  v3 := Try.zeroValue3
  t4 := Try.underlying4
  a4 := Try.isAgg4
  z4 := Try.sizeOf4
  v4 := Try.zeroValue4
  t5 := Try.underlying5
  a5 := Try.isAgg5
  z5 := Try.sizeOf5
  v5 := Try.zeroValue5
  t9 := Try.underlying9
  a9 := Try.isAgg9
  z9 := Try.sizeOf9
  v9 := Try.zeroValue9
  t22 := Try.underlying56
  a22 := Try.isAgg56
  z22 := Try.sizeOf56
  v22 := Try.zeroValue56
  t25 := Try.underlying72
  a25 := Try.isAgg72
  z25 := Try.sizeOf72
  v25 := Try.zeroValue72
  t39 := Try.underlying87
  a39 := Try.isAgg87
  z39 := Try.sizeOf87
  v39 := Try.zeroValue87
  t45 := Try.underlying95
  a45 := Try.isAgg95
  z45 := Try.sizeOf95
  v45 := Try.zeroValue95
  t46 := Try.underlying96
  a46 := Try.isAgg96
  z46 := Try.sizeOf96
  v46 := Try.zeroValue96
  t50 := Try.underlying33
  a50 := Try.isAgg33
  z50 := Try.sizeOf33
  v50 := Try.zeroValue33
  t53 := Try.underlying75
  a53 := Try.isAgg75
  z53 := Try.sizeOf75
  v53 := Try.zeroValue75
  t55 := Try.underlying77
  a55 := Try.isAgg77
  z55 := Try.sizeOf77
  v55 := Try.zeroValue77
  t66 := Try.underlying111
  a66 := Try.isAgg111
  z66 := Try.sizeOf111
  v66 := Try.zeroValue111
  t70 := Try.underlying115
  a70 := Try.isAgg115
  z70 := Try.sizeOf115
  v70 := Try.zeroValue115
  t76 := Try.underlying119
  a76 := Try.isAgg119
  z76 := Try.sizeOf119
  v76 := Try.zeroValue119
  t77 := Try.underlying120
  a77 := Try.isAgg120
  z77 := Try.sizeOf120
  v77 := Try.zeroValue120 }
def cmpInt_ren : Go.Shelf.Ren := ⟨fun | 5 => 50 | 7 => 77 | n => n, fun | 22 => 3 | 3 => 3 | 4 => 4 | n => n, fun | n => n⟩
theorem cmpInt : Go.Proofs.SlLaysC2.n5 Try.prog cmpInt_ren := {
  mixed := by kernel_rfl
  f5 := ⟨Try.f50.name, by decide, Try.func50.trans (congrArg some (by kernel_rfl))⟩
  f7 := ⟨Try.f77.name, by decide, Try.func77.trans (congrArg some (by kernel_rfl))⟩
  t3 := Try.underlying3
  a3 := Try.isAgg3
  z3 := Try.sizeOf3
  v3 := Try.zeroValue3
  t4 := Try.underlying4
  a4 := Try.isAgg4
  z4 := Try.sizeOf4
  v4 := Try.zeroValue4
  t22 := Try.underlying3
  a22 := Try.isAgg3
  z22 := Try.sizeOf3
  v22 := Try.zeroValue3 }
def sortInt_ren : Go.Shelf.Ren := ⟨fun | 189 => 30 | 125 => 46 | 257 => 45 | 128 => 66 | 129 => 67 | 294 => 57 | 295 => 58 | 296 => 59 | 297 => 60 | 298 => 61 | 299 => 62 | 216 => 63 | 300 => 64 | 301 => 65 | 328 => 79 | 329 => 80 | 330 => 81 | 331 => 82 | 332 => 83 | 215 => 77 | 343 => 88 | n => n, fun | 28 => 36 | 3 => 3 | 46 => 87 | 0 => 0 | 51 => 75 | 53 => 77 | 4 => 4 | 183 => 96 | 182 => 95 | 131 => 33 | 5 => 5 | 9 => 9 | 218 => 111 | 222 => 115 | 228 => 119 | 229 => 120 | n => n, fun | n => n⟩
theorem sortInt : Go.Proofs.Lays.n189 Try.prog sortInt_ren := {
  mixed := by kernel_rfl
  f125 := Try.func46.trans (congrArg some (by kernel_rfl))
  f128 := Try.func66.trans (congrArg some (by kernel_rfl))
  f129 := Try.func67.trans (congrArg some (by kernel_rfl))
  f189 := Try.func30.trans (congrArg some (by kernel_rfl))
  f215 := Try.func77.trans (congrArg some (by kernel_rfl))
  f216 := Try.func63.trans (congrArg some (by kernel_rfl))
  f257 := Try.func45.trans (congrArg some (by kernel_rfl))
  f294 := Try.func57.trans (congrArg some (by kernel_rfl))
  f295 := Try.func58.trans (congrArg some (by kernel_rfl))
  f296 := Try.func59.trans (congrArg some (by kernel_rfl))
  f297 := Try.func60.trans (congrArg some (by kernel_rfl))
  f298 := Try.func61.trans (congrArg some (by kernel_rfl))
  f299 := Try.func62.trans (congrArg some (by kernel_rfl))
  f300 := Try.func64.trans (congrArg some (by kernel_rfl))
  f301 := Try.func65.trans (congrArg some (by kernel_rfl))
  f328 := Try.func79.trans (congrArg some (by kernel_rfl))
  f329 := Try.func80.trans (congrArg some (by kernel_rfl))
  f330 := Try.func81.trans (congrArg some (by kernel_rfl))
  f331 := Try.func82.trans (congrArg some (by kernel_rfl))
  f332 := Try.func83.trans (congrArg some (by kernel_rfl))
  f343 := Try.func88.trans (congrArg some (by kernel_rfl))
  t0 := Try.underlying0
  a0 := Try.isAgg0
  z0 := Try.sizeOf0
  v0 := Try.zeroValue0
  t3 := Try.underlying3
  a3 := Try.isAgg3
  z3 := Try.sizeOf3
  v3 := Try.zeroValue3
  t4 := Try.underlying4
  a4 := Try.isAgg4
  z4 := Try.sizeOf4
  v4 := Try.zeroValue4
  t5 := Try.underlying5
  a5 := Try.isAgg5
  z5 := Try.sizeOf5
  v5 := Try.zeroValue5
  t9 := Try.underlying9
  a9 := Try.isAgg9
  z9 := Try.sizeOf9
  v9 := Try.zeroValue9
  t28 := Try.underlying36
  a28 := Try.isAgg36
  z28 := Try.sizeOf36
  v28 := Try.zeroValue36
  t46 := Try.underlying87
  a46 := Try.isAgg87
  z46 := Try.sizeOf87
  v46 := Try.zeroValue87
  t51 := Try.underlying75
  a51 := Try.isAgg75
  z51 := Try.sizeOf75
  v51 := Try.zeroValue75
  t53 := Try.underlying77
  a53 := Try.isAgg77
  z53 := Try.sizeOf77
  v53 := Try.zeroValue77
  t131 := Try.underlying33
  a131 := Try.isAgg33
  z131 := Try.sizeOf33
  v131 := Try.zeroValue33
  t182 := Try.underlying95
  a182 := Try.isAgg95
  z182 := Try.sizeOf95
  v182 := Try.zeroValue95
  t183 := Try.underlying96
  a183 := Try.isAgg96
  z183 := Try.sizeOf96
  v183 := Try.zeroValue96
  t218 := Try.underlying111
  a218 := Try.isAgg111
  z218 := Try.sizeOf111
  v218 := Try.zeroValue111
  t222 := Try.underlying115
  a222 := Try.isAgg115
  z222 := Try.sizeOf115
  v222 := Try.zeroValue115
  t228 := Try.underlying119
  a228 := Try.isAgg119
  z228 := Try.sizeOf119
  v228 := Try.zeroValue119
  t229 := Try.underlying120
  a229 := Try.isAgg120
  z229 := Try.sizeOf120
  v229 := Try.zeroValue120 }
end Go.Proofs.Ytffcjnabhblbaaa
namespace Go.Proofs.Ytffcjnabhblbaaa
set_option maxRecDepth 20000
open Go.RowKit Go.Deep
set_option linter.unusedVariables false
theorem put_other {α : Type} [Inhabited α] (enc : α → Value) (w : World) (g off : Nat) (d : Array α) (k : Nat) (h : k ≠ g) : (Sort.putRow enc w g off d).heap[k]? = w.heap[k]? := by
  simp only [Sort.putRow, Sort.mapBlock, Array.getElem?_modify]
  rw [if_neg (fun e => h e.symm)]
/-- What a sort of a row in block g leaves: all below B, if the row lies behind. -/
theorem below_sort {α : Type} [Inhabited α] (enc : α → Value) (w : World) (n g off : Nat) (d : Array α) (os : Array Obj) {B : Nat} (hB : B ≤ g) (hw : B ≤ w.heap.size) : Below B w (Sort.grow (Sort.putRow enc (Sort.ahead w n) g off d) os) := by
  refine ⟨rfl, rfl, rfl, by rw [Sort.size_grow, Sort.size_putRow]; exact Nat.le_add_right _ _, fun k hk => ?_⟩
  show ((Sort.putRow enc (Sort.ahead w n) g off d).heap ++ os)[k]? = _
  rw [Array.getElem?_append_left (by rw [Sort.size_putRow]; show k < w.heap.size; omega), put_other _ _ _ _ _ _ (by omega)]
  rfl
/-- What sorting leaves of a row of ints. -/
def SortI (B : Nat) (v : Value) (xs : List Int) (w : World) (e : Ending) (w' : World) : Prop := e = .returned (.tuple #[]) ∧ Below B w w' ∧ Ints w' v (xs.mergeSort fun x y => decide (x ≤ y))
theorem tsort_any (B : Nat) (v : Value) (xs : List Int) (w : World) (hB : B ≤ w.heap.size) (ho : w.ownsRow B 3 1 v xs.length (i64vs xs)) (hl : xs.length ≤ 100000) :
    Calls Try.prog 30 #[v] w (SortI B v xs w) := by
  rcases ho.2 with ⟨rfl, h0⟩ | ⟨g, cap, cur, rfl, hbg, hg, hnc, hcm, hcs, htake⟩
  · obtain rfl : xs = [] := List.eq_nil_of_length_eq_zero h0
    have hc := Any.slices_Sort_int_none sortInt none 0 w
    refine Calls.mono (show Calls Try.prog 30 _ _ _ from hc) fun e w' ⟨he, hw⟩ => ⟨he, by rw [hw]; exact Below.refl _ _, ?_⟩
    rw [List.mergeSort_nil]
    exact nil_ints _ _ _
  · have hlt : g < w.heap.size := (Array.getElem?_eq_some_iff.1 hg).1
    have hH : Sort.Holds (Value.int .i64) w g 0 xs.toArray := fun j hj => by
      have hj' : j < xs.length := by simpa using hj
      refine ⟨?_, frozen_of_row _ _ _ _ _ hg⟩
      have := ho.cells (g := g) rfl j (.int .i64 (xs.getD j 0)) (by simp [i64vs, hj'])
      rw [Addr.add_mid] at this
      rw [this]
      simp [hj']
    have hc := Any.slices_Sort_int sortInt g 0 cap xs w hH hlt (by omega)
    refine Calls.mono (show Calls Try.prog 30 _ _ _ from hc) fun e w' ⟨he, n, os, hw⟩ => ⟨he, by rw [hw]; exact below_sort _ _ _ _ _ _ _ hbg hB, ?_⟩
    have hlen : (xs.mergeSort fun x y => decide (x ≤ y)).length = xs.length := (List.mergeSort_perm xs _).length_eq
    generalize (xs.mergeSort fun x y => decide (x ≤ y)) = ys at *
    refine .inr ⟨g, 0, cap, by rw [hlen], by omega, hcm, ?_, fun k hk => ?_⟩
    · rw [hw, Sort.size_grow, Sort.size_putRow]; exact Nat.lt_of_lt_of_le hlt (Nat.le_add_right _ _)
    · have h1 := Sort.cell?_putRow (Value.int .i64) (Sort.ahead w n) g 0 xs.toArray ys.toArray hH (by simp [hlen]) k (by simpa using hk)
      rw [hw, Sort.cell?_grow _ _ _ (by rw [Sort.size_putRow]; exact hlt), h1]
      simp [hk]
/-- A row of ints that the call leaves. -/
def IntsOut (w : World) (xs : List Int) (e : Ending) (w' : World) : Prop := ∃ v, e = .returned v ∧ w.Extends w' ∧ Ints w' v xs
theorem tall_any (g : Nat) (p : Int) (b : Nat → List Ct) (w : World) (h : TAt w g p b) :
    Calls Try.prog 14 #[.pointer (some ⟨g, 0, none⟩)] w (IntsOut w (allT b)) := by
  have HC := Lib.hid (contacts_any g p b w h)
  have HP : Hid (∀ v w1, OwnC w1 w.heap.size v (flatT b) → Calls Try.prog 28 #[v] w1 (MadeI w1 (peersT b))) := fun v w1 ho => peers_any v (flatT b) w1 ho.cts (by have := flat_le h.le 161; show (List.flatMap _ _).length ≤ _; omega)
  have HS : Hid (∀ v w1, w.Extends w1 → w1.ownsRow w.heap.size 3 1 v (peersT b).length (i64vs (peersT b)) → Calls Try.prog 30 #[v] w1 (SortI w.heap.size v (peersT b) w1)) := fun v w1 hx ho => tsort_any _ v (peersT b) w1 hx.size ho (by have := flat_le h.le 161; unfold peersT flatT; rw [List.length_map]; omega)
  have HEND : Hid (∀ v w1 w2, w.Extends w1 → Below w.heap.size w1 w2 → Ints w2 v ((peersT b).mergeSort fun x y => decide (x ≤ y)) → IntsOut w (allT b) (.returned v) w2) := fun v w1 w2 hx hb hi => ⟨v, rfl, Gr.ext_of ((Gr.below_of hx).trans hb), hi⟩
  generalize IntsOut w (allT b) = POST at *
  unfold SortI at HS
  generalize ((peersT b).mergeSort fun x y => decide (x ≤ y)) = ss at *
  generalize peersT b = ps at *
  generalize flatT b = fs at *
  clear h
  go_enter Try.func14, Try.ntmps14
  go_wp2_with fail
  refine HC.out.mono ?_
  rintro e w1 ⟨a, c, rfl, hx1, ho1⟩
  have HX1 := Lib.hid hx1
  have HO1 := Lib.hid ho1
  clear hx1 ho1
  go_wp2_with fail
  refine (HP.out _ w1 HO1.out).mono ?_
  rintro e w2 ⟨v, rfl, hx2, ho2⟩
  have HX2 := Lib.hid (Gr.ext_trans HX1.out hx2)
  have HO2 := Lib.hid (owns_base ho2 HX1.out.size)
  clear hx2 ho2
  go_wp2_with fail
  refine (HS.out _ w2 HX2.out HO2.out).mono ?_
  rintro e w3 ⟨rfl, hb3, hi3⟩
  have HE := Lib.hid (HEND.out v w2 w3 HX2.out hb3 hi3)
  clear hb3 hi3
  go_wp2
  exact HE.out
end Go.Proofs.Ytffcjnabhblbaaa
namespace Go.Proofs.Ytffcjnabhblbaaa
set_option maxRecDepth 20000
open Go.RowKit Go.Deep
set_option linter.unusedVariables false
/-- The world goes on: memory is added, and no draw is taken back. -/
structure Ahd (w w' : World) : Prop where
  ext : w.Extends w'
  drawn : w.drawn ≤ w'.drawn
theorem Ahd.trans {a b c : World} (h : Ahd a b) (k : Ahd b c) : Ahd a c := ⟨Gr.ext_trans h.ext k.ext, Nat.le_trans h.drawn k.drawn⟩
theorem Ahd.alloc (w : World) (o : Obj) : Ahd w (w.alloc o) := ⟨ext_alloc _ _, Nat.le_refl _⟩
theorem Ahd.grow {w w' : World} (h : Ahd w w') : ∃ q os, w' = Sort.grow (w.drewN q) os := by
  obtain ⟨p, hp⟩ := regrown_of_below (Gr.below_of h.ext)
  have h1 : p.d = w'.drawn := (congrArg World.drawn hp).symm
  have h2 := h.drawn
  have e : w.drewN (w'.drawn - w.drawn) = redrawn w w'.drawn := by
    unfold World.drewN redrawn
    rw [show w.drawn + (w'.drawn - w.drawn) = w'.drawn by omega]
  exact ⟨_, p.os, by rw [e, ← h1]; exact hp⟩
set_option maxHeartbeats 1000000 in
theorem kdist_d {a b : List Nat} (ha : KY.Ok a) (hb : KY.Ok b) (w : World) :
    Calls Try.prog 48 #[KV a, KV b] w fun e w' => e = .returned (KV (KY.dist a b)) ∧ Ahd w w' := by
  obtain ⟨d, hd⟩ : ∃ d, d = KY.dist a b := ⟨_, rfl⟩
  have hdl : d.length = 20 := by rw [hd]; exact KY.dist_len ha.1 hb.1
  have HG := Lib.hid fun i => KY.dist_get ha.1 hb.1 i
  rw [← hd] at HG ⊢
  have HDL := Lib.hid hdl
  clear hd hdl
  go_enter Try.func48, Try.ntmps48
  go_wp2_with fail
  have HF := Lib.hid (Four.made w ha hb)
  generalize hw1 : World.alloc _ _ = w1 at *
  have HDR : Hid (w1.drawn = w.drawn) := by show w1.drawn = _; rw [← hw1]; rfl
  clear hw1
  obtain ⟨s, hs⟩ : ∃ s, s = w.heap.size := ⟨_, rfl⟩
  rw [← hs] at HF ⊢
  clear hs
  go_loopw [7] (fun i wr => ∃ k : Nat, k ≤ 20 ∧ i = .int .i64 k ∧ w1.grownBy wr (some (s + 1 + 1 + 1)) ∧ wr.rowIs (s + 1 + 1 + 1) 24 20 (KTo d k) ∧ Hid (w.drawn ≤ wr.drawn)) (fun i _ => (20 - intOf i).toNat)
  case atStart => exact ⟨0, by omega, rfl, grown_refl _ _, KTo.start _ HF.out.v, Nat.le_of_eq HDR.out.symm⟩
  case round =>
    obtain ⟨k, hk, rfl, hg, hr, HDW⟩ := hrel
    by_cases h1 : k < 20
    · have hra := HF.out.a.of_block (hg.block s (by have := HF.out.a.lt; omega) (by simp; omega))
      have hrb := HF.out.b.of_block (hg.block (s + 1) (by have := HF.out.b.lt; omega) (by simp))
      have hc1 := hra.cell h1
      have hc2 := hrb.cell h1
      have hc3 := hr.cell h1
      have hf3 := hr.frozen k
      have hx := ha.lt k
      have hy := hb.lt k
      have HN := Lib.hid (KTo.next hr (i := k) rfl)
      have HGR := Lib.hid (grown_setCell hg k (.int .u8 (d.getD k 0 : Nat)))
      have HV := Lib.hid (u8_xor_nat _ _ hx hy)
      rw [HG.out k] at HN HGR
      clear hg hr hra hrb
      generalize a.getD k 0 = x at *
      generalize b.getD k 0 = y at *
      generalize KTo d k k = old at *
      go_wp2_with fail
      go_region
      rw [HV.out]
      have HR := Lib.hid HN.out.drew
      have HW := Lib.hid (grown_drew HGR.out)
      clear HN HGR
      go_wp2
      go_roundw
      case rel => exact ⟨k + 1, by omega, by go_num, HW.out, HR.out, Nat.le_succ_of_le HDW.out⟩
      case measure => simp [intOf]; omega
    · obtain rfl : k = 20 := by omega
      have hk1 := KAt.block (KTo.done hr) HDL.out
      have hro := HF.out.r.of_block (hg.block (s + 1 + 1) (by have := HF.out.v.lt; omega) (by simp))
      obtain ⟨old, hk4, hk5⟩ := key_block hro
      have hi := key_info HDL.out
      have hsame : old.size = (KC d).size := by rw [KC_size, HDL.out, hk5]
      have hb := HF.out.below.grown hg (by have := HF.out.below.size; omega) (fun q hq => by have := HF.out.at_; cases hq; omega)
      have HFIN := Lib.hid (key_left (r := s + 1 + 1) (k := d) (by have := HF.out.at_; omega) hb ⟨old, hk4, hk5⟩)
      clear hg hr hro hb
      go_wp2_with (first | (refine wpList_load_row rfl 24 (.tmp 5) rfl (s + 1 + 1 + 1) rfl 24 (KC d) (0, 0) _ hk1 Try.underlying24 rfl hi ?_) | (refine wpList_store_row rfl 24 (.tmp 4) (.tmp 20) rfl (s + 1 + 1) (KC d) rfl rfl 24 old hk4 hi hsame KC_one ?_))
      refine bodyPost_ret (v := KV d) (results_cell_row rfl _ _ (s + 1 + 1) 24 (KC d) (0, 0) _ rfl HFIN.out.2 Try.underlying24 rfl hi) rfl ⟨rfl, Gr.ext_of HFIN.out.1, HDW.out⟩
set_option maxHeartbeats 1000000 in
theorem kless_d {a b : List Nat} (ha : KY.Ok a) (hb : KY.Ok b) (w : World) :
    Calls Try.prog 49 #[KV a, KV b] w fun e w' => e = .returned (.bool (KY.lt a b)) ∧ Ahd w w' := by
  have HC := Lib.hid (KY.compare_lt a b (by rw [ha.1, hb.1]) ha.2 hb.2)
  generalize KY.lt a b = q at *
  go_enter Try.func49, Try.ntmps49
  go_wp2_with fail
  have HB := Lib.hid (Boxed.made w ha hb)
  generalize hw1 : World.alloc _ _ = w1 at *
  have HDR : Hid (w.drawn ≤ w1.drew.drawn) := by show w.drawn ≤ _; rw [← hw1]; exact Nat.le_succ _
  clear hw1
  obtain ⟨s, hs⟩ : ∃ s, s = w.heap.size := ⟨_, rfl⟩
  rw [← hs] at HB ⊢
  clear hs
  refine Gr.region 2 [(false,0),(false,1)] (by kernel_rfl) (by kernel_rfl) (fun d _ _ _ _ h => by cases d <;> exact h) ?_
  simp only [Gr.pick, List.getElem?_cons_zero, List.getElem?_cons_succ, List.drop_succ_cons, List.drop_zero]
  have HA1 := Lib.hid HB.out.a.drew
  have HA2 := Lib.hid HB.out.b.drew
  have HX := Lib.hid (Gr.ext_drew HB.out.ext)
  generalize w1.drew = w2 at *
  iterate 2
    refine Gr.walk_t ?_ (Or.inl ⟨by rfl, ?_⟩) ?_
    rotate_left
    · intro w' hw'
      clear hw'
      go_simp
      try with_reducible rfl
    simp only [Act.put, List.setIfInBounds_toArray, List.set_cons_zero, List.set_cons_succ]
  refine Gr.walk_nil ?_
  go_wp2_with fail
  refine (bcompare_any HA1.out HA2.out ha.1 hb.1).mono ?_
  rintro e w' ⟨rfl, rfl⟩
  generalize Lib.compareBytes _ _ = c at *
  go_wp2
  go_ret
  rw [← HC.out]
  exact ⟨rfl, HX.out, HDR.out⟩
end Go.Proofs.Ytffcjnabhblbaaa
