/- In one text: TabRef. -/
import Derived.Test.YtffcjnabhblbaaaMA8
namespace Go.Proofs.Ytffcjnabhblbaaa
set_option maxRecDepth 20000
open Go.RowKit Go.Deep
set_option linter.unusedVariables false
/-- What a call that writes a table of the reference leaves: all but its block and its slices'. -/
structure RTW (w : World) (g : Nat) (vs vs' : Nat → Value) (w' : World) : Prop where
  os : w'.os = w.os
  tape : w'.tape = w.tape
  output : w'.output = w.output
  size : w.heap.size ≤ w'.heap.size
  block : ∀ i, i < w.heap.size → i ≠ g → (∀ j, (vs j).ownBlock ≠ some i) → w'.heap[i]? = w.heap[i]?
  new : ∀ j k, (vs' j).ownBlock = some k → (∃ i, (vs i).ownBlock = some k) ∨ w.heap.size ≤ k
section
variable {w w1 w2 : World} {g : Nat} {vs vs' : Nat → Value}
theorem RTW.same (w : World) (g : Nat) (vs : Nat → Value) : RTW w g vs vs w := ⟨rfl, rfl, rfl, Nat.le_refl _, fun _ _ _ _ => rfl, fun j k h => .inl ⟨j, h⟩⟩
theorem RTW.of {k : Nat} {v' : Value} (hx : w.Extends w1) (h : RWrote w1 g (vs k) v' w2) : RTW w g vs (upd vs k v') w2 := by
  refine ⟨h.os.trans hx.os, h.tape.trans hx.tape, h.output.trans hx.output, Nat.le_trans hx.size h.size, fun i hi hg hv => (h.block i (Nat.lt_of_lt_of_le hi hx.size) hg (hv k)).trans (hx.block i hi), fun j m hm => ?_⟩
  by_cases e : j = k
  · rw [e, upd_same] at hm
    rcases h.new with h1 | h1
    · exact .inl ⟨k, by rw [← h1]; exact hm⟩
    · exact .inr (Nat.le_trans hx.size (h1 m hm))
  · rw [upd_ne _ _ e] at hm; exact .inl ⟨j, hm⟩
theorem RTW.ext (h : RTW w g vs vs' w1) (hx : w1.Extends w2) : RTW w g vs vs' w2 :=
  ⟨hx.os.trans h.os, hx.tape.trans h.tape, hx.output.trans h.output, Nat.le_trans h.size hx.size, fun i hi hg hv => (hx.block i (Nat.lt_of_lt_of_le hi h.size)).trans (h.block i hi hg hv), h.new⟩
theorem RTW.beside {y : Nat} (h : RTW w g vs vs' w1) (hx : w1.grownBy w2 (some y)) (hy : w.heap.size ≤ y) : RTW w g vs vs' w2 :=
  ⟨hx.os.trans h.os, hx.tape.trans h.tape, hx.output.trans h.output, Nat.le_trans h.size hx.size, fun i hi hg hv => (hx.block i (Nat.lt_of_lt_of_le hi h.size) (fun e => by have := Option.some.inj e; omega)).trans (h.block i hi hg hv), h.new⟩
end
def RTDropOut (g : Nat) (p q : Int) (vs : Nat → Value) (b : Nat → List Ct) (w : World) (e : Ending) (w' : World) : Prop :=
  e = .returned (.bool (tdropB p b q)) ∧ ∃ vs', RTAt w' g p vs' (tdrop p b q) ∧ RTW w g vs vs' w'
set_option maxHeartbeats 1000000 in
theorem rtdrop_any (g : Nat) (p q : Int) (vs : Nat → Value) (b : Nat → List Ct) (w : World) (h : RTAt w g p vs b) (hi : TInv p b) :
    Calls Try.prog 10 #[.pointer (some ⟨g, 0, none⟩), .int .i64 q] w (RTDropOut g p q vs b w) := by
  have hpe := h.peer
  by_cases h0 : Off p q
  · have HP : Hid (RTDropOut g p q vs b w (.returned (.bool false)) w) := by
      obtain ⟨e1, e2⟩ := hi.off h0
      exact ⟨by rw [e2], vs, by rw [e1]; exact h, RTW.same _ _ _⟩
    generalize RTDropOut g p q vs b w = POST at *
    by_cases h1 : q < 0
    · clear h h0 hi
      go_enter Try.func10, Try.ntmps10
      go_wp2
      exact HP.out
    · obtain rfl : q = p := by rcases h0 with h0 | h0 <;> omega
      clear h h0 hi
      go_enter Try.func10, Try.ntmps10
      go_wp2
      exact HP.out
  · have h1 : ¬ q < 0 := fun e => h0 (.inl e)
    have h2 : (q == p) = false := by simp; exact fun e => h0 (.inr e)
    obtain ⟨k, hk⟩ : ∃ k, k = bx p q := ⟨_, rfl⟩
    have hk1 : k < 161 := by rw [hk]; exact bx_lt p q
    have HS : Hid (∀ w1, w.Extends w1 → Calls Try.prog 24 #[.pointer (some ⟨g, 0, none⟩), .int .i64 q] w1 fun e w' => e = .returned (.int .i64 (k : Nat)) ∧ w1.Extends w') := fun w1 hx => by rw [hk]; exact rbucket_any g p q w1 (h.ext hx).peer
    have HD : Hid (∀ w1, w.Extends w1 → Calls Try.prog 25 #[.pointer (some ⟨g, 1 + k, none⟩), .int .i64 q] w1 fun e w2 => ∃ r, e = .returned (.bool r) ∧ RTDropOut g p q vs b w (.returned (.bool r)) w2) := fun w1 hx =>
      (rbdrop_any g (1 + k) _ (rpreT p vs k) (rpostT vs k) (b k) q (vs k) w1 ((h.ext hx).bkt hk1) (rpreT_length p vs k) (by have := hi.le k; omega)).mono fun e w2 ⟨he, v', hb, hw⟩ =>
        ⟨_, he, by unfold tdropB; rw [← hk, isIn_ix (hi.dst k)], upd vs k v', by unfold tdrop; rw [← hk, dropC_erase (hi.dst k)]; exact (h.ext hx).put hk1 hb hw, RTW.of hx hw⟩
    generalize RTDropOut g p q vs b w = POST at *
    clear hk h h0 hi
    go_enter Try.func10, Try.ntmps10
    go_upto_region 3 with fail
    refine Gr.region 8 [(false,0),(false,1),(false,2),(false,4),(false,5),(false,7),(true,3),(false,6)] (by kernel_rfl) (by kernel_rfl) (fun d _ _ _ _ h => by cases d <;> exact h) ?_
    simp only [Gr.pick, List.getElem?_cons_zero, List.getElem?_cons_succ, List.drop_succ_cons, List.drop_zero]
    generalize hwd0 : w.drew = wd
    have HX : Hid (w.Extends wd) := by rw [← hwd0]; exact Gr.ext_drew (Gr.ext_refl w)
    clear hwd0
    iterate 6
      refine Gr.walk_t ?_ (Or.inl ⟨by rfl, ?_⟩) ?_
      rotate_left
      · intro w' hw'
        clear hw'
        go_simp
        try with_reducible rfl
      simp only [Act.put, List.setIfInBounds_toArray, List.set_cons_zero, List.set_cons_succ]
    refine Gr.walk_c (fun K hK => ?_)
    go_simp
    refine (HS.out wd HX.out).mono ?_
    rintro e w1 ⟨rfl, hx⟩
    have HX1 := Lib.hid (Gr.ext_trans HX.out hx)
    try go_simp
    refine hK.out _ _ (hx) ?_
    clear hK K
    refine Gr.walk_t ?_ (Or.inl ⟨by rfl, ?_⟩) ?_
    rotate_left
    · intro w' hw'
      have hb : ((k : Nat) : Int) < 161 := by omega
      clear hw'
      go_simp
      try with_reducible rfl
    simp only [Act.put, List.setIfInBounds_toArray, List.set_cons_zero, List.set_cons_succ]
    refine Gr.walk_nil ?_
    go_wp2_with fail
    refine (HD.out w1 HX1.out).mono ?_
    rintro e w2 ⟨r, rfl, hp⟩
    have HP := Lib.hid hp
    clear hp
    go_wp2
    exact HP.out
def RTSeeOut (g : Nat) (p q : Int) (vs : Nat → Value) (b : Nat → List Ct) (w : World) (e : Ending) (w' : World) : Prop :=
  e = .returned (.tuple #[.int .i64 (tseeX p b q), .bool (tseeB p b q)]) ∧ ∃ vs', RTAt w' g p vs' (tsee p b q) ∧ RTW w g vs vs' w'
/-- The answer's variable is written: it is none of the table's slices. -/
theorem rt_store {w W W' : World} {g y : Nat} {p : Int} {vs vs' : Nat → Value} {b : Nat → List Ct} (ho : RTAt W g p vs' b) (hw : RTW w g vs vs' W) (hx : W.grownBy W' (some y)) (hy : w.heap.size ≤ y) (hg : g < w.heap.size) (hn : ∀ i, (vs' i).ownBlock ≠ some y) : RTAt W' g p vs' b ∧ RTW w g vs vs' W' :=
  ⟨ho.kept hx (by omega) hn, hw.beside hx hy⟩
set_option maxHeartbeats 8000000 in
theorem rtsee_any (g : Nat) (p q : Int) (vs : Nat → Value) (b : Nat → List Ct) (w : World) (h : RTAt w g p vs b) (hi : TInv p b) :
    Calls Try.prog 12 #[.pointer (some ⟨g, 0, none⟩), .int .i64 q] w (RTSeeOut g p q vs b w) := by
  have hpe := h.peer
  by_cases h0 : Off p q
  · have HP : Hid (RTSeeOut g p q vs b w (.returned (.tuple #[.int .i64 0, .bool false])) w) := by
      refine ⟨?_, vs, ?_, RTW.same _ _ _⟩
      · unfold tseeX tseeB; rw [if_pos h0, if_pos h0]
      · unfold tsee; rw [if_pos h0]; exact h
    generalize RTSeeOut g p q vs b w = POST at *
    by_cases h1 : q < 0
    · clear h h0 hi
      go_enter Try.func12, Try.ntmps12
      go_wp2
      exact HP.out
    · obtain rfl : q = p := by rcases h0 with h0 | h0 <;> omega
      clear h h0 hi
      go_enter Try.func12, Try.ntmps12
      go_wp2
      exact HP.out
  · have h1 : ¬ q < 0 := fun e => h0 (.inl e)
    have h2 : (q == p) = false := by simp; exact fun e => h0 (.inr e)
    obtain ⟨k, hk⟩ : ∃ k, k = bx p q := ⟨_, rfl⟩
    have hk1 : k < 161 := by rw [hk]; exact bx_lt p q
    have HS : Hid (∀ w1, RTAt w1 g p vs b → Calls Try.prog 24 #[.pointer (some ⟨g, 0, none⟩), .int .i64 q] w1 fun e w' => e = .returned (.int .i64 (k : Nat)) ∧ w1.Extends w') := fun w1 h1 => by rw [hk]; exact rbucket_any g p q w1 h1.peer
    have HK1 : Hid (∀ w v, Ints w v [q] → Calls Try.prog 19 #[v] w fun e w' => e = .returned (KV (KY.of [q])) ∧ w.Extends w') := fun w v h => rkof_any w h
    have HGS : Hid (g < w.heap.size) := h.lt
    have hsame := see_same (c := ctOf q) (hi.dst k) (hi.le k)
    have HD : Hid (∀ w1, w.Extends w1 → RTAt w1 g p vs b → Calls Try.prog 27 #[.pointer (some ⟨g, 1 + k, none⟩), CV (ctOf q)] w1 fun e w2 => e = .returned (.tuple #[CV (seeX (b k) (ctOf q)), .bool (seeB (b k) (ctOf q))]) ∧ ∃ vs2, RTAt w2 g p vs2 (tsee p b q) ∧ RTW w g vs vs2 w2 ∧ w1.heap.size ≤ w2.heap.size ∧ (∀ i j, (vs2 i).ownBlock = some j → j < w.heap.size ∨ w1.heap.size ≤ j) ∧ (∀ y, w.heap.size ≤ y → y < w1.heap.size → w2.heap[y]? = w1.heap[y]?)) := fun w1 hx hr =>
      (rbsee_any g (1 + k) _ (rpreT p vs k) (rpostT vs k) (b k) (ctOf q) (vs k) w1 (hr.bkt hk1) (rpreT_length p vs k) (by have := hi.le k; omega)).mono fun e w2 ⟨he, v', hb, hw⟩ => by
        rw [← hsame.1] at hb
        refine ⟨by rw [he, hsame.2.1, hsame.2.2], upd vs k v', by unfold tsee; rw [← hk, if_neg h0]; exact hr.put hk1 hb hw, RTW.of hx hw, hw.size, fun i j hj => ?_, fun y hy hy1 => ?_⟩
        · by_cases e : i = k
          · rw [e, upd_same] at hj
            rcases hw.new with h3 | h3
            · left
              rw [h3] at hj
              exact ((h.own k).block hj).2.1
            · exact .inr (h3 j hj)
          · rw [upd_ne _ _ e] at hj
            exact .inl ((h.own i).block hj).2.1
        · exact hw.block y hy1 (by have := h.lt; omega) (fun e => by have := ((h.own k).block e).2.1; omega)
    have HEND : Hid (∀ w' vs2, RTAt w' g p vs2 (tsee p b q) → RTW w g vs vs2 w' → RTSeeOut g p q vs b w (.returned (.tuple #[.int .i64 (seeX (b k) (ctOf q)).p, .bool (seeB (b k) (ctOf q))])) w') := fun w' vs2 h3 h4 => by
      refine ⟨?_, vs2, h3, h4⟩
      unfold tseeX tseeB; rw [← hk, if_neg h0, if_neg h0]
    have HB := Lib.hid h
    obtain ⟨x1, hx1⟩ : ∃ x, KV (KY.of [q]) = x := ⟨_, rfl⟩
    have HX1 := Lib.hid hx1
    rw [hx1] at HK1
    obtain ⟨x2, hx2⟩ : ∃ x, CV (ctOf q) = x := ⟨_, rfl⟩
    have HX2 := Lib.hid hx2
    rw [hx2] at HD
    obtain ⟨x3, hx3⟩ : ∃ x, CV (seeX (b k) (ctOf q)) = x := ⟨_, rfl⟩
    have HX3 := Lib.hid hx3
    rw [hx3] at HD
    clear hx1 hx2 hx3 h hk h0 hi hsame
    generalize seeX (b k) (ctOf q) = xc at *
    generalize seeB (b k) (ctOf q) = xb at *
    generalize RTSeeOut g p q vs b w = POST at *
    go_enter Try.func12, Try.ntmps12
    go_upto_region 3 with fail
    refine GrU.regionE GrU.any_way 18 11 [(false,0),(false,1),(false,2),(false,4),(false,5),(false,7),(false,8)] (by kernel_rfl) (by kernel_rfl) (fun d _ _ _ _ h => by cases d <;> exact h) ?_
    simp only [Gr.pick, List.getElem?_cons_zero, List.getElem?_cons_succ]
    generalize hwd0 : w.drew = wd
    have HX : Hid (w.Extends wd) := by rw [← hwd0]; exact Gr.ext_drew (Gr.ext_refl w)
    clear hwd0
    have HB := Lib.hid (HB.out.ext HX.out)
    clear hpe
    iterate 7
      refine GrU.walkE_t ?_ (Or.inl ⟨by rfl, ?_⟩) ?_
      rotate_left
      · intro w' hw'
        clear hw'
        go_simp
        try with_reducible rfl
      simp only [Act.put, List.setIfInBounds_toArray, List.set_cons_zero, List.set_cons_succ]
    refine GrU.walkE_nil ?_
    refine GrU.Left.three GrU.any_way (i := 3) (j := 9) (k := 16) (by kernel_rfl) (by kernel_rfl) (GrU.Step.mk rfl (fun K hK => ?_)) (GrU.Step.mk rfl (fun K hK => ?_)) (GrU.Step.mk rfl (fun K hK => ?_))
    · skip
      go_simp
      refine (HS.out _ HB.out).mono ?_
      rintro e w1_ ⟨rfl, hx⟩
      try go_simp
      refine hK.out _ _ (trivial) ?_
      clear hK K
      have HX := Lib.hid (Gr.ext_trans HX.out hx)
      have HB := Lib.hid (HB.out.ext hx)
      clear hx
      refine GrU.Left.take GrU.any_way (i := 6) rfl (by kernel_rfl) (fun d _ _ _ _ h => by cases d <;> exact h) ?_ (Or.inl ⟨by rfl, ?_⟩) ?_
      rotate_left
      · intro w' hw'
        have hb : ((k : Nat) : Int) < 161 := by omega
        clear hw'
        go_simp
        try with_reducible rfl
      simp only [Act.put, List.setIfInBounds_toArray, List.set_cons_zero, List.set_cons_succ]
      refine GrU.Left.two GrU.any_way (i := 9) (j := 16) (by kernel_rfl) (by kernel_rfl) (GrU.Step.mk rfl (fun K hK => ?_)) (GrU.Step.mk rfl (fun K hK => ?_))
      · skip
        go_simp
        generalize hw : World.alloc _ _ = w2_
        have hx : w1_.Extends w2_ := by subst hw; exact ext_alloc _ _
        have I140 : Ints w2_ (.slice (some ⟨w1_.heap.size, 0, none⟩) 1 1) [q] := by subst hw; exact ints_one w1_ q 3
        clear hw
        refine hK.out _ _ (trivial) ?_
        clear hK K
        have HX := Lib.hid (Gr.ext_trans HX.out hx)
        have HB := Lib.hid (HB.out.ext hx)
        have I14 := Lib.hid I140
        clear I140
        clear hx
        refine GrU.Left.two GrU.any_way (i := 10) (j := 16) (by kernel_rfl) (by kernel_rfl) (GrU.Step.mk rfl (fun K hK => ?_)) (GrU.Step.mk rfl (fun K hK => ?_))
        · skip
          go_simp
          refine (HK1.out _ _ I14.out).mono ?_
          rintro e w3_ ⟨rfl, hx⟩
          try go_simp
          refine hK.out _ _ (trivial) ?_
          clear hK K
          have HX := Lib.hid (Gr.ext_trans HX.out hx)
          have HB := Lib.hid (HB.out.ext hx)
          clear I14
          clear hx
          refine GrU.Left.take GrU.any_way (i := 11) rfl (by kernel_rfl) (fun d _ _ _ _ h => by cases d <;> exact h) _ (Or.inl ⟨by rfl, fun w' hw' => ct_make q (by rfl) (by rfl) (by exact HX1.out.symm) HX2.out w'⟩) ?_
          simp only [Act.put, List.setIfInBounds_toArray, List.set_cons_zero, List.set_cons_succ]
          refine GrU.Left.two GrU.any_way (i := 12) (j := 16) (by kernel_rfl) (by kernel_rfl) (GrU.Step.mk rfl (fun K hK => ?_)) (GrU.Step.mk rfl (fun K hK => ?_))
          · skip
            go_simp
            refine (HD.out _ HX.out HB.out).mono ?_
            rintro e w4_ ⟨rfl, vs2, hb, hg, hsz, hnew, hx⟩
            have HO0 := hb
            have HG0 := hg
            have HNEW := Lib.hid hnew
            try have YL := Lib.hid Y.out.1.lt
            clear hb hg hnew hsz
            try go_simp
            refine hK.out _ _ (trivial) ?_
            clear hK K
            clear HX
            clear HB
            have HO := Lib.hid HO0
            clear HO0
            have HG := Lib.hid HG0
            clear HG0
            clear hx
            refine GrU.Left.take GrU.any_way (i := 13) rfl (by kernel_rfl) (fun d _ _ _ _ h => by cases d <;> exact h) ?_ (Or.inl ⟨by rfl, ?_⟩) ?_
            rotate_left
            · intro w' hw'
              clear hw'
              go_simp
              try with_reducible rfl
            simp only [Act.put, List.setIfInBounds_toArray, List.set_cons_zero, List.set_cons_succ]
            refine GrU.Left.take GrU.any_way (i := 14) rfl (by kernel_rfl) (fun d _ _ _ _ h => by cases d <;> exact h) ?_ (Or.inl ⟨by rfl, ?_⟩) ?_
            rotate_left
            · intro w' hw'
              clear hw'
              go_simp
              try with_reducible rfl
            simp only [Act.put, List.setIfInBounds_toArray, List.set_cons_zero, List.set_cons_succ]
            refine GrU.Left.take GrU.any_way (i := 15) rfl (by kernel_rfl) (fun d _ _ _ _ h => by cases d <;> exact h) ?_ (Or.inl ⟨by rfl, ?_⟩) ?_
            rotate_left
            · intro w' hw'
              clear hw'
              go_simp
              try with_reducible rfl
            simp only [Act.put, List.setIfInBounds_toArray, List.set_cons_zero, List.set_cons_succ]
            refine GrU.Left.one GrU.any_way (i := 16) (by kernel_rfl) (by kernel_rfl) (GrU.Step.mk rfl (fun K hK => ?_))
            go_simp
            try have NYA : Hid (∀ i, (vs2 i).ownBlock ≠ some w4_.heap.size) := fun i e => absurd ((HO.out.own i).block e).2.1 (Nat.lt_irrefl _)
            generalize hw : World.alloc _ _ = w5_
            have hx : w4_.Extends w5_ := by subst hw; exact ext_alloc _ _
            have Y0 : CAt w5_ w4_.heap.size 47 [] [z21] [] ∧ w.heap.size ≤ w4_.heap.size := by subst hw; exact ⟨new_ct w4_, by first | exact HX.out.size | exact HG.out.size⟩
            clear hw
            refine hK.out _ _ (trivial) ?_
            clear hK K
            have HO := Lib.hid (HO.out.ext hx)
            have HG := Lib.hid (HG.out.ext hx)
            have Y := Lib.hid Y0
            clear Y0
            clear hx
            refine GrU.Left.one GrU.any_way (i := 17) (by kernel_rfl) (by kernel_rfl) (GrU.Step.mk rfl (fun K hK => ?_))
            rw [if_pos (by rfl)]
            refine wp_store_ct (.tmp 6) (.tmp 32) rfl _ 0 0 xc 47 [] [] [z21] rfl HX3.out.symm Y.out.1 rfl Nat.zero_lt_one ?_
            intro w6_ hc hx
            have Z0 := And.intro hc Y.out.2
            have hst := rt_store HO.out HG.out hx Y.out.2 HGS.out (by first | exact NYA.out | exact fun i e => by have := HNEW.out i _ e; have := YL.out; have := Y.out.2; omega)
            clear hc
            simp only [Act.put]
            refine hK.out _ _ (trivial) ?_
            clear hK K
            have HO := Lib.hid (hst.1)
            have HG := Lib.hid (hst.2)
            clear Y
            have Z := Lib.hid Z0
            clear Z0
            clear hx
            refine GrU.Left.done (by kernel_rfl) ?_
            simp only [List.drop_succ_cons, List.drop_zero]
            have hp := range_peer (Z.out.1.range (o := 0) (k := 0) rfl Nat.zero_lt_one)
            simp only [List.set_cons_zero, List.getD_cons_zero] at hp
            have HP := Lib.hid (HEND.out _ _ HO.out HG.out)
            go_wp2
            exact HP.out
          · skip
            go_simp
            try have NYA : Hid (∀ i, (vs2 i).ownBlock ≠ some w3_.heap.size) := fun i e => absurd ((HO.out.own i).block e).2.1 (Nat.lt_irrefl _)
            generalize hw : World.alloc _ _ = w7_
            have hx : w3_.Extends w7_ := by subst hw; exact ext_alloc _ _
            have Y0 : CAt w7_ w3_.heap.size 47 [] [z21] [] ∧ w.heap.size ≤ w3_.heap.size := by subst hw; exact ⟨new_ct w3_, by first | exact HX.out.size | exact HG.out.size⟩
            clear hw
            refine hK.out _ _ (trivial) ?_
            clear hK K
            have HX := Lib.hid (Gr.ext_trans HX.out hx)
            have HB := Lib.hid (HB.out.ext hx)
            have Y := Lib.hid Y0
            clear Y0
            clear hx
            refine GrU.Left.one GrU.any_way (i := 12) (by kernel_rfl) (by kernel_rfl) (GrU.Step.mk rfl (fun K hK => ?_))
            go_simp
            refine (HD.out _ HX.out HB.out).mono ?_
            rintro e w8_ ⟨rfl, vs2, hb, hg, hsz, hnew, hx⟩
            have HO0 := hb
            have HG0 := hg
            have HNEW := Lib.hid hnew
            try have YL := Lib.hid Y.out.1.lt
            clear hb hg hnew hsz
            try go_simp
            refine hK.out _ _ (trivial) ?_
            clear hK K
            clear HX
            clear HB
            have Y := Lib.hid (And.intro (Y.out.1.kept (hx _ Y.out.2 Y.out.1.lt)) Y.out.2)
            have HO := Lib.hid HO0
            clear HO0
            have HG := Lib.hid HG0
            clear HG0
            clear hx
            refine GrU.Left.take GrU.any_way (i := 13) rfl (by kernel_rfl) (fun d _ _ _ _ h => by cases d <;> exact h) ?_ (Or.inl ⟨by rfl, ?_⟩) ?_
            rotate_left
            · intro w' hw'
              clear hw'
              go_simp
              try with_reducible rfl
            simp only [Act.put, List.setIfInBounds_toArray, List.set_cons_zero, List.set_cons_succ]
            refine GrU.Left.take GrU.any_way (i := 14) rfl (by kernel_rfl) (fun d _ _ _ _ h => by cases d <;> exact h) ?_ (Or.inl ⟨by rfl, ?_⟩) ?_
            rotate_left
            · intro w' hw'
              clear hw'
              go_simp
              try with_reducible rfl
            simp only [Act.put, List.setIfInBounds_toArray, List.set_cons_zero, List.set_cons_succ]
            refine GrU.Left.take GrU.any_way (i := 15) rfl (by kernel_rfl) (fun d _ _ _ _ h => by cases d <;> exact h) ?_ (Or.inl ⟨by rfl, ?_⟩) ?_
            rotate_left
            · intro w' hw'
              clear hw'
              go_simp
              try with_reducible rfl
            simp only [Act.put, List.setIfInBounds_toArray, List.set_cons_zero, List.set_cons_succ]
            refine GrU.Left.one GrU.any_way (i := 17) (by kernel_rfl) (by kernel_rfl) (GrU.Step.mk rfl (fun K hK => ?_))
            rw [if_pos (by rfl)]
            refine wp_store_ct (.tmp 6) (.tmp 32) rfl _ 0 0 xc 47 [] [] [z21] rfl HX3.out.symm Y.out.1 rfl Nat.zero_lt_one ?_
            intro w9_ hc hx
            have Z0 := And.intro hc Y.out.2
            have hst := rt_store HO.out HG.out hx Y.out.2 HGS.out (by first | exact NYA.out | exact fun i e => by have := HNEW.out i _ e; have := YL.out; have := Y.out.2; omega)
            clear hc
            simp only [Act.put]
            refine hK.out _ _ (trivial) ?_
            clear hK K
            clear Y
            have HO := Lib.hid (hst.1)
            have HG := Lib.hid (hst.2)
            have Z := Lib.hid Z0
            clear Z0
            clear hx
            refine GrU.Left.done (by kernel_rfl) ?_
            simp only [List.drop_succ_cons, List.drop_zero]
            have hp := range_peer (Z.out.1.range (o := 0) (k := 0) rfl Nat.zero_lt_one)
            simp only [List.set_cons_zero, List.getD_cons_zero] at hp
            have HP := Lib.hid (HEND.out _ _ HO.out HG.out)
            go_wp2
            exact HP.out
        · skip
          go_simp
          try have NYA : Hid (∀ i, (vs2 i).ownBlock ≠ some w2_.heap.size) := fun i e => absurd ((HO.out.own i).block e).2.1 (Nat.lt_irrefl _)
          generalize hw : World.alloc _ _ = w10_
          have hx : w2_.Extends w10_ := by subst hw; exact ext_alloc _ _
          have Y0 : CAt w10_ w2_.heap.size 47 [] [z21] [] ∧ w.heap.size ≤ w2_.heap.size := by subst hw; exact ⟨new_ct w2_, by first | exact HX.out.size | exact HG.out.size⟩
          clear hw
          refine hK.out _ _ (trivial) ?_
          clear hK K
          have HX := Lib.hid (Gr.ext_trans HX.out hx)
          have HB := Lib.hid (HB.out.ext hx)
          have I14 := Lib.hid (I14.out.ext hx)
          have Y := Lib.hid Y0
          clear Y0
          clear hx
          refine GrU.Left.one GrU.any_way (i := 10) (by kernel_rfl) (by kernel_rfl) (GrU.Step.mk rfl (fun K hK => ?_))
          go_simp
          refine (HK1.out _ _ I14.out).mono ?_
          rintro e w11_ ⟨rfl, hx⟩
          try go_simp
          refine hK.out _ _ (trivial) ?_
          clear hK K
          have HX := Lib.hid (Gr.ext_trans HX.out hx)
          have HB := Lib.hid (HB.out.ext hx)
          clear I14
          have Y := Lib.hid (And.intro (Y.out.1.ext hx) Y.out.2)
          clear hx
          refine GrU.Left.take GrU.any_way (i := 11) rfl (by kernel_rfl) (fun d _ _ _ _ h => by cases d <;> exact h) _ (Or.inl ⟨by rfl, fun w' hw' => ct_make q (by rfl) (by rfl) (by exact HX1.out.symm) HX2.out w'⟩) ?_
          simp only [Act.put, List.setIfInBounds_toArray, List.set_cons_zero, List.set_cons_succ]
          refine GrU.Left.one GrU.any_way (i := 12) (by kernel_rfl) (by kernel_rfl) (GrU.Step.mk rfl (fun K hK => ?_))
          go_simp
          refine (HD.out _ HX.out HB.out).mono ?_
          rintro e w12_ ⟨rfl, vs2, hb, hg, hsz, hnew, hx⟩
          have HO0 := hb
          have HG0 := hg
          have HNEW := Lib.hid hnew
          try have YL := Lib.hid Y.out.1.lt
          clear hb hg hnew hsz
          try go_simp
          refine hK.out _ _ (trivial) ?_
          clear hK K
          clear HX
          clear HB
          have Y := Lib.hid (And.intro (Y.out.1.kept (hx _ Y.out.2 Y.out.1.lt)) Y.out.2)
          have HO := Lib.hid HO0
          clear HO0
          have HG := Lib.hid HG0
          clear HG0
          clear hx
          refine GrU.Left.take GrU.any_way (i := 13) rfl (by kernel_rfl) (fun d _ _ _ _ h => by cases d <;> exact h) ?_ (Or.inl ⟨by rfl, ?_⟩) ?_
          rotate_left
          · intro w' hw'
            clear hw'
            go_simp
            try with_reducible rfl
          simp only [Act.put, List.setIfInBounds_toArray, List.set_cons_zero, List.set_cons_succ]
          refine GrU.Left.take GrU.any_way (i := 14) rfl (by kernel_rfl) (fun d _ _ _ _ h => by cases d <;> exact h) ?_ (Or.inl ⟨by rfl, ?_⟩) ?_
          rotate_left
          · intro w' hw'
            clear hw'
            go_simp
            try with_reducible rfl
          simp only [Act.put, List.setIfInBounds_toArray, List.set_cons_zero, List.set_cons_succ]
          refine GrU.Left.take GrU.any_way (i := 15) rfl (by kernel_rfl) (fun d _ _ _ _ h => by cases d <;> exact h) ?_ (Or.inl ⟨by rfl, ?_⟩) ?_
          rotate_left
          · intro w' hw'
            clear hw'
            go_simp
            try with_reducible rfl
          simp only [Act.put, List.setIfInBounds_toArray, List.set_cons_zero, List.set_cons_succ]
          refine GrU.Left.one GrU.any_way (i := 17) (by kernel_rfl) (by kernel_rfl) (GrU.Step.mk rfl (fun K hK => ?_))
          rw [if_pos (by rfl)]
          refine wp_store_ct (.tmp 6) (.tmp 32) rfl _ 0 0 xc 47 [] [] [z21] rfl HX3.out.symm Y.out.1 rfl Nat.zero_lt_one ?_
          intro w13_ hc hx
          have Z0 := And.intro hc Y.out.2
          have hst := rt_store HO.out HG.out hx Y.out.2 HGS.out (by first | exact NYA.out | exact fun i e => by have := HNEW.out i _ e; have := YL.out; have := Y.out.2; omega)
          clear hc
          simp only [Act.put]
          refine hK.out _ _ (trivial) ?_
          clear hK K
          clear Y
          have HO := Lib.hid (hst.1)
          have HG := Lib.hid (hst.2)
          have Z := Lib.hid Z0
          clear Z0
          clear hx
          refine GrU.Left.done (by kernel_rfl) ?_
          simp only [List.drop_succ_cons, List.drop_zero]
          have hp := range_peer (Z.out.1.range (o := 0) (k := 0) rfl Nat.zero_lt_one)
          simp only [List.set_cons_zero, List.getD_cons_zero] at hp
          have HP := Lib.hid (HEND.out _ _ HO.out HG.out)
          go_wp2
          exact HP.out
      · skip
        go_simp
        try have NYA : Hid (∀ i, (vs2 i).ownBlock ≠ some w1_.heap.size) := fun i e => absurd ((HO.out.own i).block e).2.1 (Nat.lt_irrefl _)
        generalize hw : World.alloc _ _ = w14_
        have hx : w1_.Extends w14_ := by subst hw; exact ext_alloc _ _
        have Y0 : CAt w14_ w1_.heap.size 47 [] [z21] [] ∧ w.heap.size ≤ w1_.heap.size := by subst hw; exact ⟨new_ct w1_, by first | exact HX.out.size | exact HG.out.size⟩
        clear hw
        refine hK.out _ _ (trivial) ?_
        clear hK K
        have HX := Lib.hid (Gr.ext_trans HX.out hx)
        have HB := Lib.hid (HB.out.ext hx)
        have Y := Lib.hid Y0
        clear Y0
        clear hx
        refine GrU.Left.one GrU.any_way (i := 9) (by kernel_rfl) (by kernel_rfl) (GrU.Step.mk rfl (fun K hK => ?_))
        go_simp
        generalize hw : World.alloc _ _ = w15_
        have hx : w14_.Extends w15_ := by subst hw; exact ext_alloc _ _
        have I140 : Ints w15_ (.slice (some ⟨w14_.heap.size, 0, none⟩) 1 1) [q] := by subst hw; exact ints_one w14_ q 3
        clear hw
        refine hK.out _ _ (trivial) ?_
        clear hK K
        have HX := Lib.hid (Gr.ext_trans HX.out hx)
        have HB := Lib.hid (HB.out.ext hx)
        have Y := Lib.hid (And.intro (Y.out.1.ext hx) Y.out.2)
        have I14 := Lib.hid I140
        clear I140
        clear hx
        refine GrU.Left.one GrU.any_way (i := 10) (by kernel_rfl) (by kernel_rfl) (GrU.Step.mk rfl (fun K hK => ?_))
        go_simp
        refine (HK1.out _ _ I14.out).mono ?_
        rintro e w16_ ⟨rfl, hx⟩
        try go_simp
        refine hK.out _ _ (trivial) ?_
        clear hK K
        have HX := Lib.hid (Gr.ext_trans HX.out hx)
        have HB := Lib.hid (HB.out.ext hx)
        have Y := Lib.hid (And.intro (Y.out.1.ext hx) Y.out.2)
        clear I14
        clear hx
        refine GrU.Left.take GrU.any_way (i := 11) rfl (by kernel_rfl) (fun d _ _ _ _ h => by cases d <;> exact h) _ (Or.inl ⟨by rfl, fun w' hw' => ct_make q (by rfl) (by rfl) (by exact HX1.out.symm) HX2.out w'⟩) ?_
        simp only [Act.put, List.setIfInBounds_toArray, List.set_cons_zero, List.set_cons_succ]
        refine GrU.Left.one GrU.any_way (i := 12) (by kernel_rfl) (by kernel_rfl) (GrU.Step.mk rfl (fun K hK => ?_))
        go_simp
        refine (HD.out _ HX.out HB.out).mono ?_
        rintro e w17_ ⟨rfl, vs2, hb, hg, hsz, hnew, hx⟩
        have HO0 := hb
        have HG0 := hg
        have HNEW := Lib.hid hnew
        try have YL := Lib.hid Y.out.1.lt
        clear hb hg hnew hsz
        try go_simp
        refine hK.out _ _ (trivial) ?_
        clear hK K
        clear HX
        clear HB
        have Y := Lib.hid (And.intro (Y.out.1.kept (hx _ Y.out.2 Y.out.1.lt)) Y.out.2)
        have HO := Lib.hid HO0
        clear HO0
        have HG := Lib.hid HG0
        clear HG0
        clear hx
        refine GrU.Left.take GrU.any_way (i := 13) rfl (by kernel_rfl) (fun d _ _ _ _ h => by cases d <;> exact h) ?_ (Or.inl ⟨by rfl, ?_⟩) ?_
        rotate_left
        · intro w' hw'
          clear hw'
          go_simp
          try with_reducible rfl
        simp only [Act.put, List.setIfInBounds_toArray, List.set_cons_zero, List.set_cons_succ]
        refine GrU.Left.take GrU.any_way (i := 14) rfl (by kernel_rfl) (fun d _ _ _ _ h => by cases d <;> exact h) ?_ (Or.inl ⟨by rfl, ?_⟩) ?_
        rotate_left
        · intro w' hw'
          clear hw'
          go_simp
          try with_reducible rfl
        simp only [Act.put, List.setIfInBounds_toArray, List.set_cons_zero, List.set_cons_succ]
        refine GrU.Left.take GrU.any_way (i := 15) rfl (by kernel_rfl) (fun d _ _ _ _ h => by cases d <;> exact h) ?_ (Or.inl ⟨by rfl, ?_⟩) ?_
        rotate_left
        · intro w' hw'
          clear hw'
          go_simp
          try with_reducible rfl
        simp only [Act.put, List.setIfInBounds_toArray, List.set_cons_zero, List.set_cons_succ]
        refine GrU.Left.one GrU.any_way (i := 17) (by kernel_rfl) (by kernel_rfl) (GrU.Step.mk rfl (fun K hK => ?_))
        rw [if_pos (by rfl)]
        refine wp_store_ct (.tmp 6) (.tmp 32) rfl _ 0 0 xc 47 [] [] [z21] rfl HX3.out.symm Y.out.1 rfl Nat.zero_lt_one ?_
        intro w18_ hc hx
        have Z0 := And.intro hc Y.out.2
        have hst := rt_store HO.out HG.out hx Y.out.2 HGS.out (by first | exact NYA.out | exact fun i e => by have := HNEW.out i _ e; have := YL.out; have := Y.out.2; omega)
        clear hc
        simp only [Act.put]
        refine hK.out _ _ (trivial) ?_
        clear hK K
        clear Y
        have HO := Lib.hid (hst.1)
        have HG := Lib.hid (hst.2)
        have Z := Lib.hid Z0
        clear Z0
        clear hx
        refine GrU.Left.done (by kernel_rfl) ?_
        simp only [List.drop_succ_cons, List.drop_zero]
        have hp := range_peer (Z.out.1.range (o := 0) (k := 0) rfl Nat.zero_lt_one)
        simp only [List.set_cons_zero, List.getD_cons_zero] at hp
        have HP := Lib.hid (HEND.out _ _ HO.out HG.out)
        go_wp2
        exact HP.out
    · skip
      go_simp
      generalize hw : World.alloc _ _ = w19_
      have hx : wd.Extends w19_ := by subst hw; exact ext_alloc _ _
      have I140 : Ints w19_ (.slice (some ⟨wd.heap.size, 0, none⟩) 1 1) [q] := by subst hw; exact ints_one wd q 3
      clear hw
      refine hK.out _ _ (trivial) ?_
      clear hK K
      have HX := Lib.hid (Gr.ext_trans HX.out hx)
      have HB := Lib.hid (HB.out.ext hx)
      have I14 := Lib.hid I140
      clear I140
      clear hx
      refine GrU.Left.two GrU.any_way (i := 3) (j := 16) (by kernel_rfl) (by kernel_rfl) (GrU.Step.mk rfl (fun K hK => ?_)) (GrU.Step.mk rfl (fun K hK => ?_))
      · skip
        go_simp
        refine (HS.out _ HB.out).mono ?_
        rintro e w20_ ⟨rfl, hx⟩
        try go_simp
        refine hK.out _ _ (trivial) ?_
        clear hK K
        have HX := Lib.hid (Gr.ext_trans HX.out hx)
        have HB := Lib.hid (HB.out.ext hx)
        have I14 := Lib.hid (I14.out.ext hx)
        clear hx
        refine GrU.Left.take GrU.any_way (i := 6) rfl (by kernel_rfl) (fun d _ _ _ _ h => by cases d <;> exact h) ?_ (Or.inl ⟨by rfl, ?_⟩) ?_
        rotate_left
        · intro w' hw'
          have hb : ((k : Nat) : Int) < 161 := by omega
          clear hw'
          go_simp
          try with_reducible rfl
        simp only [Act.put, List.setIfInBounds_toArray, List.set_cons_zero, List.set_cons_succ]
        refine GrU.Left.two GrU.any_way (i := 10) (j := 16) (by kernel_rfl) (by kernel_rfl) (GrU.Step.mk rfl (fun K hK => ?_)) (GrU.Step.mk rfl (fun K hK => ?_))
        · skip
          go_simp
          refine (HK1.out _ _ I14.out).mono ?_
          rintro e w21_ ⟨rfl, hx⟩
          try go_simp
          refine hK.out _ _ (trivial) ?_
          clear hK K
          have HX := Lib.hid (Gr.ext_trans HX.out hx)
          have HB := Lib.hid (HB.out.ext hx)
          clear I14
          clear hx
          refine GrU.Left.take GrU.any_way (i := 11) rfl (by kernel_rfl) (fun d _ _ _ _ h => by cases d <;> exact h) _ (Or.inl ⟨by rfl, fun w' hw' => ct_make q (by rfl) (by rfl) (by exact HX1.out.symm) HX2.out w'⟩) ?_
          simp only [Act.put, List.setIfInBounds_toArray, List.set_cons_zero, List.set_cons_succ]
          refine GrU.Left.two GrU.any_way (i := 12) (j := 16) (by kernel_rfl) (by kernel_rfl) (GrU.Step.mk rfl (fun K hK => ?_)) (GrU.Step.mk rfl (fun K hK => ?_))
          · skip
            go_simp
            refine (HD.out _ HX.out HB.out).mono ?_
            rintro e w22_ ⟨rfl, vs2, hb, hg, hsz, hnew, hx⟩
            have HO0 := hb
            have HG0 := hg
            have HNEW := Lib.hid hnew
            try have YL := Lib.hid Y.out.1.lt
            clear hb hg hnew hsz
            try go_simp
            refine hK.out _ _ (trivial) ?_
            clear hK K
            clear HX
            clear HB
            have HO := Lib.hid HO0
            clear HO0
            have HG := Lib.hid HG0
            clear HG0
            clear hx
            refine GrU.Left.take GrU.any_way (i := 13) rfl (by kernel_rfl) (fun d _ _ _ _ h => by cases d <;> exact h) ?_ (Or.inl ⟨by rfl, ?_⟩) ?_
            rotate_left
            · intro w' hw'
              clear hw'
              go_simp
              try with_reducible rfl
            simp only [Act.put, List.setIfInBounds_toArray, List.set_cons_zero, List.set_cons_succ]
            refine GrU.Left.take GrU.any_way (i := 14) rfl (by kernel_rfl) (fun d _ _ _ _ h => by cases d <;> exact h) ?_ (Or.inl ⟨by rfl, ?_⟩) ?_
            rotate_left
            · intro w' hw'
              clear hw'
              go_simp
              try with_reducible rfl
            simp only [Act.put, List.setIfInBounds_toArray, List.set_cons_zero, List.set_cons_succ]
            refine GrU.Left.take GrU.any_way (i := 15) rfl (by kernel_rfl) (fun d _ _ _ _ h => by cases d <;> exact h) ?_ (Or.inl ⟨by rfl, ?_⟩) ?_
            rotate_left
            · intro w' hw'
              clear hw'
              go_simp
              try with_reducible rfl
            simp only [Act.put, List.setIfInBounds_toArray, List.set_cons_zero, List.set_cons_succ]
            refine GrU.Left.one GrU.any_way (i := 16) (by kernel_rfl) (by kernel_rfl) (GrU.Step.mk rfl (fun K hK => ?_))
            go_simp
            try have NYA : Hid (∀ i, (vs2 i).ownBlock ≠ some w22_.heap.size) := fun i e => absurd ((HO.out.own i).block e).2.1 (Nat.lt_irrefl _)
            generalize hw : World.alloc _ _ = w23_
            have hx : w22_.Extends w23_ := by subst hw; exact ext_alloc _ _
            have Y0 : CAt w23_ w22_.heap.size 47 [] [z21] [] ∧ w.heap.size ≤ w22_.heap.size := by subst hw; exact ⟨new_ct w22_, by first | exact HX.out.size | exact HG.out.size⟩
            clear hw
            refine hK.out _ _ (trivial) ?_
            clear hK K
            have HO := Lib.hid (HO.out.ext hx)
            have HG := Lib.hid (HG.out.ext hx)
            have Y := Lib.hid Y0
            clear Y0
            clear hx
            refine GrU.Left.one GrU.any_way (i := 17) (by kernel_rfl) (by kernel_rfl) (GrU.Step.mk rfl (fun K hK => ?_))
            rw [if_pos (by rfl)]
            refine wp_store_ct (.tmp 6) (.tmp 32) rfl _ 0 0 xc 47 [] [] [z21] rfl HX3.out.symm Y.out.1 rfl Nat.zero_lt_one ?_
            intro w24_ hc hx
            have Z0 := And.intro hc Y.out.2
            have hst := rt_store HO.out HG.out hx Y.out.2 HGS.out (by first | exact NYA.out | exact fun i e => by have := HNEW.out i _ e; have := YL.out; have := Y.out.2; omega)
            clear hc
            simp only [Act.put]
            refine hK.out _ _ (trivial) ?_
            clear hK K
            have HO := Lib.hid (hst.1)
            have HG := Lib.hid (hst.2)
            clear Y
            have Z := Lib.hid Z0
            clear Z0
            clear hx
            refine GrU.Left.done (by kernel_rfl) ?_
            simp only [List.drop_succ_cons, List.drop_zero]
            have hp := range_peer (Z.out.1.range (o := 0) (k := 0) rfl Nat.zero_lt_one)
            simp only [List.set_cons_zero, List.getD_cons_zero] at hp
            have HP := Lib.hid (HEND.out _ _ HO.out HG.out)
            go_wp2
            exact HP.out
          · skip
            go_simp
            try have NYA : Hid (∀ i, (vs2 i).ownBlock ≠ some w21_.heap.size) := fun i e => absurd ((HO.out.own i).block e).2.1 (Nat.lt_irrefl _)
            generalize hw : World.alloc _ _ = w25_
            have hx : w21_.Extends w25_ := by subst hw; exact ext_alloc _ _
            have Y0 : CAt w25_ w21_.heap.size 47 [] [z21] [] ∧ w.heap.size ≤ w21_.heap.size := by subst hw; exact ⟨new_ct w21_, by first | exact HX.out.size | exact HG.out.size⟩
            clear hw
            refine hK.out _ _ (trivial) ?_
            clear hK K
            have HX := Lib.hid (Gr.ext_trans HX.out hx)
            have HB := Lib.hid (HB.out.ext hx)
            have Y := Lib.hid Y0
            clear Y0
            clear hx
            refine GrU.Left.one GrU.any_way (i := 12) (by kernel_rfl) (by kernel_rfl) (GrU.Step.mk rfl (fun K hK => ?_))
            go_simp
            refine (HD.out _ HX.out HB.out).mono ?_
            rintro e w26_ ⟨rfl, vs2, hb, hg, hsz, hnew, hx⟩
            have HO0 := hb
            have HG0 := hg
            have HNEW := Lib.hid hnew
            try have YL := Lib.hid Y.out.1.lt
            clear hb hg hnew hsz
            try go_simp
            refine hK.out _ _ (trivial) ?_
            clear hK K
            clear HX
            clear HB
            have Y := Lib.hid (And.intro (Y.out.1.kept (hx _ Y.out.2 Y.out.1.lt)) Y.out.2)
            have HO := Lib.hid HO0
            clear HO0
            have HG := Lib.hid HG0
            clear HG0
            clear hx
            refine GrU.Left.take GrU.any_way (i := 13) rfl (by kernel_rfl) (fun d _ _ _ _ h => by cases d <;> exact h) ?_ (Or.inl ⟨by rfl, ?_⟩) ?_
            rotate_left
            · intro w' hw'
              clear hw'
              go_simp
              try with_reducible rfl
            simp only [Act.put, List.setIfInBounds_toArray, List.set_cons_zero, List.set_cons_succ]
            refine GrU.Left.take GrU.any_way (i := 14) rfl (by kernel_rfl) (fun d _ _ _ _ h => by cases d <;> exact h) ?_ (Or.inl ⟨by rfl, ?_⟩) ?_
            rotate_left
            · intro w' hw'
              clear hw'
              go_simp
              try with_reducible rfl
            simp only [Act.put, List.setIfInBounds_toArray, List.set_cons_zero, List.set_cons_succ]
            refine GrU.Left.take GrU.any_way (i := 15) rfl (by kernel_rfl) (fun d _ _ _ _ h => by cases d <;> exact h) ?_ (Or.inl ⟨by rfl, ?_⟩) ?_
            rotate_left
            · intro w' hw'
              clear hw'
              go_simp
              try with_reducible rfl
            simp only [Act.put, List.setIfInBounds_toArray, List.set_cons_zero, List.set_cons_succ]
            refine GrU.Left.one GrU.any_way (i := 17) (by kernel_rfl) (by kernel_rfl) (GrU.Step.mk rfl (fun K hK => ?_))
            rw [if_pos (by rfl)]
            refine wp_store_ct (.tmp 6) (.tmp 32) rfl _ 0 0 xc 47 [] [] [z21] rfl HX3.out.symm Y.out.1 rfl Nat.zero_lt_one ?_
            intro w27_ hc hx
            have Z0 := And.intro hc Y.out.2
            have hst := rt_store HO.out HG.out hx Y.out.2 HGS.out (by first | exact NYA.out | exact fun i e => by have := HNEW.out i _ e; have := YL.out; have := Y.out.2; omega)
            clear hc
            simp only [Act.put]
            refine hK.out _ _ (trivial) ?_
            clear hK K
            clear Y
            have HO := Lib.hid (hst.1)
            have HG := Lib.hid (hst.2)
            have Z := Lib.hid Z0
            clear Z0
            clear hx
            refine GrU.Left.done (by kernel_rfl) ?_
            simp only [List.drop_succ_cons, List.drop_zero]
            have hp := range_peer (Z.out.1.range (o := 0) (k := 0) rfl Nat.zero_lt_one)
            simp only [List.set_cons_zero, List.getD_cons_zero] at hp
            have HP := Lib.hid (HEND.out _ _ HO.out HG.out)
            go_wp2
            exact HP.out
        · skip
          go_simp
          try have NYA : Hid (∀ i, (vs2 i).ownBlock ≠ some w20_.heap.size) := fun i e => absurd ((HO.out.own i).block e).2.1 (Nat.lt_irrefl _)
          generalize hw : World.alloc _ _ = w28_
          have hx : w20_.Extends w28_ := by subst hw; exact ext_alloc _ _
          have Y0 : CAt w28_ w20_.heap.size 47 [] [z21] [] ∧ w.heap.size ≤ w20_.heap.size := by subst hw; exact ⟨new_ct w20_, by first | exact HX.out.size | exact HG.out.size⟩
          clear hw
          refine hK.out _ _ (trivial) ?_
          clear hK K
          have HX := Lib.hid (Gr.ext_trans HX.out hx)
          have HB := Lib.hid (HB.out.ext hx)
          have I14 := Lib.hid (I14.out.ext hx)
          have Y := Lib.hid Y0
          clear Y0
          clear hx
          refine GrU.Left.one GrU.any_way (i := 10) (by kernel_rfl) (by kernel_rfl) (GrU.Step.mk rfl (fun K hK => ?_))
          go_simp
          refine (HK1.out _ _ I14.out).mono ?_
          rintro e w29_ ⟨rfl, hx⟩
          try go_simp
          refine hK.out _ _ (trivial) ?_
          clear hK K
          have HX := Lib.hid (Gr.ext_trans HX.out hx)
          have HB := Lib.hid (HB.out.ext hx)
          clear I14
          have Y := Lib.hid (And.intro (Y.out.1.ext hx) Y.out.2)
          clear hx
          refine GrU.Left.take GrU.any_way (i := 11) rfl (by kernel_rfl) (fun d _ _ _ _ h => by cases d <;> exact h) _ (Or.inl ⟨by rfl, fun w' hw' => ct_make q (by rfl) (by rfl) (by exact HX1.out.symm) HX2.out w'⟩) ?_
          simp only [Act.put, List.setIfInBounds_toArray, List.set_cons_zero, List.set_cons_succ]
          refine GrU.Left.one GrU.any_way (i := 12) (by kernel_rfl) (by kernel_rfl) (GrU.Step.mk rfl (fun K hK => ?_))
          go_simp
          refine (HD.out _ HX.out HB.out).mono ?_
          rintro e w30_ ⟨rfl, vs2, hb, hg, hsz, hnew, hx⟩
          have HO0 := hb
          have HG0 := hg
          have HNEW := Lib.hid hnew
          try have YL := Lib.hid Y.out.1.lt
          clear hb hg hnew hsz
          try go_simp
          refine hK.out _ _ (trivial) ?_
          clear hK K
          clear HX
          clear HB
          have Y := Lib.hid (And.intro (Y.out.1.kept (hx _ Y.out.2 Y.out.1.lt)) Y.out.2)
          have HO := Lib.hid HO0
          clear HO0
          have HG := Lib.hid HG0
          clear HG0
          clear hx
          refine GrU.Left.take GrU.any_way (i := 13) rfl (by kernel_rfl) (fun d _ _ _ _ h => by cases d <;> exact h) ?_ (Or.inl ⟨by rfl, ?_⟩) ?_
          rotate_left
          · intro w' hw'
            clear hw'
            go_simp
            try with_reducible rfl
          simp only [Act.put, List.setIfInBounds_toArray, List.set_cons_zero, List.set_cons_succ]
          refine GrU.Left.take GrU.any_way (i := 14) rfl (by kernel_rfl) (fun d _ _ _ _ h => by cases d <;> exact h) ?_ (Or.inl ⟨by rfl, ?_⟩) ?_
          rotate_left
          · intro w' hw'
            clear hw'
            go_simp
            try with_reducible rfl
          simp only [Act.put, List.setIfInBounds_toArray, List.set_cons_zero, List.set_cons_succ]
          refine GrU.Left.take GrU.any_way (i := 15) rfl (by kernel_rfl) (fun d _ _ _ _ h => by cases d <;> exact h) ?_ (Or.inl ⟨by rfl, ?_⟩) ?_
          rotate_left
          · intro w' hw'
            clear hw'
            go_simp
            try with_reducible rfl
          simp only [Act.put, List.setIfInBounds_toArray, List.set_cons_zero, List.set_cons_succ]
          refine GrU.Left.one GrU.any_way (i := 17) (by kernel_rfl) (by kernel_rfl) (GrU.Step.mk rfl (fun K hK => ?_))
          rw [if_pos (by rfl)]
          refine wp_store_ct (.tmp 6) (.tmp 32) rfl _ 0 0 xc 47 [] [] [z21] rfl HX3.out.symm Y.out.1 rfl Nat.zero_lt_one ?_
          intro w31_ hc hx
          have Z0 := And.intro hc Y.out.2
          have hst := rt_store HO.out HG.out hx Y.out.2 HGS.out (by first | exact NYA.out | exact fun i e => by have := HNEW.out i _ e; have := YL.out; have := Y.out.2; omega)
          clear hc
          simp only [Act.put]
          refine hK.out _ _ (trivial) ?_
          clear hK K
          clear Y
          have HO := Lib.hid (hst.1)
          have HG := Lib.hid (hst.2)
          have Z := Lib.hid Z0
          clear Z0
          clear hx
          refine GrU.Left.done (by kernel_rfl) ?_
          simp only [List.drop_succ_cons, List.drop_zero]
          have hp := range_peer (Z.out.1.range (o := 0) (k := 0) rfl Nat.zero_lt_one)
          simp only [List.set_cons_zero, List.getD_cons_zero] at hp
          have HP := Lib.hid (HEND.out _ _ HO.out HG.out)
          go_wp2
          exact HP.out
      · skip
        go_simp
        try have NYA : Hid (∀ i, (vs2 i).ownBlock ≠ some w19_.heap.size) := fun i e => absurd ((HO.out.own i).block e).2.1 (Nat.lt_irrefl _)
        generalize hw : World.alloc _ _ = w32_
        have hx : w19_.Extends w32_ := by subst hw; exact ext_alloc _ _
        have Y0 : CAt w32_ w19_.heap.size 47 [] [z21] [] ∧ w.heap.size ≤ w19_.heap.size := by subst hw; exact ⟨new_ct w19_, by first | exact HX.out.size | exact HG.out.size⟩
        clear hw
        refine hK.out _ _ (trivial) ?_
        clear hK K
        have HX := Lib.hid (Gr.ext_trans HX.out hx)
        have HB := Lib.hid (HB.out.ext hx)
        have I14 := Lib.hid (I14.out.ext hx)
        have Y := Lib.hid Y0
        clear Y0
        clear hx
        refine GrU.Left.one GrU.any_way (i := 3) (by kernel_rfl) (by kernel_rfl) (GrU.Step.mk rfl (fun K hK => ?_))
        go_simp
        refine (HS.out _ HB.out).mono ?_
        rintro e w33_ ⟨rfl, hx⟩
        try go_simp
        refine hK.out _ _ (trivial) ?_
        clear hK K
        have HX := Lib.hid (Gr.ext_trans HX.out hx)
        have HB := Lib.hid (HB.out.ext hx)
        have I14 := Lib.hid (I14.out.ext hx)
        have Y := Lib.hid (And.intro (Y.out.1.ext hx) Y.out.2)
        clear hx
        refine GrU.Left.take GrU.any_way (i := 6) rfl (by kernel_rfl) (fun d _ _ _ _ h => by cases d <;> exact h) ?_ (Or.inl ⟨by rfl, ?_⟩) ?_
        rotate_left
        · intro w' hw'
          have hb : ((k : Nat) : Int) < 161 := by omega
          clear hw'
          go_simp
          try with_reducible rfl
        simp only [Act.put, List.setIfInBounds_toArray, List.set_cons_zero, List.set_cons_succ]
        refine GrU.Left.one GrU.any_way (i := 10) (by kernel_rfl) (by kernel_rfl) (GrU.Step.mk rfl (fun K hK => ?_))
        go_simp
        refine (HK1.out _ _ I14.out).mono ?_
        rintro e w34_ ⟨rfl, hx⟩
        try go_simp
        refine hK.out _ _ (trivial) ?_
        clear hK K
        have HX := Lib.hid (Gr.ext_trans HX.out hx)
        have HB := Lib.hid (HB.out.ext hx)
        clear I14
        have Y := Lib.hid (And.intro (Y.out.1.ext hx) Y.out.2)
        clear hx
        refine GrU.Left.take GrU.any_way (i := 11) rfl (by kernel_rfl) (fun d _ _ _ _ h => by cases d <;> exact h) _ (Or.inl ⟨by rfl, fun w' hw' => ct_make q (by rfl) (by rfl) (by exact HX1.out.symm) HX2.out w'⟩) ?_
        simp only [Act.put, List.setIfInBounds_toArray, List.set_cons_zero, List.set_cons_succ]
        refine GrU.Left.one GrU.any_way (i := 12) (by kernel_rfl) (by kernel_rfl) (GrU.Step.mk rfl (fun K hK => ?_))
        go_simp
        refine (HD.out _ HX.out HB.out).mono ?_
        rintro e w35_ ⟨rfl, vs2, hb, hg, hsz, hnew, hx⟩
        have HO0 := hb
        have HG0 := hg
        have HNEW := Lib.hid hnew
        try have YL := Lib.hid Y.out.1.lt
        clear hb hg hnew hsz
        try go_simp
        refine hK.out _ _ (trivial) ?_
        clear hK K
        clear HX
        clear HB
        have Y := Lib.hid (And.intro (Y.out.1.kept (hx _ Y.out.2 Y.out.1.lt)) Y.out.2)
        have HO := Lib.hid HO0
        clear HO0
        have HG := Lib.hid HG0
        clear HG0
        clear hx
        refine GrU.Left.take GrU.any_way (i := 13) rfl (by kernel_rfl) (fun d _ _ _ _ h => by cases d <;> exact h) ?_ (Or.inl ⟨by rfl, ?_⟩) ?_
        rotate_left
        · intro w' hw'
          clear hw'
          go_simp
          try with_reducible rfl
        simp only [Act.put, List.setIfInBounds_toArray, List.set_cons_zero, List.set_cons_succ]
        refine GrU.Left.take GrU.any_way (i := 14) rfl (by kernel_rfl) (fun d _ _ _ _ h => by cases d <;> exact h) ?_ (Or.inl ⟨by rfl, ?_⟩) ?_
        rotate_left
        · intro w' hw'
          clear hw'
          go_simp
          try with_reducible rfl
        simp only [Act.put, List.setIfInBounds_toArray, List.set_cons_zero, List.set_cons_succ]
        refine GrU.Left.take GrU.any_way (i := 15) rfl (by kernel_rfl) (fun d _ _ _ _ h => by cases d <;> exact h) ?_ (Or.inl ⟨by rfl, ?_⟩) ?_
        rotate_left
        · intro w' hw'
          clear hw'
          go_simp
          try with_reducible rfl
        simp only [Act.put, List.setIfInBounds_toArray, List.set_cons_zero, List.set_cons_succ]
        refine GrU.Left.one GrU.any_way (i := 17) (by kernel_rfl) (by kernel_rfl) (GrU.Step.mk rfl (fun K hK => ?_))
        rw [if_pos (by rfl)]
        refine wp_store_ct (.tmp 6) (.tmp 32) rfl _ 0 0 xc 47 [] [] [z21] rfl HX3.out.symm Y.out.1 rfl Nat.zero_lt_one ?_
        intro w36_ hc hx
        have Z0 := And.intro hc Y.out.2
        have hst := rt_store HO.out HG.out hx Y.out.2 HGS.out (by first | exact NYA.out | exact fun i e => by have := HNEW.out i _ e; have := YL.out; have := Y.out.2; omega)
        clear hc
        simp only [Act.put]
        refine hK.out _ _ (trivial) ?_
        clear hK K
        clear Y
        have HO := Lib.hid (hst.1)
        have HG := Lib.hid (hst.2)
        have Z := Lib.hid Z0
        clear Z0
        clear hx
        refine GrU.Left.done (by kernel_rfl) ?_
        simp only [List.drop_succ_cons, List.drop_zero]
        have hp := range_peer (Z.out.1.range (o := 0) (k := 0) rfl Nat.zero_lt_one)
        simp only [List.set_cons_zero, List.getD_cons_zero] at hp
        have HP := Lib.hid (HEND.out _ _ HO.out HG.out)
        go_wp2
        exact HP.out
    · skip
      go_simp
      try have NYA : Hid (∀ i, (vs2 i).ownBlock ≠ some wd.heap.size) := fun i e => absurd ((HO.out.own i).block e).2.1 (Nat.lt_irrefl _)
      generalize hw : World.alloc _ _ = w37_
      have hx : wd.Extends w37_ := by subst hw; exact ext_alloc _ _
      have Y0 : CAt w37_ wd.heap.size 47 [] [z21] [] ∧ w.heap.size ≤ wd.heap.size := by subst hw; exact ⟨new_ct wd, by first | exact HX.out.size | exact HG.out.size⟩
      clear hw
      refine hK.out _ _ (trivial) ?_
      clear hK K
      have HX := Lib.hid (Gr.ext_trans HX.out hx)
      have HB := Lib.hid (HB.out.ext hx)
      have Y := Lib.hid Y0
      clear Y0
      clear hx
      refine GrU.Left.two GrU.any_way (i := 3) (j := 9) (by kernel_rfl) (by kernel_rfl) (GrU.Step.mk rfl (fun K hK => ?_)) (GrU.Step.mk rfl (fun K hK => ?_))
      · skip
        go_simp
        refine (HS.out _ HB.out).mono ?_
        rintro e w38_ ⟨rfl, hx⟩
        try go_simp
        refine hK.out _ _ (trivial) ?_
        clear hK K
        have HX := Lib.hid (Gr.ext_trans HX.out hx)
        have HB := Lib.hid (HB.out.ext hx)
        have Y := Lib.hid (And.intro (Y.out.1.ext hx) Y.out.2)
        clear hx
        refine GrU.Left.take GrU.any_way (i := 6) rfl (by kernel_rfl) (fun d _ _ _ _ h => by cases d <;> exact h) ?_ (Or.inl ⟨by rfl, ?_⟩) ?_
        rotate_left
        · intro w' hw'
          have hb : ((k : Nat) : Int) < 161 := by omega
          clear hw'
          go_simp
          try with_reducible rfl
        simp only [Act.put, List.setIfInBounds_toArray, List.set_cons_zero, List.set_cons_succ]
        refine GrU.Left.one GrU.any_way (i := 9) (by kernel_rfl) (by kernel_rfl) (GrU.Step.mk rfl (fun K hK => ?_))
        go_simp
        generalize hw : World.alloc _ _ = w39_
        have hx : w38_.Extends w39_ := by subst hw; exact ext_alloc _ _
        have I140 : Ints w39_ (.slice (some ⟨w38_.heap.size, 0, none⟩) 1 1) [q] := by subst hw; exact ints_one w38_ q 3
        clear hw
        refine hK.out _ _ (trivial) ?_
        clear hK K
        have HX := Lib.hid (Gr.ext_trans HX.out hx)
        have HB := Lib.hid (HB.out.ext hx)
        have Y := Lib.hid (And.intro (Y.out.1.ext hx) Y.out.2)
        have I14 := Lib.hid I140
        clear I140
        clear hx
        refine GrU.Left.one GrU.any_way (i := 10) (by kernel_rfl) (by kernel_rfl) (GrU.Step.mk rfl (fun K hK => ?_))
        go_simp
        refine (HK1.out _ _ I14.out).mono ?_
        rintro e w40_ ⟨rfl, hx⟩
        try go_simp
        refine hK.out _ _ (trivial) ?_
        clear hK K
        have HX := Lib.hid (Gr.ext_trans HX.out hx)
        have HB := Lib.hid (HB.out.ext hx)
        have Y := Lib.hid (And.intro (Y.out.1.ext hx) Y.out.2)
        clear I14
        clear hx
        refine GrU.Left.take GrU.any_way (i := 11) rfl (by kernel_rfl) (fun d _ _ _ _ h => by cases d <;> exact h) _ (Or.inl ⟨by rfl, fun w' hw' => ct_make q (by rfl) (by rfl) (by exact HX1.out.symm) HX2.out w'⟩) ?_
        simp only [Act.put, List.setIfInBounds_toArray, List.set_cons_zero, List.set_cons_succ]
        refine GrU.Left.one GrU.any_way (i := 12) (by kernel_rfl) (by kernel_rfl) (GrU.Step.mk rfl (fun K hK => ?_))
        go_simp
        refine (HD.out _ HX.out HB.out).mono ?_
        rintro e w41_ ⟨rfl, vs2, hb, hg, hsz, hnew, hx⟩
        have HO0 := hb
        have HG0 := hg
        have HNEW := Lib.hid hnew
        try have YL := Lib.hid Y.out.1.lt
        clear hb hg hnew hsz
        try go_simp
        refine hK.out _ _ (trivial) ?_
        clear hK K
        clear HX
        clear HB
        have Y := Lib.hid (And.intro (Y.out.1.kept (hx _ Y.out.2 Y.out.1.lt)) Y.out.2)
        have HO := Lib.hid HO0
        clear HO0
        have HG := Lib.hid HG0
        clear HG0
        clear hx
        refine GrU.Left.take GrU.any_way (i := 13) rfl (by kernel_rfl) (fun d _ _ _ _ h => by cases d <;> exact h) ?_ (Or.inl ⟨by rfl, ?_⟩) ?_
        rotate_left
        · intro w' hw'
          clear hw'
          go_simp
          try with_reducible rfl
        simp only [Act.put, List.setIfInBounds_toArray, List.set_cons_zero, List.set_cons_succ]
        refine GrU.Left.take GrU.any_way (i := 14) rfl (by kernel_rfl) (fun d _ _ _ _ h => by cases d <;> exact h) ?_ (Or.inl ⟨by rfl, ?_⟩) ?_
        rotate_left
        · intro w' hw'
          clear hw'
          go_simp
          try with_reducible rfl
        simp only [Act.put, List.setIfInBounds_toArray, List.set_cons_zero, List.set_cons_succ]
        refine GrU.Left.take GrU.any_way (i := 15) rfl (by kernel_rfl) (fun d _ _ _ _ h => by cases d <;> exact h) ?_ (Or.inl ⟨by rfl, ?_⟩) ?_
        rotate_left
        · intro w' hw'
          clear hw'
          go_simp
          try with_reducible rfl
        simp only [Act.put, List.setIfInBounds_toArray, List.set_cons_zero, List.set_cons_succ]
        refine GrU.Left.one GrU.any_way (i := 17) (by kernel_rfl) (by kernel_rfl) (GrU.Step.mk rfl (fun K hK => ?_))
        rw [if_pos (by rfl)]
        refine wp_store_ct (.tmp 6) (.tmp 32) rfl _ 0 0 xc 47 [] [] [z21] rfl HX3.out.symm Y.out.1 rfl Nat.zero_lt_one ?_
        intro w42_ hc hx
        have Z0 := And.intro hc Y.out.2
        have hst := rt_store HO.out HG.out hx Y.out.2 HGS.out (by first | exact NYA.out | exact fun i e => by have := HNEW.out i _ e; have := YL.out; have := Y.out.2; omega)
        clear hc
        simp only [Act.put]
        refine hK.out _ _ (trivial) ?_
        clear hK K
        clear Y
        have HO := Lib.hid (hst.1)
        have HG := Lib.hid (hst.2)
        have Z := Lib.hid Z0
        clear Z0
        clear hx
        refine GrU.Left.done (by kernel_rfl) ?_
        simp only [List.drop_succ_cons, List.drop_zero]
        have hp := range_peer (Z.out.1.range (o := 0) (k := 0) rfl Nat.zero_lt_one)
        simp only [List.set_cons_zero, List.getD_cons_zero] at hp
        have HP := Lib.hid (HEND.out _ _ HO.out HG.out)
        go_wp2
        exact HP.out
      · skip
        go_simp
        generalize hw : World.alloc _ _ = w43_
        have hx : w37_.Extends w43_ := by subst hw; exact ext_alloc _ _
        have I140 : Ints w43_ (.slice (some ⟨w37_.heap.size, 0, none⟩) 1 1) [q] := by subst hw; exact ints_one w37_ q 3
        clear hw
        refine hK.out _ _ (trivial) ?_
        clear hK K
        have HX := Lib.hid (Gr.ext_trans HX.out hx)
        have HB := Lib.hid (HB.out.ext hx)
        have Y := Lib.hid (And.intro (Y.out.1.ext hx) Y.out.2)
        have I14 := Lib.hid I140
        clear I140
        clear hx
        refine GrU.Left.one GrU.any_way (i := 3) (by kernel_rfl) (by kernel_rfl) (GrU.Step.mk rfl (fun K hK => ?_))
        go_simp
        refine (HS.out _ HB.out).mono ?_
        rintro e w44_ ⟨rfl, hx⟩
        try go_simp
        refine hK.out _ _ (trivial) ?_
        clear hK K
        have HX := Lib.hid (Gr.ext_trans HX.out hx)
        have HB := Lib.hid (HB.out.ext hx)
        have Y := Lib.hid (And.intro (Y.out.1.ext hx) Y.out.2)
        have I14 := Lib.hid (I14.out.ext hx)
        clear hx
        refine GrU.Left.take GrU.any_way (i := 6) rfl (by kernel_rfl) (fun d _ _ _ _ h => by cases d <;> exact h) ?_ (Or.inl ⟨by rfl, ?_⟩) ?_
        rotate_left
        · intro w' hw'
          have hb : ((k : Nat) : Int) < 161 := by omega
          clear hw'
          go_simp
          try with_reducible rfl
        simp only [Act.put, List.setIfInBounds_toArray, List.set_cons_zero, List.set_cons_succ]
        refine GrU.Left.one GrU.any_way (i := 10) (by kernel_rfl) (by kernel_rfl) (GrU.Step.mk rfl (fun K hK => ?_))
        go_simp
        refine (HK1.out _ _ I14.out).mono ?_
        rintro e w45_ ⟨rfl, hx⟩
        try go_simp
        refine hK.out _ _ (trivial) ?_
        clear hK K
        have HX := Lib.hid (Gr.ext_trans HX.out hx)
        have HB := Lib.hid (HB.out.ext hx)
        have Y := Lib.hid (And.intro (Y.out.1.ext hx) Y.out.2)
        clear I14
        clear hx
        refine GrU.Left.take GrU.any_way (i := 11) rfl (by kernel_rfl) (fun d _ _ _ _ h => by cases d <;> exact h) _ (Or.inl ⟨by rfl, fun w' hw' => ct_make q (by rfl) (by rfl) (by exact HX1.out.symm) HX2.out w'⟩) ?_
        simp only [Act.put, List.setIfInBounds_toArray, List.set_cons_zero, List.set_cons_succ]
        refine GrU.Left.one GrU.any_way (i := 12) (by kernel_rfl) (by kernel_rfl) (GrU.Step.mk rfl (fun K hK => ?_))
        go_simp
        refine (HD.out _ HX.out HB.out).mono ?_
        rintro e w46_ ⟨rfl, vs2, hb, hg, hsz, hnew, hx⟩
        have HO0 := hb
        have HG0 := hg
        have HNEW := Lib.hid hnew
        try have YL := Lib.hid Y.out.1.lt
        clear hb hg hnew hsz
        try go_simp
        refine hK.out _ _ (trivial) ?_
        clear hK K
        clear HX
        clear HB
        have Y := Lib.hid (And.intro (Y.out.1.kept (hx _ Y.out.2 Y.out.1.lt)) Y.out.2)
        have HO := Lib.hid HO0
        clear HO0
        have HG := Lib.hid HG0
        clear HG0
        clear hx
        refine GrU.Left.take GrU.any_way (i := 13) rfl (by kernel_rfl) (fun d _ _ _ _ h => by cases d <;> exact h) ?_ (Or.inl ⟨by rfl, ?_⟩) ?_
        rotate_left
        · intro w' hw'
          clear hw'
          go_simp
          try with_reducible rfl
        simp only [Act.put, List.setIfInBounds_toArray, List.set_cons_zero, List.set_cons_succ]
        refine GrU.Left.take GrU.any_way (i := 14) rfl (by kernel_rfl) (fun d _ _ _ _ h => by cases d <;> exact h) ?_ (Or.inl ⟨by rfl, ?_⟩) ?_
        rotate_left
        · intro w' hw'
          clear hw'
          go_simp
          try with_reducible rfl
        simp only [Act.put, List.setIfInBounds_toArray, List.set_cons_zero, List.set_cons_succ]
        refine GrU.Left.take GrU.any_way (i := 15) rfl (by kernel_rfl) (fun d _ _ _ _ h => by cases d <;> exact h) ?_ (Or.inl ⟨by rfl, ?_⟩) ?_
        rotate_left
        · intro w' hw'
          clear hw'
          go_simp
          try with_reducible rfl
        simp only [Act.put, List.setIfInBounds_toArray, List.set_cons_zero, List.set_cons_succ]
        refine GrU.Left.one GrU.any_way (i := 17) (by kernel_rfl) (by kernel_rfl) (GrU.Step.mk rfl (fun K hK => ?_))
        rw [if_pos (by rfl)]
        refine wp_store_ct (.tmp 6) (.tmp 32) rfl _ 0 0 xc 47 [] [] [z21] rfl HX3.out.symm Y.out.1 rfl Nat.zero_lt_one ?_
        intro w47_ hc hx
        have Z0 := And.intro hc Y.out.2
        have hst := rt_store HO.out HG.out hx Y.out.2 HGS.out (by first | exact NYA.out | exact fun i e => by have := HNEW.out i _ e; have := YL.out; have := Y.out.2; omega)
        clear hc
        simp only [Act.put]
        refine hK.out _ _ (trivial) ?_
        clear hK K
        clear Y
        have HO := Lib.hid (hst.1)
        have HG := Lib.hid (hst.2)
        have Z := Lib.hid Z0
        clear Z0
        clear hx
        refine GrU.Left.done (by kernel_rfl) ?_
        simp only [List.drop_succ_cons, List.drop_zero]
        have hp := range_peer (Z.out.1.range (o := 0) (k := 0) rfl Nat.zero_lt_one)
        simp only [List.set_cons_zero, List.getD_cons_zero] at hp
        have HP := Lib.hid (HEND.out _ _ HO.out HG.out)
        go_wp2
        exact HP.out
end Go.Proofs.Ytffcjnabhblbaaa
