/- In one text: Near1, PlcNear, PlcPeer, PlcPPeer, PlcKey, PlcOf, PlcSpot, StoIdx, StoDel. -/
import Derived.Deep.DeepCutAuto
import Derived.WalkKit
import Derived.IntWalk
import Derived.Test.YtnbhkbncllebmaaMA2
import Derived.Test.YtnbhkbncllebmaaMA3
import Derived.Test.YtnbhkbncllebmaaMA4
import Derived.Test.YtnbhkbncllebmaaMA5
namespace Go.Proofs.Ytnbhkbncllebmaa
set_option maxRecDepth 20000
open Go.RowKit Go.Deep
set_option linter.unusedVariables false
theorem key_yields {w : World} {b : Nat} {k : List Nat} (h : KAt w b k) (hl : k.length = 20) {a : Act} {o : Oper} {x : Operand} (ho : o.op = .load 25 x) (hx : a.eval x = .pointer (some ⟨b, 0, none⟩)) {v : Value} (hv : KV k = v) :
    (execOp a.eval o).run Try.prog w = .ok (.value v) w := by subst hv; exact h.yields hl ho hx
set_option maxHeartbeats 4000000 in
theorem rnear1_any (K : List Nat) (a b : Int) (w : World) (hK : KY.Ok K) :
    Calls Try.prog 20 #[KV K, .int .i64 a, .int .i64 b] w fun e w' => e = .returned (.bool (KY.lt (far K a) (far K b))) ∧ w.Extends w' := by
  have HK1 : Hid (∀ w v, Ints w v [a] → Calls Try.prog 25 #[v] w fun e w' => e = .returned (KV (KY.of [a])) ∧ w.Extends w') := fun w v h => rkof_any w h
  have HK2 : Hid (∀ w v, Ints w v [b] → Calls Try.prog 25 #[v] w fun e w' => e = .returned (KV (KY.of [b])) ∧ w.Extends w') := fun w v h => rkof_any w h
  have HD1 : Hid (∀ w, Calls Try.prog 30 #[KV (KY.of [a]), KV K] w fun e w' => e = .returned (KV (far K a)) ∧ w.Extends w') := fun w => rkdist_any (KY.of_ok _) hK w
  have HD2 : Hid (∀ w, Calls Try.prog 30 #[KV (KY.of [b]), KV K] w fun e w' => e = .returned (KV (far K b)) ∧ w.Extends w') := fun w => rkdist_any (KY.of_ok _) hK w
  have HL : Hid (∀ w, Calls Try.prog 29 #[KV (far K a), KV (far K b)] w fun e w' => e = .returned (.bool (KY.lt (far K a) (far K b))) ∧ w.Extends w') := fun w => rkless_any (far_ok hK a) (far_ok hK b) w
  obtain ⟨s, hs⟩ : ∃ s, w.heap.size = s := ⟨_, rfl⟩
  have HBOX : Hid (∀ w1, w1 = w.alloc (.cells (KC K) 25) → w.Extends w1 ∧ KAt w1 s K) := fun w1 e => by
    subst e; subst hs
    exact ⟨ext_alloc _ _, KAt.new w hK.1⟩
  have HLK := Lib.hid hK.1
  obtain ⟨xk, hxk⟩ : ∃ x, KV K = x := ⟨_, rfl⟩
  have HXK := Lib.hid hxk
  rw [hxk] at HD1 HD2
  generalize KY.lt (far K a) (far K b) = q at *
  generalize KV (far K a) = y1 at *
  generalize KV (far K b) = y2 at *
  generalize KV (KY.of [a]) = x1 at *
  generalize KV (KY.of [b]) = x2 at *
  clear hxk hK
  go_enter Try.func20, Try.ntmps20
  go_upto_region 1 with fail
  generalize hw1 : World.alloc w _ = w1
  obtain ⟨hx1, hk1⟩ := HBOX.out w1 hw1.symm
  have HX1 := Lib.hid hx1
  have HKA := Lib.hid hk1
  clear hw1 HBOX hx1 hk1 hs
  refine Gr.regionE 11 7 [(false,0),(false,3),(false,5),(false,8)] (by kernel_rfl) (by kernel_rfl) (fun d _ _ _ _ h => by cases d <;> exact h) ?_
  simp only [Gr.pick, List.getElem?_cons_zero, List.getElem?_cons_succ]
  generalize hwd0 : w1.drew = wd
  have HX0 : Hid (w1.Extends wd) := by rw [← hwd0]; exact Gr.ext_drew (Gr.ext_refl w1)
  have HX : Hid (w.Extends wd) := Gr.ext_trans HX1.out HX0.out
  clear hwd0
  refine Gr.walkE_t ?_ (Or.inl ⟨by rfl, ?_⟩) ?_
  rotate_left
  · intro w' hw'
    clear hw'
    go_simp
    try with_reducible rfl
  simp only [Act.put, List.setIfInBounds_toArray, List.set_cons_zero, List.set_cons_succ]
  refine Gr.walkE_t _ (Or.inl ⟨by rfl, fun w' hw' => key_yields (HKA.out.ext (Gr.ext_trans HX0.out hw')) HLK.out (by rfl) (by rfl) (by exact HXK.out)⟩) ?_
  simp only [Act.put, List.setIfInBounds_toArray, List.set_cons_zero, List.set_cons_succ]
  refine Gr.walkE_t ?_ (Or.inl ⟨by rfl, ?_⟩) ?_
  rotate_left
  · intro w' hw'
    clear hw'
    go_simp
    try with_reducible rfl
  simp only [Act.put, List.setIfInBounds_toArray, List.set_cons_zero, List.set_cons_succ]
  refine Gr.walkE_t _ (Or.inl ⟨by rfl, fun w' hw' => key_yields (HKA.out.ext (Gr.ext_trans HX0.out hw')) HLK.out (by rfl) (by rfl) (by exact HXK.out)⟩) ?_
  simp only [Act.put, List.setIfInBounds_toArray, List.set_cons_zero, List.set_cons_succ]
  refine Gr.walkE_nil ?_
  refine Gr.Left.two (i := 1) (j := 6) (by kernel_rfl) (by kernel_rfl) (Gr.Step.mk rfl (fun K hK => ?_)) (Gr.Step.mk rfl (fun K hK => ?_))
  · skip
    go_simp
    generalize hw : World.alloc _ _ = w1_
    have hx : wd.Extends w1_ := by subst hw; exact ext_alloc _ _
    have I70 : Ints w1_ (.slice (some ⟨wd.heap.size, 0, none⟩) 1 1) [a] := by subst hw; exact ints_one wd a 3
    clear hw
    refine hK.out _ _ hx ?_
    clear hK K
    have I7 := Lib.hid I70
    clear I70
    have HX := Lib.hid (Gr.ext_trans HX.out hx)
    clear hx
    refine Gr.Left.two (i := 2) (j := 6) (by kernel_rfl) (by kernel_rfl) (Gr.Step.mk rfl (fun K hK => ?_)) (Gr.Step.mk rfl (fun K hK => ?_))
    · skip
      go_simp
      refine (HK1.out _ _ I7.out).mono ?_
      rintro e w2_ ⟨rfl, hx⟩
      try go_simp
      refine hK.out _ _ hx ?_
      clear hK K
      clear I7
      have HX := Lib.hid (Gr.ext_trans HX.out hx)
      clear hx
      refine Gr.Left.two (i := 4) (j := 6) (by kernel_rfl) (by kernel_rfl) (Gr.Step.mk rfl (fun K hK => ?_)) (Gr.Step.mk rfl (fun K hK => ?_))
      · skip
        go_simp
        refine (HD1.out _).mono ?_
        rintro e w3_ ⟨rfl, hx⟩
        try go_simp
        refine hK.out _ _ hx ?_
        clear hK K
        have HX := Lib.hid (Gr.ext_trans HX.out hx)
        clear hx
        refine Gr.Left.one (i := 6) (by kernel_rfl) (by kernel_rfl) (Gr.Step.mk rfl (fun K hK => ?_))
        go_simp
        generalize hw : World.alloc _ _ = w4_
        have hx : w3_.Extends w4_ := by subst hw; exact ext_alloc _ _
        have I130 : Ints w4_ (.slice (some ⟨w3_.heap.size, 0, none⟩) 1 1) [b] := by subst hw; exact ints_one w3_ b 3
        clear hw
        refine hK.out _ _ hx ?_
        clear hK K
        have I13 := Lib.hid I130
        clear I130
        have HX := Lib.hid (Gr.ext_trans HX.out hx)
        clear hx
        refine Gr.Left.one (i := 7) (by kernel_rfl) (by kernel_rfl) (Gr.Step.mk rfl (fun K hK => ?_))
        go_simp
        refine (HK2.out _ _ I13.out).mono ?_
        rintro e w5_ ⟨rfl, hx⟩
        try go_simp
        refine hK.out _ _ hx ?_
        clear hK K
        clear I13
        have HX := Lib.hid (Gr.ext_trans HX.out hx)
        clear hx
        refine Gr.Left.one (i := 9) (by kernel_rfl) (by kernel_rfl) (Gr.Step.mk rfl (fun K hK => ?_))
        go_simp
        refine (HD2.out _).mono ?_
        rintro e w6_ ⟨rfl, hx⟩
        try go_simp
        refine hK.out _ _ hx ?_
        clear hK K
        have HX := Lib.hid (Gr.ext_trans HX.out hx)
        clear hx
        refine Gr.Left.one (i := 10) (by kernel_rfl) (by kernel_rfl) (Gr.Step.mk rfl (fun K hK => ?_))
        go_simp
        refine (HL.out _).mono ?_
        rintro e w7_ ⟨rfl, hx⟩
        try go_simp
        refine hK.out _ _ hx ?_
        clear hK K
        have HX := Lib.hid (Gr.ext_trans HX.out hx)
        clear hx
        refine Gr.Left.done (by kernel_rfl) ?_
        simp only [List.drop_succ_cons, List.drop_zero]
        go_wp2
        go_ret
        exact ⟨rfl, HX.out⟩
      · skip
        go_simp
        generalize hw : World.alloc _ _ = w8_
        have hx : w2_.Extends w8_ := by subst hw; exact ext_alloc _ _
        have I130 : Ints w8_ (.slice (some ⟨w2_.heap.size, 0, none⟩) 1 1) [b] := by subst hw; exact ints_one w2_ b 3
        clear hw
        refine hK.out _ _ hx ?_
        clear hK K
        have I13 := Lib.hid I130
        clear I130
        have HX := Lib.hid (Gr.ext_trans HX.out hx)
        clear hx
        refine Gr.Left.one (i := 4) (by kernel_rfl) (by kernel_rfl) (Gr.Step.mk rfl (fun K hK => ?_))
        go_simp
        refine (HD1.out _).mono ?_
        rintro e w9_ ⟨rfl, hx⟩
        try go_simp
        refine hK.out _ _ hx ?_
        clear hK K
        have I13 := Lib.hid (I13.out.ext hx)
        have HX := Lib.hid (Gr.ext_trans HX.out hx)
        clear hx
        refine Gr.Left.one (i := 7) (by kernel_rfl) (by kernel_rfl) (Gr.Step.mk rfl (fun K hK => ?_))
        go_simp
        refine (HK2.out _ _ I13.out).mono ?_
        rintro e w10_ ⟨rfl, hx⟩
        try go_simp
        refine hK.out _ _ hx ?_
        clear hK K
        clear I13
        have HX := Lib.hid (Gr.ext_trans HX.out hx)
        clear hx
        refine Gr.Left.one (i := 9) (by kernel_rfl) (by kernel_rfl) (Gr.Step.mk rfl (fun K hK => ?_))
        go_simp
        refine (HD2.out _).mono ?_
        rintro e w11_ ⟨rfl, hx⟩
        try go_simp
        refine hK.out _ _ hx ?_
        clear hK K
        have HX := Lib.hid (Gr.ext_trans HX.out hx)
        clear hx
        refine Gr.Left.one (i := 10) (by kernel_rfl) (by kernel_rfl) (Gr.Step.mk rfl (fun K hK => ?_))
        go_simp
        refine (HL.out _).mono ?_
        rintro e w12_ ⟨rfl, hx⟩
        try go_simp
        refine hK.out _ _ hx ?_
        clear hK K
        have HX := Lib.hid (Gr.ext_trans HX.out hx)
        clear hx
        refine Gr.Left.done (by kernel_rfl) ?_
        simp only [List.drop_succ_cons, List.drop_zero]
        go_wp2
        go_ret
        exact ⟨rfl, HX.out⟩
    · skip
      go_simp
      generalize hw : World.alloc _ _ = w13_
      have hx : w1_.Extends w13_ := by subst hw; exact ext_alloc _ _
      have I130 : Ints w13_ (.slice (some ⟨w1_.heap.size, 0, none⟩) 1 1) [b] := by subst hw; exact ints_one w1_ b 3
      clear hw
      refine hK.out _ _ hx ?_
      clear hK K
      have I7 := Lib.hid (I7.out.ext hx)
      have I13 := Lib.hid I130
      clear I130
      have HX := Lib.hid (Gr.ext_trans HX.out hx)
      clear hx
      refine Gr.Left.one (i := 2) (by kernel_rfl) (by kernel_rfl) (Gr.Step.mk rfl (fun K hK => ?_))
      go_simp
      refine (HK1.out _ _ I7.out).mono ?_
      rintro e w14_ ⟨rfl, hx⟩
      try go_simp
      refine hK.out _ _ hx ?_
      clear hK K
      clear I7
      have I13 := Lib.hid (I13.out.ext hx)
      have HX := Lib.hid (Gr.ext_trans HX.out hx)
      clear hx
      refine Gr.Left.one (i := 4) (by kernel_rfl) (by kernel_rfl) (Gr.Step.mk rfl (fun K hK => ?_))
      go_simp
      refine (HD1.out _).mono ?_
      rintro e w15_ ⟨rfl, hx⟩
      try go_simp
      refine hK.out _ _ hx ?_
      clear hK K
      have I13 := Lib.hid (I13.out.ext hx)
      have HX := Lib.hid (Gr.ext_trans HX.out hx)
      clear hx
      refine Gr.Left.one (i := 7) (by kernel_rfl) (by kernel_rfl) (Gr.Step.mk rfl (fun K hK => ?_))
      go_simp
      refine (HK2.out _ _ I13.out).mono ?_
      rintro e w16_ ⟨rfl, hx⟩
      try go_simp
      refine hK.out _ _ hx ?_
      clear hK K
      clear I13
      have HX := Lib.hid (Gr.ext_trans HX.out hx)
      clear hx
      refine Gr.Left.one (i := 9) (by kernel_rfl) (by kernel_rfl) (Gr.Step.mk rfl (fun K hK => ?_))
      go_simp
      refine (HD2.out _).mono ?_
      rintro e w17_ ⟨rfl, hx⟩
      try go_simp
      refine hK.out _ _ hx ?_
      clear hK K
      have HX := Lib.hid (Gr.ext_trans HX.out hx)
      clear hx
      refine Gr.Left.one (i := 10) (by kernel_rfl) (by kernel_rfl) (Gr.Step.mk rfl (fun K hK => ?_))
      go_simp
      refine (HL.out _).mono ?_
      rintro e w18_ ⟨rfl, hx⟩
      try go_simp
      refine hK.out _ _ hx ?_
      clear hK K
      have HX := Lib.hid (Gr.ext_trans HX.out hx)
      clear hx
      refine Gr.Left.done (by kernel_rfl) ?_
      simp only [List.drop_succ_cons, List.drop_zero]
      go_wp2
      go_ret
      exact ⟨rfl, HX.out⟩
  · skip
    go_simp
    generalize hw : World.alloc _ _ = w19_
    have hx : wd.Extends w19_ := by subst hw; exact ext_alloc _ _
    have I130 : Ints w19_ (.slice (some ⟨wd.heap.size, 0, none⟩) 1 1) [b] := by subst hw; exact ints_one wd b 3
    clear hw
    refine hK.out _ _ hx ?_
    clear hK K
    have I13 := Lib.hid I130
    clear I130
    have HX := Lib.hid (Gr.ext_trans HX.out hx)
    clear hx
    refine Gr.Left.one (i := 1) (by kernel_rfl) (by kernel_rfl) (Gr.Step.mk rfl (fun K hK => ?_))
    go_simp
    generalize hw : World.alloc _ _ = w20_
    have hx : w19_.Extends w20_ := by subst hw; exact ext_alloc _ _
    have I70 : Ints w20_ (.slice (some ⟨w19_.heap.size, 0, none⟩) 1 1) [a] := by subst hw; exact ints_one w19_ a 3
    clear hw
    refine hK.out _ _ hx ?_
    clear hK K
    have I13 := Lib.hid (I13.out.ext hx)
    have I7 := Lib.hid I70
    clear I70
    have HX := Lib.hid (Gr.ext_trans HX.out hx)
    clear hx
    refine Gr.Left.one (i := 2) (by kernel_rfl) (by kernel_rfl) (Gr.Step.mk rfl (fun K hK => ?_))
    go_simp
    refine (HK1.out _ _ I7.out).mono ?_
    rintro e w21_ ⟨rfl, hx⟩
    try go_simp
    refine hK.out _ _ hx ?_
    clear hK K
    have I13 := Lib.hid (I13.out.ext hx)
    clear I7
    have HX := Lib.hid (Gr.ext_trans HX.out hx)
    clear hx
    refine Gr.Left.one (i := 4) (by kernel_rfl) (by kernel_rfl) (Gr.Step.mk rfl (fun K hK => ?_))
    go_simp
    refine (HD1.out _).mono ?_
    rintro e w22_ ⟨rfl, hx⟩
    try go_simp
    refine hK.out _ _ hx ?_
    clear hK K
    have I13 := Lib.hid (I13.out.ext hx)
    have HX := Lib.hid (Gr.ext_trans HX.out hx)
    clear hx
    refine Gr.Left.one (i := 7) (by kernel_rfl) (by kernel_rfl) (Gr.Step.mk rfl (fun K hK => ?_))
    go_simp
    refine (HK2.out _ _ I13.out).mono ?_
    rintro e w23_ ⟨rfl, hx⟩
    try go_simp
    refine hK.out _ _ hx ?_
    clear hK K
    clear I13
    have HX := Lib.hid (Gr.ext_trans HX.out hx)
    clear hx
    refine Gr.Left.one (i := 9) (by kernel_rfl) (by kernel_rfl) (Gr.Step.mk rfl (fun K hK => ?_))
    go_simp
    refine (HD2.out _).mono ?_
    rintro e w24_ ⟨rfl, hx⟩
    try go_simp
    refine hK.out _ _ hx ?_
    clear hK K
    have HX := Lib.hid (Gr.ext_trans HX.out hx)
    clear hx
    refine Gr.Left.one (i := 10) (by kernel_rfl) (by kernel_rfl) (Gr.Step.mk rfl (fun K hK => ?_))
    go_simp
    refine (HL.out _).mono ?_
    rintro e w25_ ⟨rfl, hx⟩
    try go_simp
    refine hK.out _ _ hx ?_
    clear hK K
    have HX := Lib.hid (Gr.ext_trans HX.out hx)
    clear hx
    refine Gr.Left.done (by kernel_rfl) ?_
    simp only [List.drop_succ_cons, List.drop_zero]
    go_wp2
    go_ret
    exact ⟨rfl, HX.out⟩
end Go.Proofs.Ytnbhkbncllebmaa
namespace Go.Proofs.Ytnbhkbncllebmaa
set_option maxRecDepth 20000
open Go.RowKit Go.Deep
set_option linter.unusedVariables false
set_option maxHeartbeats 4000000 in
theorem nearest_any (K : List Nat) (L : List (List Nat)) (g : Nat) (w : World) (hK : KY.Ok K) (hL : ∀ k ∈ L, KY.Ok k) (h0 : 0 < L.length) (hl : L.length ≤ 1000) (hA : KsAt w g L) :
    Calls Try.prog 18 #[KV K, .slice (some ⟨g, 0, none⟩) L.length L.length] w fun e w' => e = .returned (.int .i64 (PC.nb K L L.length : Nat)) ∧ w.Extends w' := by
  have hall : AllK L := fun k hk => (hL k hk).1
  have hok : ∀ i, i < L.length → KY.Ok (L.getD i []) := fun i hi => hL _ (by rw [List.getD_eq_getElem?_getD, List.getElem?_eq_getElem hi]; exact List.getElem_mem hi)
  have HRG : Hid (∀ i, i < L.length → ∀ w', w.Extends w' → w'.rangeAt g (i * 20) (KC (L.getD i [])).toList) := fun i hi w' hx => (hA.ext hx).range hall hi
  have HLN : Hid (∀ i, i < L.length → (L.getD i []).length = 20) := fun i hi => (hok i hi).1
  have HDI : Hid (∀ i, i < L.length → ∀ w, Calls Try.prog 28 #[KV (L.getD i []), KV K] w fun e w' => e = .returned (KV (KY.dist (L.getD i []) K)) ∧ w.Extends w') := fun i hi w => kdist_any (hok i hi) hK w
  have HLE : Hid (∀ i j, i < L.length → j < L.length → ∀ w, Calls Try.prog 27 #[KV (KY.dist (L.getD i []) K), KV (KY.dist (L.getD j []) K)] w fun e w' => e = .returned (.bool (KY.lt (KY.dist (L.getD i []) K) (KY.dist (L.getD j []) K))) ∧ w.Extends w') := fun i j hi hj w => kless_any (KY.dist_ok (hok i hi) hK) (KY.dist_ok (hok j hj) hK) w
  have HST : Hid (∀ i, PC.nb K L (i + 1) = if KY.lt (KY.dist (L.getD i []) K) (KY.dist (L.getD (PC.nb K L i) []) K) = true then i else PC.nb K L i) := fun i => rfl
  have HB : Hid (∀ i, i < L.length → PC.nb K L i < L.length) := fun i hi => by have := PC.nb_lt K L i; omega
  obtain ⟨s, hs⟩ : ∃ s, w.heap.size = s := ⟨_, rfl⟩
  have HBOX : Hid (∀ w1, w1 = w.alloc (.cells (KC K) 25) → w.Extends w1 ∧ KAt w1 s K) := fun w1 e => by
    subst e; subst hs
    exact ⟨ext_alloc _ _, KAt.new w hK.1⟩
  have HLK := Lib.hid hK.1
  have H0 : Hid (PC.nb K L 0 = 0) := rfl
  generalize PC.nb K L = F at *
  generalize hLG : L.getD = LG at *
  generalize L.length = n at *
  obtain ⟨xk, hxk⟩ : ∃ x, KV K = x := ⟨_, rfl⟩
  have HXK := Lib.hid hxk
  rw [hxk] at HDI ⊢
  clear hxk hLG hall hok hL hA
  go_enter Try.func18, Try.ntmps18
  go_upto_region 1 with fail
  generalize hw1 : World.alloc w _ = w1
  obtain ⟨hx1, hk1⟩ := HBOX.out w1 (by rw [← hw1, ← HXK.out])
  have HX1 := Lib.hid hx1
  have HKA := Lib.hid hk1
  clear hw1 HBOX hx1 hk1
  try rw [hs]
  clear hs
  go_wp2_with fail
  go_loopw [5, 9] (fun s5 s9 wr => ∃ i : Nat, i ≤ n ∧ s9 = .int .i64 (i : Nat) ∧ s5 = .int .i64 (F i : Nat) ∧ Hid (w1.Extends wr)) (fun _ s9 _ => n - (intOf s9).toNat)
  case atStart => exact ⟨0, by omega, by rfl, by rw [H0.out]; rfl, Gr.ext_refl _⟩
  case round =>
    obtain ⟨i, hi, rfl, rfl, HX⟩ := hrel
    by_cases h1 : i < n
    · have hst := HST.out i
      have HFI := HB.out i h1
      have HR1 : Hid (∀ w', w1.Extends w' → w'.rangeAt g (i * 20) (KC (LG i [])).toList) := fun w' hx => HRG.out i h1 w' (Gr.ext_trans HX1.out hx)
      have HR2 : Hid (∀ w', w1.Extends w' → w'.rangeAt g (F i * 20) (KC (LG (F i) [])).toList) := fun w' hx => HRG.out (F i) HFI w' (Gr.ext_trans HX1.out hx)
      have HL1 := Lib.hid (HLN.out i h1)
      have HL2 := Lib.hid (HLN.out (F i) HFI)
      have HD1 := Lib.hid (HDI.out i h1)
      have HD2 := Lib.hid (HDI.out (F i) HFI)
      have HLT := Lib.hid (HLE.out i (F i) h1 HFI)
      generalize KY.lt (KY.dist (LG i []) K) (KY.dist (LG (F i) []) K) = t at *
      generalize KY.dist (LG i []) K = d1 at *
      generalize KY.dist (LG (F i) []) K = d2 at *
      generalize LG i [] = k1 at *
      generalize LG (F i) [] = k2 at *
      obtain ⟨b, hb⟩ : ∃ b, b = F i := ⟨_, rfl⟩
      rw [← hb] at hst HFI HR2 ⊢
      have HS := Lib.hid hst
      clear hst hb
      obtain ⟨x1, hx1⟩ : ∃ x, KV k1 = x := ⟨_, rfl⟩
      obtain ⟨x2, hx2⟩ : ∃ x, KV k2 = x := ⟨_, rfl⟩
      have HX1v := Lib.hid hx1
      have HX2v := Lib.hid hx2
      rw [hx1] at HD1
      rw [hx2] at HD2
      generalize KV d1 = y1 at *
      generalize KV d2 = y2 at *
      clear hx1 hx2
      have HXd : Hid (w1.Extends wr.drew) := Gr.ext_drew HX.out
      clear HX
      go_wp2_with fail
      refine Gr.region 12 [(false,0),(false,1),(false,2),(false,3),(false,4),(false,6),(false,7),(false,8),(false,9),(false,10),(true,5),(true,11)] (by kernel_rfl) (by kernel_rfl) (fun d _ _ _ _ h => by cases d <;> exact h) ?_
      simp only [Gr.pick, List.getElem?_cons_zero, List.getElem?_cons_succ, List.drop_succ_cons, List.drop_zero]
      generalize wr.drew = wd at *
      iterate 3
        refine Gr.walk_t ?_ (Or.inl ⟨by rfl, ?_⟩) ?_
        rotate_left
        · intro w' hw'
          clear hw'
          go_simp
          try with_reducible rfl
        simp only [Act.put, List.setIfInBounds_toArray, List.set_cons_zero, List.set_cons_succ]
      refine Gr.walk_t _ (Or.inl ⟨by rfl, fun w' hw' => kk_yields HL1.out (HR1.out w' (Gr.ext_trans HXd.out hw')) (by rfl) (by rfl) (by exact HX1v.out)⟩) ?_
      simp only [Act.put, List.setIfInBounds_toArray, List.set_cons_zero, List.set_cons_succ]
      refine Gr.walk_t _ (Or.inl ⟨by rfl, fun w' hw' => key_yields (HKA.out.ext (Gr.ext_trans HXd.out hw')) HLK.out (by rfl) (by rfl) (by exact HXK.out)⟩) ?_
      simp only [Act.put, List.setIfInBounds_toArray, List.set_cons_zero, List.set_cons_succ]
      iterate 3
        refine Gr.walk_t ?_ (Or.inl ⟨by rfl, ?_⟩) ?_
        rotate_left
        · intro w' hw'
          clear hw'
          go_simp
          try with_reducible rfl
        simp only [Act.put, List.setIfInBounds_toArray, List.set_cons_zero, List.set_cons_succ]
      refine Gr.walk_t _ (Or.inl ⟨by rfl, fun w' hw' => kk_yields HL2.out (HR2.out w' (Gr.ext_trans HXd.out hw')) (by rfl) (by rfl) (by exact HX2v.out)⟩) ?_
      simp only [Act.put, List.setIfInBounds_toArray, List.set_cons_zero, List.set_cons_succ]
      refine Gr.walk_t _ (Or.inl ⟨by rfl, fun w' hw' => key_yields (HKA.out.ext (Gr.ext_trans HXd.out hw')) HLK.out (by rfl) (by rfl) (by exact HXK.out)⟩) ?_
      simp only [Act.put, List.setIfInBounds_toArray, List.set_cons_zero, List.set_cons_succ]
      refine Gr.walk_c (fun K hK => ?_)
      go_simp
      refine (HD1.out wd).mono ?_
      rintro e w2 ⟨rfl, hx2⟩
      have HX2 := Lib.hid (Gr.ext_trans HXd.out hx2)
      try go_simp
      refine hK.out _ _ (hx2) ?_
      clear hK K
      clear hx2
      refine Gr.walk_c (fun K hK => ?_)
      go_simp
      refine (HD2.out w2).mono ?_
      rintro e w3 ⟨rfl, hx3⟩
      have HX3 := Lib.hid (Gr.ext_trans HX2.out hx3)
      try go_simp
      refine hK.out _ _ (hx3) ?_
      clear hK K
      clear hx3
      refine Gr.walk_nil ?_
      go_wp2_with fail
      refine (HLT.out w3).mono ?_
      rintro e w4 ⟨rfl, hx4⟩
      have HX4 := Lib.hid (Gr.ext_trans HX3.out hx4)
      clear hx4 HR1 HR2 HD1 HD2 HLT HXd HX2 HX3
      cases t with
      | true =>
        have HS2 : Hid (i = F (i + 1)) := by show _ = _; rw [HS.out]; rfl
        go_wp2
        go_roundw
        case rel => exact ⟨i + 1, by omega, by go_num, by rw [← HS2.out], HX4⟩
        case measure => simp [intOf]; omega
      | false =>
        have HS2 : Hid (b = F (i + 1)) := by show _ = _; rw [HS.out]; rfl
        go_wp2
        go_roundw
        case rel => exact ⟨i + 1, by omega, by go_num, by rw [← HS2.out], HX4⟩
        case measure => simp [intOf]; omega
    · obtain rfl : i = n := by omega
      have hxw := Lib.hid (Gr.ext_trans HX1.out HX.out)
      go_wp2
      go_ret
      exact ⟨rfl, hxw.out⟩
end Go.Proofs.Ytnbhkbncllebmaa
namespace Go.Proofs.Ytnbhkbncllebmaa
set_option maxRecDepth 20000
open Go.RowKit Go.Deep
set_option linter.unusedVariables false
/-- A place, or -1. -/
def encB : Option Nat → Int
  | none => -1
  | some b => (b : Int)
def PeerOut (o : Option Int) (w : World) (e : Ending) (w' : World) : Prop := w.Extends w' ∧ match o with
  | some p => e = .returned (.tuple #[.int .i64 p, .bool true])
  | none => e = .returned (.tuple #[.int .i64 0, .bool false])
set_option maxHeartbeats 4000000 in
theorem rpeer_any (K : List Nat) (v : Value) (l : List Int) (w : World) (hK : KY.Ok K) (hv : Ints w v l) :
    Calls Try.prog 9 #[KV K, v] w (PeerOut (PC.peer K l) w) := by
  have hm := hv.len
  unfold maxLen at hm
  obtain ⟨a, cap, rfl, _⟩ := hv.slice
  have HV := Lib.hid hv.cell.2
  obtain ⟨s, hs⟩ : ∃ s, w.heap.size = s := ⟨_, rfl⟩
  have HBOX : Hid (∀ w1, w1 = w.alloc (.cells (KC K) 25) → w.Extends w1 ∧ KAt w1 s K) := fun w1 e => by
    subst e; subst hs
    exact ⟨ext_alloc _ _, KAt.new w hK.1⟩
  have HLK := Lib.hid hK.1
  have HNR : Hid (∀ x y w, Calls Try.prog 20 #[KV K, .int .i64 x, .int .i64 y] w fun e w' => e = .returned (.bool (KY.lt (far K x) (far K y))) ∧ w.Extends w') := fun x y w => rnear1_any K x y w hK
  obtain ⟨xk, hxk⟩ : ∃ x, KV K = x := ⟨_, rfl⟩
  have HXK := Lib.hid hxk
  rw [hxk] at HNR ⊢
  have HPOST : Hid (∀ w' : World, w.Extends w' → (∀ b, PC.bi K l l.length = some b → PeerOut (PC.peer K l) w (.returned (.tuple #[.int .i64 (l.getD b 0), .bool true])) w') ∧ (PC.bi K l l.length = none → PeerOut (PC.peer K l) w (.returned (.tuple #[.int .i64 0, .bool false])) w')) := fun w' hx => by
    constructor
    · intro b hb
      unfold PC.peer
      rw [hb]
      exact ⟨hx, rfl⟩
    · intro hb
      unfold PC.peer
      rw [hb]
      exact ⟨hx, rfl⟩
  have HST : Hid (∀ i, PC.bi K l (i + 1) = match PC.bi K l i with
    | none => some i
    | some b => if KY.lt (far K (l.getD i 0)) (far K (l.getD b 0)) = true then some i else some b) := fun i => rfl
  have HBL : Hid (∀ i b, PC.bi K l i = some b → b < i) := fun i b h => PC.bi_lt K l h
  generalize PeerOut (PC.peer K l) w = POST at *
  generalize hF : PC.bi K l = F at *
  have HF0 : Hid (F 0 = none) := by show _ = _; rw [← hF]; rfl
  clear hv hxk hF
  generalize l.length = n at *
  go_enter Try.func9, Try.ntmps9
  go_upto_region 1 with fail
  generalize hw1 : World.alloc w _ = w1
  obtain ⟨hx1, hk1⟩ := HBOX.out w1 (by rw [← hw1, ← HXK.out])
  have HX1 := Lib.hid hx1
  have HKA := Lib.hid hk1
  clear hw1 HBOX hx1 hk1
  clear hs
  go_wp2_with fail
  go_loopw [6, 7] (fun s6 s7 wr => ∃ i : Nat, i ≤ n ∧ s7 = .int .i64 (i : Nat) ∧ s6 = .int .i64 (encB (F i)) ∧ Hid (w1.Extends wr)) (fun _ s7 _ => n - (intOf s7).toNat)
  case atStart => exact ⟨0, by omega, by rfl, by rw [HF0.out]; rfl, Gr.ext_refl _⟩
  case round =>
    obtain ⟨i, hi, rfl, rfl, HX⟩ := hrel
    by_cases h1 : i < n
    · have hst := HST.out i
      have HXd : Hid (w1.Extends wr.drew) := Gr.ext_drew HX.out
      cases hb : F i with
      | none =>
        rw [hb] at hst
        simp only at hst
        have HS := Lib.hid hst
        clear hst hb HX
        simp only [encB]
        go_wp2_with fail
        refine Gr.region 13 [(false,0),(false,1),(false,2),(false,3),(false,4),(false,5),(false,6),(false,7),(false,8),(false,9),(false,10),(false,11),(true,12)] (by kernel_rfl) (by kernel_rfl) (fun d _ _ _ _ h => by cases d <;> exact h) ?_
        simp only [Gr.pick, List.getElem?_cons_zero, List.getElem?_cons_succ, List.drop_succ_cons, List.drop_zero]
        generalize wr.drew = wd at *
        iterate 3
          refine Gr.walk_t ?_ (Or.inl ⟨by rfl, ?_⟩) ?_
          rotate_left
          · intro w' hw'
            clear hw'
            go_simp
            try with_reducible rfl
          simp only [Act.put, List.setIfInBounds_toArray, List.set_cons_zero, List.set_cons_succ]
        refine Gr.walk_t _ (Or.inr ⟨by rfl, rfl⟩) ?_
        simp only [Act.put, List.setIfInBounds_toArray, List.set_cons_zero, List.set_cons_succ]
        refine Gr.walk_t _ (Or.inr ⟨by rfl, rfl⟩) ?_
        simp only [Act.put, List.setIfInBounds_toArray, List.set_cons_zero, List.set_cons_succ]
        refine Gr.walk_t _ (Or.inr ⟨by rfl, rfl⟩) ?_
        simp only [Act.put, List.setIfInBounds_toArray, List.set_cons_zero, List.set_cons_succ]
        refine Gr.walk_t _ (Or.inr ⟨by rfl, rfl⟩) ?_
        simp only [Act.put, List.setIfInBounds_toArray, List.set_cons_zero, List.set_cons_succ]
        refine Gr.walk_t _ (Or.inr ⟨by rfl, rfl⟩) ?_
        simp only [Act.put, List.setIfInBounds_toArray, List.set_cons_zero, List.set_cons_succ]
        refine Gr.walk_t _ (Or.inr ⟨by rfl, rfl⟩) ?_
        simp only [Act.put, List.setIfInBounds_toArray, List.set_cons_zero, List.set_cons_succ]
        refine Gr.walk_t _ (Or.inr ⟨by rfl, rfl⟩) ?_
        simp only [Act.put, List.setIfInBounds_toArray, List.set_cons_zero, List.set_cons_succ]
        refine Gr.walk_t _ (Or.inr ⟨by rfl, rfl⟩) ?_
        simp only [Act.put, List.setIfInBounds_toArray, List.set_cons_zero, List.set_cons_succ]
        refine Gr.walk_t _ (Or.inr ⟨by rfl, rfl⟩) ?_
        simp only [Act.put, List.setIfInBounds_toArray, List.set_cons_zero, List.set_cons_succ]
        refine Gr.walk_c (fun K hK => ?_)
        rw [if_neg (by intro h; cases h)]
        refine hK.out _ _ (Gr.ext_refl _) ?_
        clear hK K
        simp only [Act.put, List.setIfInBounds_toArray, List.set_cons_zero, List.set_cons_succ]
        refine Gr.walk_nil ?_
        go_wp2
        go_roundw
        case rel => exact ⟨i + 1, by omega, by go_num, by simp [HS.out], HXd⟩
        case measure => simp [intOf]; omega
      | some b =>
        have hbi := HBL.out i b hb
        have hbn : b < n := by omega
        rw [hb] at hst
        simp only at hst
        obtain ⟨b1, o1, rfl, hb1, hc1⟩ := HV.out (by omega)
        have HCX : Hid (∀ w', w1.Extends w' → w'.cell? ⟨b1, o1 + i, none⟩ = some (.int .i64 (l.getD i 0)) ∧ w'.cell? ⟨b1, o1 + b, none⟩ = some (.int .i64 (l.getD b 0))) := fun w' h => ⟨(Gr.ext_trans HX1.out h).cell_of (hc1 i h1), (Gr.ext_trans HX1.out h).cell_of (hc1 b (by omega))⟩
        have HCALL := Lib.hid (HNR.out (l.getD i 0) (l.getD b 0))
        generalize l.getD i 0 = x at *
        generalize l.getD b 0 = y at *
        generalize KY.lt (far K x) (far K y) = t at *
        have HS := Lib.hid hst
        clear hst hb HX hc1 hb1
        simp only [encB]
        go_wp2_with fail
        refine Gr.region 13 [(false,0),(false,1),(false,2),(false,3),(false,4),(false,5),(false,6),(false,7),(false,8),(false,9),(false,10),(false,11),(true,12)] (by kernel_rfl) (by kernel_rfl) (fun d _ _ _ _ h => by cases d <;> exact h) ?_
        simp only [Gr.pick, List.getElem?_cons_zero, List.getElem?_cons_succ, List.drop_succ_cons, List.drop_zero]
        generalize wr.drew = wd at *
        iterate 3
          refine Gr.walk_t ?_ (Or.inl ⟨by rfl, ?_⟩) ?_
          rotate_left
          · intro w' hw'
            clear hw'
            go_simp
            try with_reducible rfl
          simp only [Act.put, List.setIfInBounds_toArray, List.set_cons_zero, List.set_cons_succ]
        refine Gr.walk_t _ (Or.inl ⟨by rfl, fun w' hw' => key_yields (HKA.out.ext (Gr.ext_trans HXd.out hw')) HLK.out (by rfl) (by rfl) (by exact HXK.out)⟩) ?_
        simp only [Act.put, List.setIfInBounds_toArray, List.set_cons_zero, List.set_cons_succ]
        iterate 8
          refine Gr.walk_t ?_ (Or.inl ⟨by rfl, ?_⟩) ?_
          rotate_left
          · intro w' hw'
            obtain ⟨cx, cy⟩ := HCX.out w' (Gr.ext_trans HXd.out hw')
            clear hw'
            go_simp
            try with_reducible rfl
          simp only [Act.put, List.setIfInBounds_toArray, List.set_cons_zero, List.set_cons_succ]
        refine Gr.walk_c (fun K hK => ?_)
        go_simp
        refine (HCALL.out wd).mono ?_
        rintro e w2 ⟨rfl, hx⟩
        have HX2 := Lib.hid (Gr.ext_trans HXd.out hx)
        try go_simp
        refine hK.out _ _ (hx) ?_
        clear hK K
        clear hx
        refine Gr.walk_nil ?_
        cases t with
        | true =>
          go_wp2
          go_roundw
          case rel => exact ⟨i + 1, by omega, by go_num, by simp [HS.out], HX2⟩
          case measure => simp [intOf]; omega
        | false =>
          go_wp2
          go_roundw
          case rel => exact ⟨i + 1, by omega, by go_num, by simp [HS.out], HX2⟩
          case measure => simp [intOf]; omega
    · obtain rfl : i = n := by omega
      have hxw := Gr.ext_trans HX1.out HX.out
      cases hb : F i with
      | none =>
        have HP := Lib.hid ((HPOST.out wr hxw).2 hb)
        clear hb hxw
        simp only [encB]
        go_wp2
        exact HP.out
      | some b =>
        have HP := Lib.hid ((HPOST.out wr hxw).1 b hb)
        have hbi := HBL.out i b hb
        obtain ⟨b1, o1, rfl, hb1, hc1⟩ := HV.out (by omega)
        have hc := hxw.cell_of (hc1 b hbi)
        clear hb hxw hc1
        simp only [encB]
        go_wp2
        exact HP.out
end Go.Proofs.Ytnbhkbncllebmaa
namespace Go.Proofs.Ytnbhkbncllebmaa
set_option maxRecDepth 20000
open Go.RowKit Go.Deep
set_option linter.unusedVariables false
theorem keysOf_ok (l : List Int) : ∀ k ∈ keysOf l, KY.Ok k := fun k hk => by
  obtain ⟨p, _, rfl⟩ := List.mem_map.1 hk
  exact KY.of_ok _
theorem keysOf_length (l : List Int) : (keysOf l).length = l.length := by simp [keysOf]
theorem near_of (K : List Nat) (l : List Int) (g : Nat) (w : World) (hK : KY.Ok K) (h0 : 0 < l.length) (hl : l.length ≤ 1000) (hA : KsAt w g (keysOf l)) :
    Calls Try.prog 18 #[KV K, .slice (some ⟨g, 0, none⟩) l.length l.length] w fun e w' => e = .returned (.int .i64 (PC.nb K (keysOf l) l.length : Nat)) ∧ w.Extends w' := by
  have h := nearest_any K (keysOf l) g w hK (keysOf_ok l) (by rw [keysOf_length]; exact h0) (by rw [keysOf_length]; exact hl) hA
  rwa [keysOf_length] at h
set_option maxHeartbeats 4000000 in
theorem ppeer_any (K : List Nat) (v : Value) (l : List Int) (w : World) (hK : KY.Ok K) (hv : Ints w v l) (hl : l.length ≤ 1000) :
    Calls Try.prog 8 #[KV K, v] w (PeerOut (PC.peer K l) w) := by
  have HVI := Lib.hid hv
  obtain ⟨a, cap, rfl, hle, hcap⟩ := hv.slice
  have HV := Lib.hid hv.cell.2
  obtain ⟨s, hs⟩ : ∃ s, w.heap.size = s := ⟨_, rfl⟩
  have HBOX : Hid (∀ w1, w1 = w.alloc (.cells (KC K) 25) → w.Extends w1 ∧ KAt w1 s K) := fun w1 e => by
    subst e; subst hs
    exact ⟨ext_alloc _ _, KAt.new w hK.1⟩
  have HLK := Lib.hid hK.1
  have HKE : Hid (0 < l.length → ∀ w', w.Extends w' → Calls Try.prog 19 #[.slice a l.length cap] w' fun e w2 => ∃ g, e = .returned (.slice (some ⟨g, 0, none⟩) l.length l.length) ∧ w'.Extends w2 ∧ KsAt w2 g (keysOf l)) := fun h0 w' hx => keys_any _ l w' (HVI.out.ext hx) h0 hl
  have HNE : Hid (0 < l.length → ∀ g w', KsAt w' g (keysOf l) → Calls Try.prog 18 #[KV K, .slice (some ⟨g, 0, none⟩) l.length l.length] w' fun e w2 => e = .returned (.int .i64 (PC.nb K (keysOf l) l.length : Nat)) ∧ w'.Extends w2) := fun h0 g w' hA => near_of K l g w' hK h0 hl hA
  have HB : Hid (0 < l.length → PC.nb K (keysOf l) l.length < l.length) := fun h0 => by have := PC.nb_lt K (keysOf l) l.length; omega
  have HP0 : Hid (l.length = 0 → ∀ w' : World, w.Extends w' → PeerOut (PC.peer K l) w (.returned (.tuple #[.int .i64 0, .bool false])) w') := fun h0 w' hx => by
    have e : PC.peer K l = none := by unfold PC.peer; rw [h0]; rfl
    rw [e]; exact ⟨hx, rfl⟩
  have HP1 : Hid (0 < l.length → ∀ w' : World, w.Extends w' → PeerOut (PC.peer K l) w (.returned (.tuple #[.int .i64 (l.getD (PC.nb K (keysOf l) l.length) 0), .bool true])) w') := fun h0 w' hx => by
    have e : PC.peer K l = some (l.getD (PC.nb K (keysOf l) l.length) 0) := by unfold PC.peer; rw [PC.bi_full K l h0]; rfl
    rw [e]; exact ⟨hx, rfl⟩
  obtain ⟨xk, hxk⟩ : ∃ x, KV K = x := ⟨_, rfl⟩
  have HXK := Lib.hid hxk
  rw [hxk] at HNE ⊢
  generalize PeerOut (PC.peer K l) w = POST at *
  generalize PC.nb K (keysOf l) l.length = b at *
  generalize hLG : l.getD = LG at *
  generalize keysOf l = KL at *
  generalize l.length = n at *
  clear hv hxk hLG HVI
  go_enter Try.func8, Try.ntmps8
  go_upto_region 1 with fail
  generalize hw1 : World.alloc w _ = w1
  obtain ⟨hx1, hk1⟩ := HBOX.out w1 (by rw [← hw1, ← HXK.out])
  have HX1 := Lib.hid hx1
  have HKA := Lib.hid hk1
  clear hw1 HBOX hx1 hk1
  try rw [hs]
  clear hs
  by_cases h0 : n = 0
  · have HP := Lib.hid (HP0.out h0 w1 HX1.out)
    subst h0
    go_wp2
    exact HP.out
  · have hn : 0 < n := by omega
    have HP := Lib.hid (HP1.out hn)
    have HBN := HB.out hn
    obtain ⟨b1, o1, rfl, hb1, hc1⟩ := HV.out hn
    have HC : Hid (∀ w', w1.Extends w' → w'.cell? ⟨b1, o1 + b, none⟩ = some (.int .i64 (LG b 0))) := fun w' hx => (Gr.ext_trans HX1.out hx).cell_of (hc1 b HBN)
    have HKE2 := Lib.hid (HKE.out hn)
    have HNE2 := Lib.hid (HNE.out hn)
    clear HP0 HP1 HB HV HKE HNE hc1
    generalize LG b 0 = x at *
    have hne : ((n : Int) == 0) = false := by rw [beq_eq_false_iff_ne]; omega
    go_wp2_with fail
    refine Gr.region 7 [(false,0),(false,1),(false,2),(true,3),(true,4),(false,5),(false,6)] (by kernel_rfl) (by kernel_rfl) (fun d _ _ _ _ h => by cases d <;> exact h) ?_
    simp only [Gr.pick, List.getElem?_cons_zero, List.getElem?_cons_succ, List.drop_succ_cons, List.drop_zero]
    have HXd : Hid (w1.Extends w1.drew) := Gr.ext_drew (Gr.ext_refl w1)
    generalize w1.drew = wd at *
    refine Gr.walk_t ?_ (Or.inl ⟨by rfl, ?_⟩) ?_
    rotate_left
    · intro w' hw'
      clear hw'
      go_simp
      try with_reducible rfl
    simp only [Act.put, List.setIfInBounds_toArray, List.set_cons_zero, List.set_cons_succ]
    refine Gr.walk_t _ (Or.inl ⟨by rfl, fun w' hw' => key_yields (HKA.out.ext (Gr.ext_trans HXd.out hw')) HLK.out (by rfl) (by rfl) (by exact HXK.out)⟩) ?_
    simp only [Act.put, List.setIfInBounds_toArray, List.set_cons_zero, List.set_cons_succ]
    refine Gr.walk_t ?_ (Or.inl ⟨by rfl, ?_⟩) ?_
    rotate_left
    · intro w' hw'
      clear hw'
      go_simp
      try with_reducible rfl
    simp only [Act.put, List.setIfInBounds_toArray, List.set_cons_zero, List.set_cons_succ]
    refine Gr.walk_c (fun K hK => ?_)
    go_simp
    refine (HKE2.out wd (Gr.ext_trans HX1.out HXd.out)).mono ?_
    rintro e w2 ⟨g, rfl, hx2, hk2⟩
    have HX2 := Lib.hid (Gr.ext_trans HXd.out hx2)
    have HK2 := Lib.hid hk2
    try go_simp
    refine hK.out _ _ (hx2) ?_
    clear hK K
    clear hx2 hk2
    refine Gr.walk_c (fun K hK => ?_)
    go_simp
    refine (HNE2.out g w2 HK2.out).mono ?_
    rintro e w3 ⟨rfl, hx3⟩
    have HX3 := Lib.hid (Gr.ext_trans HX2.out hx3)
    try go_simp
    refine hK.out _ _ (hx3) ?_
    clear hK K
    clear hx3
    iterate 2
      refine Gr.walk_t ?_ (Or.inl ⟨by rfl, ?_⟩) ?_
      rotate_left
      · intro w' hw'
        have hc := HC.out w' (Gr.ext_trans HX3.out hw')
        clear hw'
        go_simp
        try with_reducible rfl
      simp only [Act.put, List.setIfInBounds_toArray, List.set_cons_zero, List.set_cons_succ]
    refine Gr.walk_nil ?_
    have HPF := Lib.hid (HP.out w3 (Gr.ext_trans HX1.out HX3.out))
    go_wp2
    exact HPF.out
end Go.Proofs.Ytnbhkbncllebmaa
namespace Go.Proofs.Ytnbhkbncllebmaa
set_option maxRecDepth 20000
open Go.RowKit Go.Deep
set_option linter.unusedVariables false
/-- A literal of ints. -/
theorem pints_lit (w : World) (g n c : Nat) (xs : List Int) (cs : Array Value) (hg : g = w.heap.size) (hn : n = xs.length) (hc : c = xs.length) (hcs : cs = (i64vs xs).toArray) (hl : xs.length ≤ 1000) : Ints (w.alloc (.cells cs 3)) (.slice (some ⟨g, 0, none⟩) n c) xs := by
  subst hg; subst hn; subst hc; subst hcs
  refine .inr ⟨w.heap.size, 0, xs.length, rfl, Nat.le_refl _, by unfold maxLen; omega, by simp, fun k hk => ?_⟩
  rw [cell_of_row _ _ _ _ _ _ (heap_alloc_new _ _), List.getElem?_toArray, Nat.zero_add]
  simp [i64vs, hk]
set_option maxHeartbeats 1000000 in
theorem rhome_any (p n : Int) (w : World) : Calls Try.prog 15 #[.agg #[.int .i64 p, .int .i64 n]] w fun e w' => e = .returned (KV (KY.of [p, n])) ∧ w.Extends w' := by
  have HK : Hid (∀ w v, Ints w v [p, n] → Calls Try.prog 25 #[v] w fun e w' => e = .returned (KV (KY.of [p, n])) ∧ w.Extends w') := fun w v h => rkof_any w h
  have HDL : Hid ((KY.of [p, n]).length = 20) := (KY.of_ok _).1
  generalize KY.of [p, n] = d at *
  go_enter Try.func15, Try.ntmps15
  go_upto_region 1 with fail
  generalize hw1 : World.alloc w _ = w1
  generalize hw2 : World.alloc w1 _ = w2
  have hx1 : w.Extends w1 := by subst hw1; exact ext_alloc _ _
  have hx2 : w1.Extends w2 := by subst hw2; exact ext_alloc _ _
  have hb : w1.heap[w.heap.size]? = some (.cells #[.int .i64 p, .int .i64 n] 23) := by subst hw1; exact heap_alloc_new _ _
  have hs1 : w1.heap.size = w.heap.size + 1 := by subst hw1; simp
  have hk : w2.heap[w1.heap.size]? = some (.cells (KC KY.zero) 25) := by subst hw2; rw [KC_zero]; exact heap_alloc_new _ _
  rw [hs1] at hk
  have hb2 : w2.heap[w.heap.size]? = some (.cells #[.int .i64 p, .int .i64 n] 23) := (hx2.block _ (by omega)).trans hb
  obtain ⟨x, hx⟩ : ∃ x, x = w.heap.size := ⟨_, rfl⟩
  have HX2 := Lib.hid (Gr.ext_trans hx1 hx2)
  have hsz : x + 1 < w2.heap.size := by have := (Array.getElem?_eq_some_iff.1 hk).1; omega
  rw [← hx] at hb2 hk ⊢
  have HXW : Hid (w.heap.size ≤ x) := Nat.le_of_eq hx.symm
  have HKB := Lib.hid hk
  have a0 : w2.cell? ⟨x, 0, none⟩ = some (.int .i64 p) := by rw [cell_of_row _ _ _ _ _ _ hb2]; rfl
  have a1 : w2.cell? ⟨x, 1, none⟩ = some (.int .i64 n) := by rw [cell_of_row _ _ _ _ _ _ hb2]; rfl
  clear hw1 hw2 hb hb2 hk hx1 hx2 hs1 hx
  go_wp2_with fail
  clear a0 a1
  have hi3 : Ints (w2.alloc (.cells #[.int .i64 p, .int .i64 n] 3)) (.slice (some ⟨w2.heap.size, 0, none⟩) 2 2) [p, n] := pints_lit w2 _ _ _ _ _ rfl rfl rfl rfl (by simp)
  generalize hw3 : World.alloc w2 _ = w3 at *
  have hx3 : w2.Extends w3 := by subst hw3; exact ext_alloc _ _
  refine (HK.out w3 _ hi3).mono ?_
  rintro e w4 ⟨rfl, hx4⟩
  have hx5 := Gr.ext_trans hx3 hx4
  have hk4 : w4.heap[x + 1]? = some (.cells (KC KY.zero) 25) := (hx5.block _ hsz).trans HKB.out
  have hi := key_info HDL.out
  have hsame : (KC KY.zero).size = (KC d).size := by rw [KC_size, KC_size, HDL.out]; rfl
  have HFIN := Lib.hid (key_left (w := w) (r := x + 1) (k := d) (by have := HXW.out; omega) (Gr.below_of (Gr.ext_trans HX2.out hx5)) ⟨_, hk4, by rw [KC_size]; rfl⟩)
  clear hx3 hx4 hx5 hw3 hi3
  go_wp2_with (refine wpList_store_row rfl 25 (.tmp 2) (.tmp 8) rfl (x + 1) (KC d) rfl rfl 25 _ hk4 hi hsame KC_one ?_)
  refine bodyPost_ret (v := KV d) (results_cell_row rfl _ _ (x + 1) 25 (KC d) (0, 0) _ rfl HFIN.out.2 Try.underlying25 rfl hi) rfl ⟨rfl, Gr.ext_of HFIN.out.1⟩
set_option maxHeartbeats 1000000 in
theorem rskey_any (p n b s : Int) (w : World) : Calls Try.prog 13 #[.agg #[.int .i64 p, .int .i64 n], .int .i64 b, .int .i64 s] w fun e w' => e = .returned (KV (KY.of [p, n, b, s])) ∧ w.Extends w' := by
  have HK : Hid (∀ w v, Ints w v [p, n, b, s] → Calls Try.prog 25 #[v] w fun e w' => e = .returned (KV (KY.of [p, n, b, s])) ∧ w.Extends w') := fun w v h => rkof_any w h
  have HDL : Hid ((KY.of [p, n, b, s]).length = 20) := (KY.of_ok _).1
  generalize KY.of [p, n, b, s] = d at *
  go_enter Try.func13, Try.ntmps13
  go_upto_region 1 with fail
  generalize hw1 : World.alloc w _ = w1
  generalize hw2 : World.alloc w1 _ = w2
  have hx1 : w.Extends w1 := by subst hw1; exact ext_alloc _ _
  have hx2 : w1.Extends w2 := by subst hw2; exact ext_alloc _ _
  have hb : w1.heap[w.heap.size]? = some (.cells #[.int .i64 p, .int .i64 n] 23) := by subst hw1; exact heap_alloc_new _ _
  have hs1 : w1.heap.size = w.heap.size + 1 := by subst hw1; simp
  have hk : w2.heap[w1.heap.size]? = some (.cells (KC KY.zero) 25) := by subst hw2; rw [KC_zero]; exact heap_alloc_new _ _
  rw [hs1] at hk
  have hb2 : w2.heap[w.heap.size]? = some (.cells #[.int .i64 p, .int .i64 n] 23) := (hx2.block _ (by omega)).trans hb
  obtain ⟨x, hx⟩ : ∃ x, x = w.heap.size := ⟨_, rfl⟩
  have HX2 := Lib.hid (Gr.ext_trans hx1 hx2)
  have hsz : x + 1 < w2.heap.size := by have := (Array.getElem?_eq_some_iff.1 hk).1; omega
  rw [← hx] at hb2 hk ⊢
  have HXW : Hid (w.heap.size ≤ x) := Nat.le_of_eq hx.symm
  have HKB := Lib.hid hk
  have a0 : w2.cell? ⟨x, 0, none⟩ = some (.int .i64 p) := by rw [cell_of_row _ _ _ _ _ _ hb2]; rfl
  have a1 : w2.cell? ⟨x, 1, none⟩ = some (.int .i64 n) := by rw [cell_of_row _ _ _ _ _ _ hb2]; rfl
  clear hw1 hw2 hb hb2 hk hx1 hx2 hs1 hx
  go_wp2_with fail
  clear a0 a1
  have hi3 : Ints (w2.alloc (.cells #[.int .i64 p, .int .i64 n, .int .i64 b, .int .i64 s] 3)) (.slice (some ⟨w2.heap.size, 0, none⟩) 4 4) [p, n, b, s] := pints_lit w2 _ _ _ _ _ rfl rfl rfl rfl (by simp)
  generalize hw3 : World.alloc w2 _ = w3 at *
  have hx3 : w2.Extends w3 := by subst hw3; exact ext_alloc _ _
  refine (HK.out w3 _ hi3).mono ?_
  rintro e w4 ⟨rfl, hx4⟩
  have hx5 := Gr.ext_trans hx3 hx4
  have hk4 : w4.heap[x + 1]? = some (.cells (KC KY.zero) 25) := (hx5.block _ hsz).trans HKB.out
  have hi := key_info HDL.out
  have hsame : (KC KY.zero).size = (KC d).size := by rw [KC_size, KC_size, HDL.out]; rfl
  have HFIN := Lib.hid (key_left (w := w) (r := x + 1) (k := d) (by have := HXW.out; omega) (Gr.below_of (Gr.ext_trans HX2.out hx5)) ⟨_, hk4, by rw [KC_size]; rfl⟩)
  clear hx3 hx4 hx5 hw3 hi3
  go_wp2_with (refine wpList_store_row rfl 25 (.tmp 6) (.tmp 14) rfl (x + 1) (KC d) rfl rfl 25 _ hk4 hi hsame KC_one ?_)
  refine bodyPost_ret (v := KV d) (results_cell_row rfl _ _ (x + 1) 25 (KC d) (0, 0) _ rfl HFIN.out.2 Try.underlying25 rfl hi) rfl ⟨rfl, Gr.ext_of HFIN.out.1⟩
end Go.Proofs.Ytnbhkbncllebmaa
namespace Go.Proofs.Ytnbhkbncllebmaa
set_option maxRecDepth 20000
open Go.RowKit Go.Deep
set_option linter.unusedVariables false
set_option maxHeartbeats 1000000 in
theorem phome_any (p n : Int) (w : World) : Calls Try.prog 14 #[.agg #[.int .i64 p, .int .i64 n]] w fun e w' => e = .returned (KV (KY.of [p, n])) ∧ w.Extends w' := by
  have HK : Hid (∀ w v, Ints w v [p, n] → Calls Try.prog 24 #[v] w fun e w' => e = .returned (KV (KY.of [p, n])) ∧ w.Extends w') := fun w v h => kof_any w h
  have HDL : Hid ((KY.of [p, n]).length = 20) := (KY.of_ok _).1
  generalize KY.of [p, n] = d at *
  go_enter Try.func14, Try.ntmps14
  go_upto_region 1 with fail
  generalize hw1 : World.alloc w _ = w1
  generalize hw2 : World.alloc w1 _ = w2
  have hx1 : w.Extends w1 := by subst hw1; exact ext_alloc _ _
  have hx2 : w1.Extends w2 := by subst hw2; exact ext_alloc _ _
  have hb : w1.heap[w.heap.size]? = some (.cells #[.int .i64 p, .int .i64 n] 23) := by subst hw1; exact heap_alloc_new _ _
  have hs1 : w1.heap.size = w.heap.size + 1 := by subst hw1; simp
  have hk : w2.heap[w1.heap.size]? = some (.cells (KC KY.zero) 25) := by subst hw2; rw [KC_zero]; exact heap_alloc_new _ _
  rw [hs1] at hk
  have hb2 : w2.heap[w.heap.size]? = some (.cells #[.int .i64 p, .int .i64 n] 23) := (hx2.block _ (by omega)).trans hb
  obtain ⟨x, hx⟩ : ∃ x, x = w.heap.size := ⟨_, rfl⟩
  have HX2 := Lib.hid (Gr.ext_trans hx1 hx2)
  have hsz : x + 1 < w2.heap.size := by have := (Array.getElem?_eq_some_iff.1 hk).1; omega
  rw [← hx] at hb2 hk ⊢
  have HXW : Hid (w.heap.size ≤ x) := Nat.le_of_eq hx.symm
  have HKB := Lib.hid hk
  have a0 : w2.cell? ⟨x, 0, none⟩ = some (.int .i64 p) := by rw [cell_of_row _ _ _ _ _ _ hb2]; rfl
  have a1 : w2.cell? ⟨x, 1, none⟩ = some (.int .i64 n) := by rw [cell_of_row _ _ _ _ _ _ hb2]; rfl
  clear hw1 hw2 hb hb2 hk hx1 hx2 hs1 hx
  go_wp2_with fail
  clear a0 a1
  have hi3 : Ints (w2.alloc (.cells #[.int .i64 p, .int .i64 n] 3)) (.slice (some ⟨w2.heap.size, 0, none⟩) 2 2) [p, n] := pints_lit w2 _ _ _ _ _ rfl rfl rfl rfl (by simp)
  generalize hw3 : World.alloc w2 _ = w3 at *
  have hx3 : w2.Extends w3 := by subst hw3; exact ext_alloc _ _
  refine (HK.out w3 _ hi3).mono ?_
  rintro e w4 ⟨rfl, hx4⟩
  have hx5 := Gr.ext_trans hx3 hx4
  have hk4 : w4.heap[x + 1]? = some (.cells (KC KY.zero) 25) := (hx5.block _ hsz).trans HKB.out
  have hi := key_info HDL.out
  have hsame : (KC KY.zero).size = (KC d).size := by rw [KC_size, KC_size, HDL.out]; rfl
  have HFIN := Lib.hid (key_left (w := w) (r := x + 1) (k := d) (by have := HXW.out; omega) (Gr.below_of (Gr.ext_trans HX2.out hx5)) ⟨_, hk4, by rw [KC_size]; rfl⟩)
  clear hx3 hx4 hx5 hw3 hi3
  go_wp2_with (refine wpList_store_row rfl 25 (.tmp 2) (.tmp 8) rfl (x + 1) (KC d) rfl rfl 25 _ hk4 hi hsame KC_one ?_)
  refine bodyPost_ret (v := KV d) (results_cell_row rfl _ _ (x + 1) 25 (KC d) (0, 0) _ rfl HFIN.out.2 Try.underlying25 rfl hi) rfl ⟨rfl, Gr.ext_of HFIN.out.1⟩
set_option maxHeartbeats 1000000 in
theorem pskey_any (p n b s : Int) (w : World) : Calls Try.prog 12 #[.agg #[.int .i64 p, .int .i64 n], .int .i64 b, .int .i64 s] w fun e w' => e = .returned (KV (KY.of [p, n, b, s])) ∧ w.Extends w' := by
  have HK : Hid (∀ w v, Ints w v [p, n, b, s] → Calls Try.prog 24 #[v] w fun e w' => e = .returned (KV (KY.of [p, n, b, s])) ∧ w.Extends w') := fun w v h => kof_any w h
  have HDL : Hid ((KY.of [p, n, b, s]).length = 20) := (KY.of_ok _).1
  generalize KY.of [p, n, b, s] = d at *
  go_enter Try.func12, Try.ntmps12
  go_upto_region 1 with fail
  generalize hw1 : World.alloc w _ = w1
  generalize hw2 : World.alloc w1 _ = w2
  have hx1 : w.Extends w1 := by subst hw1; exact ext_alloc _ _
  have hx2 : w1.Extends w2 := by subst hw2; exact ext_alloc _ _
  have hb : w1.heap[w.heap.size]? = some (.cells #[.int .i64 p, .int .i64 n] 23) := by subst hw1; exact heap_alloc_new _ _
  have hs1 : w1.heap.size = w.heap.size + 1 := by subst hw1; simp
  have hk : w2.heap[w1.heap.size]? = some (.cells (KC KY.zero) 25) := by subst hw2; rw [KC_zero]; exact heap_alloc_new _ _
  rw [hs1] at hk
  have hb2 : w2.heap[w.heap.size]? = some (.cells #[.int .i64 p, .int .i64 n] 23) := (hx2.block _ (by omega)).trans hb
  obtain ⟨x, hx⟩ : ∃ x, x = w.heap.size := ⟨_, rfl⟩
  have HX2 := Lib.hid (Gr.ext_trans hx1 hx2)
  have hsz : x + 1 < w2.heap.size := by have := (Array.getElem?_eq_some_iff.1 hk).1; omega
  rw [← hx] at hb2 hk ⊢
  have HXW : Hid (w.heap.size ≤ x) := Nat.le_of_eq hx.symm
  have HKB := Lib.hid hk
  have a0 : w2.cell? ⟨x, 0, none⟩ = some (.int .i64 p) := by rw [cell_of_row _ _ _ _ _ _ hb2]; rfl
  have a1 : w2.cell? ⟨x, 1, none⟩ = some (.int .i64 n) := by rw [cell_of_row _ _ _ _ _ _ hb2]; rfl
  clear hw1 hw2 hb hb2 hk hx1 hx2 hs1 hx
  go_wp2_with fail
  clear a0 a1
  have hi3 : Ints (w2.alloc (.cells #[.int .i64 p, .int .i64 n, .int .i64 b, .int .i64 s] 3)) (.slice (some ⟨w2.heap.size, 0, none⟩) 4 4) [p, n, b, s] := pints_lit w2 _ _ _ _ _ rfl rfl rfl rfl (by simp)
  generalize hw3 : World.alloc w2 _ = w3 at *
  have hx3 : w2.Extends w3 := by subst hw3; exact ext_alloc _ _
  refine (HK.out w3 _ hi3).mono ?_
  rintro e w4 ⟨rfl, hx4⟩
  have hx5 := Gr.ext_trans hx3 hx4
  have hk4 : w4.heap[x + 1]? = some (.cells (KC KY.zero) 25) := (hx5.block _ hsz).trans HKB.out
  have hi := key_info HDL.out
  have hsame : (KC KY.zero).size = (KC d).size := by rw [KC_size, KC_size, HDL.out]; rfl
  have HFIN := Lib.hid (key_left (w := w) (r := x + 1) (k := d) (by have := HXW.out; omega) (Gr.below_of (Gr.ext_trans HX2.out hx5)) ⟨_, hk4, by rw [KC_size]; rfl⟩)
  clear hx3 hx4 hx5 hw3 hi3
  go_wp2_with (refine wpList_store_row rfl 25 (.tmp 6) (.tmp 14) rfl (x + 1) (KC d) rfl rfl 25 _ hk4 hi hsame KC_one ?_)
  refine bodyPost_ret (v := KV d) (results_cell_row rfl _ _ (x + 1) 25 (KC d) (0, 0) _ rfl HFIN.out.2 Try.underlying25 rfl hi) rfl ⟨rfl, Gr.ext_of HFIN.out.1⟩
end Go.Proofs.Ytnbhkbncllebmaa
namespace Go.Proofs.Ytnbhkbncllebmaa
set_option maxRecDepth 20000
open Go.RowKit Go.Deep
set_option linter.unusedVariables false
set_option maxHeartbeats 4000000 in
theorem spot_any (r : Rc) (x : Value) (w : World) : Calls Try.prog 21 #[r.val x] w fun e w' => e = .returned (KV (PC.at_ r)) ∧ w.Extends w' := by
  obtain ⟨p, n, b, s, m, k, e, g, u, d⟩ := r
  have HH : Hid (∀ w, Calls Try.prog 14 #[.agg #[.int .i64 p, .int .i64 n]] w fun e w' => e = .returned (KV (KY.of [p, n])) ∧ w.Extends w') := fun w => phome_any p n w
  have HS : Hid (∀ w, Calls Try.prog 12 #[.agg #[.int .i64 p, .int .i64 n], .int .i64 k, .int .i64 e] w fun e' w' => e' = .returned (KV (KY.of [p, n, k, e])) ∧ w.Extends w') := fun w => pskey_any p n k e w
  have HT : Hid (g = true → PC.at_ ⟨p, n, b, s, m, k, e, g, u, d⟩ = KY.of [p, n]) := fun h => by unfold PC.at_; rw [h]; rfl
  have HF : Hid (g = false → PC.at_ ⟨p, n, b, s, m, k, e, g, u, d⟩ = KY.of [p, n, k, e]) := fun h => by unfold PC.at_; rw [h]; rfl
  have HO : Hid (KY.Ok (PC.at_ ⟨p, n, b, s, m, k, e, g, u, d⟩)) := PC.at_ok _
  generalize PC.at_ ⟨p, n, b, s, m, k, e, g, u, d⟩ = D at *
  show Calls Try.prog 21 #[.agg #[.int .i64 p, .int .i64 n, .int .i64 b, .int .i64 s, .int .i64 m, .int .i64 k, .int .i64 e, .bool g, .int .i64 u, x]] w _
  go_enter Try.func21, Try.ntmps21
  go_upto_region 1 with fail
  generalize hw1 : World.alloc w _ = w1
  generalize hw2 : World.alloc w1 _ = w2
  have hx1 : w.Extends w1 := by subst hw1; exact ext_alloc _ _
  have hx2 : w1.Extends w2 := by subst hw2; exact ext_alloc _ _
  have hb : w1.heap[w.heap.size]? = some (.cells #[.int .i64 p, .int .i64 n, .int .i64 b, .int .i64 s, .int .i64 m, .int .i64 k, .int .i64 e, .bool g, .int .i64 u, x] 46) := by subst hw1; exact heap_alloc_new _ _
  have hs1 : w1.heap.size = w.heap.size + 1 := by subst hw1; simp
  have hk : w2.heap[w1.heap.size]? = some (.cells (KC KY.zero) 25) := by subst hw2; rw [KC_zero]; exact heap_alloc_new _ _
  rw [hs1] at hk
  have hb2 : w2.heap[w.heap.size]? = some (.cells #[.int .i64 p, .int .i64 n, .int .i64 b, .int .i64 s, .int .i64 m, .int .i64 k, .int .i64 e, .bool g, .int .i64 u, x] 46) := (hx2.block _ (by omega)).trans hb
  obtain ⟨y, hy⟩ : ∃ y, y = w.heap.size := ⟨_, rfl⟩
  have HX2 := Lib.hid (Gr.ext_trans hx1 hx2)
  have hsz : y + 1 < w2.heap.size := by have := (Array.getElem?_eq_some_iff.1 hk).1; omega
  rw [← hy] at hb2 hk ⊢
  have HXW : Hid (w.heap.size ≤ y) := Nat.le_of_eq hy.symm
  have HKB := Lib.hid hk
  have a0 : w2.cell? ⟨y, 0, none⟩ = some (.int .i64 p) := by rw [cell_of_row _ _ _ _ _ _ hb2]; rfl
  have a1 : w2.cell? ⟨y, 1, none⟩ = some (.int .i64 n) := by rw [cell_of_row _ _ _ _ _ _ hb2]; rfl
  have a5 : w2.cell? ⟨y, 5, none⟩ = some (.int .i64 k) := by rw [cell_of_row _ _ _ _ _ _ hb2]; rfl
  have a6 : w2.cell? ⟨y, 6, none⟩ = some (.int .i64 e) := by rw [cell_of_row _ _ _ _ _ _ hb2]; rfl
  have a7 : w2.cell? ⟨y, 7, none⟩ = some (.bool g) := by rw [cell_of_row _ _ _ _ _ _ hb2]; rfl
  have HI : Hid ((Try.prog.info? 25).map (·.size) = some (KC D).size) := key_info HO.out.1
  have HSAME : Hid ((KC KY.zero).size = (KC D).size) := by show _ = _; rw [KC_size, KC_size, HO.out.1]; rfl
  clear hw1 hw2 hb hb2 hk hx1 hx2 hs1 hy
  have HREST : Hid (∀ w4 : World, w2.Extends w4 → w4.heap[y + 1]? = some (.cells (KC KY.zero) 25) ∧ Below w.heap.size w (w4.setRow (y + 1) (KC D)) ∧ (w4.setRow (y + 1) (KC D)).heap[y + 1]? = some (.cells (KC D) 25 (0, 0))) := fun w4 hx => by
    have hk4 : w4.heap[y + 1]? = some (.cells (KC KY.zero) 25) := (hx.block _ hsz).trans HKB.out
    exact ⟨hk4, key_left (w := w) (r := y + 1) (k := D) (by have := HXW.out; omega) (Gr.below_of (Gr.ext_trans HX2.out hx)) ⟨_, hk4, by rw [KC_size]; rfl⟩⟩
  cases g with
  | true =>
    rw [← HT.out rfl] at HH
    clear HS HT HF
    go_wp2_with fail
    refine (HH.out w2).mono ?_
    rintro e w4 ⟨rfl, hx4⟩
    obtain ⟨hk4, hbl, hrow⟩ := HREST.out w4 hx4
    have HFIN := Lib.hid (And.intro hbl hrow)
    have hi := HI.out
    have hsame := HSAME.out
    clear hx4 hbl hrow a0 a1 a5 a6 a7
    go_wp2_with (refine wpList_store_row rfl 25 (.tmp 2) (.tmp 7) rfl (y + 1) (KC D) rfl rfl 25 _ hk4 hi hsame KC_one ?_)
    refine bodyPost_ret (v := KV D) (results_cell_row rfl _ _ (y + 1) 25 (KC D) (0, 0) _ rfl HFIN.out.2 Try.underlying25 rfl hi) rfl ⟨rfl, Gr.ext_of HFIN.out.1⟩
  | false =>
    rw [← HF.out rfl] at HS
    clear HH HT HF
    go_wp2_with fail
    refine (HS.out w2).mono ?_
    rintro e w4 ⟨rfl, hx4⟩
    obtain ⟨hk4, hbl, hrow⟩ := HREST.out w4 hx4
    have HFIN := Lib.hid (And.intro hbl hrow)
    have hi := HI.out
    have hsame := HSAME.out
    clear hx4 hbl hrow a0 a1 a5 a6 a7
    go_wp2_with (refine wpList_store_row rfl 25 (.tmp 2) (.tmp 14) rfl (y + 1) (KC D) rfl rfl 25 _ hk4 hi hsame KC_one ?_)
    refine bodyPost_ret (v := KV D) (results_cell_row rfl _ _ (y + 1) 25 (KC D) (0, 0) _ rfl HFIN.out.2 Try.underlying25 rfl hi) rfl ⟨rfl, Gr.ext_of HFIN.out.1⟩
end Go.Proofs.Ytnbhkbncllebmaa
namespace Go.Proofs.Ytnbhkbncllebmaa
set_option maxRecDepth 20000
open Go.RowKit Go.Deep
set_option linter.unusedVariables false
/-- The closure F, whose one captured variable lies in block c, tells whether q holds of a record. -/
def Tells (F c : Nat) (q : Rc → Bool) (w : World) : Prop := ∀ (p : Pr) (w' : World), Slc p → w'.heap[c]? = w.heap[c]? → Calls Try.prog F #[p.1.val p.2, .pointer (some ⟨c, 0, none⟩)] w' fun e w2 => e = .returned (.bool (q p.1)) ∧ w'.Extends w2
theorem Tells.kept {F c : Nat} {q : Rc → Bool} {w w' : World} (h : Tells F c q w) (hc : w'.heap[c]? = w.heap[c]?) : Tells F c q w' := fun p w2 hs h2 => h p w2 hs (h2.trans hc)
end Go.Proofs.Ytnbhkbncllebmaa
namespace Go.Proofs.Ytnbhkbncllebmaa
set_option maxRecDepth 20000
open Go.RowKit Go.Deep
set_option linter.unusedVariables false
theorem recUnder : Try.prog.underlying 27 = some (.slice 46) := Try.underlying27
end Go.Proofs.Ytnbhkbncllebmaa
