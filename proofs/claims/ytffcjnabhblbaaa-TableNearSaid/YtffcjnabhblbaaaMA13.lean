/- In one text: TabRnear. -/
import Derived.Test.YtffcjnabhblbaaaMA12
namespace Go.Proofs.Ytffcjnabhblbaaa
set_option maxRecDepth 20000
open Go.RowKit Go.Deep
set_option linter.unusedVariables false
set_option maxHeartbeats 4000000 in
theorem rnear1_any (K : List Nat) (a b : Int) (w : World) (hK : KY.Ok K) :
    Calls Try.prog 51 #[KV K, .int .i64 a, .int .i64 b] w fun e w' => e = .returned (.bool (KY.lt (far K a) (far K b))) ∧ w.Extends w' := by
  have HK1 : Hid (∀ w v, Ints w v [a] → Calls Try.prog 19 #[v] w fun e w' => e = .returned (KV (KY.of [a])) ∧ w.Extends w') := fun w v h => rkof_any w h
  have HK2 : Hid (∀ w v, Ints w v [b] → Calls Try.prog 19 #[v] w fun e w' => e = .returned (KV (KY.of [b])) ∧ w.Extends w') := fun w v h => rkof_any w h
  have HD1 : Hid (∀ w, Calls Try.prog 18 #[KV (KY.of [a]), KV K] w fun e w' => e = .returned (KV (far K a)) ∧ w.Extends w') := fun w => rkdist_any (KY.of_ok _) hK w
  have HD2 : Hid (∀ w, Calls Try.prog 18 #[KV (KY.of [b]), KV K] w fun e w' => e = .returned (KV (far K b)) ∧ w.Extends w') := fun w => rkdist_any (KY.of_ok _) hK w
  have HL : Hid (∀ w, Calls Try.prog 21 #[KV (far K a), KV (far K b)] w fun e w' => e = .returned (.bool (KY.lt (far K a) (far K b))) ∧ w.Extends w') := fun w => rkless_any (far_ok hK a) (far_ok hK b) w
  obtain ⟨s, hs⟩ : ∃ s, w.heap.size = s := ⟨_, rfl⟩
  have HBOX : Hid (∀ w1, w1 = w.alloc (.cells (KC K) 24) → w.Extends w1 ∧ KAt w1 s K) := fun w1 e => by
    subst e; subst hs
    exact ⟨ext_alloc _ _, KAt.new w hK.1⟩
  have HLK := Lib.hid hK.1
  obtain ⟨xk, hxk⟩ : ∃ x, KV K = x := ⟨_, rfl⟩
  have HXK := Lib.hid hxk
  rw [hxk] at HD1 HD2
  generalize KY.lt (far K a) (far K b) = q at *
  generalize KV (far K a) = y1 at *
  generalize KV (far K b) = y2 at *
  generalize KV (KY.of [a]) = x1 at *
  generalize KV (KY.of [b]) = x2 at *
  clear hxk hK
  go_enter Try.func51, Try.ntmps51
  go_upto_region 1 with fail
  generalize hw1 : World.alloc w _ = w1
  obtain ⟨hx1, hk1⟩ := HBOX.out w1 hw1.symm
  have HX1 := Lib.hid hx1
  have HKA := Lib.hid hk1
  clear hw1 HBOX hx1 hk1 hs
  refine Gr.regionE 11 7 [(false,0),(false,3),(false,5),(false,8)] (by kernel_rfl) (by kernel_rfl) (fun d _ _ _ _ h => by cases d <;> exact h) ?_
  simp only [Gr.pick, List.getElem?_cons_zero, List.getElem?_cons_succ]
  generalize hwd0 : w1.drew = wd
  have HX0 : Hid (w1.Extends wd) := by rw [← hwd0]; exact Gr.ext_drew (Gr.ext_refl w1)
  have HX : Hid (w.Extends wd) := Gr.ext_trans HX1.out HX0.out
  clear hwd0
  refine Gr.walkE_t ?_ (Or.inl ⟨by rfl, ?_⟩) ?_
  rotate_left
  · intro w' hw'
    clear hw'
    go_simp
    try with_reducible rfl
  simp only [Act.put, List.setIfInBounds_toArray, List.set_cons_zero, List.set_cons_succ]
  refine Gr.walkE_t _ (Or.inl ⟨by rfl, fun w' hw' => key_yields (HKA.out.ext (Gr.ext_trans HX0.out hw')) HLK.out (by rfl) (by rfl) (by exact HXK.out)⟩) ?_
  simp only [Act.put, List.setIfInBounds_toArray, List.set_cons_zero, List.set_cons_succ]
  refine Gr.walkE_t ?_ (Or.inl ⟨by rfl, ?_⟩) ?_
  rotate_left
  · intro w' hw'
    clear hw'
    go_simp
    try with_reducible rfl
  simp only [Act.put, List.setIfInBounds_toArray, List.set_cons_zero, List.set_cons_succ]
  refine Gr.walkE_t _ (Or.inl ⟨by rfl, fun w' hw' => key_yields (HKA.out.ext (Gr.ext_trans HX0.out hw')) HLK.out (by rfl) (by rfl) (by exact HXK.out)⟩) ?_
  simp only [Act.put, List.setIfInBounds_toArray, List.set_cons_zero, List.set_cons_succ]
  refine Gr.walkE_nil ?_
  refine Gr.Left.two (i := 1) (j := 6) (by kernel_rfl) (by kernel_rfl) (Gr.Step.mk rfl (fun K hK => ?_)) (Gr.Step.mk rfl (fun K hK => ?_))
  · skip
    go_simp
    generalize hw : World.alloc _ _ = w1_
    have hx : wd.Extends w1_ := by subst hw; exact ext_alloc _ _
    have I70 : Ints w1_ (.slice (some ⟨wd.heap.size, 0, none⟩) 1 1) [a] := by subst hw; exact ints_one wd a 3
    clear hw
    refine hK.out _ _ hx ?_
    clear hK K
    have I7 := Lib.hid I70
    clear I70
    have HX := Lib.hid (Gr.ext_trans HX.out hx)
    clear hx
    refine Gr.Left.two (i := 2) (j := 6) (by kernel_rfl) (by kernel_rfl) (Gr.Step.mk rfl (fun K hK => ?_)) (Gr.Step.mk rfl (fun K hK => ?_))
    · skip
      go_simp
      refine (HK1.out _ _ I7.out).mono ?_
      rintro e w2_ ⟨rfl, hx⟩
      try go_simp
      refine hK.out _ _ hx ?_
      clear hK K
      clear I7
      have HX := Lib.hid (Gr.ext_trans HX.out hx)
      clear hx
      refine Gr.Left.two (i := 4) (j := 6) (by kernel_rfl) (by kernel_rfl) (Gr.Step.mk rfl (fun K hK => ?_)) (Gr.Step.mk rfl (fun K hK => ?_))
      · skip
        go_simp
        refine (HD1.out _).mono ?_
        rintro e w3_ ⟨rfl, hx⟩
        try go_simp
        refine hK.out _ _ hx ?_
        clear hK K
        have HX := Lib.hid (Gr.ext_trans HX.out hx)
        clear hx
        refine Gr.Left.one (i := 6) (by kernel_rfl) (by kernel_rfl) (Gr.Step.mk rfl (fun K hK => ?_))
        go_simp
        generalize hw : World.alloc _ _ = w4_
        have hx : w3_.Extends w4_ := by subst hw; exact ext_alloc _ _
        have I130 : Ints w4_ (.slice (some ⟨w3_.heap.size, 0, none⟩) 1 1) [b] := by subst hw; exact ints_one w3_ b 3
        clear hw
        refine hK.out _ _ hx ?_
        clear hK K
        have I13 := Lib.hid I130
        clear I130
        have HX := Lib.hid (Gr.ext_trans HX.out hx)
        clear hx
        refine Gr.Left.one (i := 7) (by kernel_rfl) (by kernel_rfl) (Gr.Step.mk rfl (fun K hK => ?_))
        go_simp
        refine (HK2.out _ _ I13.out).mono ?_
        rintro e w5_ ⟨rfl, hx⟩
        try go_simp
        refine hK.out _ _ hx ?_
        clear hK K
        clear I13
        have HX := Lib.hid (Gr.ext_trans HX.out hx)
        clear hx
        refine Gr.Left.one (i := 9) (by kernel_rfl) (by kernel_rfl) (Gr.Step.mk rfl (fun K hK => ?_))
        go_simp
        refine (HD2.out _).mono ?_
        rintro e w6_ ⟨rfl, hx⟩
        try go_simp
        refine hK.out _ _ hx ?_
        clear hK K
        have HX := Lib.hid (Gr.ext_trans HX.out hx)
        clear hx
        refine Gr.Left.one (i := 10) (by kernel_rfl) (by kernel_rfl) (Gr.Step.mk rfl (fun K hK => ?_))
        go_simp
        refine (HL.out _).mono ?_
        rintro e w7_ ⟨rfl, hx⟩
        try go_simp
        refine hK.out _ _ hx ?_
        clear hK K
        have HX := Lib.hid (Gr.ext_trans HX.out hx)
        clear hx
        refine Gr.Left.done (by kernel_rfl) ?_
        simp only [List.drop_succ_cons, List.drop_zero]
        go_wp2
        go_ret
        exact ⟨rfl, HX.out⟩
      · skip
        go_simp
        generalize hw : World.alloc _ _ = w8_
        have hx : w2_.Extends w8_ := by subst hw; exact ext_alloc _ _
        have I130 : Ints w8_ (.slice (some ⟨w2_.heap.size, 0, none⟩) 1 1) [b] := by subst hw; exact ints_one w2_ b 3
        clear hw
        refine hK.out _ _ hx ?_
        clear hK K
        have I13 := Lib.hid I130
        clear I130
        have HX := Lib.hid (Gr.ext_trans HX.out hx)
        clear hx
        refine Gr.Left.one (i := 4) (by kernel_rfl) (by kernel_rfl) (Gr.Step.mk rfl (fun K hK => ?_))
        go_simp
        refine (HD1.out _).mono ?_
        rintro e w9_ ⟨rfl, hx⟩
        try go_simp
        refine hK.out _ _ hx ?_
        clear hK K
        have I13 := Lib.hid (I13.out.ext hx)
        have HX := Lib.hid (Gr.ext_trans HX.out hx)
        clear hx
        refine Gr.Left.one (i := 7) (by kernel_rfl) (by kernel_rfl) (Gr.Step.mk rfl (fun K hK => ?_))
        go_simp
        refine (HK2.out _ _ I13.out).mono ?_
        rintro e w10_ ⟨rfl, hx⟩
        try go_simp
        refine hK.out _ _ hx ?_
        clear hK K
        clear I13
        have HX := Lib.hid (Gr.ext_trans HX.out hx)
        clear hx
        refine Gr.Left.one (i := 9) (by kernel_rfl) (by kernel_rfl) (Gr.Step.mk rfl (fun K hK => ?_))
        go_simp
        refine (HD2.out _).mono ?_
        rintro e w11_ ⟨rfl, hx⟩
        try go_simp
        refine hK.out _ _ hx ?_
        clear hK K
        have HX := Lib.hid (Gr.ext_trans HX.out hx)
        clear hx
        refine Gr.Left.one (i := 10) (by kernel_rfl) (by kernel_rfl) (Gr.Step.mk rfl (fun K hK => ?_))
        go_simp
        refine (HL.out _).mono ?_
        rintro e w12_ ⟨rfl, hx⟩
        try go_simp
        refine hK.out _ _ hx ?_
        clear hK K
        have HX := Lib.hid (Gr.ext_trans HX.out hx)
        clear hx
        refine Gr.Left.done (by kernel_rfl) ?_
        simp only [List.drop_succ_cons, List.drop_zero]
        go_wp2
        go_ret
        exact ⟨rfl, HX.out⟩
    · skip
      go_simp
      generalize hw : World.alloc _ _ = w13_
      have hx : w1_.Extends w13_ := by subst hw; exact ext_alloc _ _
      have I130 : Ints w13_ (.slice (some ⟨w1_.heap.size, 0, none⟩) 1 1) [b] := by subst hw; exact ints_one w1_ b 3
      clear hw
      refine hK.out _ _ hx ?_
      clear hK K
      have I7 := Lib.hid (I7.out.ext hx)
      have I13 := Lib.hid I130
      clear I130
      have HX := Lib.hid (Gr.ext_trans HX.out hx)
      clear hx
      refine Gr.Left.one (i := 2) (by kernel_rfl) (by kernel_rfl) (Gr.Step.mk rfl (fun K hK => ?_))
      go_simp
      refine (HK1.out _ _ I7.out).mono ?_
      rintro e w14_ ⟨rfl, hx⟩
      try go_simp
      refine hK.out _ _ hx ?_
      clear hK K
      clear I7
      have I13 := Lib.hid (I13.out.ext hx)
      have HX := Lib.hid (Gr.ext_trans HX.out hx)
      clear hx
      refine Gr.Left.one (i := 4) (by kernel_rfl) (by kernel_rfl) (Gr.Step.mk rfl (fun K hK => ?_))
      go_simp
      refine (HD1.out _).mono ?_
      rintro e w15_ ⟨rfl, hx⟩
      try go_simp
      refine hK.out _ _ hx ?_
      clear hK K
      have I13 := Lib.hid (I13.out.ext hx)
      have HX := Lib.hid (Gr.ext_trans HX.out hx)
      clear hx
      refine Gr.Left.one (i := 7) (by kernel_rfl) (by kernel_rfl) (Gr.Step.mk rfl (fun K hK => ?_))
      go_simp
      refine (HK2.out _ _ I13.out).mono ?_
      rintro e w16_ ⟨rfl, hx⟩
      try go_simp
      refine hK.out _ _ hx ?_
      clear hK K
      clear I13
      have HX := Lib.hid (Gr.ext_trans HX.out hx)
      clear hx
      refine Gr.Left.one (i := 9) (by kernel_rfl) (by kernel_rfl) (Gr.Step.mk rfl (fun K hK => ?_))
      go_simp
      refine (HD2.out _).mono ?_
      rintro e w17_ ⟨rfl, hx⟩
      try go_simp
      refine hK.out _ _ hx ?_
      clear hK K
      have HX := Lib.hid (Gr.ext_trans HX.out hx)
      clear hx
      refine Gr.Left.one (i := 10) (by kernel_rfl) (by kernel_rfl) (Gr.Step.mk rfl (fun K hK => ?_))
      go_simp
      refine (HL.out _).mono ?_
      rintro e w18_ ⟨rfl, hx⟩
      try go_simp
      refine hK.out _ _ hx ?_
      clear hK K
      have HX := Lib.hid (Gr.ext_trans HX.out hx)
      clear hx
      refine Gr.Left.done (by kernel_rfl) ?_
      simp only [List.drop_succ_cons, List.drop_zero]
      go_wp2
      go_ret
      exact ⟨rfl, HX.out⟩
  · skip
    go_simp
    generalize hw : World.alloc _ _ = w19_
    have hx : wd.Extends w19_ := by subst hw; exact ext_alloc _ _
    have I130 : Ints w19_ (.slice (some ⟨wd.heap.size, 0, none⟩) 1 1) [b] := by subst hw; exact ints_one wd b 3
    clear hw
    refine hK.out _ _ hx ?_
    clear hK K
    have I13 := Lib.hid I130
    clear I130
    have HX := Lib.hid (Gr.ext_trans HX.out hx)
    clear hx
    refine Gr.Left.one (i := 1) (by kernel_rfl) (by kernel_rfl) (Gr.Step.mk rfl (fun K hK => ?_))
    go_simp
    generalize hw : World.alloc _ _ = w20_
    have hx : w19_.Extends w20_ := by subst hw; exact ext_alloc _ _
    have I70 : Ints w20_ (.slice (some ⟨w19_.heap.size, 0, none⟩) 1 1) [a] := by subst hw; exact ints_one w19_ a 3
    clear hw
    refine hK.out _ _ hx ?_
    clear hK K
    have I13 := Lib.hid (I13.out.ext hx)
    have I7 := Lib.hid I70
    clear I70
    have HX := Lib.hid (Gr.ext_trans HX.out hx)
    clear hx
    refine Gr.Left.one (i := 2) (by kernel_rfl) (by kernel_rfl) (Gr.Step.mk rfl (fun K hK => ?_))
    go_simp
    refine (HK1.out _ _ I7.out).mono ?_
    rintro e w21_ ⟨rfl, hx⟩
    try go_simp
    refine hK.out _ _ hx ?_
    clear hK K
    have I13 := Lib.hid (I13.out.ext hx)
    clear I7
    have HX := Lib.hid (Gr.ext_trans HX.out hx)
    clear hx
    refine Gr.Left.one (i := 4) (by kernel_rfl) (by kernel_rfl) (Gr.Step.mk rfl (fun K hK => ?_))
    go_simp
    refine (HD1.out _).mono ?_
    rintro e w22_ ⟨rfl, hx⟩
    try go_simp
    refine hK.out _ _ hx ?_
    clear hK K
    have I13 := Lib.hid (I13.out.ext hx)
    have HX := Lib.hid (Gr.ext_trans HX.out hx)
    clear hx
    refine Gr.Left.one (i := 7) (by kernel_rfl) (by kernel_rfl) (Gr.Step.mk rfl (fun K hK => ?_))
    go_simp
    refine (HK2.out _ _ I13.out).mono ?_
    rintro e w23_ ⟨rfl, hx⟩
    try go_simp
    refine hK.out _ _ hx ?_
    clear hK K
    clear I13
    have HX := Lib.hid (Gr.ext_trans HX.out hx)
    clear hx
    refine Gr.Left.one (i := 9) (by kernel_rfl) (by kernel_rfl) (Gr.Step.mk rfl (fun K hK => ?_))
    go_simp
    refine (HD2.out _).mono ?_
    rintro e w24_ ⟨rfl, hx⟩
    try go_simp
    refine hK.out _ _ hx ?_
    clear hK K
    have HX := Lib.hid (Gr.ext_trans HX.out hx)
    clear hx
    refine Gr.Left.one (i := 10) (by kernel_rfl) (by kernel_rfl) (Gr.Step.mk rfl (fun K hK => ?_))
    go_simp
    refine (HL.out _).mono ?_
    rintro e w25_ ⟨rfl, hx⟩
    try go_simp
    refine hK.out _ _ hx ?_
    clear hK K
    have HX := Lib.hid (Gr.ext_trans HX.out hx)
    clear hx
    refine Gr.Left.done (by kernel_rfl) ?_
    simp only [List.drop_succ_cons, List.drop_zero]
    go_wp2
    go_ret
    exact ⟨rfl, HX.out⟩
/-- The first i of some ints. -/
theorem take_perm (l : List Int) {i : Nat} (hi : i < l.length) : ((l.getD i 0) :: l.take i).Perm (l.take (i + 1)) := by
  rw [List.take_add_one]
  have e : l[i]?.toList = [l.getD i 0] := by simp [hi]
  rw [e]
  exact (List.perm_append_singleton _ _).symm
theorem rise_le {l out : List Int} (h : l.Pairwise (· < ·)) {i : Nat} (hi : i < l.length) (hp : out.Perm (l.take i)) : ∀ m, m < out.length → out.getD m 0 ≤ l.getD i 0 := fun m hm => by
  have h1 : out.getD m 0 ∈ l.take i := hp.subset (by simp [hm])
  obtain ⟨k, hk, e⟩ := List.mem_iff_getElem.1 h1
  rw [List.length_take] at hk
  have h2 := List.pairwise_iff_getElem.1 h k i (by omega) hi (by omega)
  rw [← e, List.getElem_take]
  have e2 : l.getD i 0 = l[i] := by simp [hi]
  rw [e2]; omega
set_option maxHeartbeats 8000000 in
theorem rnearest_any (kk : List Nat) (v : Value) (l S : List Int) (w0 : World) (hK : KY.Ok kk) (hv : Ints w0 v l) (hl : l.length ≤ 486) (hr : l.Pairwise (· < ·)) (hS : Srt (nlt kk) S) (hp : l.Perm S) :
    Calls Try.prog 34 #[KV kk, v] w0 (IntsOut w0 S) := by
  have HORD := Lib.hid (nlt_ord hK)
  have HNE : Hid (∀ x y (w : World), y ≤ x → Calls Try.prog 51 #[KV kk, .int .i64 x, .int .i64 y] w fun e w' => e = .returned (.bool (nlt kk x y)) ∧ w.Extends w') := fun x y w h => by rw [nlt_rise kk h]; exact rnear1_any kk x y w hK
  have HEND : Hid (∀ w v wr out, w0.Extends w → Rall (nlt kk) w wr v out (l.take l.length) → IntsOut w0 S (.returned v) wr) := fun w v wr out hx hr => by
    refine ⟨v, rfl, Gr.ext_trans hx hr.ext, ?_⟩
    have e : out = S := hr.srt.uniq (nlt_ord hK) hS (hr.perm.trans (by rw [List.take_length]; exact hp))
    rw [← e]
    exact hr.own.ints
  obtain ⟨n, hn⟩ : ∃ n, l.length = n := ⟨_, rfl⟩
  obtain ⟨la, lc, rfl, _, _⟩ := hv.slice
  rw [hn] at hv hl HEND ⊢
  have HLN := Lib.hid hn
  have HV := Lib.hid hv
  have HRI := Lib.hid hr
  have HLK := Lib.hid hK.1
  obtain ⟨s, hs⟩ : ∃ s, w0.heap.size = s := ⟨_, rfl⟩
  have HBOX : Hid (∀ w1, w1 = w0.alloc (.cells (KC kk) 24) → w0.Extends w1 ∧ KAt w1 s kk) := fun w1 e => by
    subst e; subst hs
    exact ⟨ext_alloc _ _, KAt.new w0 hK.1⟩
  obtain ⟨xk, hxk⟩ : ∃ x, KV kk = x := ⟨_, rfl⟩
  have HXK := Lib.hid hxk
  rw [hxk] at HNE
  generalize IntsOut w0 S = POST at *
  clear hn hv hr hxk hK hS hp
  go_enter Try.func34, Try.ntmps34
  go_upto_region 1 with fail
  generalize hw1 : World.alloc w0 _ = w
  obtain ⟨hx1, hk1⟩ := HBOX.out w hw1.symm
  have HX1 := Lib.hid hx1
  have HKA := Lib.hid hk1
  have HV := Lib.hid (HV.out.ext hx1)
  clear hw1 HBOX hx1 hk1 hs
  go_wp2_with fail
  go_loopw [5, 6] (fun s5 s6 wr => ∃ i : Nat, i ≤ n ∧ s6 = .int .i64 i ∧ ∃ out, Hid (Rall (nlt kk) w wr s5 out (l.take i))) (fun _ s6 _ => n - (intOf s6).toNat)
  case atStart => exact ⟨0, by omega, rfl, [], Gr.ext_refl _, OwnI.nil _ _, List.Pairwise.nil, List.Perm.refl _⟩
  case round =>
    obtain ⟨i, hi1, rfl, out2, HRA⟩ := hrel
    have HXR : Hid (w.Extends wr) := HRA.out.ext
    by_cases h1 : i < n
    · obtain ⟨lg, lo, rfl, hlg, hlc⟩ := HV.out.cell.2 (by omega)
      obtain ⟨x, hx⟩ : ∃ x, x = l.getD i 0 := ⟨_, rfl⟩
      have hlx := hlc i h1
      rw [← hx] at hlx
      have HLX := Lib.hid hlx
      have HLG : Hid (lg < w.heap.size) := hlg
      have HST : Hid ((x :: l.take i).Perm (l.take (i + 1))) := by show List.Perm _ _; rw [hx]; exact take_perm l (by rw [HLN.out]; exact h1)
      have HRISE : Hid (∀ m, m < out2.length → out2.getD m 0 ≤ x) := by rw [hx]; exact rise_le HRI.out (by rw [HLN.out]; exact h1) HRA.out.perm
      obtain ⟨N, hN⟩ : ∃ N, out2.length = N := ⟨_, rfl⟩
      obtain ⟨oa, oc, rfl⟩ := HRA.out.own.slice
      rw [hN] at HRA HRISE ⊢
      have HN := Lib.hid hN
      have hNL : N ≤ 486 := by rw [← hN, HRA.out.perm.length_eq, List.length_take]; omega
      have HNL := Lib.hid hNL
      have HOR : Hid (OwnI wr w.heap.size (.slice oa N oc) out2) := HRA.out.own
      clear hx hN hlc hlx hlg
      go_wp2_with fail
      obtain ⟨wo, hwo⟩ : ∃ wo, wo = wr := ⟨_, rfl⟩
      subst hwo
      go_loopw [7] (fun s7 wz => ∃ j : Nat, j ≤ N ∧ s7 = .int .i64 j ∧ Hid (wo.Extends wz) ∧ Hid (∀ m, j ≤ m → m < N → nlt kk x (out2.getD m 0) = true)) (fun s7 _ => (intOf s7).toNat)
      case atStart => exact ⟨N, Nat.le_refl _, rfl, Gr.ext_refl _, fun m h1 h2 => absurd h2 (by omega)⟩
      case round =>
        obtain ⟨j, hj, rfl, HXZ, HB⟩ := hrel
        have HRA := Lib.hid (show Rall (nlt kk) w wr (.slice oa N oc) out2 (l.take i) from ⟨Gr.ext_trans HRA.out.ext HXZ.out, HRA.out.own.ext HXZ.out, HRA.out.srt, HRA.out.perm⟩)
        have HXR : Hid (w.Extends wr) := HRA.out.ext
        have HOR : Hid (OwnI wr w.heap.size (.slice oa N oc) out2) := HRA.out.own
        by_cases h3 : j = 0
        · have HJ0 : Hid (0 < j → nlt kk x (out2.getD (j - 1) 0) = false) := fun h => absurd h (by omega)
          have HH3 := Lib.hid h3
          have hg0 : ¬ 0 < ((j : Nat) : Int) := by omega
          have hg1 : decide (0 < ((j : Nat) : Int)) = false := decide_eq_false hg0
          have hg2 : ¬ 0 < j := by omega
          have hg3 : decide (0 < j) = false := decide_eq_false hg2
          clear h3
          go_upto_region 6 with fail
          refine Gr.region 14 [(false,0),(false,1),(false,2),(false,3),(false,4),(false,5),(false,6),(false,7),(false,8),(false,9),(false,10),(false,11),(false,12),(true,13)] (by kernel_rfl) (by kernel_rfl) (fun d _ _ _ _ h => by cases d <;> exact h) ?_
          simp only [Gr.pick, List.getElem?_cons_zero, List.getElem?_cons_succ, List.drop_succ_cons, List.drop_zero]
          generalize hwd1 : wr.drew = wd1
          have HD1 : Hid (wr.Extends wd1) := by rw [← hwd1]; exact Gr.ext_drew (Gr.ext_refl _)
          clear hwd1
          iterate 3
            refine Gr.walk_t ?_ (Or.inl ⟨by rfl, ?_⟩) ?_
            rotate_left
            · intro w' hw'
              clear hw'
              go_simp
              try with_reducible rfl
            simp only [Act.put, List.setIfInBounds_toArray, List.set_cons_zero, List.set_cons_succ]
          refine Gr.walk_t _ (Or.inr ⟨by rfl, rfl⟩) ?_
          simp only [Act.put, List.setIfInBounds_toArray, List.set_cons_zero, List.set_cons_succ]
          refine Gr.walk_t _ (Or.inr ⟨by rfl, rfl⟩) ?_
          simp only [Act.put, List.setIfInBounds_toArray, List.set_cons_zero, List.set_cons_succ]
          refine Gr.walk_t _ (Or.inr ⟨by rfl, rfl⟩) ?_
          simp only [Act.put, List.setIfInBounds_toArray, List.set_cons_zero, List.set_cons_succ]
          refine Gr.walk_t _ (Or.inr ⟨by rfl, rfl⟩) ?_
          simp only [Act.put, List.setIfInBounds_toArray, List.set_cons_zero, List.set_cons_succ]
          refine Gr.walk_t _ (Or.inr ⟨by rfl, rfl⟩) ?_
          simp only [Act.put, List.setIfInBounds_toArray, List.set_cons_zero, List.set_cons_succ]
          refine Gr.walk_t _ (Or.inr ⟨by rfl, rfl⟩) ?_
          simp only [Act.put, List.setIfInBounds_toArray, List.set_cons_zero, List.set_cons_succ]
          refine Gr.walk_t _ (Or.inr ⟨by rfl, rfl⟩) ?_
          simp only [Act.put, List.setIfInBounds_toArray, List.set_cons_zero, List.set_cons_succ]
          refine Gr.walk_t _ (Or.inr ⟨by rfl, rfl⟩) ?_
          simp only [Act.put, List.setIfInBounds_toArray, List.set_cons_zero, List.set_cons_succ]
          refine Gr.walk_t _ (Or.inr ⟨by rfl, rfl⟩) ?_
          simp only [Act.put, List.setIfInBounds_toArray, List.set_cons_zero, List.set_cons_succ]
          refine Gr.walk_t _ (Or.inr ⟨by rfl, rfl⟩) ?_
          simp only [Act.put, List.setIfInBounds_toArray, List.set_cons_zero, List.set_cons_succ]
          refine Gr.walk_c (fun K hK => ?_)
          rw [if_neg (by intro h; cases h)]
          refine hK.out _ _ (Gr.ext_refl _) ?_
          clear hK K
          simp only [Act.put, List.setIfInBounds_toArray, List.set_cons_zero, List.set_cons_succ]
          refine Gr.walk_nil ?_
          have HRA := Lib.hid (show Rall (nlt kk) w wd1 (.slice oa N oc) out2 (l.take i) from ⟨Gr.ext_trans HRA.out.ext HD1.out, HRA.out.own.ext HD1.out, HRA.out.srt, HRA.out.perm⟩)
          have HXR : Hid (w.Extends wd1) := HRA.out.ext
          have HOR : Hid (OwnI wd1 w.heap.size (.slice oa N oc) out2) := HRA.out.own
          go_upto_region 8 with fail
          obtain ⟨ca1, cc1, ca2, cc2, q1, s1, q2, s2⟩ := HOR.out.cuts (j := j) (by rw [HN.out]; exact hj)
          rw [HN.out] at q2 s2
          have HQ1 := Lib.hid q1
          have HQ2 := Lib.hid q2
          have HS1 := Lib.hid s1
          have HS2 := Lib.hid s2
          clear q1 q2 s1 s2
          obtain ⟨B, hB⟩ : ∃ B, B = wd1.heap.size := ⟨_, rfl⟩
          have HBR : Hid (B ≤ wd1.drew.heap.size) := Nat.le_of_eq hB
          have HWB : Hid (w.heap.size ≤ B) := by rw [hB]; exact HXR.out.size
          have HOB := Lib.hid (HOR.out.lts hB)
          have HJN : Hid (j ≤ N) := hj
          clear hB
          have HCX : Hid (∀ w' : World, w'.heap[lg]? = wd1.heap[lg]? → w'.cell? ⟨lg, lo + i, none⟩ = some (.int .i64 x)) := fun w' hb => (World.cell?_of_block (w := wd1) hb).trans (HXR.out.cell_of HLX.out)
          refine GrL.regionE (B := B) 14 4 [(false,0),(false,1),(false,2),(false,4),(false,5),(false,6),(false,7),(false,10),(false,11),(false,12)] (by kernel_rfl) (by kernel_rfl) (fun d _ _ _ _ h => by cases d <;> exact h) ?_
          simp only [Gr.pick, List.getElem?_cons_zero, List.getElem?_cons_succ]
          generalize hwd0 : wd1.drew = wd
          have HX : Hid (w.Extends wd) := by rw [← hwd0]; exact Gr.ext_drew HXR.out
          have HO := Lib.hid (HOR.out.ext (show wd1.Extends wd by rw [← hwd0]; exact Gr.ext_drew (Gr.ext_refl _)))
          have HBW : Hid (B ≤ wd.heap.size) := by rw [← hwd0]; exact HBR.out
          have HDW : Hid (Below B wd1 wd) := by rw [← hwd0]; exact (Below.refl _ _).drew
          clear hwd0
          refine GrL.walkE_t ?_ (Or.inl ⟨by rfl, ?_⟩) ?_
          rotate_left
          · intro w' hw'
            clear hw'
            go_simp
            try with_reducible rfl
          simp only [Act.put, List.setIfInBounds_toArray, List.set_cons_zero, List.set_cons_succ]
          refine GrL.walkE_t ?_ (Or.inl ⟨by rfl, ?_⟩) ?_
          rotate_left
          · intro w' hw'
            clear hw'
            go_simp
            try with_reducible rfl
          simp only [Act.put, List.setIfInBounds_toArray, List.set_cons_zero, List.set_cons_succ]
          refine GrL.walkE_t ?_ (Or.inl ⟨by rfl, ?_⟩) ?_
          rotate_left
          · intro w' hw'
            have hs1 := HQ1.out w'
            clear hw'
            go_simp
            try with_reducible rfl
          simp only [Act.put, List.setIfInBounds_toArray, List.set_cons_zero, List.set_cons_succ]
          refine GrL.walkE_t ?_ (Or.inl ⟨by rfl, ?_⟩) ?_
          rotate_left
          · intro w' hw'
            clear hw'
            go_simp
            try with_reducible rfl
          simp only [Act.put, List.setIfInBounds_toArray, List.set_cons_zero, List.set_cons_succ]
          refine GrL.walkE_t ?_ (Or.inl ⟨by rfl, ?_⟩) ?_
          rotate_left
          · intro w' hw'
            clear hw'
            go_simp
            try with_reducible rfl
          simp only [Act.put, List.setIfInBounds_toArray, List.set_cons_zero, List.set_cons_succ]
          refine GrL.walkE_t ?_ (Or.inl ⟨by rfl, ?_⟩) ?_
          rotate_left
          · intro w' hw'
            clear hw'
            go_simp
            try with_reducible rfl
          simp only [Act.put, List.setIfInBounds_toArray, List.set_cons_zero, List.set_cons_succ]
          refine GrL.walkE_t ?_ (Or.inl ⟨by rfl, ?_⟩) ?_
          rotate_left
          · intro w' hw'
            have c1 := HCX.out w' ((hw'.block lg (Nat.lt_of_lt_of_le HLG.out HWB.out)).trans (HDW.out.block lg (Nat.lt_of_lt_of_le HLG.out HWB.out)))
            clear hw'
            go_simp
            try with_reducible rfl
          simp only [Act.put, List.setIfInBounds_toArray, List.set_cons_zero, List.set_cons_succ]
          refine GrL.walkE_t ?_ (Or.inl ⟨by rfl, ?_⟩) ?_
          rotate_left
          · intro w' hw'
            clear hw'
            go_simp
            try with_reducible rfl
          simp only [Act.put, List.setIfInBounds_toArray, List.set_cons_zero, List.set_cons_succ]
          refine GrL.walkE_t ?_ (Or.inl ⟨by rfl, ?_⟩) ?_
          rotate_left
          · intro w' hw'
            clear hw'
            go_simp
            try with_reducible rfl
          simp only [Act.put, List.setIfInBounds_toArray, List.set_cons_zero, List.set_cons_succ]
          refine GrL.walkE_t ?_ (Or.inl ⟨by rfl, ?_⟩) ?_
          rotate_left
          · intro w' hw'
            have hs2 := HQ2.out w'
            clear hw'
            go_simp
            try with_reducible rfl
          simp only [Act.put, List.setIfInBounds_toArray, List.set_cons_zero, List.set_cons_succ]
          refine GrL.walkE_nil ?_
          refine GrL.Left.two (i := 3) (j := 8) (by kernel_rfl) (by kernel_rfl) (GrL.Step.mk rfl (fun K hK => ?_)) (GrL.Step.mk rfl (fun K hK => ?_))
          · skip
            rw [if_pos (by rfl)]
            refine wp_app_ints (.const (.slice none 0 0)) (.tmp 35) rfl B (.slice none 0 0) [] rfl (OwnI.nil _ _) _ j (out2.take j) rfl (by rw [List.length_take]; have := HJN.out; have := HN.out; omega) (HS1.out _ HO.out) (by rw [List.length_take]; show 0 + _ ≤ _; have := HJN.out; have := HN.out; have := HNL.out; omega) HBW.out ?_
            intro va5 w1_ ho hg
            have hx : wd.Extends w1_ := ext_own (Gr.ext_refl _) hg (fun x hx => nomatch hx)
            have A0 : OwnI w1_ B va5 (out2.take j) := ho
            clear ho hg
            simp only [Act.put, List.setIfInBounds_toArray, List.set_cons_zero, List.set_cons_succ]
            refine hK.out _ _ ((Gr.below_of hx).mono HBW.out) ?_
            clear hK K
            have HX := Lib.hid (Gr.ext_trans HX.out hx)
            have HO := Lib.hid (HO.out.ext hx)
            have HBW := Lib.hid (Nat.le_trans HBW.out hx.size)
            have A := Lib.hid A0
            clear A0
            clear hx
            refine GrL.Left.one (i := 8) (by kernel_rfl) (by kernel_rfl) (GrL.Step.mk rfl (fun K hK => ?_))
            go_simp
            generalize hw : World.alloc _ _ = w2_
            have hx : w1_.Extends w2_ := by subst hw; exact ext_alloc _ _
            have O0 : w2_.heap[w1_.heap.size]? = some (.cells #[.int .i64 x] 3 (0, 0)) := by subst hw; exact heap_alloc_new w1_ _
            clear hw
            refine hK.out _ _ ((Gr.below_of hx).mono HBW.out) ?_
            clear hK K
            have HX := Lib.hid (Gr.ext_trans HX.out hx)
            have HO := Lib.hid (HO.out.ext hx)
            have HBW := Lib.hid (Nat.le_trans HBW.out hx.size)
            have A := Lib.hid (A.out.ext hx)
            have O := Lib.hid O0
            clear O0
            clear hx
            refine GrL.Left.one (i := 9) (by kernel_rfl) (by kernel_rfl) (GrL.Step.mk rfl (fun K hK => ?_))
            rw [if_pos (by rfl)]
            refine wp_app_ints (.tmp 36) (.tmp 41) rfl B va5 (out2.take j) rfl A.out _ 1 [x] rfl rfl (one_src O.out) (by rw [List.length_take]; show _ + 1 ≤ _; have := HJN.out; have := HN.out; have := HNL.out; omega) HBW.out ?_
            intro va6 w3_ ho hg
            have hx : Below B w2_ w3_ := (Below.refl B _).grown hg HBW.out (fun k hk => (A.out.lt k hk).1)
            have A60 : OwnI w3_ B va6 (out2.take j ++ [x]) := ho
            clear ho hg
            simp only [Act.put, List.setIfInBounds_toArray, List.set_cons_zero, List.set_cons_succ]
            refine hK.out _ _ (hx) ?_
            clear hK K
            have HX := Lib.hid (Gr.ext_of ((Gr.below_of HX.out).trans (hx.mono HWB.out)))
            have HO := Lib.hid (HO.out.below HOB.out hx)
            have HBW := Lib.hid (Nat.le_trans HBW.out hx.size)
            clear A
            clear O
            have A6 := Lib.hid A60
            clear A60
            clear hx
            refine GrL.Left.one (i := 13) (by kernel_rfl) (by kernel_rfl) (GrL.Step.mk rfl (fun K hK => ?_))
            rw [if_pos (by rfl)]
            refine wp_app_ints (.tmp 42) (.tmp 45) rfl B va6 (out2.take j ++ [x]) rfl A6.out _ (N - j) (out2.drop j) rfl (by rw [List.length_drop, HN.out]) (HS2.out _ HO.out) (by rw [List.length_append, List.length_take, List.length_drop]; show _ + 1 + _ ≤ _; have := HJN.out; have := HN.out; have := HNL.out; omega) HBW.out ?_
            intro va7 w4_ ho hg
            have hx : Below B w3_ w4_ := (Below.refl B _).grown hg HBW.out (fun k hk => (A6.out.lt k hk).1)
            have A70 : OwnI w4_ B va7 (out2.take j ++ [x] ++ out2.drop j) := ho
            clear ho hg
            simp only [Act.put, List.setIfInBounds_toArray, List.set_cons_zero, List.set_cons_succ]
            refine hK.out _ _ (hx) ?_
            clear hK K
            have HX := Lib.hid (Gr.ext_of ((Gr.below_of HX.out).trans (hx.mono HWB.out)))
            have HO := Lib.hid (HO.out.below HOB.out hx)
            have HBW := Lib.hid (Nat.le_trans HBW.out hx.size)
            clear A6
            have A7 := Lib.hid A70
            clear A70
            clear hx
            refine GrL.Left.done (by kernel_rfl) ?_
            simp only [List.drop_succ_cons, List.drop_zero]
            have HP : Hid (Rall (nlt kk) w w4_ va7 (out2.take j ++ [x] ++ out2.drop j) (l.take (i + 1))) := HRA.out.insert HORD.out (by rw [HN.out]; exact HJN.out) (by rw [HN.out]; exact HB.out) HJ0.out HST.out HX.out A7.out HWB.out
            go_wp2
            go_roundw
            case rel => exact ⟨i + 1, by omega, by go_num, _, HP⟩
            case measure => simp [intOf]; omega
          · skip
            go_simp
            generalize hw : World.alloc _ _ = w5_
            have hx : wd.Extends w5_ := by subst hw; exact ext_alloc _ _
            have O0 : w5_.heap[wd.heap.size]? = some (.cells #[.int .i64 x] 3 (0, 0)) := by subst hw; exact heap_alloc_new wd _
            clear hw
            refine hK.out _ _ ((Gr.below_of hx).mono HBW.out) ?_
            clear hK K
            have HX := Lib.hid (Gr.ext_trans HX.out hx)
            have HO := Lib.hid (HO.out.ext hx)
            have HBW := Lib.hid (Nat.le_trans HBW.out hx.size)
            have O := Lib.hid O0
            clear O0
            clear hx
            refine GrL.Left.one (i := 3) (by kernel_rfl) (by kernel_rfl) (GrL.Step.mk rfl (fun K hK => ?_))
            rw [if_pos (by rfl)]
            refine wp_app_ints (.const (.slice none 0 0)) (.tmp 35) rfl B (.slice none 0 0) [] rfl (OwnI.nil _ _) _ j (out2.take j) rfl (by rw [List.length_take]; have := HJN.out; have := HN.out; omega) (HS1.out _ HO.out) (by rw [List.length_take]; show 0 + _ ≤ _; have := HJN.out; have := HN.out; have := HNL.out; omega) HBW.out ?_
            intro va5 w6_ ho hg
            have hx : w5_.Extends w6_ := ext_own (Gr.ext_refl _) hg (fun x hx => nomatch hx)
            have A0 : OwnI w6_ B va5 (out2.take j) := ho
            clear ho hg
            simp only [Act.put, List.setIfInBounds_toArray, List.set_cons_zero, List.set_cons_succ]
            refine hK.out _ _ ((Gr.below_of hx).mono HBW.out) ?_
            clear hK K
            have HX := Lib.hid (Gr.ext_trans HX.out hx)
            have HO := Lib.hid (HO.out.ext hx)
            have HBW := Lib.hid (Nat.le_trans HBW.out hx.size)
            have O := Lib.hid ((hx.block _ (Array.getElem?_eq_some_iff.1 O.out).1).trans O.out)
            have A := Lib.hid A0
            clear A0
            clear hx
            refine GrL.Left.one (i := 9) (by kernel_rfl) (by kernel_rfl) (GrL.Step.mk rfl (fun K hK => ?_))
            rw [if_pos (by rfl)]
            refine wp_app_ints (.tmp 36) (.tmp 41) rfl B va5 (out2.take j) rfl A.out _ 1 [x] rfl rfl (one_src O.out) (by rw [List.length_take]; show _ + 1 ≤ _; have := HJN.out; have := HN.out; have := HNL.out; omega) HBW.out ?_
            intro va6 w7_ ho hg
            have hx : Below B w6_ w7_ := (Below.refl B _).grown hg HBW.out (fun k hk => (A.out.lt k hk).1)
            have A60 : OwnI w7_ B va6 (out2.take j ++ [x]) := ho
            clear ho hg
            simp only [Act.put, List.setIfInBounds_toArray, List.set_cons_zero, List.set_cons_succ]
            refine hK.out _ _ (hx) ?_
            clear hK K
            have HX := Lib.hid (Gr.ext_of ((Gr.below_of HX.out).trans (hx.mono HWB.out)))
            have HO := Lib.hid (HO.out.below HOB.out hx)
            have HBW := Lib.hid (Nat.le_trans HBW.out hx.size)
            clear O
            clear A
            have A6 := Lib.hid A60
            clear A60
            clear hx
            refine GrL.Left.one (i := 13) (by kernel_rfl) (by kernel_rfl) (GrL.Step.mk rfl (fun K hK => ?_))
            rw [if_pos (by rfl)]
            refine wp_app_ints (.tmp 42) (.tmp 45) rfl B va6 (out2.take j ++ [x]) rfl A6.out _ (N - j) (out2.drop j) rfl (by rw [List.length_drop, HN.out]) (HS2.out _ HO.out) (by rw [List.length_append, List.length_take, List.length_drop]; show _ + 1 + _ ≤ _; have := HJN.out; have := HN.out; have := HNL.out; omega) HBW.out ?_
            intro va7 w8_ ho hg
            have hx : Below B w7_ w8_ := (Below.refl B _).grown hg HBW.out (fun k hk => (A6.out.lt k hk).1)
            have A70 : OwnI w8_ B va7 (out2.take j ++ [x] ++ out2.drop j) := ho
            clear ho hg
            simp only [Act.put, List.setIfInBounds_toArray, List.set_cons_zero, List.set_cons_succ]
            refine hK.out _ _ (hx) ?_
            clear hK K
            have HX := Lib.hid (Gr.ext_of ((Gr.below_of HX.out).trans (hx.mono HWB.out)))
            have HO := Lib.hid (HO.out.below HOB.out hx)
            have HBW := Lib.hid (Nat.le_trans HBW.out hx.size)
            clear A6
            have A7 := Lib.hid A70
            clear A70
            clear hx
            refine GrL.Left.done (by kernel_rfl) ?_
            simp only [List.drop_succ_cons, List.drop_zero]
            have HP : Hid (Rall (nlt kk) w w8_ va7 (out2.take j ++ [x] ++ out2.drop j) (l.take (i + 1))) := HRA.out.insert HORD.out (by rw [HN.out]; exact HJN.out) (by rw [HN.out]; exact HB.out) HJ0.out HST.out HX.out A7.out HWB.out
            go_wp2
            go_roundw
            case rel => exact ⟨i + 1, by omega, by go_num, _, HP⟩
            case measure => simp [intOf]; omega
        · obtain ⟨q, hq⟩ : ∃ q, j = q + 1 := ⟨j - 1, by omega⟩
          have hqN : q < N := by omega
          have hg0 : 0 < ((j : Nat) : Int) := by omega
          have hg2 : 0 < j := by omega
          have hjw : IntKind.i64.wrap (((j : Nat) : Int) - 1) = ((q : Nat) : Int) := by rw [IntKind.wrap_i64]; omega
          obtain ⟨ob, oo, rfl, _, hoc⟩ := HOR.out.ints.cell.2 (by omega)
          have hco := hoc q hqN
          have hqi : ((q : Nat) : Int) < ((N : Nat) : Int) := by omega
          obtain ⟨y, hy⟩ : ∃ y, y = out2.getD q 0 := ⟨_, rfl⟩
          rw [← hy] at hco
          have HYX : Hid (y ≤ x) := by rw [hy]; exact HRISE.out q hqN
          have HY := Lib.hid hy
          have HQ := Lib.hid hq
          have HCO := Lib.hid hco
          clear hy hq h3 hoc hco
          go_upto_region 6 with fail
          refine Gr.region 14 [(false,0),(false,1),(false,2),(false,3),(false,4),(false,5),(false,6),(false,7),(false,8),(false,9),(false,10),(false,11),(false,12),(true,13)] (by kernel_rfl) (by kernel_rfl) (fun d _ _ _ _ h => by cases d <;> exact h) ?_
          simp only [Gr.pick, List.getElem?_cons_zero, List.getElem?_cons_succ, List.drop_succ_cons, List.drop_zero]
          generalize hwd1 : wr.drew = wd1
          have HD1 : Hid (wr.Extends wd1) := by rw [← hwd1]; exact Gr.ext_drew (Gr.ext_refl _)
          clear hwd1
          iterate 3
            refine Gr.walk_t ?_ (Or.inl ⟨by rfl, ?_⟩) ?_
            rotate_left
            · intro w' hw'
              clear hw'
              go_simp
              try with_reducible rfl
            simp only [Act.put, List.setIfInBounds_toArray, List.set_cons_zero, List.set_cons_succ]
          refine Gr.walk_t _ (Or.inl ⟨by rfl, fun w' hw' => key_yields (HKA.out.ext (Gr.ext_trans (Gr.ext_trans HXR.out HD1.out) hw')) HLK.out (by rfl) (by rfl) (by exact HXK.out)⟩) ?_
          simp only [Act.put, List.setIfInBounds_toArray, List.set_cons_zero, List.set_cons_succ]
          iterate 3
            refine Gr.walk_t ?_ (Or.inl ⟨by rfl, ?_⟩) ?_
            rotate_left
            · intro w' hw'
              clear hw'
              go_simp
              try with_reducible rfl
            simp only [Act.put, List.setIfInBounds_toArray, List.set_cons_zero, List.set_cons_succ]
          refine Gr.walk_t ?_ (Or.inl ⟨by rfl, ?_⟩) ?_
          rotate_left
          · intro w' hw'
            have c1 := (Gr.ext_trans (Gr.ext_trans HXR.out HD1.out) hw').cell_of HLX.out
            clear hw'
            go_simp
            try with_reducible rfl
          simp only [Act.put, List.setIfInBounds_toArray, List.set_cons_zero, List.set_cons_succ]
          iterate 4
            refine Gr.walk_t ?_ (Or.inl ⟨by rfl, ?_⟩) ?_
            rotate_left
            · intro w' hw'
              clear hw'
              go_simp
              try with_reducible rfl
            simp only [Act.put, List.setIfInBounds_toArray, List.set_cons_zero, List.set_cons_succ]
          refine Gr.walk_t ?_ (Or.inl ⟨by rfl, ?_⟩) ?_
          rotate_left
          · intro w' hw'
            have c1 := (Gr.ext_trans HD1.out hw').cell_of HCO.out
            clear hw'
            go_simp
            try with_reducible rfl
          simp only [Act.put, List.setIfInBounds_toArray, List.set_cons_zero, List.set_cons_succ]
          refine Gr.walk_c (fun K hK => ?_)
          go_simp
          refine (HNE.out x y wd1 HYX.out).mono ?_
          rintro e w4 ⟨rfl, hx4⟩
          have HX4 := Lib.hid (Gr.ext_trans HD1.out hx4)
          obtain ⟨r, hr⟩ : ∃ r, nlt kk x y = r := ⟨_, rfl⟩
          have HNR := Lib.hid hr
          rw [hr]
          clear hr
          try go_simp
          refine hK.out _ _ (hx4) ?_
          clear hK K
          refine Gr.walk_nil ?_
          clear hx4
          cases r with
          | true =>
            have HB2 : Hid (∀ m, q ≤ m → m < N → nlt kk x (out2.getD m 0) = true) := fun m hm hm2 => by
              by_cases e : m = q
              · rw [e, ← HY.out]; exact HNR.out
              · exact HB.out m (by have := HQ.out; omega) hm2
            have HXN : Hid (wo.Extends w4) := Gr.ext_trans HXZ.out HX4.out
            go_wp2
            go_roundw
            case rel => exact ⟨q, by omega, by go_num, HXN, HB2⟩
            case measure => have := HQ.out; simp [intOf]; omega
          | false =>
            have HJ0 : Hid (0 < j → nlt kk x (out2.getD (j - 1) 0) = false) := fun _ => by
              rw [show j - 1 = q by have := HQ.out; omega, ← HY.out]; exact HNR.out
            have HRA := Lib.hid (show Rall (nlt kk) w w4 _ out2 (l.take i) from ⟨Gr.ext_trans HRA.out.ext HX4.out, HRA.out.own.ext HX4.out, HRA.out.srt, HRA.out.perm⟩)
            have HXR : Hid (w.Extends w4) := HRA.out.ext
            have HOR := Lib.hid HRA.out.own
            clear hqi
            go_upto_region 8 with fail
            obtain ⟨ca1, cc1, ca2, cc2, q1, s1, q2, s2⟩ := HOR.out.cuts (j := j) (by rw [HN.out]; exact hj)
            rw [HN.out] at q2 s2
            have HQ1 := Lib.hid q1
            have HQ2 := Lib.hid q2
            have HS1 := Lib.hid s1
            have HS2 := Lib.hid s2
            clear q1 q2 s1 s2
            obtain ⟨B, hB⟩ : ∃ B, B = w4.heap.size := ⟨_, rfl⟩
            have HBR : Hid (B ≤ w4.drew.heap.size) := Nat.le_of_eq hB
            have HWB : Hid (w.heap.size ≤ B) := by rw [hB]; exact HXR.out.size
            have HOB := Lib.hid (HOR.out.lts hB)
            have HJN : Hid (j ≤ N) := hj
            clear hB
            have HCX : Hid (∀ w' : World, w'.heap[lg]? = w4.heap[lg]? → w'.cell? ⟨lg, lo + i, none⟩ = some (.int .i64 x)) := fun w' hb => (World.cell?_of_block (w := w4) hb).trans (HXR.out.cell_of HLX.out)
            refine GrL.regionE (B := B) 14 4 [(false,0),(false,1),(false,2),(false,4),(false,5),(false,6),(false,7),(false,10),(false,11),(false,12)] (by kernel_rfl) (by kernel_rfl) (fun d _ _ _ _ h => by cases d <;> exact h) ?_
            simp only [Gr.pick, List.getElem?_cons_zero, List.getElem?_cons_succ]
            generalize hwd0 : w4.drew = wd
            have HX : Hid (w.Extends wd) := by rw [← hwd0]; exact Gr.ext_drew HXR.out
            have HO := Lib.hid (HOR.out.ext (show w4.Extends wd by rw [← hwd0]; exact Gr.ext_drew (Gr.ext_refl _)))
            have HBW : Hid (B ≤ wd.heap.size) := by rw [← hwd0]; exact HBR.out
            have HDW : Hid (Below B w4 wd) := by rw [← hwd0]; exact (Below.refl _ _).drew
            clear hwd0
            refine GrL.walkE_t ?_ (Or.inl ⟨by rfl, ?_⟩) ?_
            rotate_left
            · intro w' hw'
              clear hw'
              go_simp
              try with_reducible rfl
            simp only [Act.put, List.setIfInBounds_toArray, List.set_cons_zero, List.set_cons_succ]
            refine GrL.walkE_t ?_ (Or.inl ⟨by rfl, ?_⟩) ?_
            rotate_left
            · intro w' hw'
              clear hw'
              go_simp
              try with_reducible rfl
            simp only [Act.put, List.setIfInBounds_toArray, List.set_cons_zero, List.set_cons_succ]
            refine GrL.walkE_t ?_ (Or.inl ⟨by rfl, ?_⟩) ?_
            rotate_left
            · intro w' hw'
              have hs1 := HQ1.out w'
              clear hw'
              go_simp
              try with_reducible rfl
            simp only [Act.put, List.setIfInBounds_toArray, List.set_cons_zero, List.set_cons_succ]
            refine GrL.walkE_t ?_ (Or.inl ⟨by rfl, ?_⟩) ?_
            rotate_left
            · intro w' hw'
              clear hw'
              go_simp
              try with_reducible rfl
            simp only [Act.put, List.setIfInBounds_toArray, List.set_cons_zero, List.set_cons_succ]
            refine GrL.walkE_t ?_ (Or.inl ⟨by rfl, ?_⟩) ?_
            rotate_left
            · intro w' hw'
              clear hw'
              go_simp
              try with_reducible rfl
            simp only [Act.put, List.setIfInBounds_toArray, List.set_cons_zero, List.set_cons_succ]
            refine GrL.walkE_t ?_ (Or.inl ⟨by rfl, ?_⟩) ?_
            rotate_left
            · intro w' hw'
              clear hw'
              go_simp
              try with_reducible rfl
            simp only [Act.put, List.setIfInBounds_toArray, List.set_cons_zero, List.set_cons_succ]
            refine GrL.walkE_t ?_ (Or.inl ⟨by rfl, ?_⟩) ?_
            rotate_left
            · intro w' hw'
              have c1 := HCX.out w' ((hw'.block lg (Nat.lt_of_lt_of_le HLG.out HWB.out)).trans (HDW.out.block lg (Nat.lt_of_lt_of_le HLG.out HWB.out)))
              clear hw'
              go_simp
              try with_reducible rfl
            simp only [Act.put, List.setIfInBounds_toArray, List.set_cons_zero, List.set_cons_succ]
            refine GrL.walkE_t ?_ (Or.inl ⟨by rfl, ?_⟩) ?_
            rotate_left
            · intro w' hw'
              clear hw'
              go_simp
              try with_reducible rfl
            simp only [Act.put, List.setIfInBounds_toArray, List.set_cons_zero, List.set_cons_succ]
            refine GrL.walkE_t ?_ (Or.inl ⟨by rfl, ?_⟩) ?_
            rotate_left
            · intro w' hw'
              clear hw'
              go_simp
              try with_reducible rfl
            simp only [Act.put, List.setIfInBounds_toArray, List.set_cons_zero, List.set_cons_succ]
            refine GrL.walkE_t ?_ (Or.inl ⟨by rfl, ?_⟩) ?_
            rotate_left
            · intro w' hw'
              have hs2 := HQ2.out w'
              clear hw'
              go_simp
              try with_reducible rfl
            simp only [Act.put, List.setIfInBounds_toArray, List.set_cons_zero, List.set_cons_succ]
            refine GrL.walkE_nil ?_
            refine GrL.Left.two (i := 3) (j := 8) (by kernel_rfl) (by kernel_rfl) (GrL.Step.mk rfl (fun K hK => ?_)) (GrL.Step.mk rfl (fun K hK => ?_))
            · skip
              rw [if_pos (by rfl)]
              refine wp_app_ints (.const (.slice none 0 0)) (.tmp 35) rfl B (.slice none 0 0) [] rfl (OwnI.nil _ _) _ j (out2.take j) rfl (by rw [List.length_take]; have := HJN.out; have := HN.out; omega) (HS1.out _ HO.out) (by rw [List.length_take]; show 0 + _ ≤ _; have := HJN.out; have := HN.out; have := HNL.out; omega) HBW.out ?_
              intro va5 w1_ ho hg
              have hx : wd.Extends w1_ := ext_own (Gr.ext_refl _) hg (fun x hx => nomatch hx)
              have A0 : OwnI w1_ B va5 (out2.take j) := ho
              clear ho hg
              simp only [Act.put, List.setIfInBounds_toArray, List.set_cons_zero, List.set_cons_succ]
              refine hK.out _ _ ((Gr.below_of hx).mono HBW.out) ?_
              clear hK K
              have HX := Lib.hid (Gr.ext_trans HX.out hx)
              have HO := Lib.hid (HO.out.ext hx)
              have HBW := Lib.hid (Nat.le_trans HBW.out hx.size)
              have A := Lib.hid A0
              clear A0
              clear hx
              refine GrL.Left.one (i := 8) (by kernel_rfl) (by kernel_rfl) (GrL.Step.mk rfl (fun K hK => ?_))
              go_simp
              generalize hw : World.alloc _ _ = w2_
              have hx : w1_.Extends w2_ := by subst hw; exact ext_alloc _ _
              have O0 : w2_.heap[w1_.heap.size]? = some (.cells #[.int .i64 x] 3 (0, 0)) := by subst hw; exact heap_alloc_new w1_ _
              clear hw
              refine hK.out _ _ ((Gr.below_of hx).mono HBW.out) ?_
              clear hK K
              have HX := Lib.hid (Gr.ext_trans HX.out hx)
              have HO := Lib.hid (HO.out.ext hx)
              have HBW := Lib.hid (Nat.le_trans HBW.out hx.size)
              have A := Lib.hid (A.out.ext hx)
              have O := Lib.hid O0
              clear O0
              clear hx
              refine GrL.Left.one (i := 9) (by kernel_rfl) (by kernel_rfl) (GrL.Step.mk rfl (fun K hK => ?_))
              rw [if_pos (by rfl)]
              refine wp_app_ints (.tmp 36) (.tmp 41) rfl B va5 (out2.take j) rfl A.out _ 1 [x] rfl rfl (one_src O.out) (by rw [List.length_take]; show _ + 1 ≤ _; have := HJN.out; have := HN.out; have := HNL.out; omega) HBW.out ?_
              intro va6 w3_ ho hg
              have hx : Below B w2_ w3_ := (Below.refl B _).grown hg HBW.out (fun k hk => (A.out.lt k hk).1)
              have A60 : OwnI w3_ B va6 (out2.take j ++ [x]) := ho
              clear ho hg
              simp only [Act.put, List.setIfInBounds_toArray, List.set_cons_zero, List.set_cons_succ]
              refine hK.out _ _ (hx) ?_
              clear hK K
              have HX := Lib.hid (Gr.ext_of ((Gr.below_of HX.out).trans (hx.mono HWB.out)))
              have HO := Lib.hid (HO.out.below HOB.out hx)
              have HBW := Lib.hid (Nat.le_trans HBW.out hx.size)
              clear A
              clear O
              have A6 := Lib.hid A60
              clear A60
              clear hx
              refine GrL.Left.one (i := 13) (by kernel_rfl) (by kernel_rfl) (GrL.Step.mk rfl (fun K hK => ?_))
              rw [if_pos (by rfl)]
              refine wp_app_ints (.tmp 42) (.tmp 45) rfl B va6 (out2.take j ++ [x]) rfl A6.out _ (N - j) (out2.drop j) rfl (by rw [List.length_drop, HN.out]) (HS2.out _ HO.out) (by rw [List.length_append, List.length_take, List.length_drop]; show _ + 1 + _ ≤ _; have := HJN.out; have := HN.out; have := HNL.out; omega) HBW.out ?_
              intro va7 w4_ ho hg
              have hx : Below B w3_ w4_ := (Below.refl B _).grown hg HBW.out (fun k hk => (A6.out.lt k hk).1)
              have A70 : OwnI w4_ B va7 (out2.take j ++ [x] ++ out2.drop j) := ho
              clear ho hg
              simp only [Act.put, List.setIfInBounds_toArray, List.set_cons_zero, List.set_cons_succ]
              refine hK.out _ _ (hx) ?_
              clear hK K
              have HX := Lib.hid (Gr.ext_of ((Gr.below_of HX.out).trans (hx.mono HWB.out)))
              have HO := Lib.hid (HO.out.below HOB.out hx)
              have HBW := Lib.hid (Nat.le_trans HBW.out hx.size)
              clear A6
              have A7 := Lib.hid A70
              clear A70
              clear hx
              refine GrL.Left.done (by kernel_rfl) ?_
              simp only [List.drop_succ_cons, List.drop_zero]
              have HP : Hid (Rall (nlt kk) w w4_ va7 (out2.take j ++ [x] ++ out2.drop j) (l.take (i + 1))) := HRA.out.insert HORD.out (by rw [HN.out]; exact HJN.out) (by rw [HN.out]; exact HB.out) HJ0.out HST.out HX.out A7.out HWB.out
              go_wp2
              go_roundw
              case rel => exact ⟨i + 1, by omega, by go_num, _, HP⟩
              case measure => simp [intOf]; omega
            · skip
              go_simp
              generalize hw : World.alloc _ _ = w5_
              have hx : wd.Extends w5_ := by subst hw; exact ext_alloc _ _
              have O0 : w5_.heap[wd.heap.size]? = some (.cells #[.int .i64 x] 3 (0, 0)) := by subst hw; exact heap_alloc_new wd _
              clear hw
              refine hK.out _ _ ((Gr.below_of hx).mono HBW.out) ?_
              clear hK K
              have HX := Lib.hid (Gr.ext_trans HX.out hx)
              have HO := Lib.hid (HO.out.ext hx)
              have HBW := Lib.hid (Nat.le_trans HBW.out hx.size)
              have O := Lib.hid O0
              clear O0
              clear hx
              refine GrL.Left.one (i := 3) (by kernel_rfl) (by kernel_rfl) (GrL.Step.mk rfl (fun K hK => ?_))
              rw [if_pos (by rfl)]
              refine wp_app_ints (.const (.slice none 0 0)) (.tmp 35) rfl B (.slice none 0 0) [] rfl (OwnI.nil _ _) _ j (out2.take j) rfl (by rw [List.length_take]; have := HJN.out; have := HN.out; omega) (HS1.out _ HO.out) (by rw [List.length_take]; show 0 + _ ≤ _; have := HJN.out; have := HN.out; have := HNL.out; omega) HBW.out ?_
              intro va5 w6_ ho hg
              have hx : w5_.Extends w6_ := ext_own (Gr.ext_refl _) hg (fun x hx => nomatch hx)
              have A0 : OwnI w6_ B va5 (out2.take j) := ho
              clear ho hg
              simp only [Act.put, List.setIfInBounds_toArray, List.set_cons_zero, List.set_cons_succ]
              refine hK.out _ _ ((Gr.below_of hx).mono HBW.out) ?_
              clear hK K
              have HX := Lib.hid (Gr.ext_trans HX.out hx)
              have HO := Lib.hid (HO.out.ext hx)
              have HBW := Lib.hid (Nat.le_trans HBW.out hx.size)
              have O := Lib.hid ((hx.block _ (Array.getElem?_eq_some_iff.1 O.out).1).trans O.out)
              have A := Lib.hid A0
              clear A0
              clear hx
              refine GrL.Left.one (i := 9) (by kernel_rfl) (by kernel_rfl) (GrL.Step.mk rfl (fun K hK => ?_))
              rw [if_pos (by rfl)]
              refine wp_app_ints (.tmp 36) (.tmp 41) rfl B va5 (out2.take j) rfl A.out _ 1 [x] rfl rfl (one_src O.out) (by rw [List.length_take]; show _ + 1 ≤ _; have := HJN.out; have := HN.out; have := HNL.out; omega) HBW.out ?_
              intro va6 w7_ ho hg
              have hx : Below B w6_ w7_ := (Below.refl B _).grown hg HBW.out (fun k hk => (A.out.lt k hk).1)
              have A60 : OwnI w7_ B va6 (out2.take j ++ [x]) := ho
              clear ho hg
              simp only [Act.put, List.setIfInBounds_toArray, List.set_cons_zero, List.set_cons_succ]
              refine hK.out _ _ (hx) ?_
              clear hK K
              have HX := Lib.hid (Gr.ext_of ((Gr.below_of HX.out).trans (hx.mono HWB.out)))
              have HO := Lib.hid (HO.out.below HOB.out hx)
              have HBW := Lib.hid (Nat.le_trans HBW.out hx.size)
              clear O
              clear A
              have A6 := Lib.hid A60
              clear A60
              clear hx
              refine GrL.Left.one (i := 13) (by kernel_rfl) (by kernel_rfl) (GrL.Step.mk rfl (fun K hK => ?_))
              rw [if_pos (by rfl)]
              refine wp_app_ints (.tmp 42) (.tmp 45) rfl B va6 (out2.take j ++ [x]) rfl A6.out _ (N - j) (out2.drop j) rfl (by rw [List.length_drop, HN.out]) (HS2.out _ HO.out) (by rw [List.length_append, List.length_take, List.length_drop]; show _ + 1 + _ ≤ _; have := HJN.out; have := HN.out; have := HNL.out; omega) HBW.out ?_
              intro va7 w8_ ho hg
              have hx : Below B w7_ w8_ := (Below.refl B _).grown hg HBW.out (fun k hk => (A6.out.lt k hk).1)
              have A70 : OwnI w8_ B va7 (out2.take j ++ [x] ++ out2.drop j) := ho
              clear ho hg
              simp only [Act.put, List.setIfInBounds_toArray, List.set_cons_zero, List.set_cons_succ]
              refine hK.out _ _ (hx) ?_
              clear hK K
              have HX := Lib.hid (Gr.ext_of ((Gr.below_of HX.out).trans (hx.mono HWB.out)))
              have HO := Lib.hid (HO.out.below HOB.out hx)
              have HBW := Lib.hid (Nat.le_trans HBW.out hx.size)
              clear A6
              have A7 := Lib.hid A70
              clear A70
              clear hx
              refine GrL.Left.done (by kernel_rfl) ?_
              simp only [List.drop_succ_cons, List.drop_zero]
              have HP : Hid (Rall (nlt kk) w w8_ va7 (out2.take j ++ [x] ++ out2.drop j) (l.take (i + 1))) := HRA.out.insert HORD.out (by rw [HN.out]; exact HJN.out) (by rw [HN.out]; exact HB.out) HJ0.out HST.out HX.out A7.out HWB.out
              go_wp2
              go_roundw
              case rel => exact ⟨i + 1, by omega, by go_num, _, HP⟩
              case measure => simp [intOf]; omega
    · obtain rfl : i = n := by omega
      have HP := Lib.hid (HEND.out w _ wr out2 HX1.out HRA.out)
      go_wp2
      exact HP.out
end Go.Proofs.Ytffcjnabhblbaaa
