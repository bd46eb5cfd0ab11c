/- KeyOrder' function answers true. Written by gen_keyw.py. -/
import Derived.Test.YtldkmbnidfpcoaaKeyLive
import Derived.Deep.WholeRow
namespace Go.Proofs.Ytldkmbnidfpcoaa
set_option maxRecDepth 20000
open Go.RowKit
set_option linter.unusedVariables false
theorem key_pre_less {a b c : List Nat} (ha : KY.Ok a) (hb : KY.Ok b) (hc : KY.Ok c) (h : KY.pre b c < KY.pre a c) : KY.lt (KY.dist a c) (KY.dist b c) = true :=
  KY.lead_lt _ _ (by rw [KY.dist_len ha.1 hc.1, KY.dist_len hb.1 hc.1]) (KY.dist_ok ha hc).2 (KY.dist_ok hb hc).2 h
set_option maxHeartbeats 8000000 in
theorem KeyOrder_walk (a b c : List Nat) (w : World) (ha : KY.Ok a) (hb : KY.Ok b) (hc : KY.Ok c) :
    Calls Try.prog 5 #[KV a, KV b, KV c] w fun e w' => e = .returned (.bool true) ∧ Below w.heap.size w w' := by
  have HKA := Lib.hid ha
  have HKB := Lib.hid hb
  have HKC := Lib.hid hc
  have HLA := Lib.hid ha.1
  have HLB := Lib.hid hb.1
  have HLC := Lib.hid hc.1
  have HPL := Lib.hid (key_pre_less ha hb hc)
  obtain ⟨d, hd⟩ : ∃ d, d = KY.dist a c := ⟨_, rfl⟩
  obtain ⟨f, hf⟩ : ∃ f, f = KY.dist b c := ⟨_, rfl⟩
  have HKD := Lib.hid (show KY.Ok d by rw [hd]; exact KY.dist_ok ha hc)
  have HKF := Lib.hid (show KY.Ok f by rw [hf]; exact KY.dist_ok hb hc)
  have HD := Lib.hid hd
  have HF := Lib.hid hf
  rw [← hd, ← hf] at HPL
  obtain ⟨m, hm⟩ : ∃ m, m = KY.pre a c := ⟨_, rfl⟩
  obtain ⟨n, hn⟩ : ∃ n, n = KY.pre b c := ⟨_, rfl⟩
  have HM := Lib.hid hm
  have HN := Lib.hid hn
  rw [← hm, ← hn] at HPL
  have HAA := Lib.hid (KY.lt_self a)
  have hways : ∃ q : Bool, (∀ w : World, (Op.equalIn 10000 24 (KV a) (KV b)).run Try.prog w = .ok q w) ∧
      ((q = true ∧ KY.lt a b = false) ∨ (q = false ∧ KY.lt a b = false ∧ KY.lt b a = true) ∨ (q = false ∧ KY.lt a b = true ∧ KY.lt b a = false ∧ KY.lt b c = false) ∨ (q = false ∧ KY.lt a b = true ∧ KY.lt b a = false ∧ KY.lt b c = true ∧ KY.lt a c = true)) := by
    refine ⟨decide (a = b), run_key_eq ha.1 hb.1, ?_⟩
    by_cases h : a = b
    · exact .inl ⟨decide_eq_true h, by rw [h]; exact KY.lt_self b⟩
    · have ho := KY.lt_other a b (by rw [ha.1, hb.1]) h
      have ht := KY.lt_trans a b c
      have hq := decide_eq_false h
      revert ho ht
      cases KY.lt a b <;> cases KY.lt b a <;> cases KY.lt b c <;> cases KY.lt a c <;> simp [hq]
  obtain ⟨q, hab, hw⟩ := hways
  have HW := Lib.hid hw
  clear hd hf hm hn ha hb hc hw
  go_enter Try.func5, Try.ntmps5
  go_upto_region 1 with fail
  have HB := Lib.hid (Boxed3.made w HKA.out HKB.out HKC.out)
  generalize hw1 : World.alloc _ _ = w1 at *
  clear hw1
  obtain ⟨s, hs⟩ : ∃ s, s = w.heap.size := ⟨_, rfl⟩
  rw [← hs] at HB ⊢
  have HS := Lib.hid hs
  clear hs
  go_wp2_with fail
  refine (alive17_any _).mono ?_
  rintro e w2 ⟨rfl, hx⟩
  have HX2 := Lib.hid (Gr.ext_trans HB.out.ext hx)
  have HA2 := Lib.hid (KAt.ext HB.out.a hx)
  have HB2 := Lib.hid (KAt.ext HB.out.b hx)
  have HC2 := Lib.hid (KAt.ext HB.out.c hx)
  clear hx HB
  go_upto_region 2 with fail
  have HX3 := Lib.hid (Gr.ext_drew HX2.out)
  have HA3 := Lib.hid (World.rowIs.drew HA2.out)
  have HB3 := Lib.hid (World.rowIs.drew HB2.out)
  have HC3 := Lib.hid (World.rowIs.drew HC2.out)
  clear HX2 HA2 HB2 HC2
  by_cases hgt : n < m
  all_goals
    rcases HW.out with ⟨hq, h1⟩ | ⟨hq, h1, h2⟩ | ⟨hq, h1, h2, h3⟩ | ⟨hq, h1, h2, h3, h4⟩
    all_goals subst hq; clear HW
  · have HH1 := Lib.hid h1; clear h1
    have hg1 : decide ((n : Int) < (m : Int)) = true := by exact decide_eq_true (by omega)
    have hg2 : decide (n < m) = true := by exact decide_eq_true (by omega)
    have hg3 : decide ((m : Int) ≤ (n : Int)) = false := by exact decide_eq_false (by omega)
    have hg4 : decide (m ≤ n) = false := by exact decide_eq_false (by omega)
    have HGT := Lib.hid hgt; clear hgt
    refine Gr.region 36 [(false,0),(false,1),(false,2),(false,3),(false,4),(true,5),(false,6),(false,7),(false,8),(false,9),(false,10),(false,11),(false,12),(false,13),(false,15),(false,16),(true,14),(true,17),(false,18),(false,19),(false,20),(false,21),(false,22),(false,23),(true,24),(false,25),(false,26),(false,27),(true,28),(false,29),(false,30),(false,31),(false,32),(true,33),(false,34),(false,35)] (by kernel_rfl) (by kernel_rfl) (fun d _ _ _ _ h => by cases d <;> exact h) ?_
    simp only [Gr.pick, List.getElem?_cons_zero, List.getElem?_cons_succ, List.drop_succ_cons, List.drop_zero]
    generalize w2.drew = w3 at *
    iterate 3
      refine Gr.walk_t ?_ (Or.inl ⟨by rfl, ?_⟩) ?_
      rotate_left
      · intro w' hw'
        clear hw'
        go_simp
        try with_reducible rfl
      simp only [Act.put, List.setIfInBounds_toArray, List.set_cons_zero, List.set_cons_succ]
    refine Gr.walk_t _ (Or.inl ⟨by rfl, fun w' hw' => (KAt.ext HA3.out hw').yields HLA.out rfl rfl⟩) ?_
    simp only [Act.put, List.setIfInBounds_toArray, List.set_cons_zero, List.set_cons_succ]
    refine Gr.walk_t _ (Or.inl ⟨by rfl, fun w' hw' => (KAt.ext HA3.out hw').yields HLA.out rfl rfl⟩) ?_
    simp only [Act.put, List.setIfInBounds_toArray, List.set_cons_zero, List.set_cons_succ]
    refine Gr.walk_c (fun K hK => ?_)
    go_simp
    refine (kless_any HKA.out HKA.out w3).mono ?_
    rintro e w4 ⟨rfl, hx⟩
    rw [HAA.out]
    have HX4 := Lib.hid (Gr.ext_trans HX3.out hx)
    have HA4 := Lib.hid (KAt.ext HA3.out hx)
    have HB4 := Lib.hid (KAt.ext HB3.out hx)
    have HC4 := Lib.hid (KAt.ext HC3.out hx)
    try go_simp
    refine hK.out _ _ (hx) ?_
    clear hK K
    clear hx HX3 HA3 HB3 HC3
    iterate 2
      refine Gr.walk_t ?_ (Or.inl ⟨by rfl, ?_⟩) ?_
      rotate_left
      · intro w' hw'
        clear hw'
        go_simp
        try with_reducible rfl
      simp only [Act.put, List.setIfInBounds_toArray, List.set_cons_zero, List.set_cons_succ]
    refine Gr.walk_t _ (Or.inl ⟨by rfl, fun w' hw' => (KAt.ext HA4.out hw').yields HLA.out rfl rfl⟩) ?_
    simp only [Act.put, List.setIfInBounds_toArray, List.set_cons_zero, List.set_cons_succ]
    refine Gr.walk_t _ (Or.inl ⟨by rfl, fun w' hw' => (KAt.ext HB4.out hw').yields HLB.out rfl rfl⟩) ?_
    simp only [Act.put, List.setIfInBounds_toArray, List.set_cons_zero, List.set_cons_succ]
    refine Gr.walk_t ?_ (Or.inl ⟨by rfl, ?_⟩) ?_
    rotate_left
    · intro w' hw'
      have he := hab w'
      clear hw'
      go_simp
      try with_reducible rfl
    simp only [Act.put, List.setIfInBounds_toArray, List.set_cons_zero, List.set_cons_succ]
    refine Gr.walk_t ?_ (Or.inl ⟨by rfl, ?_⟩) ?_
    rotate_left
    · intro w' hw'
      clear hw'
      go_simp
      try with_reducible rfl
    simp only [Act.put, List.setIfInBounds_toArray, List.set_cons_zero, List.set_cons_succ]
    refine Gr.walk_t _ (Or.inr ⟨by rfl, rfl⟩) ?_
    simp only [Act.put, List.setIfInBounds_toArray, List.set_cons_zero, List.set_cons_succ]
    refine Gr.walk_t _ (Or.inr ⟨by rfl, rfl⟩) ?_
    simp only [Act.put, List.setIfInBounds_toArray, List.set_cons_zero, List.set_cons_succ]
    refine Gr.walk_t _ (Or.inr ⟨by rfl, rfl⟩) ?_
    simp only [Act.put, List.setIfInBounds_toArray, List.set_cons_zero, List.set_cons_succ]
    refine Gr.walk_t _ (Or.inr ⟨by rfl, rfl⟩) ?_
    simp only [Act.put, List.setIfInBounds_toArray, List.set_cons_zero, List.set_cons_succ]
    refine Gr.walk_c (fun K hK => ?_)
    rw [if_neg (by intro h; cases h)]
    refine hK.out _ _ (Gr.ext_refl _) ?_
    clear hK K
    simp only [Act.put, List.setIfInBounds_toArray, List.set_cons_zero, List.set_cons_succ]
    refine Gr.walk_c (fun K hK => ?_)
    rw [if_neg (by intro h; cases h)]
    refine hK.out _ _ (Gr.ext_refl _) ?_
    clear hK K
    simp only [Act.put, List.setIfInBounds_toArray, List.set_cons_zero, List.set_cons_succ]
    refine Gr.walk_t _ (Or.inr ⟨by rfl, rfl⟩) ?_
    simp only [Act.put, List.setIfInBounds_toArray, List.set_cons_zero, List.set_cons_succ]
    iterate 3
      refine Gr.walk_t ?_ (Or.inl ⟨by rfl, ?_⟩) ?_
      rotate_left
      · intro w' hw'
        clear hw'
        go_simp
        try with_reducible rfl
      simp only [Act.put, List.setIfInBounds_toArray, List.set_cons_zero, List.set_cons_succ]
    refine Gr.walk_t _ (Or.inl ⟨by rfl, fun w' hw' => (KAt.ext HA4.out hw').yields HLA.out rfl rfl⟩) ?_
    simp only [Act.put, List.setIfInBounds_toArray, List.set_cons_zero, List.set_cons_succ]
    refine Gr.walk_t _ (Or.inl ⟨by rfl, fun w' hw' => (KAt.ext HB4.out hw').yields HLB.out rfl rfl⟩) ?_
    simp only [Act.put, List.setIfInBounds_toArray, List.set_cons_zero, List.set_cons_succ]
    refine Gr.walk_c (fun K hK => ?_)
    go_simp
    refine (kless_any HKA.out HKB.out w4).mono ?_
    rintro e w5 ⟨rfl, hx⟩
    rw [HH1.out]
    have HX5 := Lib.hid (Gr.ext_trans HX4.out hx)
    have HA5 := Lib.hid (KAt.ext HA4.out hx)
    have HB5 := Lib.hid (KAt.ext HB4.out hx)
    have HC5 := Lib.hid (KAt.ext HC4.out hx)
    try go_simp
    refine hK.out _ _ (hx) ?_
    clear hK K
    clear hx HX4 HA4 HB4 HC4
    refine Gr.walk_t ?_ (Or.inl ⟨by rfl, ?_⟩) ?_
    rotate_left
    · intro w' hw'
      clear hw'
      go_simp
      try with_reducible rfl
    simp only [Act.put, List.setIfInBounds_toArray, List.set_cons_zero, List.set_cons_succ]
    refine Gr.walk_t _ (Or.inr ⟨by rfl, rfl⟩) ?_
    simp only [Act.put, List.setIfInBounds_toArray, List.set_cons_zero, List.set_cons_succ]
    refine Gr.walk_t _ (Or.inr ⟨by rfl, rfl⟩) ?_
    simp only [Act.put, List.setIfInBounds_toArray, List.set_cons_zero, List.set_cons_succ]
    refine Gr.walk_c (fun K hK => ?_)
    rw [if_neg (by intro h; cases h)]
    refine hK.out _ _ (Gr.ext_refl _) ?_
    clear hK K
    simp only [Act.put, List.setIfInBounds_toArray, List.set_cons_zero, List.set_cons_succ]
    iterate 2
      refine Gr.walk_t ?_ (Or.inl ⟨by rfl, ?_⟩) ?_
      rotate_left
      · intro w' hw'
        clear hw'
        go_simp
        try with_reducible rfl
      simp only [Act.put, List.setIfInBounds_toArray, List.set_cons_zero, List.set_cons_succ]
    refine Gr.walk_t _ (Or.inr ⟨by rfl, rfl⟩) ?_
    simp only [Act.put, List.setIfInBounds_toArray, List.set_cons_zero, List.set_cons_succ]
    refine Gr.walk_t _ (Or.inr ⟨by rfl, rfl⟩) ?_
    simp only [Act.put, List.setIfInBounds_toArray, List.set_cons_zero, List.set_cons_succ]
    refine Gr.walk_c (fun K hK => ?_)
    rw [if_neg (by intro h; cases h)]
    refine hK.out _ _ (Gr.ext_refl _) ?_
    clear hK K
    simp only [Act.put, List.setIfInBounds_toArray, List.set_cons_zero, List.set_cons_succ]
    refine Gr.walk_t _ (Or.inr ⟨by rfl, rfl⟩) ?_
    simp only [Act.put, List.setIfInBounds_toArray, List.set_cons_zero, List.set_cons_succ]
    refine Gr.walk_t ?_ (Or.inl ⟨by rfl, ?_⟩) ?_
    rotate_left
    · intro w' hw'
      clear hw'
      go_simp
      try with_reducible rfl
    simp only [Act.put, List.setIfInBounds_toArray, List.set_cons_zero, List.set_cons_succ]
    refine Gr.walk_nil ?_
    go_upto_region 4 with fail
    have HX6 := Lib.hid (Gr.ext_drew HX5.out)
    have HA6 := Lib.hid (World.rowIs.drew HA5.out)
    have HB6 := Lib.hid (World.rowIs.drew HB5.out)
    have HC6 := Lib.hid (World.rowIs.drew HC5.out)
    clear HX5 HA5 HB5 HC5
    refine Gr.region 17 [(false,0),(false,1),(false,3),(false,4),(true,2),(true,5),(false,6),(false,7),(false,8),(false,9),(false,10),(false,12),(false,13),(true,11),(true,14),(true,15),(false,16)] (by kernel_rfl) (by kernel_rfl) (fun d _ _ _ _ h => by cases d <;> exact h) ?_
    simp only [Gr.pick, List.getElem?_cons_zero, List.getElem?_cons_succ, List.drop_succ_cons, List.drop_zero]
    generalize w5.drew = w6 at *
    refine Gr.walk_t _ (Or.inl ⟨by rfl, fun w' hw' => (KAt.ext HA6.out hw').yields HLA.out rfl rfl⟩) ?_
    simp only [Act.put, List.setIfInBounds_toArray, List.set_cons_zero, List.set_cons_succ]
    refine Gr.walk_t _ (Or.inl ⟨by rfl, fun w' hw' => (KAt.ext HC6.out hw').yields HLC.out rfl rfl⟩) ?_
    simp only [Act.put, List.setIfInBounds_toArray, List.set_cons_zero, List.set_cons_succ]
    refine Gr.walk_t _ (Or.inl ⟨by rfl, fun w' hw' => (KAt.ext HB6.out hw').yields HLB.out rfl rfl⟩) ?_
    simp only [Act.put, List.setIfInBounds_toArray, List.set_cons_zero, List.set_cons_succ]
    refine Gr.walk_t _ (Or.inl ⟨by rfl, fun w' hw' => (KAt.ext HC6.out hw').yields HLC.out rfl rfl⟩) ?_
    simp only [Act.put, List.setIfInBounds_toArray, List.set_cons_zero, List.set_cons_succ]
    refine Gr.walk_c (fun K hK => ?_)
    go_simp
    refine (kpre_any HKA.out HKC.out w6).mono ?_
    rintro e w7 ⟨rfl, hx⟩
    rw [← HM.out]
    have HX7 := Lib.hid (Gr.ext_trans HX6.out hx)
    have HA7 := Lib.hid (KAt.ext HA6.out hx)
    have HB7 := Lib.hid (KAt.ext HB6.out hx)
    have HC7 := Lib.hid (KAt.ext HC6.out hx)
    try go_simp
    refine hK.out _ _ (hx) ?_
    clear hK K
    clear hx HX6 HA6 HB6 HC6
    refine Gr.walk_c (fun K hK => ?_)
    go_simp
    refine (kpre_any HKB.out HKC.out w7).mono ?_
    rintro e w8 ⟨rfl, hx⟩
    rw [← HN.out]
    have HX8 := Lib.hid (Gr.ext_trans HX7.out hx)
    have HA8 := Lib.hid (KAt.ext HA7.out hx)
    have HB8 := Lib.hid (KAt.ext HB7.out hx)
    have HC8 := Lib.hid (KAt.ext HC7.out hx)
    try go_simp
    refine hK.out _ _ (hx) ?_
    clear hK K
    clear hx HX7 HA7 HB7 HC7
    iterate 3
      refine Gr.walk_t ?_ (Or.inl ⟨by rfl, ?_⟩) ?_
      rotate_left
      · intro w' hw'
        clear hw'
        go_simp
        try with_reducible rfl
      simp only [Act.put, List.setIfInBounds_toArray, List.set_cons_zero, List.set_cons_succ]
    refine Gr.walk_t _ (Or.inl ⟨by rfl, fun w' hw' => (KAt.ext HA8.out hw').yields HLA.out rfl rfl⟩) ?_
    simp only [Act.put, List.setIfInBounds_toArray, List.set_cons_zero, List.set_cons_succ]
    refine Gr.walk_t _ (Or.inl ⟨by rfl, fun w' hw' => (KAt.ext HC8.out hw').yields HLC.out rfl rfl⟩) ?_
    simp only [Act.put, List.setIfInBounds_toArray, List.set_cons_zero, List.set_cons_succ]
    refine Gr.walk_t _ (Or.inl ⟨by rfl, fun w' hw' => (KAt.ext HB8.out hw').yields HLB.out rfl rfl⟩) ?_
    simp only [Act.put, List.setIfInBounds_toArray, List.set_cons_zero, List.set_cons_succ]
    refine Gr.walk_t _ (Or.inl ⟨by rfl, fun w' hw' => (KAt.ext HC8.out hw').yields HLC.out rfl rfl⟩) ?_
    simp only [Act.put, List.setIfInBounds_toArray, List.set_cons_zero, List.set_cons_succ]
    refine Gr.walk_c (fun K hK => ?_)
    go_simp
    refine (kdist_any HKA.out HKC.out w8).mono ?_
    rintro e w9 ⟨rfl, hx⟩
    rw [← HD.out]
    have HX9 := Lib.hid (Gr.ext_trans HX8.out hx)
    have HA9 := Lib.hid (KAt.ext HA8.out hx)
    have HB9 := Lib.hid (KAt.ext HB8.out hx)
    have HC9 := Lib.hid (KAt.ext HC8.out hx)
    try go_simp
    refine hK.out _ _ (hx) ?_
    clear hK K
    clear hx HX8 HA8 HB8 HC8
    refine Gr.walk_c (fun K hK => ?_)
    go_simp
    refine (kdist_any HKB.out HKC.out w9).mono ?_
    rintro e w10 ⟨rfl, hx⟩
    rw [← HF.out]
    have HX10 := Lib.hid (Gr.ext_trans HX9.out hx)
    have HA10 := Lib.hid (KAt.ext HA9.out hx)
    have HB10 := Lib.hid (KAt.ext HB9.out hx)
    have HC10 := Lib.hid (KAt.ext HC9.out hx)
    try go_simp
    refine hK.out _ _ (hx) ?_
    clear hK K
    clear hx HX9 HA9 HB9 HC9
    refine Gr.walk_c (fun K hK => ?_)
    go_simp
    refine (kless_any HKD.out HKF.out w10).mono ?_
    rintro e w11 ⟨rfl, hx⟩
    rw [HPL.out HGT.out]
    have HX11 := Lib.hid (Gr.ext_trans HX10.out hx)
    have HA11 := Lib.hid (KAt.ext HA10.out hx)
    have HB11 := Lib.hid (KAt.ext HB10.out hx)
    have HC11 := Lib.hid (KAt.ext HC10.out hx)
    try go_simp
    refine hK.out _ _ (hx) ?_
    clear hK K
    clear hx HX10 HA10 HB10 HC10
    refine Gr.walk_t ?_ (Or.inl ⟨by rfl, ?_⟩) ?_
    rotate_left
    · intro w' hw'
      clear hw'
      go_simp
      try with_reducible rfl
    simp only [Act.put, List.setIfInBounds_toArray, List.set_cons_zero, List.set_cons_succ]
    refine Gr.walk_nil ?_
    go_wp2
    go_ret
    exact ⟨rfl, Gr.below_of HX11.out⟩
  · have HH1 := Lib.hid h1; clear h1
    have HH2 := Lib.hid h2; clear h2
    have hg2 : decide ((n : Int) < (m : Int)) = true := by exact decide_eq_true (by omega)
    have hg3 : decide (n < m) = true := by exact decide_eq_true (by omega)
    have hg4 : decide ((m : Int) ≤ (n : Int)) = false := by exact decide_eq_false (by omega)
    have hg5 : decide (m ≤ n) = false := by exact decide_eq_false (by omega)
    have HGT := Lib.hid hgt; clear hgt
    refine Gr.region 36 [(false,0),(false,1),(false,2),(false,3),(false,4),(true,5),(false,6),(false,7),(false,8),(false,9),(false,10),(false,11),(false,12),(false,13),(false,15),(false,16),(true,14),(true,17),(false,18),(false,19),(false,20),(false,21),(false,22),(false,23),(true,24),(false,25),(false,26),(false,27),(true,28),(false,29),(false,30),(false,31),(false,32),(true,33),(false,34),(false,35)] (by kernel_rfl) (by kernel_rfl) (fun d _ _ _ _ h => by cases d <;> exact h) ?_
    simp only [Gr.pick, List.getElem?_cons_zero, List.getElem?_cons_succ, List.drop_succ_cons, List.drop_zero]
    generalize w2.drew = w3 at *
    iterate 3
      refine Gr.walk_t ?_ (Or.inl ⟨by rfl, ?_⟩) ?_
      rotate_left
      · intro w' hw'
        clear hw'
        go_simp
        try with_reducible rfl
      simp only [Act.put, List.setIfInBounds_toArray, List.set_cons_zero, List.set_cons_succ]
    refine Gr.walk_t _ (Or.inl ⟨by rfl, fun w' hw' => (KAt.ext HA3.out hw').yields HLA.out rfl rfl⟩) ?_
    simp only [Act.put, List.setIfInBounds_toArray, List.set_cons_zero, List.set_cons_succ]
    refine Gr.walk_t _ (Or.inl ⟨by rfl, fun w' hw' => (KAt.ext HA3.out hw').yields HLA.out rfl rfl⟩) ?_
    simp only [Act.put, List.setIfInBounds_toArray, List.set_cons_zero, List.set_cons_succ]
    refine Gr.walk_c (fun K hK => ?_)
    go_simp
    refine (kless_any HKA.out HKA.out w3).mono ?_
    rintro e w4 ⟨rfl, hx⟩
    rw [HAA.out]
    have HX4 := Lib.hid (Gr.ext_trans HX3.out hx)
    have HA4 := Lib.hid (KAt.ext HA3.out hx)
    have HB4 := Lib.hid (KAt.ext HB3.out hx)
    have HC4 := Lib.hid (KAt.ext HC3.out hx)
    try go_simp
    refine hK.out _ _ (hx) ?_
    clear hK K
    clear hx HX3 HA3 HB3 HC3
    iterate 2
      refine Gr.walk_t ?_ (Or.inl ⟨by rfl, ?_⟩) ?_
      rotate_left
      · intro w' hw'
        clear hw'
        go_simp
        try with_reducible rfl
      simp only [Act.put, List.setIfInBounds_toArray, List.set_cons_zero, List.set_cons_succ]
    refine Gr.walk_t _ (Or.inl ⟨by rfl, fun w' hw' => (KAt.ext HA4.out hw').yields HLA.out rfl rfl⟩) ?_
    simp only [Act.put, List.setIfInBounds_toArray, List.set_cons_zero, List.set_cons_succ]
    refine Gr.walk_t _ (Or.inl ⟨by rfl, fun w' hw' => (KAt.ext HB4.out hw').yields HLB.out rfl rfl⟩) ?_
    simp only [Act.put, List.setIfInBounds_toArray, List.set_cons_zero, List.set_cons_succ]
    refine Gr.walk_t ?_ (Or.inl ⟨by rfl, ?_⟩) ?_
    rotate_left
    · intro w' hw'
      have he := hab w'
      clear hw'
      go_simp
      try with_reducible rfl
    simp only [Act.put, List.setIfInBounds_toArray, List.set_cons_zero, List.set_cons_succ]
    refine Gr.walk_t ?_ (Or.inl ⟨by rfl, ?_⟩) ?_
    rotate_left
    · intro w' hw'
      clear hw'
      go_simp
      try with_reducible rfl
    simp only [Act.put, List.setIfInBounds_toArray, List.set_cons_zero, List.set_cons_succ]
    refine Gr.walk_t _ (Or.inl ⟨by rfl, fun w' hw' => (KAt.ext HA4.out hw').yields HLA.out rfl rfl⟩) ?_
    simp only [Act.put, List.setIfInBounds_toArray, List.set_cons_zero, List.set_cons_succ]
    refine Gr.walk_t _ (Or.inl ⟨by rfl, fun w' hw' => (KAt.ext HB4.out hw').yields HLB.out rfl rfl⟩) ?_
    simp only [Act.put, List.setIfInBounds_toArray, List.set_cons_zero, List.set_cons_succ]
    refine Gr.walk_t _ (Or.inl ⟨by rfl, fun w' hw' => (KAt.ext HB4.out hw').yields HLB.out rfl rfl⟩) ?_
    simp only [Act.put, List.setIfInBounds_toArray, List.set_cons_zero, List.set_cons_succ]
    refine Gr.walk_t _ (Or.inl ⟨by rfl, fun w' hw' => (KAt.ext HA4.out hw').yields HLA.out rfl rfl⟩) ?_
    simp only [Act.put, List.setIfInBounds_toArray, List.set_cons_zero, List.set_cons_succ]
    refine Gr.walk_c (fun K hK => ?_)
    go_simp
    refine (kless_any HKA.out HKB.out w4).mono ?_
    rintro e w5 ⟨rfl, hx⟩
    rw [HH1.out]
    have HX5 := Lib.hid (Gr.ext_trans HX4.out hx)
    have HA5 := Lib.hid (KAt.ext HA4.out hx)
    have HB5 := Lib.hid (KAt.ext HB4.out hx)
    have HC5 := Lib.hid (KAt.ext HC4.out hx)
    try go_simp
    refine hK.out _ _ (hx) ?_
    clear hK K
    clear hx HX4 HA4 HB4 HC4
    refine Gr.walk_c (fun K hK => ?_)
    go_simp
    refine (kless_any HKB.out HKA.out w5).mono ?_
    rintro e w6 ⟨rfl, hx⟩
    rw [HH2.out]
    have HX6 := Lib.hid (Gr.ext_trans HX5.out hx)
    have HA6 := Lib.hid (KAt.ext HA5.out hx)
    have HB6 := Lib.hid (KAt.ext HB5.out hx)
    have HC6 := Lib.hid (KAt.ext HC5.out hx)
    try go_simp
    refine hK.out _ _ (hx) ?_
    clear hK K
    clear hx HX5 HA5 HB5 HC5
    iterate 4
      refine Gr.walk_t ?_ (Or.inl ⟨by rfl, ?_⟩) ?_
      rotate_left
      · intro w' hw'
        clear hw'
        go_simp
        try with_reducible rfl
      simp only [Act.put, List.setIfInBounds_toArray, List.set_cons_zero, List.set_cons_succ]
    refine Gr.walk_t _ (Or.inl ⟨by rfl, fun w' hw' => (KAt.ext HA6.out hw').yields HLA.out rfl rfl⟩) ?_
    simp only [Act.put, List.setIfInBounds_toArray, List.set_cons_zero, List.set_cons_succ]
    refine Gr.walk_t _ (Or.inl ⟨by rfl, fun w' hw' => (KAt.ext HB6.out hw').yields HLB.out rfl rfl⟩) ?_
    simp only [Act.put, List.setIfInBounds_toArray, List.set_cons_zero, List.set_cons_succ]
    refine Gr.walk_c (fun K hK => ?_)
    go_simp
    refine (kless_any HKA.out HKB.out w6).mono ?_
    rintro e w7 ⟨rfl, hx⟩
    rw [HH1.out]
    have HX7 := Lib.hid (Gr.ext_trans HX6.out hx)
    have HA7 := Lib.hid (KAt.ext HA6.out hx)
    have HB7 := Lib.hid (KAt.ext HB6.out hx)
    have HC7 := Lib.hid (KAt.ext HC6.out hx)
    try go_simp
    refine hK.out _ _ (hx) ?_
    clear hK K
    clear hx HX6 HA6 HB6 HC6
    refine Gr.walk_t ?_ (Or.inl ⟨by rfl, ?_⟩) ?_
    rotate_left
    · intro w' hw'
      clear hw'
      go_simp
      try with_reducible rfl
    simp only [Act.put, List.setIfInBounds_toArray, List.set_cons_zero, List.set_cons_succ]
    refine Gr.walk_t _ (Or.inr ⟨by rfl, rfl⟩) ?_
    simp only [Act.put, List.setIfInBounds_toArray, List.set_cons_zero, List.set_cons_succ]
    refine Gr.walk_t _ (Or.inr ⟨by rfl, rfl⟩) ?_
    simp only [Act.put, List.setIfInBounds_toArray, List.set_cons_zero, List.set_cons_succ]
    refine Gr.walk_c (fun K hK => ?_)
    rw [if_neg (by intro h; cases h)]
    refine hK.out _ _ (Gr.ext_refl _) ?_
    clear hK K
    simp only [Act.put, List.setIfInBounds_toArray, List.set_cons_zero, List.set_cons_succ]
    iterate 2
      refine Gr.walk_t ?_ (Or.inl ⟨by rfl, ?_⟩) ?_
      rotate_left
      · intro w' hw'
        clear hw'
        go_simp
        try with_reducible rfl
      simp only [Act.put, List.setIfInBounds_toArray, List.set_cons_zero, List.set_cons_succ]
    refine Gr.walk_t _ (Or.inr ⟨by rfl, rfl⟩) ?_
    simp only [Act.put, List.setIfInBounds_toArray, List.set_cons_zero, List.set_cons_succ]
    refine Gr.walk_t _ (Or.inr ⟨by rfl, rfl⟩) ?_
    simp only [Act.put, List.setIfInBounds_toArray, List.set_cons_zero, List.set_cons_succ]
    refine Gr.walk_c (fun K hK => ?_)
    rw [if_neg (by intro h; cases h)]
    refine hK.out _ _ (Gr.ext_refl _) ?_
    clear hK K
    simp only [Act.put, List.setIfInBounds_toArray, List.set_cons_zero, List.set_cons_succ]
    refine Gr.walk_t _ (Or.inr ⟨by rfl, rfl⟩) ?_
    simp only [Act.put, List.setIfInBounds_toArray, List.set_cons_zero, List.set_cons_succ]
    refine Gr.walk_t ?_ (Or.inl ⟨by rfl, ?_⟩) ?_
    rotate_left
    · intro w' hw'
      clear hw'
      go_simp
      try with_reducible rfl
    simp only [Act.put, List.setIfInBounds_toArray, List.set_cons_zero, List.set_cons_succ]
    refine Gr.walk_nil ?_
    go_upto_region 4 with fail
    have HX8 := Lib.hid (Gr.ext_drew HX7.out)
    have HA8 := Lib.hid (World.rowIs.drew HA7.out)
    have HB8 := Lib.hid (World.rowIs.drew HB7.out)
    have HC8 := Lib.hid (World.rowIs.drew HC7.out)
    clear HX7 HA7 HB7 HC7
    refine Gr.region 17 [(false,0),(false,1),(false,3),(false,4),(true,2),(true,5),(false,6),(false,7),(false,8),(false,9),(false,10),(false,12),(false,13),(true,11),(true,14),(true,15),(false,16)] (by kernel_rfl) (by kernel_rfl) (fun d _ _ _ _ h => by cases d <;> exact h) ?_
    simp only [Gr.pick, List.getElem?_cons_zero, List.getElem?_cons_succ, List.drop_succ_cons, List.drop_zero]
    generalize w7.drew = w8 at *
    refine Gr.walk_t _ (Or.inl ⟨by rfl, fun w' hw' => (KAt.ext HA8.out hw').yields HLA.out rfl rfl⟩) ?_
    simp only [Act.put, List.setIfInBounds_toArray, List.set_cons_zero, List.set_cons_succ]
    refine Gr.walk_t _ (Or.inl ⟨by rfl, fun w' hw' => (KAt.ext HC8.out hw').yields HLC.out rfl rfl⟩) ?_
    simp only [Act.put, List.setIfInBounds_toArray, List.set_cons_zero, List.set_cons_succ]
    refine Gr.walk_t _ (Or.inl ⟨by rfl, fun w' hw' => (KAt.ext HB8.out hw').yields HLB.out rfl rfl⟩) ?_
    simp only [Act.put, List.setIfInBounds_toArray, List.set_cons_zero, List.set_cons_succ]
    refine Gr.walk_t _ (Or.inl ⟨by rfl, fun w' hw' => (KAt.ext HC8.out hw').yields HLC.out rfl rfl⟩) ?_
    simp only [Act.put, List.setIfInBounds_toArray, List.set_cons_zero, List.set_cons_succ]
    refine Gr.walk_c (fun K hK => ?_)
    go_simp
    refine (kpre_any HKA.out HKC.out w8).mono ?_
    rintro e w9 ⟨rfl, hx⟩
    rw [← HM.out]
    have HX9 := Lib.hid (Gr.ext_trans HX8.out hx)
    have HA9 := Lib.hid (KAt.ext HA8.out hx)
    have HB9 := Lib.hid (KAt.ext HB8.out hx)
    have HC9 := Lib.hid (KAt.ext HC8.out hx)
    try go_simp
    refine hK.out _ _ (hx) ?_
    clear hK K
    clear hx HX8 HA8 HB8 HC8
    refine Gr.walk_c (fun K hK => ?_)
    go_simp
    refine (kpre_any HKB.out HKC.out w9).mono ?_
    rintro e w10 ⟨rfl, hx⟩
    rw [← HN.out]
    have HX10 := Lib.hid (Gr.ext_trans HX9.out hx)
    have HA10 := Lib.hid (KAt.ext HA9.out hx)
    have HB10 := Lib.hid (KAt.ext HB9.out hx)
    have HC10 := Lib.hid (KAt.ext HC9.out hx)
    try go_simp
    refine hK.out _ _ (hx) ?_
    clear hK K
    clear hx HX9 HA9 HB9 HC9
    iterate 3
      refine Gr.walk_t ?_ (Or.inl ⟨by rfl, ?_⟩) ?_
      rotate_left
      · intro w' hw'
        clear hw'
        go_simp
        try with_reducible rfl
      simp only [Act.put, List.setIfInBounds_toArray, List.set_cons_zero, List.set_cons_succ]
    refine Gr.walk_t _ (Or.inl ⟨by rfl, fun w' hw' => (KAt.ext HA10.out hw').yields HLA.out rfl rfl⟩) ?_
    simp only [Act.put, List.setIfInBounds_toArray, List.set_cons_zero, List.set_cons_succ]
    refine Gr.walk_t _ (Or.inl ⟨by rfl, fun w' hw' => (KAt.ext HC10.out hw').yields HLC.out rfl rfl⟩) ?_
    simp only [Act.put, List.setIfInBounds_toArray, List.set_cons_zero, List.set_cons_succ]
    refine Gr.walk_t _ (Or.inl ⟨by rfl, fun w' hw' => (KAt.ext HB10.out hw').yields HLB.out rfl rfl⟩) ?_
    simp only [Act.put, List.setIfInBounds_toArray, List.set_cons_zero, List.set_cons_succ]
    refine Gr.walk_t _ (Or.inl ⟨by rfl, fun w' hw' => (KAt.ext HC10.out hw').yields HLC.out rfl rfl⟩) ?_
    simp only [Act.put, List.setIfInBounds_toArray, List.set_cons_zero, List.set_cons_succ]
    refine Gr.walk_c (fun K hK => ?_)
    go_simp
    refine (kdist_any HKA.out HKC.out w10).mono ?_
    rintro e w11 ⟨rfl, hx⟩
    rw [← HD.out]
    have HX11 := Lib.hid (Gr.ext_trans HX10.out hx)
    have HA11 := Lib.hid (KAt.ext HA10.out hx)
    have HB11 := Lib.hid (KAt.ext HB10.out hx)
    have HC11 := Lib.hid (KAt.ext HC10.out hx)
    try go_simp
    refine hK.out _ _ (hx) ?_
    clear hK K
    clear hx HX10 HA10 HB10 HC10
    refine Gr.walk_c (fun K hK => ?_)
    go_simp
    refine (kdist_any HKB.out HKC.out w11).mono ?_
    rintro e w12 ⟨rfl, hx⟩
    rw [← HF.out]
    have HX12 := Lib.hid (Gr.ext_trans HX11.out hx)
    have HA12 := Lib.hid (KAt.ext HA11.out hx)
    have HB12 := Lib.hid (KAt.ext HB11.out hx)
    have HC12 := Lib.hid (KAt.ext HC11.out hx)
    try go_simp
    refine hK.out _ _ (hx) ?_
    clear hK K
    clear hx HX11 HA11 HB11 HC11
    refine Gr.walk_c (fun K hK => ?_)
    go_simp
    refine (kless_any HKD.out HKF.out w12).mono ?_
    rintro e w13 ⟨rfl, hx⟩
    rw [HPL.out HGT.out]
    have HX13 := Lib.hid (Gr.ext_trans HX12.out hx)
    have HA13 := Lib.hid (KAt.ext HA12.out hx)
    have HB13 := Lib.hid (KAt.ext HB12.out hx)
    have HC13 := Lib.hid (KAt.ext HC12.out hx)
    try go_simp
    refine hK.out _ _ (hx) ?_
    clear hK K
    clear hx HX12 HA12 HB12 HC12
    refine Gr.walk_t ?_ (Or.inl ⟨by rfl, ?_⟩) ?_
    rotate_left
    · intro w' hw'
      clear hw'
      go_simp
      try with_reducible rfl
    simp only [Act.put, List.setIfInBounds_toArray, List.set_cons_zero, List.set_cons_succ]
    refine Gr.walk_nil ?_
    go_wp2
    go_ret
    exact ⟨rfl, Gr.below_of HX13.out⟩
  · have HH1 := Lib.hid h1; clear h1
    have HH2 := Lib.hid h2; clear h2
    have HH3 := Lib.hid h3; clear h3
    have hg3 : decide ((n : Int) < (m : Int)) = true := by exact decide_eq_true (by omega)
    have hg4 : decide (n < m) = true := by exact decide_eq_true (by omega)
    have hg5 : decide ((m : Int) ≤ (n : Int)) = false := by exact decide_eq_false (by omega)
    have hg6 : decide (m ≤ n) = false := by exact decide_eq_false (by omega)
    have HGT := Lib.hid hgt; clear hgt
    refine Gr.region 36 [(false,0),(false,1),(false,2),(false,3),(false,4),(true,5),(false,6),(false,7),(false,8),(false,9),(false,10),(false,11),(false,12),(false,13),(false,15),(false,16),(true,14),(true,17),(false,18),(false,19),(false,20),(false,21),(false,22),(false,23),(true,24),(false,25),(false,26),(false,27),(true,28),(false,29),(false,30),(false,31),(false,32),(true,33),(false,34),(false,35)] (by kernel_rfl) (by kernel_rfl) (fun d _ _ _ _ h => by cases d <;> exact h) ?_
    simp only [Gr.pick, List.getElem?_cons_zero, List.getElem?_cons_succ, List.drop_succ_cons, List.drop_zero]
    generalize w2.drew = w3 at *
    iterate 3
      refine Gr.walk_t ?_ (Or.inl ⟨by rfl, ?_⟩) ?_
      rotate_left
      · intro w' hw'
        clear hw'
        go_simp
        try with_reducible rfl
      simp only [Act.put, List.setIfInBounds_toArray, List.set_cons_zero, List.set_cons_succ]
    refine Gr.walk_t _ (Or.inl ⟨by rfl, fun w' hw' => (KAt.ext HA3.out hw').yields HLA.out rfl rfl⟩) ?_
    simp only [Act.put, List.setIfInBounds_toArray, List.set_cons_zero, List.set_cons_succ]
    refine Gr.walk_t _ (Or.inl ⟨by rfl, fun w' hw' => (KAt.ext HA3.out hw').yields HLA.out rfl rfl⟩) ?_
    simp only [Act.put, List.setIfInBounds_toArray, List.set_cons_zero, List.set_cons_succ]
    refine Gr.walk_c (fun K hK => ?_)
    go_simp
    refine (kless_any HKA.out HKA.out w3).mono ?_
    rintro e w4 ⟨rfl, hx⟩
    rw [HAA.out]
    have HX4 := Lib.hid (Gr.ext_trans HX3.out hx)
    have HA4 := Lib.hid (KAt.ext HA3.out hx)
    have HB4 := Lib.hid (KAt.ext HB3.out hx)
    have HC4 := Lib.hid (KAt.ext HC3.out hx)
    try go_simp
    refine hK.out _ _ (hx) ?_
    clear hK K
    clear hx HX3 HA3 HB3 HC3
    iterate 2
      refine Gr.walk_t ?_ (Or.inl ⟨by rfl, ?_⟩) ?_
      rotate_left
      · intro w' hw'
        clear hw'
        go_simp
        try with_reducible rfl
      simp only [Act.put, List.setIfInBounds_toArray, List.set_cons_zero, List.set_cons_succ]
    refine Gr.walk_t _ (Or.inl ⟨by rfl, fun w' hw' => (KAt.ext HA4.out hw').yields HLA.out rfl rfl⟩) ?_
    simp only [Act.put, List.setIfInBounds_toArray, List.set_cons_zero, List.set_cons_succ]
    refine Gr.walk_t _ (Or.inl ⟨by rfl, fun w' hw' => (KAt.ext HB4.out hw').yields HLB.out rfl rfl⟩) ?_
    simp only [Act.put, List.setIfInBounds_toArray, List.set_cons_zero, List.set_cons_succ]
    refine Gr.walk_t ?_ (Or.inl ⟨by rfl, ?_⟩) ?_
    rotate_left
    · intro w' hw'
      have he := hab w'
      clear hw'
      go_simp
      try with_reducible rfl
    simp only [Act.put, List.setIfInBounds_toArray, List.set_cons_zero, List.set_cons_succ]
    refine Gr.walk_t ?_ (Or.inl ⟨by rfl, ?_⟩) ?_
    rotate_left
    · intro w' hw'
      clear hw'
      go_simp
      try with_reducible rfl
    simp only [Act.put, List.setIfInBounds_toArray, List.set_cons_zero, List.set_cons_succ]
    refine Gr.walk_t _ (Or.inl ⟨by rfl, fun w' hw' => (KAt.ext HA4.out hw').yields HLA.out rfl rfl⟩) ?_
    simp only [Act.put, List.setIfInBounds_toArray, List.set_cons_zero, List.set_cons_succ]
    refine Gr.walk_t _ (Or.inl ⟨by rfl, fun w' hw' => (KAt.ext HB4.out hw').yields HLB.out rfl rfl⟩) ?_
    simp only [Act.put, List.setIfInBounds_toArray, List.set_cons_zero, List.set_cons_succ]
    refine Gr.walk_t _ (Or.inl ⟨by rfl, fun w' hw' => (KAt.ext HB4.out hw').yields HLB.out rfl rfl⟩) ?_
    simp only [Act.put, List.setIfInBounds_toArray, List.set_cons_zero, List.set_cons_succ]
    refine Gr.walk_t _ (Or.inl ⟨by rfl, fun w' hw' => (KAt.ext HA4.out hw').yields HLA.out rfl rfl⟩) ?_
    simp only [Act.put, List.setIfInBounds_toArray, List.set_cons_zero, List.set_cons_succ]
    refine Gr.walk_c (fun K hK => ?_)
    go_simp
    refine (kless_any HKA.out HKB.out w4).mono ?_
    rintro e w5 ⟨rfl, hx⟩
    rw [HH1.out]
    have HX5 := Lib.hid (Gr.ext_trans HX4.out hx)
    have HA5 := Lib.hid (KAt.ext HA4.out hx)
    have HB5 := Lib.hid (KAt.ext HB4.out hx)
    have HC5 := Lib.hid (KAt.ext HC4.out hx)
    try go_simp
    refine hK.out _ _ (hx) ?_
    clear hK K
    clear hx HX4 HA4 HB4 HC4
    refine Gr.walk_c (fun K hK => ?_)
    go_simp
    refine (kless_any HKB.out HKA.out w5).mono ?_
    rintro e w6 ⟨rfl, hx⟩
    rw [HH2.out]
    have HX6 := Lib.hid (Gr.ext_trans HX5.out hx)
    have HA6 := Lib.hid (KAt.ext HA5.out hx)
    have HB6 := Lib.hid (KAt.ext HB5.out hx)
    have HC6 := Lib.hid (KAt.ext HC5.out hx)
    try go_simp
    refine hK.out _ _ (hx) ?_
    clear hK K
    clear hx HX5 HA5 HB5 HC5
    iterate 4
      refine Gr.walk_t ?_ (Or.inl ⟨by rfl, ?_⟩) ?_
      rotate_left
      · intro w' hw'
        clear hw'
        go_simp
        try with_reducible rfl
      simp only [Act.put, List.setIfInBounds_toArray, List.set_cons_zero, List.set_cons_succ]
    refine Gr.walk_t _ (Or.inl ⟨by rfl, fun w' hw' => (KAt.ext HA6.out hw').yields HLA.out rfl rfl⟩) ?_
    simp only [Act.put, List.setIfInBounds_toArray, List.set_cons_zero, List.set_cons_succ]
    refine Gr.walk_t _ (Or.inl ⟨by rfl, fun w' hw' => (KAt.ext HB6.out hw').yields HLB.out rfl rfl⟩) ?_
    simp only [Act.put, List.setIfInBounds_toArray, List.set_cons_zero, List.set_cons_succ]
    refine Gr.walk_c (fun K hK => ?_)
    go_simp
    refine (kless_any HKA.out HKB.out w6).mono ?_
    rintro e w7 ⟨rfl, hx⟩
    rw [HH1.out]
    have HX7 := Lib.hid (Gr.ext_trans HX6.out hx)
    have HA7 := Lib.hid (KAt.ext HA6.out hx)
    have HB7 := Lib.hid (KAt.ext HB6.out hx)
    have HC7 := Lib.hid (KAt.ext HC6.out hx)
    try go_simp
    refine hK.out _ _ (hx) ?_
    clear hK K
    clear hx HX6 HA6 HB6 HC6
    refine Gr.walk_t ?_ (Or.inl ⟨by rfl, ?_⟩) ?_
    rotate_left
    · intro w' hw'
      clear hw'
      go_simp
      try with_reducible rfl
    simp only [Act.put, List.setIfInBounds_toArray, List.set_cons_zero, List.set_cons_succ]
    refine Gr.walk_t _ (Or.inl ⟨by rfl, fun w' hw' => (KAt.ext HB7.out hw').yields HLB.out rfl rfl⟩) ?_
    simp only [Act.put, List.setIfInBounds_toArray, List.set_cons_zero, List.set_cons_succ]
    refine Gr.walk_t _ (Or.inl ⟨by rfl, fun w' hw' => (KAt.ext HC7.out hw').yields HLC.out rfl rfl⟩) ?_
    simp only [Act.put, List.setIfInBounds_toArray, List.set_cons_zero, List.set_cons_succ]
    refine Gr.walk_c (fun K hK => ?_)
    go_simp
    refine (kless_any HKB.out HKC.out w7).mono ?_
    rintro e w8 ⟨rfl, hx⟩
    rw [HH3.out]
    have HX8 := Lib.hid (Gr.ext_trans HX7.out hx)
    have HA8 := Lib.hid (KAt.ext HA7.out hx)
    have HB8 := Lib.hid (KAt.ext HB7.out hx)
    have HC8 := Lib.hid (KAt.ext HC7.out hx)
    try go_simp
    refine hK.out _ _ (hx) ?_
    clear hK K
    clear hx HX7 HA7 HB7 HC7
    iterate 2
      refine Gr.walk_t ?_ (Or.inl ⟨by rfl, ?_⟩) ?_
      rotate_left
      · intro w' hw'
        clear hw'
        go_simp
        try with_reducible rfl
      simp only [Act.put, List.setIfInBounds_toArray, List.set_cons_zero, List.set_cons_succ]
    refine Gr.walk_t _ (Or.inr ⟨by rfl, rfl⟩) ?_
    simp only [Act.put, List.setIfInBounds_toArray, List.set_cons_zero, List.set_cons_succ]
    refine Gr.walk_t _ (Or.inr ⟨by rfl, rfl⟩) ?_
    simp only [Act.put, List.setIfInBounds_toArray, List.set_cons_zero, List.set_cons_succ]
    refine Gr.walk_c (fun K hK => ?_)
    rw [if_neg (by intro h; cases h)]
    refine hK.out _ _ (Gr.ext_refl _) ?_
    clear hK K
    simp only [Act.put, List.setIfInBounds_toArray, List.set_cons_zero, List.set_cons_succ]
    refine Gr.walk_t _ (Or.inr ⟨by rfl, rfl⟩) ?_
    simp only [Act.put, List.setIfInBounds_toArray, List.set_cons_zero, List.set_cons_succ]
    refine Gr.walk_t ?_ (Or.inl ⟨by rfl, ?_⟩) ?_
    rotate_left
    · intro w' hw'
      clear hw'
      go_simp
      try with_reducible rfl
    simp only [Act.put, List.setIfInBounds_toArray, List.set_cons_zero, List.set_cons_succ]
    refine Gr.walk_nil ?_
    go_upto_region 4 with fail
    have HX9 := Lib.hid (Gr.ext_drew HX8.out)
    have HA9 := Lib.hid (World.rowIs.drew HA8.out)
    have HB9 := Lib.hid (World.rowIs.drew HB8.out)
    have HC9 := Lib.hid (World.rowIs.drew HC8.out)
    clear HX8 HA8 HB8 HC8
    refine Gr.region 17 [(false,0),(false,1),(false,3),(false,4),(true,2),(true,5),(false,6),(false,7),(false,8),(false,9),(false,10),(false,12),(false,13),(true,11),(true,14),(true,15),(false,16)] (by kernel_rfl) (by kernel_rfl) (fun d _ _ _ _ h => by cases d <;> exact h) ?_
    simp only [Gr.pick, List.getElem?_cons_zero, List.getElem?_cons_succ, List.drop_succ_cons, List.drop_zero]
    generalize w8.drew = w9 at *
    refine Gr.walk_t _ (Or.inl ⟨by rfl, fun w' hw' => (KAt.ext HA9.out hw').yields HLA.out rfl rfl⟩) ?_
    simp only [Act.put, List.setIfInBounds_toArray, List.set_cons_zero, List.set_cons_succ]
    refine Gr.walk_t _ (Or.inl ⟨by rfl, fun w' hw' => (KAt.ext HC9.out hw').yields HLC.out rfl rfl⟩) ?_
    simp only [Act.put, List.setIfInBounds_toArray, List.set_cons_zero, List.set_cons_succ]
    refine Gr.walk_t _ (Or.inl ⟨by rfl, fun w' hw' => (KAt.ext HB9.out hw').yields HLB.out rfl rfl⟩) ?_
    simp only [Act.put, List.setIfInBounds_toArray, List.set_cons_zero, List.set_cons_succ]
    refine Gr.walk_t _ (Or.inl ⟨by rfl, fun w' hw' => (KAt.ext HC9.out hw').yields HLC.out rfl rfl⟩) ?_
    simp only [Act.put, List.setIfInBounds_toArray, List.set_cons_zero, List.set_cons_succ]
    refine Gr.walk_c (fun K hK => ?_)
    go_simp
    refine (kpre_any HKA.out HKC.out w9).mono ?_
    rintro e w10 ⟨rfl, hx⟩
    rw [← HM.out]
    have HX10 := Lib.hid (Gr.ext_trans HX9.out hx)
    have HA10 := Lib.hid (KAt.ext HA9.out hx)
    have HB10 := Lib.hid (KAt.ext HB9.out hx)
    have HC10 := Lib.hid (KAt.ext HC9.out hx)
    try go_simp
    refine hK.out _ _ (hx) ?_
    clear hK K
    clear hx HX9 HA9 HB9 HC9
    refine Gr.walk_c (fun K hK => ?_)
    go_simp
    refine (kpre_any HKB.out HKC.out w10).mono ?_
    rintro e w11 ⟨rfl, hx⟩
    rw [← HN.out]
    have HX11 := Lib.hid (Gr.ext_trans HX10.out hx)
    have HA11 := Lib.hid (KAt.ext HA10.out hx)
    have HB11 := Lib.hid (KAt.ext HB10.out hx)
    have HC11 := Lib.hid (KAt.ext HC10.out hx)
    try go_simp
    refine hK.out _ _ (hx) ?_
    clear hK K
    clear hx HX10 HA10 HB10 HC10
    iterate 3
      refine Gr.walk_t ?_ (Or.inl ⟨by rfl, ?_⟩) ?_
      rotate_left
      · intro w' hw'
        clear hw'
        go_simp
        try with_reducible rfl
      simp only [Act.put, List.setIfInBounds_toArray, List.set_cons_zero, List.set_cons_succ]
    refine Gr.walk_t _ (Or.inl ⟨by rfl, fun w' hw' => (KAt.ext HA11.out hw').yields HLA.out rfl rfl⟩) ?_
    simp only [Act.put, List.setIfInBounds_toArray, List.set_cons_zero, List.set_cons_succ]
    refine Gr.walk_t _ (Or.inl ⟨by rfl, fun w' hw' => (KAt.ext HC11.out hw').yields HLC.out rfl rfl⟩) ?_
    simp only [Act.put, List.setIfInBounds_toArray, List.set_cons_zero, List.set_cons_succ]
    refine Gr.walk_t _ (Or.inl ⟨by rfl, fun w' hw' => (KAt.ext HB11.out hw').yields HLB.out rfl rfl⟩) ?_
    simp only [Act.put, List.setIfInBounds_toArray, List.set_cons_zero, List.set_cons_succ]
    refine Gr.walk_t _ (Or.inl ⟨by rfl, fun w' hw' => (KAt.ext HC11.out hw').yields HLC.out rfl rfl⟩) ?_
    simp only [Act.put, List.setIfInBounds_toArray, List.set_cons_zero, List.set_cons_succ]
    refine Gr.walk_c (fun K hK => ?_)
    go_simp
    refine (kdist_any HKA.out HKC.out w11).mono ?_
    rintro e w12 ⟨rfl, hx⟩
    rw [← HD.out]
    have HX12 := Lib.hid (Gr.ext_trans HX11.out hx)
    have HA12 := Lib.hid (KAt.ext HA11.out hx)
    have HB12 := Lib.hid (KAt.ext HB11.out hx)
    have HC12 := Lib.hid (KAt.ext HC11.out hx)
    try go_simp
    refine hK.out _ _ (hx) ?_
    clear hK K
    clear hx HX11 HA11 HB11 HC11
    refine Gr.walk_c (fun K hK => ?_)
    go_simp
    refine (kdist_any HKB.out HKC.out w12).mono ?_
    rintro e w13 ⟨rfl, hx⟩
    rw [← HF.out]
    have HX13 := Lib.hid (Gr.ext_trans HX12.out hx)
    have HA13 := Lib.hid (KAt.ext HA12.out hx)
    have HB13 := Lib.hid (KAt.ext HB12.out hx)
    have HC13 := Lib.hid (KAt.ext HC12.out hx)
    try go_simp
    refine hK.out _ _ (hx) ?_
    clear hK K
    clear hx HX12 HA12 HB12 HC12
    refine Gr.walk_c (fun K hK => ?_)
    go_simp
    refine (kless_any HKD.out HKF.out w13).mono ?_
    rintro e w14 ⟨rfl, hx⟩
    rw [HPL.out HGT.out]
    have HX14 := Lib.hid (Gr.ext_trans HX13.out hx)
    have HA14 := Lib.hid (KAt.ext HA13.out hx)
    have HB14 := Lib.hid (KAt.ext HB13.out hx)
    have HC14 := Lib.hid (KAt.ext HC13.out hx)
    try go_simp
    refine hK.out _ _ (hx) ?_
    clear hK K
    clear hx HX13 HA13 HB13 HC13
    refine Gr.walk_t ?_ (Or.inl ⟨by rfl, ?_⟩) ?_
    rotate_left
    · intro w' hw'
      clear hw'
      go_simp
      try with_reducible rfl
    simp only [Act.put, List.setIfInBounds_toArray, List.set_cons_zero, List.set_cons_succ]
    refine Gr.walk_nil ?_
    go_wp2
    go_ret
    exact ⟨rfl, Gr.below_of HX14.out⟩
  · have HH1 := Lib.hid h1; clear h1
    have HH2 := Lib.hid h2; clear h2
    have HH3 := Lib.hid h3; clear h3
    have HH4 := Lib.hid h4; clear h4
    have hg4 : decide ((n : Int) < (m : Int)) = true := by exact decide_eq_true (by omega)
    have hg5 : decide (n < m) = true := by exact decide_eq_true (by omega)
    have hg6 : decide ((m : Int) ≤ (n : Int)) = false := by exact decide_eq_false (by omega)
    have hg7 : decide (m ≤ n) = false := by exact decide_eq_false (by omega)
    have HGT := Lib.hid hgt; clear hgt
    refine Gr.region 36 [(false,0),(false,1),(false,2),(false,3),(false,4),(true,5),(false,6),(false,7),(false,8),(false,9),(false,10),(false,11),(false,12),(false,13),(false,15),(false,16),(true,14),(true,17),(false,18),(false,19),(false,20),(false,21),(false,22),(false,23),(true,24),(false,25),(false,26),(false,27),(true,28),(false,29),(false,30),(false,31),(false,32),(true,33),(false,34),(false,35)] (by kernel_rfl) (by kernel_rfl) (fun d _ _ _ _ h => by cases d <;> exact h) ?_
    simp only [Gr.pick, List.getElem?_cons_zero, List.getElem?_cons_succ, List.drop_succ_cons, List.drop_zero]
    generalize w2.drew = w3 at *
    iterate 3
      refine Gr.walk_t ?_ (Or.inl ⟨by rfl, ?_⟩) ?_
      rotate_left
      · intro w' hw'
        clear hw'
        go_simp
        try with_reducible rfl
      simp only [Act.put, List.setIfInBounds_toArray, List.set_cons_zero, List.set_cons_succ]
    refine Gr.walk_t _ (Or.inl ⟨by rfl, fun w' hw' => (KAt.ext HA3.out hw').yields HLA.out rfl rfl⟩) ?_
    simp only [Act.put, List.setIfInBounds_toArray, List.set_cons_zero, List.set_cons_succ]
    refine Gr.walk_t _ (Or.inl ⟨by rfl, fun w' hw' => (KAt.ext HA3.out hw').yields HLA.out rfl rfl⟩) ?_
    simp only [Act.put, List.setIfInBounds_toArray, List.set_cons_zero, List.set_cons_succ]
    refine Gr.walk_c (fun K hK => ?_)
    go_simp
    refine (kless_any HKA.out HKA.out w3).mono ?_
    rintro e w4 ⟨rfl, hx⟩
    rw [HAA.out]
    have HX4 := Lib.hid (Gr.ext_trans HX3.out hx)
    have HA4 := Lib.hid (KAt.ext HA3.out hx)
    have HB4 := Lib.hid (KAt.ext HB3.out hx)
    have HC4 := Lib.hid (KAt.ext HC3.out hx)
    try go_simp
    refine hK.out _ _ (hx) ?_
    clear hK K
    clear hx HX3 HA3 HB3 HC3
    iterate 2
      refine Gr.walk_t ?_ (Or.inl ⟨by rfl, ?_⟩) ?_
      rotate_left
      · intro w' hw'
        clear hw'
        go_simp
        try with_reducible rfl
      simp only [Act.put, List.setIfInBounds_toArray, List.set_cons_zero, List.set_cons_succ]
    refine Gr.walk_t _ (Or.inl ⟨by rfl, fun w' hw' => (KAt.ext HA4.out hw').yields HLA.out rfl rfl⟩) ?_
    simp only [Act.put, List.setIfInBounds_toArray, List.set_cons_zero, List.set_cons_succ]
    refine Gr.walk_t _ (Or.inl ⟨by rfl, fun w' hw' => (KAt.ext HB4.out hw').yields HLB.out rfl rfl⟩) ?_
    simp only [Act.put, List.setIfInBounds_toArray, List.set_cons_zero, List.set_cons_succ]
    refine Gr.walk_t ?_ (Or.inl ⟨by rfl, ?_⟩) ?_
    rotate_left
    · intro w' hw'
      have he := hab w'
      clear hw'
      go_simp
      try with_reducible rfl
    simp only [Act.put, List.setIfInBounds_toArray, List.set_cons_zero, List.set_cons_succ]
    refine Gr.walk_t ?_ (Or.inl ⟨by rfl, ?_⟩) ?_
    rotate_left
    · intro w' hw'
      clear hw'
      go_simp
      try with_reducible rfl
    simp only [Act.put, List.setIfInBounds_toArray, List.set_cons_zero, List.set_cons_succ]
    refine Gr.walk_t _ (Or.inl ⟨by rfl, fun w' hw' => (KAt.ext HA4.out hw').yields HLA.out rfl rfl⟩) ?_
    simp only [Act.put, List.setIfInBounds_toArray, List.set_cons_zero, List.set_cons_succ]
    refine Gr.walk_t _ (Or.inl ⟨by rfl, fun w' hw' => (KAt.ext HB4.out hw').yields HLB.out rfl rfl⟩) ?_
    simp only [Act.put, List.setIfInBounds_toArray, List.set_cons_zero, List.set_cons_succ]
    refine Gr.walk_t _ (Or.inl ⟨by rfl, fun w' hw' => (KAt.ext HB4.out hw').yields HLB.out rfl rfl⟩) ?_
    simp only [Act.put, List.setIfInBounds_toArray, List.set_cons_zero, List.set_cons_succ]
    refine Gr.walk_t _ (Or.inl ⟨by rfl, fun w' hw' => (KAt.ext HA4.out hw').yields HLA.out rfl rfl⟩) ?_
    simp only [Act.put, List.setIfInBounds_toArray, List.set_cons_zero, List.set_cons_succ]
    refine Gr.walk_c (fun K hK => ?_)
    go_simp
    refine (kless_any HKA.out HKB.out w4).mono ?_
    rintro e w5 ⟨rfl, hx⟩
    rw [HH1.out]
    have HX5 := Lib.hid (Gr.ext_trans HX4.out hx)
    have HA5 := Lib.hid (KAt.ext HA4.out hx)
    have HB5 := Lib.hid (KAt.ext HB4.out hx)
    have HC5 := Lib.hid (KAt.ext HC4.out hx)
    try go_simp
    refine hK.out _ _ (hx) ?_
    clear hK K
    clear hx HX4 HA4 HB4 HC4
    refine Gr.walk_c (fun K hK => ?_)
    go_simp
    refine (kless_any HKB.out HKA.out w5).mono ?_
    rintro e w6 ⟨rfl, hx⟩
    rw [HH2.out]
    have HX6 := Lib.hid (Gr.ext_trans HX5.out hx)
    have HA6 := Lib.hid (KAt.ext HA5.out hx)
    have HB6 := Lib.hid (KAt.ext HB5.out hx)
    have HC6 := Lib.hid (KAt.ext HC5.out hx)
    try go_simp
    refine hK.out _ _ (hx) ?_
    clear hK K
    clear hx HX5 HA5 HB5 HC5
    iterate 4
      refine Gr.walk_t ?_ (Or.inl ⟨by rfl, ?_⟩) ?_
      rotate_left
      · intro w' hw'
        clear hw'
        go_simp
        try with_reducible rfl
      simp only [Act.put, List.setIfInBounds_toArray, List.set_cons_zero, List.set_cons_succ]
    refine Gr.walk_t _ (Or.inl ⟨by rfl, fun w' hw' => (KAt.ext HA6.out hw').yields HLA.out rfl rfl⟩) ?_
    simp only [Act.put, List.setIfInBounds_toArray, List.set_cons_zero, List.set_cons_succ]
    refine Gr.walk_t _ (Or.inl ⟨by rfl, fun w' hw' => (KAt.ext HB6.out hw').yields HLB.out rfl rfl⟩) ?_
    simp only [Act.put, List.setIfInBounds_toArray, List.set_cons_zero, List.set_cons_succ]
    refine Gr.walk_c (fun K hK => ?_)
    go_simp
    refine (kless_any HKA.out HKB.out w6).mono ?_
    rintro e w7 ⟨rfl, hx⟩
    rw [HH1.out]
    have HX7 := Lib.hid (Gr.ext_trans HX6.out hx)
    have HA7 := Lib.hid (KAt.ext HA6.out hx)
    have HB7 := Lib.hid (KAt.ext HB6.out hx)
    have HC7 := Lib.hid (KAt.ext HC6.out hx)
    try go_simp
    refine hK.out _ _ (hx) ?_
    clear hK K
    clear hx HX6 HA6 HB6 HC6
    refine Gr.walk_t ?_ (Or.inl ⟨by rfl, ?_⟩) ?_
    rotate_left
    · intro w' hw'
      clear hw'
      go_simp
      try with_reducible rfl
    simp only [Act.put, List.setIfInBounds_toArray, List.set_cons_zero, List.set_cons_succ]
    refine Gr.walk_t _ (Or.inl ⟨by rfl, fun w' hw' => (KAt.ext HB7.out hw').yields HLB.out rfl rfl⟩) ?_
    simp only [Act.put, List.setIfInBounds_toArray, List.set_cons_zero, List.set_cons_succ]
    refine Gr.walk_t _ (Or.inl ⟨by rfl, fun w' hw' => (KAt.ext HC7.out hw').yields HLC.out rfl rfl⟩) ?_
    simp only [Act.put, List.setIfInBounds_toArray, List.set_cons_zero, List.set_cons_succ]
    refine Gr.walk_c (fun K hK => ?_)
    go_simp
    refine (kless_any HKB.out HKC.out w7).mono ?_
    rintro e w8 ⟨rfl, hx⟩
    rw [HH3.out]
    have HX8 := Lib.hid (Gr.ext_trans HX7.out hx)
    have HA8 := Lib.hid (KAt.ext HA7.out hx)
    have HB8 := Lib.hid (KAt.ext HB7.out hx)
    have HC8 := Lib.hid (KAt.ext HC7.out hx)
    try go_simp
    refine hK.out _ _ (hx) ?_
    clear hK K
    clear hx HX7 HA7 HB7 HC7
    iterate 2
      refine Gr.walk_t ?_ (Or.inl ⟨by rfl, ?_⟩) ?_
      rotate_left
      · intro w' hw'
        clear hw'
        go_simp
        try with_reducible rfl
      simp only [Act.put, List.setIfInBounds_toArray, List.set_cons_zero, List.set_cons_succ]
    refine Gr.walk_t _ (Or.inl ⟨by rfl, fun w' hw' => (KAt.ext HA8.out hw').yields HLA.out rfl rfl⟩) ?_
    simp only [Act.put, List.setIfInBounds_toArray, List.set_cons_zero, List.set_cons_succ]
    refine Gr.walk_t _ (Or.inl ⟨by rfl, fun w' hw' => (KAt.ext HC8.out hw').yields HLC.out rfl rfl⟩) ?_
    simp only [Act.put, List.setIfInBounds_toArray, List.set_cons_zero, List.set_cons_succ]
    refine Gr.walk_c (fun K hK => ?_)
    go_simp
    refine (kless_any HKA.out HKC.out w8).mono ?_
    rintro e w9 ⟨rfl, hx⟩
    rw [HH4.out]
    have HX9 := Lib.hid (Gr.ext_trans HX8.out hx)
    have HA9 := Lib.hid (KAt.ext HA8.out hx)
    have HB9 := Lib.hid (KAt.ext HB8.out hx)
    have HC9 := Lib.hid (KAt.ext HC8.out hx)
    try go_simp
    refine hK.out _ _ (hx) ?_
    clear hK K
    clear hx HX8 HA8 HB8 HC8
    refine Gr.walk_t ?_ (Or.inl ⟨by rfl, ?_⟩) ?_
    rotate_left
    · intro w' hw'
      clear hw'
      go_simp
      try with_reducible rfl
    simp only [Act.put, List.setIfInBounds_toArray, List.set_cons_zero, List.set_cons_succ]
    refine Gr.walk_t ?_ (Or.inl ⟨by rfl, ?_⟩) ?_
    rotate_left
    · intro w' hw'
      clear hw'
      go_simp
      try with_reducible rfl
    simp only [Act.put, List.setIfInBounds_toArray, List.set_cons_zero, List.set_cons_succ]
    refine Gr.walk_nil ?_
    go_upto_region 4 with fail
    have HX10 := Lib.hid (Gr.ext_drew HX9.out)
    have HA10 := Lib.hid (World.rowIs.drew HA9.out)
    have HB10 := Lib.hid (World.rowIs.drew HB9.out)
    have HC10 := Lib.hid (World.rowIs.drew HC9.out)
    clear HX9 HA9 HB9 HC9
    refine Gr.region 17 [(false,0),(false,1),(false,3),(false,4),(true,2),(true,5),(false,6),(false,7),(false,8),(false,9),(false,10),(false,12),(false,13),(true,11),(true,14),(true,15),(false,16)] (by kernel_rfl) (by kernel_rfl) (fun d _ _ _ _ h => by cases d <;> exact h) ?_
    simp only [Gr.pick, List.getElem?_cons_zero, List.getElem?_cons_succ, List.drop_succ_cons, List.drop_zero]
    generalize w9.drew = w10 at *
    refine Gr.walk_t _ (Or.inl ⟨by rfl, fun w' hw' => (KAt.ext HA10.out hw').yields HLA.out rfl rfl⟩) ?_
    simp only [Act.put, List.setIfInBounds_toArray, List.set_cons_zero, List.set_cons_succ]
    refine Gr.walk_t _ (Or.inl ⟨by rfl, fun w' hw' => (KAt.ext HC10.out hw').yields HLC.out rfl rfl⟩) ?_
    simp only [Act.put, List.setIfInBounds_toArray, List.set_cons_zero, List.set_cons_succ]
    refine Gr.walk_t _ (Or.inl ⟨by rfl, fun w' hw' => (KAt.ext HB10.out hw').yields HLB.out rfl rfl⟩) ?_
    simp only [Act.put, List.setIfInBounds_toArray, List.set_cons_zero, List.set_cons_succ]
    refine Gr.walk_t _ (Or.inl ⟨by rfl, fun w' hw' => (KAt.ext HC10.out hw').yields HLC.out rfl rfl⟩) ?_
    simp only [Act.put, List.setIfInBounds_toArray, List.set_cons_zero, List.set_cons_succ]
    refine Gr.walk_c (fun K hK => ?_)
    go_simp
    refine (kpre_any HKA.out HKC.out w10).mono ?_
    rintro e w11 ⟨rfl, hx⟩
    rw [← HM.out]
    have HX11 := Lib.hid (Gr.ext_trans HX10.out hx)
    have HA11 := Lib.hid (KAt.ext HA10.out hx)
    have HB11 := Lib.hid (KAt.ext HB10.out hx)
    have HC11 := Lib.hid (KAt.ext HC10.out hx)
    try go_simp
    refine hK.out _ _ (hx) ?_
    clear hK K
    clear hx HX10 HA10 HB10 HC10
    refine Gr.walk_c (fun K hK => ?_)
    go_simp
    refine (kpre_any HKB.out HKC.out w11).mono ?_
    rintro e w12 ⟨rfl, hx⟩
    rw [← HN.out]
    have HX12 := Lib.hid (Gr.ext_trans HX11.out hx)
    have HA12 := Lib.hid (KAt.ext HA11.out hx)
    have HB12 := Lib.hid (KAt.ext HB11.out hx)
    have HC12 := Lib.hid (KAt.ext HC11.out hx)
    try go_simp
    refine hK.out _ _ (hx) ?_
    clear hK K
    clear hx HX11 HA11 HB11 HC11
    iterate 3
      refine Gr.walk_t ?_ (Or.inl ⟨by rfl, ?_⟩) ?_
      rotate_left
      · intro w' hw'
        clear hw'
        go_simp
        try with_reducible rfl
      simp only [Act.put, List.setIfInBounds_toArray, List.set_cons_zero, List.set_cons_succ]
    refine Gr.walk_t _ (Or.inl ⟨by rfl, fun w' hw' => (KAt.ext HA12.out hw').yields HLA.out rfl rfl⟩) ?_
    simp only [Act.put, List.setIfInBounds_toArray, List.set_cons_zero, List.set_cons_succ]
    refine Gr.walk_t _ (Or.inl ⟨by rfl, fun w' hw' => (KAt.ext HC12.out hw').yields HLC.out rfl rfl⟩) ?_
    simp only [Act.put, List.setIfInBounds_toArray, List.set_cons_zero, List.set_cons_succ]
    refine Gr.walk_t _ (Or.inl ⟨by rfl, fun w' hw' => (KAt.ext HB12.out hw').yields HLB.out rfl rfl⟩) ?_
    simp only [Act.put, List.setIfInBounds_toArray, List.set_cons_zero, List.set_cons_succ]
    refine Gr.walk_t _ (Or.inl ⟨by rfl, fun w' hw' => (KAt.ext HC12.out hw').yields HLC.out rfl rfl⟩) ?_
    simp only [Act.put, List.setIfInBounds_toArray, List.set_cons_zero, List.set_cons_succ]
    refine Gr.walk_c (fun K hK => ?_)
    go_simp
    refine (kdist_any HKA.out HKC.out w12).mono ?_
    rintro e w13 ⟨rfl, hx⟩
    rw [← HD.out]
    have HX13 := Lib.hid (Gr.ext_trans HX12.out hx)
    have HA13 := Lib.hid (KAt.ext HA12.out hx)
    have HB13 := Lib.hid (KAt.ext HB12.out hx)
    have HC13 := Lib.hid (KAt.ext HC12.out hx)
    try go_simp
    refine hK.out _ _ (hx) ?_
    clear hK K
    clear hx HX12 HA12 HB12 HC12
    refine Gr.walk_c (fun K hK => ?_)
    go_simp
    refine (kdist_any HKB.out HKC.out w13).mono ?_
    rintro e w14 ⟨rfl, hx⟩
    rw [← HF.out]
    have HX14 := Lib.hid (Gr.ext_trans HX13.out hx)
    have HA14 := Lib.hid (KAt.ext HA13.out hx)
    have HB14 := Lib.hid (KAt.ext HB13.out hx)
    have HC14 := Lib.hid (KAt.ext HC13.out hx)
    try go_simp
    refine hK.out _ _ (hx) ?_
    clear hK K
    clear hx HX13 HA13 HB13 HC13
    refine Gr.walk_c (fun K hK => ?_)
    go_simp
    refine (kless_any HKD.out HKF.out w14).mono ?_
    rintro e w15 ⟨rfl, hx⟩
    rw [HPL.out HGT.out]
    have HX15 := Lib.hid (Gr.ext_trans HX14.out hx)
    have HA15 := Lib.hid (KAt.ext HA14.out hx)
    have HB15 := Lib.hid (KAt.ext HB14.out hx)
    have HC15 := Lib.hid (KAt.ext HC14.out hx)
    try go_simp
    refine hK.out _ _ (hx) ?_
    clear hK K
    clear hx HX14 HA14 HB14 HC14
    refine Gr.walk_t ?_ (Or.inl ⟨by rfl, ?_⟩) ?_
    rotate_left
    · intro w' hw'
      clear hw'
      go_simp
      try with_reducible rfl
    simp only [Act.put, List.setIfInBounds_toArray, List.set_cons_zero, List.set_cons_succ]
    refine Gr.walk_nil ?_
    go_wp2
    go_ret
    exact ⟨rfl, Gr.below_of HX15.out⟩
  · have HH1 := Lib.hid h1; clear h1
    have hg1 : decide ((n : Int) < (m : Int)) = false := by exact decide_eq_false (by omega)
    have hg2 : decide (n < m) = false := by exact decide_eq_false (by omega)
    have hg3 : decide ((m : Int) ≤ (n : Int)) = true := by exact decide_eq_true (by omega)
    have hg4 : decide (m ≤ n) = true := by exact decide_eq_true (by omega)
    have HGT := Lib.hid hgt; clear hgt
    refine Gr.region 36 [(false,0),(false,1),(false,2),(false,3),(false,4),(true,5),(false,6),(false,7),(false,8),(false,9),(false,10),(false,11),(false,12),(false,13),(false,15),(false,16),(true,14),(true,17),(false,18),(false,19),(false,20),(false,21),(false,22),(false,23),(true,24),(false,25),(false,26),(false,27),(true,28),(false,29),(false,30),(false,31),(false,32),(true,33),(false,34),(false,35)] (by kernel_rfl) (by kernel_rfl) (fun d _ _ _ _ h => by cases d <;> exact h) ?_
    simp only [Gr.pick, List.getElem?_cons_zero, List.getElem?_cons_succ, List.drop_succ_cons, List.drop_zero]
    generalize w2.drew = w3 at *
    iterate 3
      refine Gr.walk_t ?_ (Or.inl ⟨by rfl, ?_⟩) ?_
      rotate_left
      · intro w' hw'
        clear hw'
        go_simp
        try with_reducible rfl
      simp only [Act.put, List.setIfInBounds_toArray, List.set_cons_zero, List.set_cons_succ]
    refine Gr.walk_t _ (Or.inl ⟨by rfl, fun w' hw' => (KAt.ext HA3.out hw').yields HLA.out rfl rfl⟩) ?_
    simp only [Act.put, List.setIfInBounds_toArray, List.set_cons_zero, List.set_cons_succ]
    refine Gr.walk_t _ (Or.inl ⟨by rfl, fun w' hw' => (KAt.ext HA3.out hw').yields HLA.out rfl rfl⟩) ?_
    simp only [Act.put, List.setIfInBounds_toArray, List.set_cons_zero, List.set_cons_succ]
    refine Gr.walk_c (fun K hK => ?_)
    go_simp
    refine (kless_any HKA.out HKA.out w3).mono ?_
    rintro e w4 ⟨rfl, hx⟩
    rw [HAA.out]
    have HX4 := Lib.hid (Gr.ext_trans HX3.out hx)
    have HA4 := Lib.hid (KAt.ext HA3.out hx)
    have HB4 := Lib.hid (KAt.ext HB3.out hx)
    have HC4 := Lib.hid (KAt.ext HC3.out hx)
    try go_simp
    refine hK.out _ _ (hx) ?_
    clear hK K
    clear hx HX3 HA3 HB3 HC3
    iterate 2
      refine Gr.walk_t ?_ (Or.inl ⟨by rfl, ?_⟩) ?_
      rotate_left
      · intro w' hw'
        clear hw'
        go_simp
        try with_reducible rfl
      simp only [Act.put, List.setIfInBounds_toArray, List.set_cons_zero, List.set_cons_succ]
    refine Gr.walk_t _ (Or.inl ⟨by rfl, fun w' hw' => (KAt.ext HA4.out hw').yields HLA.out rfl rfl⟩) ?_
    simp only [Act.put, List.setIfInBounds_toArray, List.set_cons_zero, List.set_cons_succ]
    refine Gr.walk_t _ (Or.inl ⟨by rfl, fun w' hw' => (KAt.ext HB4.out hw').yields HLB.out rfl rfl⟩) ?_
    simp only [Act.put, List.setIfInBounds_toArray, List.set_cons_zero, List.set_cons_succ]
    refine Gr.walk_t ?_ (Or.inl ⟨by rfl, ?_⟩) ?_
    rotate_left
    · intro w' hw'
      have he := hab w'
      clear hw'
      go_simp
      try with_reducible rfl
    simp only [Act.put, List.setIfInBounds_toArray, List.set_cons_zero, List.set_cons_succ]
    refine Gr.walk_t ?_ (Or.inl ⟨by rfl, ?_⟩) ?_
    rotate_left
    · intro w' hw'
      clear hw'
      go_simp
      try with_reducible rfl
    simp only [Act.put, List.setIfInBounds_toArray, List.set_cons_zero, List.set_cons_succ]
    refine Gr.walk_t _ (Or.inr ⟨by rfl, rfl⟩) ?_
    simp only [Act.put, List.setIfInBounds_toArray, List.set_cons_zero, List.set_cons_succ]
    refine Gr.walk_t _ (Or.inr ⟨by rfl, rfl⟩) ?_
    simp only [Act.put, List.setIfInBounds_toArray, List.set_cons_zero, List.set_cons_succ]
    refine Gr.walk_t _ (Or.inr ⟨by rfl, rfl⟩) ?_
    simp only [Act.put, List.setIfInBounds_toArray, List.set_cons_zero, List.set_cons_succ]
    refine Gr.walk_t _ (Or.inr ⟨by rfl, rfl⟩) ?_
    simp only [Act.put, List.setIfInBounds_toArray, List.set_cons_zero, List.set_cons_succ]
    refine Gr.walk_c (fun K hK => ?_)
    rw [if_neg (by intro h; cases h)]
    refine hK.out _ _ (Gr.ext_refl _) ?_
    clear hK K
    simp only [Act.put, List.setIfInBounds_toArray, List.set_cons_zero, List.set_cons_succ]
    refine Gr.walk_c (fun K hK => ?_)
    rw [if_neg (by intro h; cases h)]
    refine hK.out _ _ (Gr.ext_refl _) ?_
    clear hK K
    simp only [Act.put, List.setIfInBounds_toArray, List.set_cons_zero, List.set_cons_succ]
    refine Gr.walk_t _ (Or.inr ⟨by rfl, rfl⟩) ?_
    simp only [Act.put, List.setIfInBounds_toArray, List.set_cons_zero, List.set_cons_succ]
    iterate 3
      refine Gr.walk_t ?_ (Or.inl ⟨by rfl, ?_⟩) ?_
      rotate_left
      · intro w' hw'
        clear hw'
        go_simp
        try with_reducible rfl
      simp only [Act.put, List.setIfInBounds_toArray, List.set_cons_zero, List.set_cons_succ]
    refine Gr.walk_t _ (Or.inl ⟨by rfl, fun w' hw' => (KAt.ext HA4.out hw').yields HLA.out rfl rfl⟩) ?_
    simp only [Act.put, List.setIfInBounds_toArray, List.set_cons_zero, List.set_cons_succ]
    refine Gr.walk_t _ (Or.inl ⟨by rfl, fun w' hw' => (KAt.ext HB4.out hw').yields HLB.out rfl rfl⟩) ?_
    simp only [Act.put, List.setIfInBounds_toArray, List.set_cons_zero, List.set_cons_succ]
    refine Gr.walk_c (fun K hK => ?_)
    go_simp
    refine (kless_any HKA.out HKB.out w4).mono ?_
    rintro e w5 ⟨rfl, hx⟩
    rw [HH1.out]
    have HX5 := Lib.hid (Gr.ext_trans HX4.out hx)
    have HA5 := Lib.hid (KAt.ext HA4.out hx)
    have HB5 := Lib.hid (KAt.ext HB4.out hx)
    have HC5 := Lib.hid (KAt.ext HC4.out hx)
    try go_simp
    refine hK.out _ _ (hx) ?_
    clear hK K
    clear hx HX4 HA4 HB4 HC4
    refine Gr.walk_t ?_ (Or.inl ⟨by rfl, ?_⟩) ?_
    rotate_left
    · intro w' hw'
      clear hw'
      go_simp
      try with_reducible rfl
    simp only [Act.put, List.setIfInBounds_toArray, List.set_cons_zero, List.set_cons_succ]
    refine Gr.walk_t _ (Or.inr ⟨by rfl, rfl⟩) ?_
    simp only [Act.put, List.setIfInBounds_toArray, List.set_cons_zero, List.set_cons_succ]
    refine Gr.walk_t _ (Or.inr ⟨by rfl, rfl⟩) ?_
    simp only [Act.put, List.setIfInBounds_toArray, List.set_cons_zero, List.set_cons_succ]
    refine Gr.walk_c (fun K hK => ?_)
    rw [if_neg (by intro h; cases h)]
    refine hK.out _ _ (Gr.ext_refl _) ?_
    clear hK K
    simp only [Act.put, List.setIfInBounds_toArray, List.set_cons_zero, List.set_cons_succ]
    iterate 2
      refine Gr.walk_t ?_ (Or.inl ⟨by rfl, ?_⟩) ?_
      rotate_left
      · intro w' hw'
        clear hw'
        go_simp
        try with_reducible rfl
      simp only [Act.put, List.setIfInBounds_toArray, List.set_cons_zero, List.set_cons_succ]
    refine Gr.walk_t _ (Or.inr ⟨by rfl, rfl⟩) ?_
    simp only [Act.put, List.setIfInBounds_toArray, List.set_cons_zero, List.set_cons_succ]
    refine Gr.walk_t _ (Or.inr ⟨by rfl, rfl⟩) ?_
    simp only [Act.put, List.setIfInBounds_toArray, List.set_cons_zero, List.set_cons_succ]
    refine Gr.walk_c (fun K hK => ?_)
    rw [if_neg (by intro h; cases h)]
    refine hK.out _ _ (Gr.ext_refl _) ?_
    clear hK K
    simp only [Act.put, List.setIfInBounds_toArray, List.set_cons_zero, List.set_cons_succ]
    refine Gr.walk_t _ (Or.inr ⟨by rfl, rfl⟩) ?_
    simp only [Act.put, List.setIfInBounds_toArray, List.set_cons_zero, List.set_cons_succ]
    refine Gr.walk_t ?_ (Or.inl ⟨by rfl, ?_⟩) ?_
    rotate_left
    · intro w' hw'
      clear hw'
      go_simp
      try with_reducible rfl
    simp only [Act.put, List.setIfInBounds_toArray, List.set_cons_zero, List.set_cons_succ]
    refine Gr.walk_nil ?_
    go_upto_region 4 with fail
    have HX6 := Lib.hid (Gr.ext_drew HX5.out)
    have HA6 := Lib.hid (World.rowIs.drew HA5.out)
    have HB6 := Lib.hid (World.rowIs.drew HB5.out)
    have HC6 := Lib.hid (World.rowIs.drew HC5.out)
    clear HX5 HA5 HB5 HC5
    refine Gr.region 17 [(false,0),(false,1),(false,3),(false,4),(true,2),(true,5),(false,6),(false,7),(false,8),(false,9),(false,10),(false,12),(false,13),(true,11),(true,14),(true,15),(false,16)] (by kernel_rfl) (by kernel_rfl) (fun d _ _ _ _ h => by cases d <;> exact h) ?_
    simp only [Gr.pick, List.getElem?_cons_zero, List.getElem?_cons_succ, List.drop_succ_cons, List.drop_zero]
    generalize w5.drew = w6 at *
    refine Gr.walk_t _ (Or.inl ⟨by rfl, fun w' hw' => (KAt.ext HA6.out hw').yields HLA.out rfl rfl⟩) ?_
    simp only [Act.put, List.setIfInBounds_toArray, List.set_cons_zero, List.set_cons_succ]
    refine Gr.walk_t _ (Or.inl ⟨by rfl, fun w' hw' => (KAt.ext HC6.out hw').yields HLC.out rfl rfl⟩) ?_
    simp only [Act.put, List.setIfInBounds_toArray, List.set_cons_zero, List.set_cons_succ]
    refine Gr.walk_t _ (Or.inl ⟨by rfl, fun w' hw' => (KAt.ext HB6.out hw').yields HLB.out rfl rfl⟩) ?_
    simp only [Act.put, List.setIfInBounds_toArray, List.set_cons_zero, List.set_cons_succ]
    refine Gr.walk_t _ (Or.inl ⟨by rfl, fun w' hw' => (KAt.ext HC6.out hw').yields HLC.out rfl rfl⟩) ?_
    simp only [Act.put, List.setIfInBounds_toArray, List.set_cons_zero, List.set_cons_succ]
    refine Gr.walk_c (fun K hK => ?_)
    go_simp
    refine (kpre_any HKA.out HKC.out w6).mono ?_
    rintro e w7 ⟨rfl, hx⟩
    rw [← HM.out]
    have HX7 := Lib.hid (Gr.ext_trans HX6.out hx)
    have HA7 := Lib.hid (KAt.ext HA6.out hx)
    have HB7 := Lib.hid (KAt.ext HB6.out hx)
    have HC7 := Lib.hid (KAt.ext HC6.out hx)
    try go_simp
    refine hK.out _ _ (hx) ?_
    clear hK K
    clear hx HX6 HA6 HB6 HC6
    refine Gr.walk_c (fun K hK => ?_)
    go_simp
    refine (kpre_any HKB.out HKC.out w7).mono ?_
    rintro e w8 ⟨rfl, hx⟩
    rw [← HN.out]
    have HX8 := Lib.hid (Gr.ext_trans HX7.out hx)
    have HA8 := Lib.hid (KAt.ext HA7.out hx)
    have HB8 := Lib.hid (KAt.ext HB7.out hx)
    have HC8 := Lib.hid (KAt.ext HC7.out hx)
    try go_simp
    refine hK.out _ _ (hx) ?_
    clear hK K
    clear hx HX7 HA7 HB7 HC7
    iterate 3
      refine Gr.walk_t ?_ (Or.inl ⟨by rfl, ?_⟩) ?_
      rotate_left
      · intro w' hw'
        clear hw'
        go_simp
        try with_reducible rfl
      simp only [Act.put, List.setIfInBounds_toArray, List.set_cons_zero, List.set_cons_succ]
    refine Gr.walk_t _ (Or.inr ⟨by rfl, rfl⟩) ?_
    simp only [Act.put, List.setIfInBounds_toArray, List.set_cons_zero, List.set_cons_succ]
    refine Gr.walk_t _ (Or.inr ⟨by rfl, rfl⟩) ?_
    simp only [Act.put, List.setIfInBounds_toArray, List.set_cons_zero, List.set_cons_succ]
    refine Gr.walk_t _ (Or.inr ⟨by rfl, rfl⟩) ?_
    simp only [Act.put, List.setIfInBounds_toArray, List.set_cons_zero, List.set_cons_succ]
    refine Gr.walk_t _ (Or.inr ⟨by rfl, rfl⟩) ?_
    simp only [Act.put, List.setIfInBounds_toArray, List.set_cons_zero, List.set_cons_succ]
    refine Gr.walk_c (fun K hK => ?_)
    rw [if_neg (by intro h; cases h)]
    refine hK.out _ _ (Gr.ext_refl _) ?_
    clear hK K
    simp only [Act.put, List.setIfInBounds_toArray, List.set_cons_zero, List.set_cons_succ]
    refine Gr.walk_c (fun K hK => ?_)
    rw [if_neg (by intro h; cases h)]
    refine hK.out _ _ (Gr.ext_refl _) ?_
    clear hK K
    simp only [Act.put, List.setIfInBounds_toArray, List.set_cons_zero, List.set_cons_succ]
    refine Gr.walk_c (fun K hK => ?_)
    rw [if_neg (by intro h; cases h)]
    refine hK.out _ _ (Gr.ext_refl _) ?_
    clear hK K
    simp only [Act.put, List.setIfInBounds_toArray, List.set_cons_zero, List.set_cons_succ]
    refine Gr.walk_t ?_ (Or.inl ⟨by rfl, ?_⟩) ?_
    rotate_left
    · intro w' hw'
      clear hw'
      go_simp
      try with_reducible rfl
    simp only [Act.put, List.setIfInBounds_toArray, List.set_cons_zero, List.set_cons_succ]
    refine Gr.walk_nil ?_
    go_wp2
    go_ret
    exact ⟨rfl, Gr.below_of HX8.out⟩
  · have HH1 := Lib.hid h1; clear h1
    have HH2 := Lib.hid h2; clear h2
    have hg2 : decide ((n : Int) < (m : Int)) = false := by exact decide_eq_false (by omega)
    have hg3 : decide (n < m) = false := by exact decide_eq_false (by omega)
    have hg4 : decide ((m : Int) ≤ (n : Int)) = true := by exact decide_eq_true (by omega)
    have hg5 : decide (m ≤ n) = true := by exact decide_eq_true (by omega)
    have HGT := Lib.hid hgt; clear hgt
    refine Gr.region 36 [(false,0),(false,1),(false,2),(false,3),(false,4),(true,5),(false,6),(false,7),(false,8),(false,9),(false,10),(false,11),(false,12),(false,13),(false,15),(false,16),(true,14),(true,17),(false,18),(false,19),(false,20),(false,21),(false,22),(false,23),(true,24),(false,25),(false,26),(false,27),(true,28),(false,29),(false,30),(false,31),(false,32),(true,33),(false,34),(false,35)] (by kernel_rfl) (by kernel_rfl) (fun d _ _ _ _ h => by cases d <;> exact h) ?_
    simp only [Gr.pick, List.getElem?_cons_zero, List.getElem?_cons_succ, List.drop_succ_cons, List.drop_zero]
    generalize w2.drew = w3 at *
    iterate 3
      refine Gr.walk_t ?_ (Or.inl ⟨by rfl, ?_⟩) ?_
      rotate_left
      · intro w' hw'
        clear hw'
        go_simp
        try with_reducible rfl
      simp only [Act.put, List.setIfInBounds_toArray, List.set_cons_zero, List.set_cons_succ]
    refine Gr.walk_t _ (Or.inl ⟨by rfl, fun w' hw' => (KAt.ext HA3.out hw').yields HLA.out rfl rfl⟩) ?_
    simp only [Act.put, List.setIfInBounds_toArray, List.set_cons_zero, List.set_cons_succ]
    refine Gr.walk_t _ (Or.inl ⟨by rfl, fun w' hw' => (KAt.ext HA3.out hw').yields HLA.out rfl rfl⟩) ?_
    simp only [Act.put, List.setIfInBounds_toArray, List.set_cons_zero, List.set_cons_succ]
    refine Gr.walk_c (fun K hK => ?_)
    go_simp
    refine (kless_any HKA.out HKA.out w3).mono ?_
    rintro e w4 ⟨rfl, hx⟩
    rw [HAA.out]
    have HX4 := Lib.hid (Gr.ext_trans HX3.out hx)
    have HA4 := Lib.hid (KAt.ext HA3.out hx)
    have HB4 := Lib.hid (KAt.ext HB3.out hx)
    have HC4 := Lib.hid (KAt.ext HC3.out hx)
    try go_simp
    refine hK.out _ _ (hx) ?_
    clear hK K
    clear hx HX3 HA3 HB3 HC3
    iterate 2
      refine Gr.walk_t ?_ (Or.inl ⟨by rfl, ?_⟩) ?_
      rotate_left
      · intro w' hw'
        clear hw'
        go_simp
        try with_reducible rfl
      simp only [Act.put, List.setIfInBounds_toArray, List.set_cons_zero, List.set_cons_succ]
    refine Gr.walk_t _ (Or.inl ⟨by rfl, fun w' hw' => (KAt.ext HA4.out hw').yields HLA.out rfl rfl⟩) ?_
    simp only [Act.put, List.setIfInBounds_toArray, List.set_cons_zero, List.set_cons_succ]
    refine Gr.walk_t _ (Or.inl ⟨by rfl, fun w' hw' => (KAt.ext HB4.out hw').yields HLB.out rfl rfl⟩) ?_
    simp only [Act.put, List.setIfInBounds_toArray, List.set_cons_zero, List.set_cons_succ]
    refine Gr.walk_t ?_ (Or.inl ⟨by rfl, ?_⟩) ?_
    rotate_left
    · intro w' hw'
      have he := hab w'
      clear hw'
      go_simp
      try with_reducible rfl
    simp only [Act.put, List.setIfInBounds_toArray, List.set_cons_zero, List.set_cons_succ]
    refine Gr.walk_t ?_ (Or.inl ⟨by rfl, ?_⟩) ?_
    rotate_left
    · intro w' hw'
      clear hw'
      go_simp
      try with_reducible rfl
    simp only [Act.put, List.setIfInBounds_toArray, List.set_cons_zero, List.set_cons_succ]
    refine Gr.walk_t _ (Or.inl ⟨by rfl, fun w' hw' => (KAt.ext HA4.out hw').yields HLA.out rfl rfl⟩) ?_
    simp only [Act.put, List.setIfInBounds_toArray, List.set_cons_zero, List.set_cons_succ]
    refine Gr.walk_t _ (Or.inl ⟨by rfl, fun w' hw' => (KAt.ext HB4.out hw').yields HLB.out rfl rfl⟩) ?_
    simp only [Act.put, List.setIfInBounds_toArray, List.set_cons_zero, List.set_cons_succ]
    refine Gr.walk_t _ (Or.inl ⟨by rfl, fun w' hw' => (KAt.ext HB4.out hw').yields HLB.out rfl rfl⟩) ?_
    simp only [Act.put, List.setIfInBounds_toArray, List.set_cons_zero, List.set_cons_succ]
    refine Gr.walk_t _ (Or.inl ⟨by rfl, fun w' hw' => (KAt.ext HA4.out hw').yields HLA.out rfl rfl⟩) ?_
    simp only [Act.put, List.setIfInBounds_toArray, List.set_cons_zero, List.set_cons_succ]
    refine Gr.walk_c (fun K hK => ?_)
    go_simp
    refine (kless_any HKA.out HKB.out w4).mono ?_
    rintro e w5 ⟨rfl, hx⟩
    rw [HH1.out]
    have HX5 := Lib.hid (Gr.ext_trans HX4.out hx)
    have HA5 := Lib.hid (KAt.ext HA4.out hx)
    have HB5 := Lib.hid (KAt.ext HB4.out hx)
    have HC5 := Lib.hid (KAt.ext HC4.out hx)
    try go_simp
    refine hK.out _ _ (hx) ?_
    clear hK K
    clear hx HX4 HA4 HB4 HC4
    refine Gr.walk_c (fun K hK => ?_)
    go_simp
    refine (kless_any HKB.out HKA.out w5).mono ?_
    rintro e w6 ⟨rfl, hx⟩
    rw [HH2.out]
    have HX6 := Lib.hid (Gr.ext_trans HX5.out hx)
    have HA6 := Lib.hid (KAt.ext HA5.out hx)
    have HB6 := Lib.hid (KAt.ext HB5.out hx)
    have HC6 := Lib.hid (KAt.ext HC5.out hx)
    try go_simp
    refine hK.out _ _ (hx) ?_
    clear hK K
    clear hx HX5 HA5 HB5 HC5
    iterate 4
      refine Gr.walk_t ?_ (Or.inl ⟨by rfl, ?_⟩) ?_
      rotate_left
      · intro w' hw'
        clear hw'
        go_simp
        try with_reducible rfl
      simp only [Act.put, List.setIfInBounds_toArray, List.set_cons_zero, List.set_cons_succ]
    refine Gr.walk_t _ (Or.inl ⟨by rfl, fun w' hw' => (KAt.ext HA6.out hw').yields HLA.out rfl rfl⟩) ?_
    simp only [Act.put, List.setIfInBounds_toArray, List.set_cons_zero, List.set_cons_succ]
    refine Gr.walk_t _ (Or.inl ⟨by rfl, fun w' hw' => (KAt.ext HB6.out hw').yields HLB.out rfl rfl⟩) ?_
    simp only [Act.put, List.setIfInBounds_toArray, List.set_cons_zero, List.set_cons_succ]
    refine Gr.walk_c (fun K hK => ?_)
    go_simp
    refine (kless_any HKA.out HKB.out w6).mono ?_
    rintro e w7 ⟨rfl, hx⟩
    rw [HH1.out]
    have HX7 := Lib.hid (Gr.ext_trans HX6.out hx)
    have HA7 := Lib.hid (KAt.ext HA6.out hx)
    have HB7 := Lib.hid (KAt.ext HB6.out hx)
    have HC7 := Lib.hid (KAt.ext HC6.out hx)
    try go_simp
    refine hK.out _ _ (hx) ?_
    clear hK K
    clear hx HX6 HA6 HB6 HC6
    refine Gr.walk_t ?_ (Or.inl ⟨by rfl, ?_⟩) ?_
    rotate_left
    · intro w' hw'
      clear hw'
      go_simp
      try with_reducible rfl
    simp only [Act.put, List.setIfInBounds_toArray, List.set_cons_zero, List.set_cons_succ]
    refine Gr.walk_t _ (Or.inr ⟨by rfl, rfl⟩) ?_
    simp only [Act.put, List.setIfInBounds_toArray, List.set_cons_zero, List.set_cons_succ]
    refine Gr.walk_t _ (Or.inr ⟨by rfl, rfl⟩) ?_
    simp only [Act.put, List.setIfInBounds_toArray, List.set_cons_zero, List.set_cons_succ]
    refine Gr.walk_c (fun K hK => ?_)
    rw [if_neg (by intro h; cases h)]
    refine hK.out _ _ (Gr.ext_refl _) ?_
    clear hK K
    simp only [Act.put, List.setIfInBounds_toArray, List.set_cons_zero, List.set_cons_succ]
    iterate 2
      refine Gr.walk_t ?_ (Or.inl ⟨by rfl, ?_⟩) ?_
      rotate_left
      · intro w' hw'
        clear hw'
        go_simp
        try with_reducible rfl
      simp only [Act.put, List.setIfInBounds_toArray, List.set_cons_zero, List.set_cons_succ]
    refine Gr.walk_t _ (Or.inr ⟨by rfl, rfl⟩) ?_
    simp only [Act.put, List.setIfInBounds_toArray, List.set_cons_zero, List.set_cons_succ]
    refine Gr.walk_t _ (Or.inr ⟨by rfl, rfl⟩) ?_
    simp only [Act.put, List.setIfInBounds_toArray, List.set_cons_zero, List.set_cons_succ]
    refine Gr.walk_c (fun K hK => ?_)
    rw [if_neg (by intro h; cases h)]
    refine hK.out _ _ (Gr.ext_refl _) ?_
    clear hK K
    simp only [Act.put, List.setIfInBounds_toArray, List.set_cons_zero, List.set_cons_succ]
    refine Gr.walk_t _ (Or.inr ⟨by rfl, rfl⟩) ?_
    simp only [Act.put, List.setIfInBounds_toArray, List.set_cons_zero, List.set_cons_succ]
    refine Gr.walk_t ?_ (Or.inl ⟨by rfl, ?_⟩) ?_
    rotate_left
    · intro w' hw'
      clear hw'
      go_simp
      try with_reducible rfl
    simp only [Act.put, List.setIfInBounds_toArray, List.set_cons_zero, List.set_cons_succ]
    refine Gr.walk_nil ?_
    go_upto_region 4 with fail
    have HX8 := Lib.hid (Gr.ext_drew HX7.out)
    have HA8 := Lib.hid (World.rowIs.drew HA7.out)
    have HB8 := Lib.hid (World.rowIs.drew HB7.out)
    have HC8 := Lib.hid (World.rowIs.drew HC7.out)
    clear HX7 HA7 HB7 HC7
    refine Gr.region 17 [(false,0),(false,1),(false,3),(false,4),(true,2),(true,5),(false,6),(false,7),(false,8),(false,9),(false,10),(false,12),(false,13),(true,11),(true,14),(true,15),(false,16)] (by kernel_rfl) (by kernel_rfl) (fun d _ _ _ _ h => by cases d <;> exact h) ?_
    simp only [Gr.pick, List.getElem?_cons_zero, List.getElem?_cons_succ, List.drop_succ_cons, List.drop_zero]
    generalize w7.drew = w8 at *
    refine Gr.walk_t _ (Or.inl ⟨by rfl, fun w' hw' => (KAt.ext HA8.out hw').yields HLA.out rfl rfl⟩) ?_
    simp only [Act.put, List.setIfInBounds_toArray, List.set_cons_zero, List.set_cons_succ]
    refine Gr.walk_t _ (Or.inl ⟨by rfl, fun w' hw' => (KAt.ext HC8.out hw').yields HLC.out rfl rfl⟩) ?_
    simp only [Act.put, List.setIfInBounds_toArray, List.set_cons_zero, List.set_cons_succ]
    refine Gr.walk_t _ (Or.inl ⟨by rfl, fun w' hw' => (KAt.ext HB8.out hw').yields HLB.out rfl rfl⟩) ?_
    simp only [Act.put, List.setIfInBounds_toArray, List.set_cons_zero, List.set_cons_succ]
    refine Gr.walk_t _ (Or.inl ⟨by rfl, fun w' hw' => (KAt.ext HC8.out hw').yields HLC.out rfl rfl⟩) ?_
    simp only [Act.put, List.setIfInBounds_toArray, List.set_cons_zero, List.set_cons_succ]
    refine Gr.walk_c (fun K hK => ?_)
    go_simp
    refine (kpre_any HKA.out HKC.out w8).mono ?_
    rintro e w9 ⟨rfl, hx⟩
    rw [← HM.out]
    have HX9 := Lib.hid (Gr.ext_trans HX8.out hx)
    have HA9 := Lib.hid (KAt.ext HA8.out hx)
    have HB9 := Lib.hid (KAt.ext HB8.out hx)
    have HC9 := Lib.hid (KAt.ext HC8.out hx)
    try go_simp
    refine hK.out _ _ (hx) ?_
    clear hK K
    clear hx HX8 HA8 HB8 HC8
    refine Gr.walk_c (fun K hK => ?_)
    go_simp
    refine (kpre_any HKB.out HKC.out w9).mono ?_
    rintro e w10 ⟨rfl, hx⟩
    rw [← HN.out]
    have HX10 := Lib.hid (Gr.ext_trans HX9.out hx)
    have HA10 := Lib.hid (KAt.ext HA9.out hx)
    have HB10 := Lib.hid (KAt.ext HB9.out hx)
    have HC10 := Lib.hid (KAt.ext HC9.out hx)
    try go_simp
    refine hK.out _ _ (hx) ?_
    clear hK K
    clear hx HX9 HA9 HB9 HC9
    iterate 3
      refine Gr.walk_t ?_ (Or.inl ⟨by rfl, ?_⟩) ?_
      rotate_left
      · intro w' hw'
        clear hw'
        go_simp
        try with_reducible rfl
      simp only [Act.put, List.setIfInBounds_toArray, List.set_cons_zero, List.set_cons_succ]
    refine Gr.walk_t _ (Or.inr ⟨by rfl, rfl⟩) ?_
    simp only [Act.put, List.setIfInBounds_toArray, List.set_cons_zero, List.set_cons_succ]
    refine Gr.walk_t _ (Or.inr ⟨by rfl, rfl⟩) ?_
    simp only [Act.put, List.setIfInBounds_toArray, List.set_cons_zero, List.set_cons_succ]
    refine Gr.walk_t _ (Or.inr ⟨by rfl, rfl⟩) ?_
    simp only [Act.put, List.setIfInBounds_toArray, List.set_cons_zero, List.set_cons_succ]
    refine Gr.walk_t _ (Or.inr ⟨by rfl, rfl⟩) ?_
    simp only [Act.put, List.setIfInBounds_toArray, List.set_cons_zero, List.set_cons_succ]
    refine Gr.walk_c (fun K hK => ?_)
    rw [if_neg (by intro h; cases h)]
    refine hK.out _ _ (Gr.ext_refl _) ?_
    clear hK K
    simp only [Act.put, List.setIfInBounds_toArray, List.set_cons_zero, List.set_cons_succ]
    refine Gr.walk_c (fun K hK => ?_)
    rw [if_neg (by intro h; cases h)]
    refine hK.out _ _ (Gr.ext_refl _) ?_
    clear hK K
    simp only [Act.put, List.setIfInBounds_toArray, List.set_cons_zero, List.set_cons_succ]
    refine Gr.walk_c (fun K hK => ?_)
    rw [if_neg (by intro h; cases h)]
    refine hK.out _ _ (Gr.ext_refl _) ?_
    clear hK K
    simp only [Act.put, List.setIfInBounds_toArray, List.set_cons_zero, List.set_cons_succ]
    refine Gr.walk_t ?_ (Or.inl ⟨by rfl, ?_⟩) ?_
    rotate_left
    · intro w' hw'
      clear hw'
      go_simp
      try with_reducible rfl
    simp only [Act.put, List.setIfInBounds_toArray, List.set_cons_zero, List.set_cons_succ]
    refine Gr.walk_nil ?_
    go_wp2
    go_ret
    exact ⟨rfl, Gr.below_of HX10.out⟩
  · have HH1 := Lib.hid h1; clear h1
    have HH2 := Lib.hid h2; clear h2
    have HH3 := Lib.hid h3; clear h3
    have hg3 : decide ((n : Int) < (m : Int)) = false := by exact decide_eq_false (by omega)
    have hg4 : decide (n < m) = false := by exact decide_eq_false (by omega)
    have hg5 : decide ((m : Int) ≤ (n : Int)) = true := by exact decide_eq_true (by omega)
    have hg6 : decide (m ≤ n) = true := by exact decide_eq_true (by omega)
    have HGT := Lib.hid hgt; clear hgt
    refine Gr.region 36 [(false,0),(false,1),(false,2),(false,3),(false,4),(true,5),(false,6),(false,7),(false,8),(false,9),(false,10),(false,11),(false,12),(false,13),(false,15),(false,16),(true,14),(true,17),(false,18),(false,19),(false,20),(false,21),(false,22),(false,23),(true,24),(false,25),(false,26),(false,27),(true,28),(false,29),(false,30),(false,31),(false,32),(true,33),(false,34),(false,35)] (by kernel_rfl) (by kernel_rfl) (fun d _ _ _ _ h => by cases d <;> exact h) ?_
    simp only [Gr.pick, List.getElem?_cons_zero, List.getElem?_cons_succ, List.drop_succ_cons, List.drop_zero]
    generalize w2.drew = w3 at *
    iterate 3
      refine Gr.walk_t ?_ (Or.inl ⟨by rfl, ?_⟩) ?_
      rotate_left
      · intro w' hw'
        clear hw'
        go_simp
        try with_reducible rfl
      simp only [Act.put, List.setIfInBounds_toArray, List.set_cons_zero, List.set_cons_succ]
    refine Gr.walk_t _ (Or.inl ⟨by rfl, fun w' hw' => (KAt.ext HA3.out hw').yields HLA.out rfl rfl⟩) ?_
    simp only [Act.put, List.setIfInBounds_toArray, List.set_cons_zero, List.set_cons_succ]
    refine Gr.walk_t _ (Or.inl ⟨by rfl, fun w' hw' => (KAt.ext HA3.out hw').yields HLA.out rfl rfl⟩) ?_
    simp only [Act.put, List.setIfInBounds_toArray, List.set_cons_zero, List.set_cons_succ]
    refine Gr.walk_c (fun K hK => ?_)
    go_simp
    refine (kless_any HKA.out HKA.out w3).mono ?_
    rintro e w4 ⟨rfl, hx⟩
    rw [HAA.out]
    have HX4 := Lib.hid (Gr.ext_trans HX3.out hx)
    have HA4 := Lib.hid (KAt.ext HA3.out hx)
    have HB4 := Lib.hid (KAt.ext HB3.out hx)
    have HC4 := Lib.hid (KAt.ext HC3.out hx)
    try go_simp
    refine hK.out _ _ (hx) ?_
    clear hK K
    clear hx HX3 HA3 HB3 HC3
    iterate 2
      refine Gr.walk_t ?_ (Or.inl ⟨by rfl, ?_⟩) ?_
      rotate_left
      · intro w' hw'
        clear hw'
        go_simp
        try with_reducible rfl
      simp only [Act.put, List.setIfInBounds_toArray, List.set_cons_zero, List.set_cons_succ]
    refine Gr.walk_t _ (Or.inl ⟨by rfl, fun w' hw' => (KAt.ext HA4.out hw').yields HLA.out rfl rfl⟩) ?_
    simp only [Act.put, List.setIfInBounds_toArray, List.set_cons_zero, List.set_cons_succ]
    refine Gr.walk_t _ (Or.inl ⟨by rfl, fun w' hw' => (KAt.ext HB4.out hw').yields HLB.out rfl rfl⟩) ?_
    simp only [Act.put, List.setIfInBounds_toArray, List.set_cons_zero, List.set_cons_succ]
    refine Gr.walk_t ?_ (Or.inl ⟨by rfl, ?_⟩) ?_
    rotate_left
    · intro w' hw'
      have he := hab w'
      clear hw'
      go_simp
      try with_reducible rfl
    simp only [Act.put, List.setIfInBounds_toArray, List.set_cons_zero, List.set_cons_succ]
    refine Gr.walk_t ?_ (Or.inl ⟨by rfl, ?_⟩) ?_
    rotate_left
    · intro w' hw'
      clear hw'
      go_simp
      try with_reducible rfl
    simp only [Act.put, List.setIfInBounds_toArray, List.set_cons_zero, List.set_cons_succ]
    refine Gr.walk_t _ (Or.inl ⟨by rfl, fun w' hw' => (KAt.ext HA4.out hw').yields HLA.out rfl rfl⟩) ?_
    simp only [Act.put, List.setIfInBounds_toArray, List.set_cons_zero, List.set_cons_succ]
    refine Gr.walk_t _ (Or.inl ⟨by rfl, fun w' hw' => (KAt.ext HB4.out hw').yields HLB.out rfl rfl⟩) ?_
    simp only [Act.put, List.setIfInBounds_toArray, List.set_cons_zero, List.set_cons_succ]
    refine Gr.walk_t _ (Or.inl ⟨by rfl, fun w' hw' => (KAt.ext HB4.out hw').yields HLB.out rfl rfl⟩) ?_
    simp only [Act.put, List.setIfInBounds_toArray, List.set_cons_zero, List.set_cons_succ]
    refine Gr.walk_t _ (Or.inl ⟨by rfl, fun w' hw' => (KAt.ext HA4.out hw').yields HLA.out rfl rfl⟩) ?_
    simp only [Act.put, List.setIfInBounds_toArray, List.set_cons_zero, List.set_cons_succ]
    refine Gr.walk_c (fun K hK => ?_)
    go_simp
    refine (kless_any HKA.out HKB.out w4).mono ?_
    rintro e w5 ⟨rfl, hx⟩
    rw [HH1.out]
    have HX5 := Lib.hid (Gr.ext_trans HX4.out hx)
    have HA5 := Lib.hid (KAt.ext HA4.out hx)
    have HB5 := Lib.hid (KAt.ext HB4.out hx)
    have HC5 := Lib.hid (KAt.ext HC4.out hx)
    try go_simp
    refine hK.out _ _ (hx) ?_
    clear hK K
    clear hx HX4 HA4 HB4 HC4
    refine Gr.walk_c (fun K hK => ?_)
    go_simp
    refine (kless_any HKB.out HKA.out w5).mono ?_
    rintro e w6 ⟨rfl, hx⟩
    rw [HH2.out]
    have HX6 := Lib.hid (Gr.ext_trans HX5.out hx)
    have HA6 := Lib.hid (KAt.ext HA5.out hx)
    have HB6 := Lib.hid (KAt.ext HB5.out hx)
    have HC6 := Lib.hid (KAt.ext HC5.out hx)
    try go_simp
    refine hK.out _ _ (hx) ?_
    clear hK K
    clear hx HX5 HA5 HB5 HC5
    iterate 4
      refine Gr.walk_t ?_ (Or.inl ⟨by rfl, ?_⟩) ?_
      rotate_left
      · intro w' hw'
        clear hw'
        go_simp
        try with_reducible rfl
      simp only [Act.put, List.setIfInBounds_toArray, List.set_cons_zero, List.set_cons_succ]
    refine Gr.walk_t _ (Or.inl ⟨by rfl, fun w' hw' => (KAt.ext HA6.out hw').yields HLA.out rfl rfl⟩) ?_
    simp only [Act.put, List.setIfInBounds_toArray, List.set_cons_zero, List.set_cons_succ]
    refine Gr.walk_t _ (Or.inl ⟨by rfl, fun w' hw' => (KAt.ext HB6.out hw').yields HLB.out rfl rfl⟩) ?_
    simp only [Act.put, List.setIfInBounds_toArray, List.set_cons_zero, List.set_cons_succ]
    refine Gr.walk_c (fun K hK => ?_)
    go_simp
    refine (kless_any HKA.out HKB.out w6).mono ?_
    rintro e w7 ⟨rfl, hx⟩
    rw [HH1.out]
    have HX7 := Lib.hid (Gr.ext_trans HX6.out hx)
    have HA7 := Lib.hid (KAt.ext HA6.out hx)
    have HB7 := Lib.hid (KAt.ext HB6.out hx)
    have HC7 := Lib.hid (KAt.ext HC6.out hx)
    try go_simp
    refine hK.out _ _ (hx) ?_
    clear hK K
    clear hx HX6 HA6 HB6 HC6
    refine Gr.walk_t ?_ (Or.inl ⟨by rfl, ?_⟩) ?_
    rotate_left
    · intro w' hw'
      clear hw'
      go_simp
      try with_reducible rfl
    simp only [Act.put, List.setIfInBounds_toArray, List.set_cons_zero, List.set_cons_succ]
    refine Gr.walk_t _ (Or.inl ⟨by rfl, fun w' hw' => (KAt.ext HB7.out hw').yields HLB.out rfl rfl⟩) ?_
    simp only [Act.put, List.setIfInBounds_toArray, List.set_cons_zero, List.set_cons_succ]
    refine Gr.walk_t _ (Or.inl ⟨by rfl, fun w' hw' => (KAt.ext HC7.out hw').yields HLC.out rfl rfl⟩) ?_
    simp only [Act.put, List.setIfInBounds_toArray, List.set_cons_zero, List.set_cons_succ]
    refine Gr.walk_c (fun K hK => ?_)
    go_simp
    refine (kless_any HKB.out HKC.out w7).mono ?_
    rintro e w8 ⟨rfl, hx⟩
    rw [HH3.out]
    have HX8 := Lib.hid (Gr.ext_trans HX7.out hx)
    have HA8 := Lib.hid (KAt.ext HA7.out hx)
    have HB8 := Lib.hid (KAt.ext HB7.out hx)
    have HC8 := Lib.hid (KAt.ext HC7.out hx)
    try go_simp
    refine hK.out _ _ (hx) ?_
    clear hK K
    clear hx HX7 HA7 HB7 HC7
    iterate 2
      refine Gr.walk_t ?_ (Or.inl ⟨by rfl, ?_⟩) ?_
      rotate_left
      · intro w' hw'
        clear hw'
        go_simp
        try with_reducible rfl
      simp only [Act.put, List.setIfInBounds_toArray, List.set_cons_zero, List.set_cons_succ]
    refine Gr.walk_t _ (Or.inr ⟨by rfl, rfl⟩) ?_
    simp only [Act.put, List.setIfInBounds_toArray, List.set_cons_zero, List.set_cons_succ]
    refine Gr.walk_t _ (Or.inr ⟨by rfl, rfl⟩) ?_
    simp only [Act.put, List.setIfInBounds_toArray, List.set_cons_zero, List.set_cons_succ]
    refine Gr.walk_c (fun K hK => ?_)
    rw [if_neg (by intro h; cases h)]
    refine hK.out _ _ (Gr.ext_refl _) ?_
    clear hK K
    simp only [Act.put, List.setIfInBounds_toArray, List.set_cons_zero, List.set_cons_succ]
    refine Gr.walk_t _ (Or.inr ⟨by rfl, rfl⟩) ?_
    simp only [Act.put, List.setIfInBounds_toArray, List.set_cons_zero, List.set_cons_succ]
    refine Gr.walk_t ?_ (Or.inl ⟨by rfl, ?_⟩) ?_
    rotate_left
    · intro w' hw'
      clear hw'
      go_simp
      try with_reducible rfl
    simp only [Act.put, List.setIfInBounds_toArray, List.set_cons_zero, List.set_cons_succ]
    refine Gr.walk_nil ?_
    go_upto_region 4 with fail
    have HX9 := Lib.hid (Gr.ext_drew HX8.out)
    have HA9 := Lib.hid (World.rowIs.drew HA8.out)
    have HB9 := Lib.hid (World.rowIs.drew HB8.out)
    have HC9 := Lib.hid (World.rowIs.drew HC8.out)
    clear HX8 HA8 HB8 HC8
    refine Gr.region 17 [(false,0),(false,1),(false,3),(false,4),(true,2),(true,5),(false,6),(false,7),(false,8),(false,9),(false,10),(false,12),(false,13),(true,11),(true,14),(true,15),(false,16)] (by kernel_rfl) (by kernel_rfl) (fun d _ _ _ _ h => by cases d <;> exact h) ?_
    simp only [Gr.pick, List.getElem?_cons_zero, List.getElem?_cons_succ, List.drop_succ_cons, List.drop_zero]
    generalize w8.drew = w9 at *
    refine Gr.walk_t _ (Or.inl ⟨by rfl, fun w' hw' => (KAt.ext HA9.out hw').yields HLA.out rfl rfl⟩) ?_
    simp only [Act.put, List.setIfInBounds_toArray, List.set_cons_zero, List.set_cons_succ]
    refine Gr.walk_t _ (Or.inl ⟨by rfl, fun w' hw' => (KAt.ext HC9.out hw').yields HLC.out rfl rfl⟩) ?_
    simp only [Act.put, List.setIfInBounds_toArray, List.set_cons_zero, List.set_cons_succ]
    refine Gr.walk_t _ (Or.inl ⟨by rfl, fun w' hw' => (KAt.ext HB9.out hw').yields HLB.out rfl rfl⟩) ?_
    simp only [Act.put, List.setIfInBounds_toArray, List.set_cons_zero, List.set_cons_succ]
    refine Gr.walk_t _ (Or.inl ⟨by rfl, fun w' hw' => (KAt.ext HC9.out hw').yields HLC.out rfl rfl⟩) ?_
    simp only [Act.put, List.setIfInBounds_toArray, List.set_cons_zero, List.set_cons_succ]
    refine Gr.walk_c (fun K hK => ?_)
    go_simp
    refine (kpre_any HKA.out HKC.out w9).mono ?_
    rintro e w10 ⟨rfl, hx⟩
    rw [← HM.out]
    have HX10 := Lib.hid (Gr.ext_trans HX9.out hx)
    have HA10 := Lib.hid (KAt.ext HA9.out hx)
    have HB10 := Lib.hid (KAt.ext HB9.out hx)
    have HC10 := Lib.hid (KAt.ext HC9.out hx)
    try go_simp
    refine hK.out _ _ (hx) ?_
    clear hK K
    clear hx HX9 HA9 HB9 HC9
    refine Gr.walk_c (fun K hK => ?_)
    go_simp
    refine (kpre_any HKB.out HKC.out w10).mono ?_
    rintro e w11 ⟨rfl, hx⟩
    rw [← HN.out]
    have HX11 := Lib.hid (Gr.ext_trans HX10.out hx)
    have HA11 := Lib.hid (KAt.ext HA10.out hx)
    have HB11 := Lib.hid (KAt.ext HB10.out hx)
    have HC11 := Lib.hid (KAt.ext HC10.out hx)
    try go_simp
    refine hK.out _ _ (hx) ?_
    clear hK K
    clear hx HX10 HA10 HB10 HC10
    iterate 3
      refine Gr.walk_t ?_ (Or.inl ⟨by rfl, ?_⟩) ?_
      rotate_left
      · intro w' hw'
        clear hw'
        go_simp
        try with_reducible rfl
      simp only [Act.put, List.setIfInBounds_toArray, List.set_cons_zero, List.set_cons_succ]
    refine Gr.walk_t _ (Or.inr ⟨by rfl, rfl⟩) ?_
    simp only [Act.put, List.setIfInBounds_toArray, List.set_cons_zero, List.set_cons_succ]
    refine Gr.walk_t _ (Or.inr ⟨by rfl, rfl⟩) ?_
    simp only [Act.put, List.setIfInBounds_toArray, List.set_cons_zero, List.set_cons_succ]
    refine Gr.walk_t _ (Or.inr ⟨by rfl, rfl⟩) ?_
    simp only [Act.put, List.setIfInBounds_toArray, List.set_cons_zero, List.set_cons_succ]
    refine Gr.walk_t _ (Or.inr ⟨by rfl, rfl⟩) ?_
    simp only [Act.put, List.setIfInBounds_toArray, List.set_cons_zero, List.set_cons_succ]
    refine Gr.walk_c (fun K hK => ?_)
    rw [if_neg (by intro h; cases h)]
    refine hK.out _ _ (Gr.ext_refl _) ?_
    clear hK K
    simp only [Act.put, List.setIfInBounds_toArray, List.set_cons_zero, List.set_cons_succ]
    refine Gr.walk_c (fun K hK => ?_)
    rw [if_neg (by intro h; cases h)]
    refine hK.out _ _ (Gr.ext_refl _) ?_
    clear hK K
    simp only [Act.put, List.setIfInBounds_toArray, List.set_cons_zero, List.set_cons_succ]
    refine Gr.walk_c (fun K hK => ?_)
    rw [if_neg (by intro h; cases h)]
    refine hK.out _ _ (Gr.ext_refl _) ?_
    clear hK K
    simp only [Act.put, List.setIfInBounds_toArray, List.set_cons_zero, List.set_cons_succ]
    refine Gr.walk_t ?_ (Or.inl ⟨by rfl, ?_⟩) ?_
    rotate_left
    · intro w' hw'
      clear hw'
      go_simp
      try with_reducible rfl
    simp only [Act.put, List.setIfInBounds_toArray, List.set_cons_zero, List.set_cons_succ]
    refine Gr.walk_nil ?_
    go_wp2
    go_ret
    exact ⟨rfl, Gr.below_of HX11.out⟩
  · have HH1 := Lib.hid h1; clear h1
    have HH2 := Lib.hid h2; clear h2
    have HH3 := Lib.hid h3; clear h3
    have HH4 := Lib.hid h4; clear h4
    have hg4 : decide ((n : Int) < (m : Int)) = false := by exact decide_eq_false (by omega)
    have hg5 : decide (n < m) = false := by exact decide_eq_false (by omega)
    have hg6 : decide ((m : Int) ≤ (n : Int)) = true := by exact decide_eq_true (by omega)
    have hg7 : decide (m ≤ n) = true := by exact decide_eq_true (by omega)
    have HGT := Lib.hid hgt; clear hgt
    refine Gr.region 36 [(false,0),(false,1),(false,2),(false,3),(false,4),(true,5),(false,6),(false,7),(false,8),(false,9),(false,10),(false,11),(false,12),(false,13),(false,15),(false,16),(true,14),(true,17),(false,18),(false,19),(false,20),(false,21),(false,22),(false,23),(true,24),(false,25),(false,26),(false,27),(true,28),(false,29),(false,30),(false,31),(false,32),(true,33),(false,34),(false,35)] (by kernel_rfl) (by kernel_rfl) (fun d _ _ _ _ h => by cases d <;> exact h) ?_
    simp only [Gr.pick, List.getElem?_cons_zero, List.getElem?_cons_succ, List.drop_succ_cons, List.drop_zero]
    generalize w2.drew = w3 at *
    iterate 3
      refine Gr.walk_t ?_ (Or.inl ⟨by rfl, ?_⟩) ?_
      rotate_left
      · intro w' hw'
        clear hw'
        go_simp
        try with_reducible rfl
      simp only [Act.put, List.setIfInBounds_toArray, List.set_cons_zero, List.set_cons_succ]
    refine Gr.walk_t _ (Or.inl ⟨by rfl, fun w' hw' => (KAt.ext HA3.out hw').yields HLA.out rfl rfl⟩) ?_
    simp only [Act.put, List.setIfInBounds_toArray, List.set_cons_zero, List.set_cons_succ]
    refine Gr.walk_t _ (Or.inl ⟨by rfl, fun w' hw' => (KAt.ext HA3.out hw').yields HLA.out rfl rfl⟩) ?_
    simp only [Act.put, List.setIfInBounds_toArray, List.set_cons_zero, List.set_cons_succ]
    refine Gr.walk_c (fun K hK => ?_)
    go_simp
    refine (kless_any HKA.out HKA.out w3).mono ?_
    rintro e w4 ⟨rfl, hx⟩
    rw [HAA.out]
    have HX4 := Lib.hid (Gr.ext_trans HX3.out hx)
    have HA4 := Lib.hid (KAt.ext HA3.out hx)
    have HB4 := Lib.hid (KAt.ext HB3.out hx)
    have HC4 := Lib.hid (KAt.ext HC3.out hx)
    try go_simp
    refine hK.out _ _ (hx) ?_
    clear hK K
    clear hx HX3 HA3 HB3 HC3
    iterate 2
      refine Gr.walk_t ?_ (Or.inl ⟨by rfl, ?_⟩) ?_
      rotate_left
      · intro w' hw'
        clear hw'
        go_simp
        try with_reducible rfl
      simp only [Act.put, List.setIfInBounds_toArray, List.set_cons_zero, List.set_cons_succ]
    refine Gr.walk_t _ (Or.inl ⟨by rfl, fun w' hw' => (KAt.ext HA4.out hw').yields HLA.out rfl rfl⟩) ?_
    simp only [Act.put, List.setIfInBounds_toArray, List.set_cons_zero, List.set_cons_succ]
    refine Gr.walk_t _ (Or.inl ⟨by rfl, fun w' hw' => (KAt.ext HB4.out hw').yields HLB.out rfl rfl⟩) ?_
    simp only [Act.put, List.setIfInBounds_toArray, List.set_cons_zero, List.set_cons_succ]
    refine Gr.walk_t ?_ (Or.inl ⟨by rfl, ?_⟩) ?_
    rotate_left
    · intro w' hw'
      have he := hab w'
      clear hw'
      go_simp
      try with_reducible rfl
    simp only [Act.put, List.setIfInBounds_toArray, List.set_cons_zero, List.set_cons_succ]
    refine Gr.walk_t ?_ (Or.inl ⟨by rfl, ?_⟩) ?_
    rotate_left
    · intro w' hw'
      clear hw'
      go_simp
      try with_reducible rfl
    simp only [Act.put, List.setIfInBounds_toArray, List.set_cons_zero, List.set_cons_succ]
    refine Gr.walk_t _ (Or.inl ⟨by rfl, fun w' hw' => (KAt.ext HA4.out hw').yields HLA.out rfl rfl⟩) ?_
    simp only [Act.put, List.setIfInBounds_toArray, List.set_cons_zero, List.set_cons_succ]
    refine Gr.walk_t _ (Or.inl ⟨by rfl, fun w' hw' => (KAt.ext HB4.out hw').yields HLB.out rfl rfl⟩) ?_
    simp only [Act.put, List.setIfInBounds_toArray, List.set_cons_zero, List.set_cons_succ]
    refine Gr.walk_t _ (Or.inl ⟨by rfl, fun w' hw' => (KAt.ext HB4.out hw').yields HLB.out rfl rfl⟩) ?_
    simp only [Act.put, List.setIfInBounds_toArray, List.set_cons_zero, List.set_cons_succ]
    refine Gr.walk_t _ (Or.inl ⟨by rfl, fun w' hw' => (KAt.ext HA4.out hw').yields HLA.out rfl rfl⟩) ?_
    simp only [Act.put, List.setIfInBounds_toArray, List.set_cons_zero, List.set_cons_succ]
    refine Gr.walk_c (fun K hK => ?_)
    go_simp
    refine (kless_any HKA.out HKB.out w4).mono ?_
    rintro e w5 ⟨rfl, hx⟩
    rw [HH1.out]
    have HX5 := Lib.hid (Gr.ext_trans HX4.out hx)
    have HA5 := Lib.hid (KAt.ext HA4.out hx)
    have HB5 := Lib.hid (KAt.ext HB4.out hx)
    have HC5 := Lib.hid (KAt.ext HC4.out hx)
    try go_simp
    refine hK.out _ _ (hx) ?_
    clear hK K
    clear hx HX4 HA4 HB4 HC4
    refine Gr.walk_c (fun K hK => ?_)
    go_simp
    refine (kless_any HKB.out HKA.out w5).mono ?_
    rintro e w6 ⟨rfl, hx⟩
    rw [HH2.out]
    have HX6 := Lib.hid (Gr.ext_trans HX5.out hx)
    have HA6 := Lib.hid (KAt.ext HA5.out hx)
    have HB6 := Lib.hid (KAt.ext HB5.out hx)
    have HC6 := Lib.hid (KAt.ext HC5.out hx)
    try go_simp
    refine hK.out _ _ (hx) ?_
    clear hK K
    clear hx HX5 HA5 HB5 HC5
    iterate 4
      refine Gr.walk_t ?_ (Or.inl ⟨by rfl, ?_⟩) ?_
      rotate_left
      · intro w' hw'
        clear hw'
        go_simp
        try with_reducible rfl
      simp only [Act.put, List.setIfInBounds_toArray, List.set_cons_zero, List.set_cons_succ]
    refine Gr.walk_t _ (Or.inl ⟨by rfl, fun w' hw' => (KAt.ext HA6.out hw').yields HLA.out rfl rfl⟩) ?_
    simp only [Act.put, List.setIfInBounds_toArray, List.set_cons_zero, List.set_cons_succ]
    refine Gr.walk_t _ (Or.inl ⟨by rfl, fun w' hw' => (KAt.ext HB6.out hw').yields HLB.out rfl rfl⟩) ?_
    simp only [Act.put, List.setIfInBounds_toArray, List.set_cons_zero, List.set_cons_succ]
    refine Gr.walk_c (fun K hK => ?_)
    go_simp
    refine (kless_any HKA.out HKB.out w6).mono ?_
    rintro e w7 ⟨rfl, hx⟩
    rw [HH1.out]
    have HX7 := Lib.hid (Gr.ext_trans HX6.out hx)
    have HA7 := Lib.hid (KAt.ext HA6.out hx)
    have HB7 := Lib.hid (KAt.ext HB6.out hx)
    have HC7 := Lib.hid (KAt.ext HC6.out hx)
    try go_simp
    refine hK.out _ _ (hx) ?_
    clear hK K
    clear hx HX6 HA6 HB6 HC6
    refine Gr.walk_t ?_ (Or.inl ⟨by rfl, ?_⟩) ?_
    rotate_left
    · intro w' hw'
      clear hw'
      go_simp
      try with_reducible rfl
    simp only [Act.put, List.setIfInBounds_toArray, List.set_cons_zero, List.set_cons_succ]
    refine Gr.walk_t _ (Or.inl ⟨by rfl, fun w' hw' => (KAt.ext HB7.out hw').yields HLB.out rfl rfl⟩) ?_
    simp only [Act.put, List.setIfInBounds_toArray, List.set_cons_zero, List.set_cons_succ]
    refine Gr.walk_t _ (Or.inl ⟨by rfl, fun w' hw' => (KAt.ext HC7.out hw').yields HLC.out rfl rfl⟩) ?_
    simp only [Act.put, List.setIfInBounds_toArray, List.set_cons_zero, List.set_cons_succ]
    refine Gr.walk_c (fun K hK => ?_)
    go_simp
    refine (kless_any HKB.out HKC.out w7).mono ?_
    rintro e w8 ⟨rfl, hx⟩
    rw [HH3.out]
    have HX8 := Lib.hid (Gr.ext_trans HX7.out hx)
    have HA8 := Lib.hid (KAt.ext HA7.out hx)
    have HB8 := Lib.hid (KAt.ext HB7.out hx)
    have HC8 := Lib.hid (KAt.ext HC7.out hx)
    try go_simp
    refine hK.out _ _ (hx) ?_
    clear hK K
    clear hx HX7 HA7 HB7 HC7
    iterate 2
      refine Gr.walk_t ?_ (Or.inl ⟨by rfl, ?_⟩) ?_
      rotate_left
      · intro w' hw'
        clear hw'
        go_simp
        try with_reducible rfl
      simp only [Act.put, List.setIfInBounds_toArray, List.set_cons_zero, List.set_cons_succ]
    refine Gr.walk_t _ (Or.inl ⟨by rfl, fun w' hw' => (KAt.ext HA8.out hw').yields HLA.out rfl rfl⟩) ?_
    simp only [Act.put, List.setIfInBounds_toArray, List.set_cons_zero, List.set_cons_succ]
    refine Gr.walk_t _ (Or.inl ⟨by rfl, fun w' hw' => (KAt.ext HC8.out hw').yields HLC.out rfl rfl⟩) ?_
    simp only [Act.put, List.setIfInBounds_toArray, List.set_cons_zero, List.set_cons_succ]
    refine Gr.walk_c (fun K hK => ?_)
    go_simp
    refine (kless_any HKA.out HKC.out w8).mono ?_
    rintro e w9 ⟨rfl, hx⟩
    rw [HH4.out]
    have HX9 := Lib.hid (Gr.ext_trans HX8.out hx)
    have HA9 := Lib.hid (KAt.ext HA8.out hx)
    have HB9 := Lib.hid (KAt.ext HB8.out hx)
    have HC9 := Lib.hid (KAt.ext HC8.out hx)
    try go_simp
    refine hK.out _ _ (hx) ?_
    clear hK K
    clear hx HX8 HA8 HB8 HC8
    refine Gr.walk_t ?_ (Or.inl ⟨by rfl, ?_⟩) ?_
    rotate_left
    · intro w' hw'
      clear hw'
      go_simp
      try with_reducible rfl
    simp only [Act.put, List.setIfInBounds_toArray, List.set_cons_zero, List.set_cons_succ]
    refine Gr.walk_t ?_ (Or.inl ⟨by rfl, ?_⟩) ?_
    rotate_left
    · intro w' hw'
      clear hw'
      go_simp
      try with_reducible rfl
    simp only [Act.put, List.setIfInBounds_toArray, List.set_cons_zero, List.set_cons_succ]
    refine Gr.walk_nil ?_
    go_upto_region 4 with fail
    have HX10 := Lib.hid (Gr.ext_drew HX9.out)
    have HA10 := Lib.hid (World.rowIs.drew HA9.out)
    have HB10 := Lib.hid (World.rowIs.drew HB9.out)
    have HC10 := Lib.hid (World.rowIs.drew HC9.out)
    clear HX9 HA9 HB9 HC9
    refine Gr.region 17 [(false,0),(false,1),(false,3),(false,4),(true,2),(true,5),(false,6),(false,7),(false,8),(false,9),(false,10),(false,12),(false,13),(true,11),(true,14),(true,15),(false,16)] (by kernel_rfl) (by kernel_rfl) (fun d _ _ _ _ h => by cases d <;> exact h) ?_
    simp only [Gr.pick, List.getElem?_cons_zero, List.getElem?_cons_succ, List.drop_succ_cons, List.drop_zero]
    generalize w9.drew = w10 at *
    refine Gr.walk_t _ (Or.inl ⟨by rfl, fun w' hw' => (KAt.ext HA10.out hw').yields HLA.out rfl rfl⟩) ?_
    simp only [Act.put, List.setIfInBounds_toArray, List.set_cons_zero, List.set_cons_succ]
    refine Gr.walk_t _ (Or.inl ⟨by rfl, fun w' hw' => (KAt.ext HC10.out hw').yields HLC.out rfl rfl⟩) ?_
    simp only [Act.put, List.setIfInBounds_toArray, List.set_cons_zero, List.set_cons_succ]
    refine Gr.walk_t _ (Or.inl ⟨by rfl, fun w' hw' => (KAt.ext HB10.out hw').yields HLB.out rfl rfl⟩) ?_
    simp only [Act.put, List.setIfInBounds_toArray, List.set_cons_zero, List.set_cons_succ]
    refine Gr.walk_t _ (Or.inl ⟨by rfl, fun w' hw' => (KAt.ext HC10.out hw').yields HLC.out rfl rfl⟩) ?_
    simp only [Act.put, List.setIfInBounds_toArray, List.set_cons_zero, List.set_cons_succ]
    refine Gr.walk_c (fun K hK => ?_)
    go_simp
    refine (kpre_any HKA.out HKC.out w10).mono ?_
    rintro e w11 ⟨rfl, hx⟩
    rw [← HM.out]
    have HX11 := Lib.hid (Gr.ext_trans HX10.out hx)
    have HA11 := Lib.hid (KAt.ext HA10.out hx)
    have HB11 := Lib.hid (KAt.ext HB10.out hx)
    have HC11 := Lib.hid (KAt.ext HC10.out hx)
    try go_simp
    refine hK.out _ _ (hx) ?_
    clear hK K
    clear hx HX10 HA10 HB10 HC10
    refine Gr.walk_c (fun K hK => ?_)
    go_simp
    refine (kpre_any HKB.out HKC.out w11).mono ?_
    rintro e w12 ⟨rfl, hx⟩
    rw [← HN.out]
    have HX12 := Lib.hid (Gr.ext_trans HX11.out hx)
    have HA12 := Lib.hid (KAt.ext HA11.out hx)
    have HB12 := Lib.hid (KAt.ext HB11.out hx)
    have HC12 := Lib.hid (KAt.ext HC11.out hx)
    try go_simp
    refine hK.out _ _ (hx) ?_
    clear hK K
    clear hx HX11 HA11 HB11 HC11
    iterate 3
      refine Gr.walk_t ?_ (Or.inl ⟨by rfl, ?_⟩) ?_
      rotate_left
      · intro w' hw'
        clear hw'
        go_simp
        try with_reducible rfl
      simp only [Act.put, List.setIfInBounds_toArray, List.set_cons_zero, List.set_cons_succ]
    refine Gr.walk_t _ (Or.inr ⟨by rfl, rfl⟩) ?_
    simp only [Act.put, List.setIfInBounds_toArray, List.set_cons_zero, List.set_cons_succ]
    refine Gr.walk_t _ (Or.inr ⟨by rfl, rfl⟩) ?_
    simp only [Act.put, List.setIfInBounds_toArray, List.set_cons_zero, List.set_cons_succ]
    refine Gr.walk_t _ (Or.inr ⟨by rfl, rfl⟩) ?_
    simp only [Act.put, List.setIfInBounds_toArray, List.set_cons_zero, List.set_cons_succ]
    refine Gr.walk_t _ (Or.inr ⟨by rfl, rfl⟩) ?_
    simp only [Act.put, List.setIfInBounds_toArray, List.set_cons_zero, List.set_cons_succ]
    refine Gr.walk_c (fun K hK => ?_)
    rw [if_neg (by intro h; cases h)]
    refine hK.out _ _ (Gr.ext_refl _) ?_
    clear hK K
    simp only [Act.put, List.setIfInBounds_toArray, List.set_cons_zero, List.set_cons_succ]
    refine Gr.walk_c (fun K hK => ?_)
    rw [if_neg (by intro h; cases h)]
    refine hK.out _ _ (Gr.ext_refl _) ?_
    clear hK K
    simp only [Act.put, List.setIfInBounds_toArray, List.set_cons_zero, List.set_cons_succ]
    refine Gr.walk_c (fun K hK => ?_)
    rw [if_neg (by intro h; cases h)]
    refine hK.out _ _ (Gr.ext_refl _) ?_
    clear hK K
    simp only [Act.put, List.setIfInBounds_toArray, List.set_cons_zero, List.set_cons_succ]
    refine Gr.walk_t ?_ (Or.inl ⟨by rfl, ?_⟩) ?_
    rotate_left
    · intro w' hw'
      clear hw'
      go_simp
      try with_reducible rfl
    simp only [Act.put, List.setIfInBounds_toArray, List.set_cons_zero, List.set_cons_succ]
    refine Gr.walk_nil ?_
    go_wp2
    go_ret
    exact ⟨rfl, Gr.below_of HX12.out⟩
end Go.Proofs.Ytldkmbnidfpcoaa
