/- KeyTells' function answers true. -/
import Derived.Test.YtldkmbnidfpcoaaKeyLive
import Derived.Test.YtldkmbnidfpcoaaKeyRefOf
namespace Go.Proofs.Ytldkmbnidfpcoaa
set_option maxRecDepth 20000
open Go.RowKit
set_option linter.unusedVariables false
set_option maxHeartbeats 4000000 in
theorem KeyTells_walk (v : Value) (xs : List Int) (a b : List Nat) (w : World) (hv : Ints w v xs ∧ ∀ y ∈ xs, -9223372036854775808 ≤ y ∧ y ≤ 9223372036854775807) (ha : KY.Ok a) (hb : KY.Ok b) :
    Calls Try.prog 3 #[v, KV a, KV b] w fun e w' => e = .returned (.bool true) ∧ Below w.heap.size w w' := by
  obtain ⟨p, cap, rfl, hle, hcap⟩ := hv.1.slice
  have hL : xs.length ≤ 9223372036854775807 := Nat.le_trans hv.1.len (by decide)
  have HV := Lib.hid hv.1
  have HKA := Lib.hid ha
  have HKB := Lib.hid hb
  obtain ⟨q, hq⟩ : ∃ q, q = KY.of xs := ⟨_, rfl⟩
  obtain ⟨d, hd⟩ : ∃ d, d = KY.dist a b := ⟨_, rfl⟩
  obtain ⟨t, ht⟩ : ∃ t, t = KY.lt a b := ⟨_, rfl⟩
  obtain ⟨m, hm⟩ : ∃ m, m = KY.pre a b := ⟨_, rfl⟩
  have hqe := key_eq_run (a := q) (b := q) (by rw [hq]; exact (KY.of_ok _).1) (by rw [hq]; exact (KY.of_ok _).1) (decide_eq_true rfl)
  have hde := key_eq_run (a := d) (b := d) (by rw [hd]; exact KY.dist_len ha.1 hb.1) (by rw [hd]; exact KY.dist_len ha.1 hb.1) (decide_eq_true rfl)
  have HQ := Lib.hid hq
  have HD := Lib.hid hd
  have HT := Lib.hid ht
  have HM := Lib.hid hm
  obtain ⟨xn, hxn⟩ : ∃ xn, xn = xs.length := ⟨_, rfl⟩
  rw [← hxn] at HV hL ⊢
  have HXN := Lib.hid hxn
  clear hq hd ht hm hv ha hb hle hxn
  go_enter Try.func3, Try.ntmps3
  go_upto_region 1 with fail
  have HB := Lib.hid (Boxed.made w HKA.out HKB.out)
  generalize hw1 : World.alloc _ _ = w1 at *
  clear hw1
  obtain ⟨s, hs⟩ : ∃ s, s = w.heap.size := ⟨_, rfl⟩
  rw [← hs] at HB ⊢
  have HS := Lib.hid hs
  clear hs
  go_wp2_with fail
  refine (alive17_any _).mono ?_
  rintro e w2 ⟨rfl, hx⟩
  have HX := Lib.hid (Gr.ext_trans HB.out.ext hx)
  have HAt := Lib.hid (HB.out.a.ext hx)
  have HBt := Lib.hid (HB.out.b.ext hx)
  clear hx HB
  by_cases h1 : 50 < xn
  · go_wp2
    go_ret
    exact ⟨rfl, Gr.below_of HX.out⟩
  · go_wp2_with fail
    have HX3 := Lib.hid (Gr.ext_drew HX.out)
    have HA3 := Lib.hid HAt.out.drew
    have HB3 := Lib.hid HBt.out.drew
    have HV3 := Lib.hid (HV.out.ext HX3.out)
    clear HX HAt HBt HV
    refine Gr.region 32 [(false,0),(false,2),(true,1),(true,3),(false,4),(false,5),(false,6),(false,7),(false,9),(false,10),(true,8),(true,11),(false,12),(false,13),(false,14),(false,15),(false,16),(false,18),(false,19),(true,17),(true,20),(false,21),(false,22),(false,23),(false,24),(false,25),(false,27),(false,28),(true,26),(true,29),(false,30),(false,31)] (by kernel_rfl) (by kernel_rfl) (fun d _ _ _ _ h => by cases d <;> exact h) ?_
    simp only [Gr.pick, List.getElem?_cons_zero, List.getElem?_cons_succ, List.drop_succ_cons, List.drop_zero]
    generalize w2.drew = w3 at *
    iterate 2
      refine Gr.walk_t ?_ (Or.inl ⟨by rfl, ?_⟩) ?_
      rotate_left
      · intro w' hw'
        clear hw'
        go_simp
        try with_reducible rfl
      simp only [Act.put, List.setIfInBounds_toArray, List.set_cons_zero, List.set_cons_succ]
    refine Gr.walk_c (fun K hK => ?_)
    go_simp
    refine (kof_any w3 HV3.out).mono ?_
    rintro e w4 ⟨rfl, hx⟩
    rw [← HQ.out]
    have HX4 := Lib.hid (Gr.ext_trans HX3.out hx)
    have HA4 := Lib.hid (KAt.ext HA3.out hx)
    have HB4 := Lib.hid (KAt.ext HB3.out hx)
    have HV4 := Lib.hid (HV3.out.ext hx)
    try go_simp
    refine hK.out _ _ (hx) ?_
    clear hK K
    clear hx HX3 HA3 HB3 HV3
    refine Gr.walk_c (fun K hK => ?_)
    go_simp
    refine (rkof_any w4 HV4.out).mono ?_
    rintro e w5 ⟨rfl, hx⟩
    rw [← HQ.out]
    have HX5 := Lib.hid (Gr.ext_trans HX4.out hx)
    have HA5 := Lib.hid (KAt.ext HA4.out hx)
    have HB5 := Lib.hid (KAt.ext HB4.out hx)
    have HV5 := Lib.hid (HV4.out.ext hx)
    try go_simp
    refine hK.out _ _ (hx) ?_
    clear hK K
    clear hx HX4 HA4 HB4 HV4
    refine Gr.walk_t ?_ (Or.inl ⟨by rfl, ?_⟩) ?_
    rotate_left
    · intro w' hw'
      have he := hqe w'
      clear hw'
      go_simp
      try with_reducible rfl
    simp only [Act.put, List.setIfInBounds_toArray, List.set_cons_zero, List.set_cons_succ]
    refine Gr.walk_t ?_ (Or.inl ⟨by rfl, ?_⟩) ?_
    rotate_left
    · intro w' hw'
      clear hw'
      go_simp
      try with_reducible rfl
    simp only [Act.put, List.setIfInBounds_toArray, List.set_cons_zero, List.set_cons_succ]
    refine Gr.walk_t _ (Or.inl ⟨by rfl, fun w' hw' => (KAt.ext HA5.out hw').yields HKA.out.1 rfl rfl⟩) ?_
    simp only [Act.put, List.setIfInBounds_toArray, List.set_cons_zero, List.set_cons_succ]
    refine Gr.walk_t _ (Or.inl ⟨by rfl, fun w' hw' => (KAt.ext HB5.out hw').yields HKB.out.1 rfl rfl⟩) ?_
    simp only [Act.put, List.setIfInBounds_toArray, List.set_cons_zero, List.set_cons_succ]
    refine Gr.walk_t _ (Or.inl ⟨by rfl, fun w' hw' => (KAt.ext HA5.out hw').yields HKA.out.1 rfl rfl⟩) ?_
    simp only [Act.put, List.setIfInBounds_toArray, List.set_cons_zero, List.set_cons_succ]
    refine Gr.walk_t _ (Or.inl ⟨by rfl, fun w' hw' => (KAt.ext HB5.out hw').yields HKB.out.1 rfl rfl⟩) ?_
    simp only [Act.put, List.setIfInBounds_toArray, List.set_cons_zero, List.set_cons_succ]
    refine Gr.walk_c (fun K hK => ?_)
    go_simp
    refine (kdist_any HKA.out HKB.out w5).mono ?_
    rintro e w6 ⟨rfl, hx⟩
    rw [← HD.out]
    have HX6 := Lib.hid (Gr.ext_trans HX5.out hx)
    have HA6 := Lib.hid (KAt.ext HA5.out hx)
    have HB6 := Lib.hid (KAt.ext HB5.out hx)
    have HV6 := Lib.hid (HV5.out.ext hx)
    try go_simp
    refine hK.out _ _ (hx) ?_
    clear hK K
    clear hx HX5 HA5 HB5 HV5
    refine Gr.walk_c (fun K hK => ?_)
    go_simp
    refine (rkdist_any HKA.out HKB.out w6).mono ?_
    rintro e w7 ⟨rfl, hx⟩
    rw [← HD.out]
    have HX7 := Lib.hid (Gr.ext_trans HX6.out hx)
    have HA7 := Lib.hid (KAt.ext HA6.out hx)
    have HB7 := Lib.hid (KAt.ext HB6.out hx)
    have HV7 := Lib.hid (HV6.out.ext hx)
    try go_simp
    refine hK.out _ _ (hx) ?_
    clear hK K
    clear hx HX6 HA6 HB6 HV6
    refine Gr.walk_t ?_ (Or.inl ⟨by rfl, ?_⟩) ?_
    rotate_left
    · intro w' hw'
      have he := hde w'
      clear hw'
      go_simp
      try with_reducible rfl
    simp only [Act.put, List.setIfInBounds_toArray, List.set_cons_zero, List.set_cons_succ]
    iterate 2
      refine Gr.walk_t ?_ (Or.inl ⟨by rfl, ?_⟩) ?_
      rotate_left
      · intro w' hw'
        clear hw'
        go_simp
        try with_reducible rfl
      simp only [Act.put, List.setIfInBounds_toArray, List.set_cons_zero, List.set_cons_succ]
    refine Gr.walk_t _ (Or.inl ⟨by rfl, fun w' hw' => (KAt.ext HA7.out hw').yields HKA.out.1 rfl rfl⟩) ?_
    simp only [Act.put, List.setIfInBounds_toArray, List.set_cons_zero, List.set_cons_succ]
    refine Gr.walk_t _ (Or.inl ⟨by rfl, fun w' hw' => (KAt.ext HB7.out hw').yields HKB.out.1 rfl rfl⟩) ?_
    simp only [Act.put, List.setIfInBounds_toArray, List.set_cons_zero, List.set_cons_succ]
    refine Gr.walk_t _ (Or.inl ⟨by rfl, fun w' hw' => (KAt.ext HA7.out hw').yields HKA.out.1 rfl rfl⟩) ?_
    simp only [Act.put, List.setIfInBounds_toArray, List.set_cons_zero, List.set_cons_succ]
    refine Gr.walk_t _ (Or.inl ⟨by rfl, fun w' hw' => (KAt.ext HB7.out hw').yields HKB.out.1 rfl rfl⟩) ?_
    simp only [Act.put, List.setIfInBounds_toArray, List.set_cons_zero, List.set_cons_succ]
    refine Gr.walk_c (fun K hK => ?_)
    go_simp
    refine (kless_any HKA.out HKB.out w7).mono ?_
    rintro e w8 ⟨rfl, hx⟩
    rw [← HT.out]
    have HX8 := Lib.hid (Gr.ext_trans HX7.out hx)
    have HA8 := Lib.hid (KAt.ext HA7.out hx)
    have HB8 := Lib.hid (KAt.ext HB7.out hx)
    have HV8 := Lib.hid (HV7.out.ext hx)
    try go_simp
    refine hK.out _ _ (hx) ?_
    clear hK K
    clear hx HX7 HA7 HB7 HV7
    refine Gr.walk_c (fun K hK => ?_)
    go_simp
    refine (rkless_any HKA.out HKB.out w8).mono ?_
    rintro e w9 ⟨rfl, hx⟩
    rw [← HT.out]
    have HX9 := Lib.hid (Gr.ext_trans HX8.out hx)
    have HA9 := Lib.hid (KAt.ext HA8.out hx)
    have HB9 := Lib.hid (KAt.ext HB8.out hx)
    have HV9 := Lib.hid (HV8.out.ext hx)
    try go_simp
    refine hK.out _ _ (hx) ?_
    clear hK K
    clear hx HX8 HA8 HB8 HV8
    iterate 3
      refine Gr.walk_t ?_ (Or.inl ⟨by rfl, ?_⟩) ?_
      rotate_left
      · intro w' hw'
        clear hw'
        go_simp
        try with_reducible rfl
      simp only [Act.put, List.setIfInBounds_toArray, List.set_cons_zero, List.set_cons_succ]
    refine Gr.walk_t _ (Or.inl ⟨by rfl, fun w' hw' => (KAt.ext HA9.out hw').yields HKA.out.1 rfl rfl⟩) ?_
    simp only [Act.put, List.setIfInBounds_toArray, List.set_cons_zero, List.set_cons_succ]
    refine Gr.walk_t _ (Or.inl ⟨by rfl, fun w' hw' => (KAt.ext HB9.out hw').yields HKB.out.1 rfl rfl⟩) ?_
    simp only [Act.put, List.setIfInBounds_toArray, List.set_cons_zero, List.set_cons_succ]
    refine Gr.walk_t _ (Or.inl ⟨by rfl, fun w' hw' => (KAt.ext HA9.out hw').yields HKA.out.1 rfl rfl⟩) ?_
    simp only [Act.put, List.setIfInBounds_toArray, List.set_cons_zero, List.set_cons_succ]
    refine Gr.walk_t _ (Or.inl ⟨by rfl, fun w' hw' => (KAt.ext HB9.out hw').yields HKB.out.1 rfl rfl⟩) ?_
    simp only [Act.put, List.setIfInBounds_toArray, List.set_cons_zero, List.set_cons_succ]
    refine Gr.walk_c (fun K hK => ?_)
    go_simp
    refine (kpre_any HKA.out HKB.out w9).mono ?_
    rintro e w10 ⟨rfl, hx⟩
    rw [← HM.out]
    have HX10 := Lib.hid (Gr.ext_trans HX9.out hx)
    have HA10 := Lib.hid (KAt.ext HA9.out hx)
    have HB10 := Lib.hid (KAt.ext HB9.out hx)
    have HV10 := Lib.hid (HV9.out.ext hx)
    try go_simp
    refine hK.out _ _ (hx) ?_
    clear hK K
    clear hx HX9 HA9 HB9 HV9
    refine Gr.walk_c (fun K hK => ?_)
    go_simp
    refine (rkpre_any HKA.out HKB.out w10).mono ?_
    rintro e w11 ⟨rfl, hx⟩
    rw [← HM.out]
    have HX11 := Lib.hid (Gr.ext_trans HX10.out hx)
    have HA11 := Lib.hid (KAt.ext HA10.out hx)
    have HB11 := Lib.hid (KAt.ext HB10.out hx)
    have HV11 := Lib.hid (HV10.out.ext hx)
    try go_simp
    refine hK.out _ _ (hx) ?_
    clear hK K
    clear hx HX10 HA10 HB10 HV10
    iterate 2
      refine Gr.walk_t ?_ (Or.inl ⟨by rfl, ?_⟩) ?_
      rotate_left
      · intro w' hw'
        clear hw'
        go_simp
        try with_reducible rfl
      simp only [Act.put, List.setIfInBounds_toArray, List.set_cons_zero, List.set_cons_succ]
    refine Gr.walk_nil ?_
    go_wp2
    go_ret
    exact ⟨rfl, Gr.below_of HX11.out⟩
end Go.Proofs.Ytldkmbnidfpcoaa
