/- KeyFar' function answers true. Written by gen_keyw.py. -/
import Derived.Test.YtldkmbnidfpcoaaKeyLive
import Derived.Deep.WholeRow
namespace Go.Proofs.Ytldkmbnidfpcoaa
set_option maxRecDepth 20000
open Go.RowKit
set_option linter.unusedVariables false
set_option maxHeartbeats 4000000 in
theorem KeyFar_walk (a b c : List Nat) (w : World) (ha : KY.Ok a) (hb : KY.Ok b) (hc : KY.Ok c) :
    Calls Try.prog 4 #[KV a, KV b, KV c] w fun e w' => e = .returned (.bool true) ∧ Below w.heap.size w w' := by
  have HKA := Lib.hid ha
  have HKB := Lib.hid hb
  have HKC := Lib.hid hc
  have HLA := Lib.hid ha.1
  have HLB := Lib.hid hb.1
  have HLC := Lib.hid hc.1
  obtain ⟨d, hd⟩ : ∃ d, d = KY.dist a b := ⟨_, rfl⟩
  obtain ⟨f, hf⟩ : ∃ f, f = KY.dist b c := ⟨_, rfl⟩
  obtain ⟨g, hg⟩ : ∃ g, g = KY.dist a c := ⟨_, rfl⟩
  have hdk : KY.Ok d := by rw [hd]; exact KY.dist_ok ha hb
  have hfk : KY.Ok f := by rw [hf]; exact KY.dist_ok hb hc
  have hgk : KY.Ok g := by rw [hg]; exact KY.dist_ok ha hc
  have HD := Lib.hid hd
  have HF := Lib.hid hf
  have HG := Lib.hid hg
  have HKD := Lib.hid hdk
  have HKF := Lib.hid hfk
  have HLX := Lib.hid hdk.1
  have HBA := Lib.hid (show KY.dist b a = d by rw [hd]; exact KY.dist_comm hb.1 ha.1)
  have HAA := Lib.hid (KY.dist_self ha.1)
  have HDF := Lib.hid (show KY.dist d f = g by rw [hd, hf, hg]; exact KY.dist_way ha.1 hb.1 hc.1)
  obtain ⟨z, hz⟩ : ∃ z, z = decide (a = b) := ⟨_, rfl⟩
  have hdd := key_eq_run hdk.1 hdk.1 (decide_eq_true rfl)
  have hgg := key_eq_run hgk.1 hgk.1 (decide_eq_true rfl)
  have hzz := key_eq_run (a := KY.zero) (b := KY.zero) rfl rfl (decide_eq_true rfl)
  have hab := key_eq_run ha.1 hb.1 hz.symm
  have hdz := key_eq_run hdk.1 (b := KY.zero) rfl (show decide (d = KY.zero) = z by rw [hz, hd]; exact decide_eq_decide.2 (KY.dist_zero ha.1 hb.1))
  rw [← KV_zero] at hdz
  have hzz' : ∀ w : World, (Op.equalIn 10000 24 (KV KY.zero) (.agg Z20)).run Try.prog w = .ok true w := by rw [KV_zero]; exact hzz
  clear hd hf hg hdk hfk hgk hz hzz ha hb hc
  go_enter Try.func4, Try.ntmps4
  go_upto_region 1 with fail
  have HB := Lib.hid (Boxed3.made w HKA.out HKB.out HKC.out)
  generalize hw1 : World.alloc _ _ = w1 at *
  clear hw1
  obtain ⟨s, hs⟩ : ∃ s, s = w.heap.size := ⟨_, rfl⟩
  rw [← hs] at HB ⊢
  have HS := Lib.hid hs
  clear hs
  go_wp2_with fail
  refine (alive17_any _).mono ?_
  rintro e w2 ⟨rfl, hx⟩
  have HX2 := Lib.hid (Gr.ext_trans HB.out.ext hx)
  have HA2 := Lib.hid (KAt.ext HB.out.a hx)
  have HB2 := Lib.hid (KAt.ext HB.out.b hx)
  have HC2 := Lib.hid (KAt.ext HB.out.c hx)
  clear hx HB
  go_upto_region 4 with fail
  have hk1 := KAt.block HA2.out HLA.out
  have hk2 := KAt.block HB2.out HLB.out
  have hi1 := key_info HLA.out
  have hi2 := key_info HLB.out
  go_wp2_with (first | (refine wpList_load_row rfl 24 (.tmp 3) rfl s rfl 24 (KC a) (0, 0) _ hk1 Try.underlying24 rfl hi1 ?_) | (refine wpList_load_row rfl 24 (.tmp 4) rfl (s + 1) rfl 24 (KC b) (0, 0) _ hk2 Try.underlying24 rfl hi2 ?_) | fail)
  refine (kdist_any HKA.out HKB.out _).mono ?_
  rintro e w3 ⟨rfl, hx⟩
  rw [← HD.out]
  have HX3 := Lib.hid (Gr.ext_trans HX2.out hx)
  have HA3 := Lib.hid (KAt.ext HA2.out hx)
  have HB3 := Lib.hid (KAt.ext HB2.out hx)
  have HC3 := Lib.hid (KAt.ext HC2.out hx)
  clear hx HX2 HA2 HB2 HC2 hk1 hk2 hi1 hi2
  have hk4 := heap_alloc_new w3 (.cells Z20 24)
  have hsame : Z20.size = (KC d).size := by rw [KC_size, HLX.out]; rfl
  have hi4 := key_info HLX.out
  go_upto_region 5 with (refine wpList_store_row rfl 24 (.tmp 8) (.tmp 15) rfl w3.heap.size (KC d) rfl rfl 24 Z20 hk4 hi4 hsame KC_one ?_)
  rw [World.setRow_alloc_new]
  clear hk4 hsame hi4
  have HX4 := Lib.hid (Gr.ext_drew (Gr.ext_trans HX3.out (Gr.ext_of ((Below.refl w3.heap.size w3).alloc (Nat.le_refl _) (.cells (KC d) 24)))))
  have HA4 := Lib.hid (World.rowIs.drew (World.rowIs.alloc HA3.out (.cells (KC d) 24)))
  have HB4 := Lib.hid (World.rowIs.drew (World.rowIs.alloc HB3.out (.cells (KC d) 24)))
  have HC4 := Lib.hid (World.rowIs.drew (World.rowIs.alloc HC3.out (.cells (KC d) 24)))
  have HQ4 := Lib.hid (World.rowIs.drew (KAt.new w3 HLX.out))
  refine Gr.region 34 [(false,0),(false,1),(false,2),(true,3),(false,4),(false,5),(false,6),(false,7),(false,9),(true,8),(false,10),(false,11),(false,12),(false,13),(false,14),(false,16),(false,17),(false,20),(false,21),(true,15),(true,18),(true,19),(true,22),(false,23),(false,24),(false,25),(false,26),(false,27),(false,28),(false,29),(false,30),(false,31),(false,32),(false,33)] (by kernel_rfl) (by kernel_rfl) (fun d _ _ _ _ h => by cases d <;> exact h) ?_
  simp only [Gr.pick, List.getElem?_cons_zero, List.getElem?_cons_succ, List.drop_succ_cons, List.drop_zero]
  generalize hw4 : World.drew _ = w4 at *
  clear hw4
  obtain ⟨sx, hsx⟩ : ∃ sx, sx = w3.heap.size := ⟨_, rfl⟩
  rw [← hsx] at HQ4 ⊢
  clear hsx HX3 HA3 HB3 HC3
  refine Gr.walk_t _ (Or.inl ⟨by rfl, fun w' hw' => (KAt.ext HQ4.out hw').yields HLX.out rfl rfl⟩) ?_
  simp only [Act.put, List.setIfInBounds_toArray, List.set_cons_zero, List.set_cons_succ]
  refine Gr.walk_t _ (Or.inl ⟨by rfl, fun w' hw' => (KAt.ext HB4.out hw').yields HLB.out rfl rfl⟩) ?_
  simp only [Act.put, List.setIfInBounds_toArray, List.set_cons_zero, List.set_cons_succ]
  refine Gr.walk_t _ (Or.inl ⟨by rfl, fun w' hw' => (KAt.ext HA4.out hw').yields HLA.out rfl rfl⟩) ?_
  simp only [Act.put, List.setIfInBounds_toArray, List.set_cons_zero, List.set_cons_succ]
  refine Gr.walk_c (fun K hK => ?_)
  go_simp
  refine (kdist_any HKB.out HKA.out w4).mono ?_
  rintro e w5 ⟨rfl, hx⟩
  rw [HBA.out]
  have HX5 := Lib.hid (Gr.ext_trans HX4.out hx)
  have HA5 := Lib.hid (KAt.ext HA4.out hx)
  have HB5 := Lib.hid (KAt.ext HB4.out hx)
  have HC5 := Lib.hid (KAt.ext HC4.out hx)
  have HQ5 := Lib.hid (KAt.ext HQ4.out hx)
  try go_simp
  refine hK.out _ _ (hx) ?_
  clear hK K
  clear hx HX4 HA4 HB4 HC4 HQ4
  refine Gr.walk_t ?_ (Or.inl ⟨by rfl, ?_⟩) ?_
  rotate_left
  · intro w' hw'
    have he := hdd w'
    clear hw'
    go_simp
    try with_reducible rfl
  simp only [Act.put, List.setIfInBounds_toArray, List.set_cons_zero, List.set_cons_succ]
  refine Gr.walk_t ?_ (Or.inl ⟨by rfl, ?_⟩) ?_
  rotate_left
  · intro w' hw'
    clear hw'
    go_simp
    try with_reducible rfl
  simp only [Act.put, List.setIfInBounds_toArray, List.set_cons_zero, List.set_cons_succ]
  refine Gr.walk_t _ (Or.inl ⟨by rfl, fun w' hw' => (KAt.ext HA5.out hw').yields HLA.out rfl rfl⟩) ?_
  simp only [Act.put, List.setIfInBounds_toArray, List.set_cons_zero, List.set_cons_succ]
  refine Gr.walk_t _ (Or.inl ⟨by rfl, fun w' hw' => (KAt.ext HA5.out hw').yields HLA.out rfl rfl⟩) ?_
  simp only [Act.put, List.setIfInBounds_toArray, List.set_cons_zero, List.set_cons_succ]
  refine Gr.walk_t ?_ (Or.inl ⟨by rfl, ?_⟩) ?_
  rotate_left
  · intro w' hw'
    clear hw'
    go_simp
    try with_reducible rfl
  simp only [Act.put, List.setIfInBounds_toArray, List.set_cons_zero, List.set_cons_succ]
  refine Gr.walk_c (fun K hK => ?_)
  go_simp
  refine (kdist_any HKA.out HKA.out w5).mono ?_
  rintro e w6 ⟨rfl, hx⟩
  rw [HAA.out]
  have HX6 := Lib.hid (Gr.ext_trans HX5.out hx)
  have HA6 := Lib.hid (KAt.ext HA5.out hx)
  have HB6 := Lib.hid (KAt.ext HB5.out hx)
  have HC6 := Lib.hid (KAt.ext HC5.out hx)
  have HQ6 := Lib.hid (KAt.ext HQ5.out hx)
  try go_simp
  refine hK.out _ _ (hx) ?_
  clear hK K
  clear hx HX5 HA5 HB5 HC5 HQ5
  refine Gr.walk_t ?_ (Or.inl ⟨by rfl, ?_⟩) ?_
  rotate_left
  · intro w' hw'
    have he := hzz' w'
    clear hw'
    go_simp
    try with_reducible rfl
  simp only [Act.put, List.setIfInBounds_toArray, List.set_cons_zero, List.set_cons_succ]
  iterate 2
    refine Gr.walk_t ?_ (Or.inl ⟨by rfl, ?_⟩) ?_
    rotate_left
    · intro w' hw'
      clear hw'
      go_simp
      try with_reducible rfl
    simp only [Act.put, List.setIfInBounds_toArray, List.set_cons_zero, List.set_cons_succ]
  refine Gr.walk_t _ (Or.inl ⟨by rfl, fun w' hw' => (KAt.ext HA6.out hw').yields HLA.out rfl rfl⟩) ?_
  simp only [Act.put, List.setIfInBounds_toArray, List.set_cons_zero, List.set_cons_succ]
  refine Gr.walk_t _ (Or.inl ⟨by rfl, fun w' hw' => (KAt.ext HB6.out hw').yields HLB.out rfl rfl⟩) ?_
  simp only [Act.put, List.setIfInBounds_toArray, List.set_cons_zero, List.set_cons_succ]
  refine Gr.walk_t _ (Or.inl ⟨by rfl, fun w' hw' => (KAt.ext HB6.out hw').yields HLB.out rfl rfl⟩) ?_
  simp only [Act.put, List.setIfInBounds_toArray, List.set_cons_zero, List.set_cons_succ]
  refine Gr.walk_t _ (Or.inl ⟨by rfl, fun w' hw' => (KAt.ext HC6.out hw').yields HLC.out rfl rfl⟩) ?_
  simp only [Act.put, List.setIfInBounds_toArray, List.set_cons_zero, List.set_cons_succ]
  refine Gr.walk_t _ (Or.inl ⟨by rfl, fun w' hw' => (KAt.ext HA6.out hw').yields HLA.out rfl rfl⟩) ?_
  simp only [Act.put, List.setIfInBounds_toArray, List.set_cons_zero, List.set_cons_succ]
  refine Gr.walk_t _ (Or.inl ⟨by rfl, fun w' hw' => (KAt.ext HC6.out hw').yields HLC.out rfl rfl⟩) ?_
  simp only [Act.put, List.setIfInBounds_toArray, List.set_cons_zero, List.set_cons_succ]
  refine Gr.walk_c (fun K hK => ?_)
  go_simp
  refine (kdist_any HKA.out HKB.out w6).mono ?_
  rintro e w7 ⟨rfl, hx⟩
  rw [← HD.out]
  have HX7 := Lib.hid (Gr.ext_trans HX6.out hx)
  have HA7 := Lib.hid (KAt.ext HA6.out hx)
  have HB7 := Lib.hid (KAt.ext HB6.out hx)
  have HC7 := Lib.hid (KAt.ext HC6.out hx)
  have HQ7 := Lib.hid (KAt.ext HQ6.out hx)
  try go_simp
  refine hK.out _ _ (hx) ?_
  clear hK K
  clear hx HX6 HA6 HB6 HC6 HQ6
  refine Gr.walk_c (fun K hK => ?_)
  go_simp
  refine (kdist_any HKB.out HKC.out w7).mono ?_
  rintro e w8 ⟨rfl, hx⟩
  rw [← HF.out]
  have HX8 := Lib.hid (Gr.ext_trans HX7.out hx)
  have HA8 := Lib.hid (KAt.ext HA7.out hx)
  have HB8 := Lib.hid (KAt.ext HB7.out hx)
  have HC8 := Lib.hid (KAt.ext HC7.out hx)
  have HQ8 := Lib.hid (KAt.ext HQ7.out hx)
  try go_simp
  refine hK.out _ _ (hx) ?_
  clear hK K
  clear hx HX7 HA7 HB7 HC7 HQ7
  refine Gr.walk_c (fun K hK => ?_)
  go_simp
  refine (kdist_any HKD.out HKF.out w8).mono ?_
  rintro e w9 ⟨rfl, hx⟩
  rw [HDF.out]
  have HX9 := Lib.hid (Gr.ext_trans HX8.out hx)
  have HA9 := Lib.hid (KAt.ext HA8.out hx)
  have HB9 := Lib.hid (KAt.ext HB8.out hx)
  have HC9 := Lib.hid (KAt.ext HC8.out hx)
  have HQ9 := Lib.hid (KAt.ext HQ8.out hx)
  try go_simp
  refine hK.out _ _ (hx) ?_
  clear hK K
  clear hx HX8 HA8 HB8 HC8 HQ8
  refine Gr.walk_c (fun K hK => ?_)
  go_simp
  refine (kdist_any HKA.out HKC.out w9).mono ?_
  rintro e w10 ⟨rfl, hx⟩
  rw [← HG.out]
  have HX10 := Lib.hid (Gr.ext_trans HX9.out hx)
  have HA10 := Lib.hid (KAt.ext HA9.out hx)
  have HB10 := Lib.hid (KAt.ext HB9.out hx)
  have HC10 := Lib.hid (KAt.ext HC9.out hx)
  have HQ10 := Lib.hid (KAt.ext HQ9.out hx)
  try go_simp
  refine hK.out _ _ (hx) ?_
  clear hK K
  clear hx HX9 HA9 HB9 HC9 HQ9
  refine Gr.walk_t ?_ (Or.inl ⟨by rfl, ?_⟩) ?_
  rotate_left
  · intro w' hw'
    have he := hgg w'
    clear hw'
    go_simp
    try with_reducible rfl
  simp only [Act.put, List.setIfInBounds_toArray, List.set_cons_zero, List.set_cons_succ]
  iterate 2
    refine Gr.walk_t ?_ (Or.inl ⟨by rfl, ?_⟩) ?_
    rotate_left
    · intro w' hw'
      clear hw'
      go_simp
      try with_reducible rfl
    simp only [Act.put, List.setIfInBounds_toArray, List.set_cons_zero, List.set_cons_succ]
  refine Gr.walk_t _ (Or.inl ⟨by rfl, fun w' hw' => (KAt.ext HQ10.out hw').yields HLX.out rfl rfl⟩) ?_
  simp only [Act.put, List.setIfInBounds_toArray, List.set_cons_zero, List.set_cons_succ]
  refine Gr.walk_t ?_ (Or.inl ⟨by rfl, ?_⟩) ?_
  rotate_left
  · intro w' hw'
    clear hw'
    go_simp
    try with_reducible rfl
  simp only [Act.put, List.setIfInBounds_toArray, List.set_cons_zero, List.set_cons_succ]
  refine Gr.walk_t ?_ (Or.inl ⟨by rfl, ?_⟩) ?_
  rotate_left
  · intro w' hw'
    have he := hdz w'
    clear hw'
    go_simp
    try with_reducible rfl
  simp only [Act.put, List.setIfInBounds_toArray, List.set_cons_zero, List.set_cons_succ]
  refine Gr.walk_t _ (Or.inl ⟨by rfl, fun w' hw' => (KAt.ext HA10.out hw').yields HLA.out rfl rfl⟩) ?_
  simp only [Act.put, List.setIfInBounds_toArray, List.set_cons_zero, List.set_cons_succ]
  refine Gr.walk_t _ (Or.inl ⟨by rfl, fun w' hw' => (KAt.ext HB10.out hw').yields HLB.out rfl rfl⟩) ?_
  simp only [Act.put, List.setIfInBounds_toArray, List.set_cons_zero, List.set_cons_succ]
  refine Gr.walk_t ?_ (Or.inl ⟨by rfl, ?_⟩) ?_
  rotate_left
  · intro w' hw'
    have he := hab w'
    clear hw'
    go_simp
    try with_reducible rfl
  simp only [Act.put, List.setIfInBounds_toArray, List.set_cons_zero, List.set_cons_succ]
  iterate 2
    refine Gr.walk_t ?_ (Or.inl ⟨by rfl, ?_⟩) ?_
    rotate_left
    · intro w' hw'
      clear hw'
      go_simp
      try with_reducible rfl
    simp only [Act.put, List.setIfInBounds_toArray, List.set_cons_zero, List.set_cons_succ]
  refine Gr.walk_nil ?_
  go_wp2
  go_ret
  exact ⟨rfl, Gr.below_of HX10.out⟩
end Go.Proofs.Ytldkmbnidfpcoaa
