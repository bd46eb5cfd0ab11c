/- RowsTwice: a row summed with itself is nothing, sums have no order, a product is shared out. -/
import Derived.Test.YtkpgdgmjeoogdaaTellWalk
namespace Go.Proofs.Ytkpgdgmjeoogdaa
open Go.RowKit
theorem cut_small (m : Nat) (h : m ≤ 200) : RM.cut (m : Int) = m := by unfold RM.cut; omega
theorem sum_len (n : Nat) (l : List (List Nat)) : (RM.sum n l).length = n := RM.sum_length n l
/-- A slice in new memory that reads as these bytes. -/
def MadeSlice (w : World) (xs : List Nat) (e : Ending) (w' : World) : Prop := ∃ b, e = .returned (.slice (some ⟨b, 0, none⟩) xs.length xs.length) ∧ w.Extends w' ∧ U8s w' (.slice (some ⟨b, 0, none⟩) xs.length xs.length) xs
theorem sum_made (m : Nat) (v : Value) (l : List (List Nat)) (w : World) (hm : m ≤ 200) (hv : Rws w v l) : Calls Try.prog 10 #[.int .i64 m, v] w (MadeSlice w (RM.sum m l)) :=
  (sum_any m v l w hv).mono fun e w' ⟨he, hb, ho⟩ => by
    rw [cut_small m hm] at he ho
    exact ⟨w.heap.size, by rw [sum_len]; exact he, Gr.ext_of hb, ho.u8s⟩
theorem rsum_made (m : Nat) (v : Value) (l : List (List Nat)) (w : World) (hm : m ≤ 200) (hv : Rws w v l) : Calls Try.prog 12 #[.int .i64 m, v] w (MadeSlice w (RM.sum m l)) :=
  (rsum_any m v l w hv).mono fun e w' ⟨he, hb, ho⟩ => by
    rw [cut_small m hm] at he ho
    exact ⟨w.heap.size, by rw [sum_len]; exact he, Gr.ext_of hb, ho.u8s⟩
theorem scale_made (c : Nat) (v : Value) (r : List Nat) (w : World) (hc : c < 256) (hv : U8s w v r) (hlen : r.length ≤ 281474976710656) : Calls Try.prog 17 #[.int .u8 c, v] w (MadeSlice w (RM.scale c r)) :=
  (scale_any c v r w hc hv hlen).mono fun e w' ⟨he, hb, ho⟩ => ⟨w.heap.size, by rw [RM.scale_length]; exact he, Gr.ext_of hb, ho.u8s⟩
set_option maxHeartbeats 4000000 in
set_option maxRecDepth 100000 in
theorem twice_lt (va vb : Value) (by' : Nat) (a b : List Nat) (w : World) (ha : U8s w va a) (hb : U8s w vb b) (hby : by' < 256) (h2 : a.length ≤ 200) (h3 : b.length ≤ 200) (hab : a.length < b.length) :
    Calls Try.prog 4 #[va, vb, .int .u8 by'] w fun e w' => e = .returned (.bool true) ∧ Below w.heap.size w w' := by
  have HA := Lib.hid ha
  have HB := Lib.hid hb
  obtain ⟨aa, ac, rfl, _, _⟩ := ha.slice
  obtain ⟨ba, bc, rfl, _, _⟩ := hb.slice
  clear ha hb
  generalize hal : a.length = al at *
  generalize hbl : b.length = bl at *
  have HALN := Lib.hid hal; clear hal
  have HBLN := Lib.hid hbl; clear hbl
  have hm200 : bl ≤ 200 := by omega
  have HMK := Lib.hid (fun w => makeBytes bl (by omega) w)
  have HZ : Hid (∀ w : World, U8s (w.alloc (.cells (madeCells #[.int .u8 0] bl) 5)) (.slice (some ⟨w.heap.size, 0, none⟩) bl bl) (RM.zeros bl)) := fun w => by
    have := (Own.madeZ w bl (by omega)).u8s
    rwa [RM.zeros_length] at this
  go_enter Try.func4, Try.ntmps4
  go_wp2_with fail
  refine (alive2_any _).mono ?_
  rintro e w1 ⟨rfl, hb1⟩
  have HX1 := Lib.hid (Gr.ext_of hb1)
  clear hb1
  go_wp2_with fail
  refine (sum_made bl _ [a, b] _ hm200 (rws_two _ _ _ _ _ _ _ (HA.out.ext HX1.out) (HB.out.ext HX1.out))).mono ?_
  rintro e w2 ⟨b2, he2, hx2, hu2⟩
  rw [sum_len] at he2 hu2
  subst he2
  have HE2 := Lib.hid (Gr.ext_trans (ext_alloc w1 _) hx2)
  have HX2 := Lib.hid (Gr.ext_trans HX1.out HE2.out)
  have SX2 := Lib.hid hu2
  clear hx2 hu2 HE2
  go_wp2_with fail
  refine (sum_made bl _ [b, a] _ hm200 (rws_two _ _ _ _ _ _ _ (HB.out.ext HX2.out) (HA.out.ext HX2.out))).mono ?_
  rintro e w3 ⟨b3, he3, hx3, hu3⟩
  rw [sum_len] at he3 hu3
  subst he3
  have HE3 := Lib.hid (Gr.ext_trans (ext_alloc w2 _) hx3)
  have HX3 := Lib.hid (Gr.ext_trans HX2.out HE3.out)
  have SX3 := Lib.hid (SX2.out.ext HE3.out)
  have SY3 := Lib.hid hu3
  clear hx3 hu3 HE3 SX2
  go_wp2_with fail
  refine (sum_made bl _ [a, b, a] _ hm200 (rws_three _ _ _ _ _ _ _ _ _ (HA.out.ext HX3.out) (HB.out.ext HX3.out) (HA.out.ext HX3.out))).mono ?_
  rintro e w4 ⟨b4, he4, hx4, hu4⟩
  rw [sum_len] at he4 hu4
  subst he4
  have HE4 := Lib.hid (Gr.ext_trans (ext_alloc w3 _) hx4)
  have HX4 := Lib.hid (Gr.ext_trans HX3.out HE4.out)
  have SX4 := Lib.hid (SX3.out.ext HE4.out)
  have SY4 := Lib.hid (SY3.out.ext HE4.out)
  have SZ4 := Lib.hid hu4
  clear hx4 hu4 HE4 SX3 SY3
  go_wp2_with fail
  refine (scale_made by' _ (RM.sum bl [a, b]) _ hby SX4.out (by rw [sum_len]; omega)).mono ?_
  rintro e w5 ⟨b5, he5, hx5, hu5⟩
  rw [RM.scale_length, sum_len] at he5 hu5
  subst he5
  have HE5 := Lib.hid (hx5)
  have HX5 := Lib.hid (Gr.ext_trans HX4.out HE5.out)
  have SX5 := Lib.hid (SX4.out.ext HE5.out)
  have SY5 := Lib.hid (SY4.out.ext HE5.out)
  have SZ5 := Lib.hid (SZ4.out.ext HE5.out)
  have SS5 := Lib.hid hu5
  clear hx5 hu5 HE5 SX4 SY4 SZ4
  go_wp2_with fail
  refine (scale_made by' _ a _ hby (HA.out.ext HX5.out) (by rw [HALN.out]; omega)).mono ?_
  rintro e w6 ⟨b6, he6, hx6, hu6⟩
  rw [RM.scale_length, HALN.out] at he6 hu6
  subst he6
  have HE6 := Lib.hid (hx6)
  have HX6 := Lib.hid (Gr.ext_trans HX5.out HE6.out)
  have SX6 := Lib.hid (SX5.out.ext HE6.out)
  have SY6 := Lib.hid (SY5.out.ext HE6.out)
  have SZ6 := Lib.hid (SZ5.out.ext HE6.out)
  have SS6 := Lib.hid (SS5.out.ext HE6.out)
  have SA6 := Lib.hid hu6
  clear hx6 hu6 HE6 SX5 SY5 SZ5 SS5
  go_wp2_with fail
  refine (scale_made by' _ b _ hby (HB.out.ext HX6.out) (by rw [HBLN.out]; omega)).mono ?_
  rintro e w7 ⟨b7, he7, hx7, hu7⟩
  rw [RM.scale_length, HBLN.out] at he7 hu7
  subst he7
  have HE7 := Lib.hid (hx7)
  have HX7 := Lib.hid (Gr.ext_trans HX6.out HE7.out)
  have SX7 := Lib.hid (SX6.out.ext HE7.out)
  have SY7 := Lib.hid (SY6.out.ext HE7.out)
  have SZ7 := Lib.hid (SZ6.out.ext HE7.out)
  have SS7 := Lib.hid (SS6.out.ext HE7.out)
  have SA7 := Lib.hid (SA6.out.ext HE7.out)
  have SB7 := Lib.hid hu7
  clear hx7 hu7 HE7 SX6 SY6 SZ6 SS6 SA6
  go_wp2_with fail
  refine (sum_made bl _ [RM.scale by' a, RM.scale by' b] _ hm200 (rws_two _ _ _ _ _ _ _ SA7.out SB7.out)).mono ?_
  rintro e w8 ⟨b8, he8, hx8, hu8⟩
  rw [sum_len] at he8 hu8
  subst he8
  have HE8 := Lib.hid (Gr.ext_trans (ext_alloc w7 _) hx8)
  have HX8 := Lib.hid (Gr.ext_trans HX7.out HE8.out)
  have SX8 := Lib.hid (SX7.out.ext HE8.out)
  have SY8 := Lib.hid (SY7.out.ext HE8.out)
  have SZ8 := Lib.hid (SZ7.out.ext HE8.out)
  have SS8 := Lib.hid (SS7.out.ext HE8.out)
  have SA8 := Lib.hid (SA7.out.ext HE8.out)
  have SB8 := Lib.hid (SB7.out.ext HE8.out)
  have ST8 := Lib.hid hu8
  clear hx8 hu8 HE8 SX7 SY7 SZ7 SS7 SA7 SB7
  rw [RM.sum_swap bl b a] at SY8
  rw [RM.sum_twice bl a b] at SZ8
  rw [← RM.scale_sum bl by' a b] at ST8
  clear SA8 SB8
  go_wp2_with fail
  refine Gr.regionE 34 7 [(false,0),(false,1),(false,2),(false,3),(false,4),(false,5),(false,6),(false,7),(false,8),(false,9),(true,10),(true,11),(false,12),(false,13),(false,14),(false,15),(false,16),(false,17),(false,18),(false,19),(false,20),(false,21),(false,22),(false,23),(false,24),(false,25),(false,29)] (by kernel_rfl) (by kernel_rfl) (fun d _ _ _ _ h => by cases d <;> exact h) ?_
  simp only [Gr.pick, List.getElem?_cons_zero, List.getElem?_cons_succ]
  refine Gr.walkE_t ?_ (Or.inl ⟨by rfl, ?_⟩) ?_
  rotate_left
  · intro w' hw'
    clear hw'
    go_simp
    try with_reducible rfl
  simp only [Act.put, List.setIfInBounds_toArray, List.set_cons_zero, List.set_cons_succ]
  refine Gr.walkE_t ?_ (Or.inl ⟨by rfl, ?_⟩) ?_
  rotate_left
  · intro w' hw'
    have hcv := conv_row (SX8.out.ext (Gr.of_drew hw'))
    clear hw'
    go_simp
    try with_reducible rfl
  simp only [Act.put, List.setIfInBounds_toArray, List.set_cons_zero, List.set_cons_succ]
  refine Gr.walkE_t ?_ (Or.inl ⟨by rfl, ?_⟩) ?_
  rotate_left
  · intro w' hw'
    clear hw'
    go_simp
    try with_reducible rfl
  simp only [Act.put, List.setIfInBounds_toArray, List.set_cons_zero, List.set_cons_succ]
  refine Gr.walkE_t ?_ (Or.inl ⟨by rfl, ?_⟩) ?_
  rotate_left
  · intro w' hw'
    have hcv := conv_row (SY8.out.ext (Gr.of_drew hw'))
    clear hw'
    go_simp
    try with_reducible rfl
  simp only [Act.put, List.setIfInBounds_toArray, List.set_cons_zero, List.set_cons_succ]
  iterate 3
    refine Gr.walkE_t ?_ (Or.inl ⟨by rfl, ?_⟩) ?_
    rotate_left
    · intro w' hw'
      clear hw'
      go_simp
      try with_reducible rfl
    simp only [Act.put, List.setIfInBounds_toArray, List.set_cons_zero, List.set_cons_succ]
  refine Gr.walkE_t ?_ (Or.inl ⟨by rfl, ?_⟩) ?_
  rotate_left
  · intro w' hw'
    have hcv := conv_row (SZ8.out.ext (Gr.of_drew hw'))
    clear hw'
    go_simp
    try with_reducible rfl
  simp only [Act.put, List.setIfInBounds_toArray, List.set_cons_zero, List.set_cons_succ]
  iterate 2
    refine Gr.walkE_t ?_ (Or.inl ⟨by rfl, ?_⟩) ?_
    rotate_left
    · intro w' hw'
      clear hw'
      go_simp
      try with_reducible rfl
    simp only [Act.put, List.setIfInBounds_toArray, List.set_cons_zero, List.set_cons_succ]
  refine Gr.walkE_c (fun K hK => ?_)
  go_simp
  refine hK.out _ _ (ext_alloc _ _) ?_
  clear hK K
  refine Gr.walkE_c (fun K hK => ?_)
  go_simp
  refine (rsum_made bl _ [b] _ hm200 (rws_one _ _ _ _ _ (HB.out.ext HX8.out)).drew).mono ?_
  rintro e w9 ⟨b9, he9, hx9, hu9⟩
  rw [sum_len] at he9 hu9
  subst he9
  have HE9 := Lib.hid (Gr.ext_trans (Gr.ext_drew (ext_alloc w8 _)) hx9)
  have HX9 := Lib.hid (Gr.ext_trans HX8.out HE9.out)
  have SS9 := Lib.hid (SS8.out.ext HE9.out)
  have ST9 := Lib.hid (ST8.out.ext HE9.out)
  have SR9 := Lib.hid hu9
  clear hu9
  try go_simp
  refine hK.out _ _ (hx9) ?_
  clear hK K
  clear HE9
  refine Gr.walkE_t ?_ (Or.inl ⟨by rfl, ?_⟩) ?_
  rotate_left
  · intro w' hw'
    have hcv := conv_bytes (SR9.out.ext hw')
    clear hw'
    go_simp
    try with_reducible rfl
  simp only [Act.put, List.setIfInBounds_toArray, List.set_cons_zero, List.set_cons_succ]
  iterate 4
    refine Gr.walkE_t ?_ (Or.inl ⟨by rfl, ?_⟩) ?_
    rotate_left
    · intro w' hw'
      clear hw'
      go_simp
      try with_reducible rfl
    simp only [Act.put, List.setIfInBounds_toArray, List.set_cons_zero, List.set_cons_succ]
  refine Gr.walkE_t ?_ (Or.inl ⟨by rfl, ?_⟩) ?_
  rotate_left
  · intro w' hw'
    have hcv := conv_row (SS9.out.ext hw')
    clear hw'
    go_simp
    try with_reducible rfl
  simp only [Act.put, List.setIfInBounds_toArray, List.set_cons_zero, List.set_cons_succ]
  refine Gr.walkE_t ?_ (Or.inl ⟨by rfl, ?_⟩) ?_
  rotate_left
  · intro w' hw'
    clear hw'
    go_simp
    try with_reducible rfl
  simp only [Act.put, List.setIfInBounds_toArray, List.set_cons_zero, List.set_cons_succ]
  refine Gr.walkE_t ?_ (Or.inl ⟨by rfl, ?_⟩) ?_
  rotate_left
  · intro w' hw'
    have hcv := conv_row (ST9.out.ext hw')
    clear hw'
    go_simp
    try with_reducible rfl
  simp only [Act.put, List.setIfInBounds_toArray, List.set_cons_zero, List.set_cons_succ]
  iterate 7
    refine Gr.walkE_t ?_ (Or.inl ⟨by rfl, ?_⟩) ?_
    rotate_left
    · intro w' hw'
      clear hw'
      go_simp
      try with_reducible rfl
    simp only [Act.put, List.setIfInBounds_toArray, List.set_cons_zero, List.set_cons_succ]
  refine Gr.walkE_nil ?_
  have HXw9 := HX9
  refine Gr.Left.two (i := 26) (j := 30) (by kernel_rfl) (by kernel_rfl) (Gr.Step.mk rfl (fun K hK => ?_)) (Gr.Step.mk rfl (fun K hK => ?_))
  · go_simp
    have hrwA := rws_two w9 w9.heap.size 26 _ _ a a (HA.out.ext HXw9.out) (HA.out.ext HXw9.out)
    have hxwA := ext_alloc w9 (.cells #[.slice aa al ac, .slice aa al ac] 26)
    refine hK.out _ _ hxwA ?_
    clear hK K
    generalize w9.alloc (.cells #[.slice aa al ac, .slice aa al ac] 26) = wA at *
    have HXwA := Lib.hid (Gr.ext_trans HXw9.out hxwA)
    refine Gr.Left.two (i := 27) (j := 30) (by kernel_rfl) (by kernel_rfl) (Gr.Step.mk rfl (fun K hK => ?_)) (Gr.Step.mk rfl (fun K hK => ?_))
    · go_simp
      refine (sum_made bl _ [a, a] _ hm200 hrwA).mono ?_
      rintro e wB ⟨bwB, hewB, hxwB, huwB⟩
      rw [sum_len] at hewB huwB
      rw [RM.sum_same] at huwB
      subst hewB
      try go_simp
      refine hK.out _ _ hxwB ?_
      clear hK K
      have HXwB := Lib.hid (Gr.ext_trans HXwA.out hxwB)
      clear hrwA
      refine Gr.Left.take (i := 28) rfl (by kernel_rfl) (fun d _ _ _ _ h => by cases d <;> exact h) ?_ (Or.inl ⟨by rfl, ?_⟩) ?_
      rotate_left
      · intro w' hw'
        have hcv := conv_row (huwB.ext hw')
        clear hw'
        go_simp
        try with_reducible rfl
      simp only [Act.put, List.setIfInBounds_toArray, List.set_cons_zero, List.set_cons_succ]
      refine Gr.Left.one (i := 30) (by kernel_rfl) (by kernel_rfl) (Gr.Step.mk rfl (fun K hK => ?_))
      have hmk := HMK.out
      go_simp
      clear hmk
      have hzwC := HZ.out wB
      have hxwC := ext_alloc wB (.cells (madeCells #[.int .u8 0] bl) 5)
      refine hK.out _ _ hxwC ?_
      clear hK K
      generalize wB.alloc (.cells (madeCells #[.int .u8 0] bl) 5) = wC at *
      have HXwC := Lib.hid (Gr.ext_trans HXwB.out hxwC)
      refine Gr.Left.take (i := 31) rfl (by kernel_rfl) (fun d _ _ _ _ h => by cases d <;> exact h) ?_ (Or.inl ⟨by rfl, ?_⟩) ?_
      rotate_left
      · intro w' hw'
        have hcv := conv_bytes (hzwC.ext hw')
        clear hw'
        go_simp
        try with_reducible rfl
      simp only [Act.put, List.setIfInBounds_toArray, List.set_cons_zero, List.set_cons_succ]
      refine Gr.Left.take (i := 32) rfl (by kernel_rfl) (fun d _ _ _ _ h => by cases d <;> exact h) ?_ (Or.inl ⟨by rfl, ?_⟩) ?_
      rotate_left
      · intro w' hw'
        clear hw'
        go_simp
        try with_reducible rfl
      simp only [Act.put, List.setIfInBounds_toArray, List.set_cons_zero, List.set_cons_succ]
      refine Gr.Left.take (i := 33) rfl (by kernel_rfl) (fun d _ _ _ _ h => by cases d <;> exact h) ?_ (Or.inl ⟨by rfl, ?_⟩) ?_
      rotate_left
      · intro w' hw'
        clear hw'
        go_simp
        try with_reducible rfl
      simp only [Act.put, List.setIfInBounds_toArray, List.set_cons_zero, List.set_cons_succ]
      refine Gr.Left.done (by kernel_rfl) ?_
      simp only [List.drop_succ_cons, List.drop_zero]
      go_wp2
      go_ret
      exact ⟨rfl, Gr.below_of HXwC.out⟩
    · have hmk := HMK.out
      go_simp
      clear hmk
      have hzwB := HZ.out wA
      have hxwB := ext_alloc wA (.cells (madeCells #[.int .u8 0] bl) 5)
      refine hK.out _ _ hxwB ?_
      clear hK K
      generalize wA.alloc (.cells (madeCells #[.int .u8 0] bl) 5) = wB at *
      have HXwB := Lib.hid (Gr.ext_trans HXwA.out hxwB)
      have hrwB := hrwA.ext hxwB
      clear hrwA
      refine Gr.Left.take (i := 31) rfl (by kernel_rfl) (fun d _ _ _ _ h => by cases d <;> exact h) ?_ (Or.inl ⟨by rfl, ?_⟩) ?_
      rotate_left
      · intro w' hw'
        have hcv := conv_bytes (hzwB.ext hw')
        clear hw'
        go_simp
        try with_reducible rfl
      simp only [Act.put, List.setIfInBounds_toArray, List.set_cons_zero, List.set_cons_succ]
      refine Gr.Left.one (i := 27) (by kernel_rfl) (by kernel_rfl) (Gr.Step.mk rfl (fun K hK => ?_))
      go_simp
      refine (sum_made bl _ [a, a] _ hm200 hrwB).mono ?_
      rintro e wC ⟨bwC, hewC, hxwC, huwC⟩
      rw [sum_len] at hewC huwC
      rw [RM.sum_same] at huwC
      subst hewC
      try go_simp
      refine hK.out _ _ hxwC ?_
      clear hK K
      have HXwC := Lib.hid (Gr.ext_trans HXwB.out hxwC)
      clear hrwB
      refine Gr.Left.take (i := 28) rfl (by kernel_rfl) (fun d _ _ _ _ h => by cases d <;> exact h) ?_ (Or.inl ⟨by rfl, ?_⟩) ?_
      rotate_left
      · intro w' hw'
        have hcv := conv_row (huwC.ext hw')
        clear hw'
        go_simp
        try with_reducible rfl
      simp only [Act.put, List.setIfInBounds_toArray, List.set_cons_zero, List.set_cons_succ]
      refine Gr.Left.take (i := 32) rfl (by kernel_rfl) (fun d _ _ _ _ h => by cases d <;> exact h) ?_ (Or.inl ⟨by rfl, ?_⟩) ?_
      rotate_left
      · intro w' hw'
        clear hw'
        go_simp
        try with_reducible rfl
      simp only [Act.put, List.setIfInBounds_toArray, List.set_cons_zero, List.set_cons_succ]
      refine Gr.Left.take (i := 33) rfl (by kernel_rfl) (fun d _ _ _ _ h => by cases d <;> exact h) ?_ (Or.inl ⟨by rfl, ?_⟩) ?_
      rotate_left
      · intro w' hw'
        clear hw'
        go_simp
        try with_reducible rfl
      simp only [Act.put, List.setIfInBounds_toArray, List.set_cons_zero, List.set_cons_succ]
      refine Gr.Left.done (by kernel_rfl) ?_
      simp only [List.drop_succ_cons, List.drop_zero]
      go_wp2
      go_ret
      exact ⟨rfl, Gr.below_of HXwC.out⟩
  · have hmk := HMK.out
    go_simp
    clear hmk
    have hzwA := HZ.out w9
    have hxwA := ext_alloc w9 (.cells (madeCells #[.int .u8 0] bl) 5)
    refine hK.out _ _ hxwA ?_
    clear hK K
    generalize w9.alloc (.cells (madeCells #[.int .u8 0] bl) 5) = wA at *
    have HXwA := Lib.hid (Gr.ext_trans HXw9.out hxwA)
    refine Gr.Left.take (i := 31) rfl (by kernel_rfl) (fun d _ _ _ _ h => by cases d <;> exact h) ?_ (Or.inl ⟨by rfl, ?_⟩) ?_
    rotate_left
    · intro w' hw'
      have hcv := conv_bytes (hzwA.ext hw')
      clear hw'
      go_simp
      try with_reducible rfl
    simp only [Act.put, List.setIfInBounds_toArray, List.set_cons_zero, List.set_cons_succ]
    refine Gr.Left.one (i := 26) (by kernel_rfl) (by kernel_rfl) (Gr.Step.mk rfl (fun K hK => ?_))
    go_simp
    have hrwB := rws_two wA wA.heap.size 26 _ _ a a (HA.out.ext HXwA.out) (HA.out.ext HXwA.out)
    have hxwB := ext_alloc wA (.cells #[.slice aa al ac, .slice aa al ac] 26)
    refine hK.out _ _ hxwB ?_
    clear hK K
    generalize wA.alloc (.cells #[.slice aa al ac, .slice aa al ac] 26) = wB at *
    have HXwB := Lib.hid (Gr.ext_trans HXwA.out hxwB)
    refine Gr.Left.one (i := 27) (by kernel_rfl) (by kernel_rfl) (Gr.Step.mk rfl (fun K hK => ?_))
    go_simp
    refine (sum_made bl _ [a, a] _ hm200 hrwB).mono ?_
    rintro e wC ⟨bwC, hewC, hxwC, huwC⟩
    rw [sum_len] at hewC huwC
    rw [RM.sum_same] at huwC
    subst hewC
    try go_simp
    refine hK.out _ _ hxwC ?_
    clear hK K
    have HXwC := Lib.hid (Gr.ext_trans HXwB.out hxwC)
    clear hrwB
    refine Gr.Left.take (i := 28) rfl (by kernel_rfl) (fun d _ _ _ _ h => by cases d <;> exact h) ?_ (Or.inl ⟨by rfl, ?_⟩) ?_
    rotate_left
    · intro w' hw'
      have hcv := conv_row (huwC.ext hw')
      clear hw'
      go_simp
      try with_reducible rfl
    simp only [Act.put, List.setIfInBounds_toArray, List.set_cons_zero, List.set_cons_succ]
    refine Gr.Left.take (i := 32) rfl (by kernel_rfl) (fun d _ _ _ _ h => by cases d <;> exact h) ?_ (Or.inl ⟨by rfl, ?_⟩) ?_
    rotate_left
    · intro w' hw'
      clear hw'
      go_simp
      try with_reducible rfl
    simp only [Act.put, List.setIfInBounds_toArray, List.set_cons_zero, List.set_cons_succ]
    refine Gr.Left.take (i := 33) rfl (by kernel_rfl) (fun d _ _ _ _ h => by cases d <;> exact h) ?_ (Or.inl ⟨by rfl, ?_⟩) ?_
    rotate_left
    · intro w' hw'
      clear hw'
      go_simp
      try with_reducible rfl
    simp only [Act.put, List.setIfInBounds_toArray, List.set_cons_zero, List.set_cons_succ]
    refine Gr.Left.done (by kernel_rfl) ?_
    simp only [List.drop_succ_cons, List.drop_zero]
    go_wp2
    go_ret
    exact ⟨rfl, Gr.below_of HXwC.out⟩
set_option maxHeartbeats 4000000 in
set_option maxRecDepth 100000 in
theorem twice_ge (va vb : Value) (by' : Nat) (a b : List Nat) (w : World) (ha : U8s w va a) (hb : U8s w vb b) (hby : by' < 256) (h2 : a.length ≤ 200) (h3 : b.length ≤ 200) (hab : ¬ a.length < b.length) :
    Calls Try.prog 4 #[va, vb, .int .u8 by'] w fun e w' => e = .returned (.bool true) ∧ Below w.heap.size w w' := by
  have HA := Lib.hid ha
  have HB := Lib.hid hb
  obtain ⟨aa, ac, rfl, _, _⟩ := ha.slice
  obtain ⟨ba, bc, rfl, _, _⟩ := hb.slice
  clear ha hb
  generalize hal : a.length = al at *
  generalize hbl : b.length = bl at *
  have HALN := Lib.hid hal; clear hal
  have HBLN := Lib.hid hbl; clear hbl
  have hm200 : al ≤ 200 := by omega
  have HMK := Lib.hid (fun w => makeBytes al (by omega) w)
  have HZ : Hid (∀ w : World, U8s (w.alloc (.cells (madeCells #[.int .u8 0] al) 5)) (.slice (some ⟨w.heap.size, 0, none⟩) al al) (RM.zeros al)) := fun w => by
    have := (Own.madeZ w al (by omega)).u8s
    rwa [RM.zeros_length] at this
  go_enter Try.func4, Try.ntmps4
  go_wp2_with fail
  refine (alive2_any _).mono ?_
  rintro e w1 ⟨rfl, hb1⟩
  have HX1 := Lib.hid (Gr.ext_of hb1)
  clear hb1
  go_wp2_with fail
  refine (sum_made al _ [a, b] _ hm200 (rws_two _ _ _ _ _ _ _ (HA.out.ext HX1.out) (HB.out.ext HX1.out))).mono ?_
  rintro e w2 ⟨b2, he2, hx2, hu2⟩
  rw [sum_len] at he2 hu2
  subst he2
  have HE2 := Lib.hid (Gr.ext_trans (ext_alloc w1 _) hx2)
  have HX2 := Lib.hid (Gr.ext_trans HX1.out HE2.out)
  have SX2 := Lib.hid hu2
  clear hx2 hu2 HE2
  go_wp2_with fail
  refine (sum_made al _ [b, a] _ hm200 (rws_two _ _ _ _ _ _ _ (HB.out.ext HX2.out) (HA.out.ext HX2.out))).mono ?_
  rintro e w3 ⟨b3, he3, hx3, hu3⟩
  rw [sum_len] at he3 hu3
  subst he3
  have HE3 := Lib.hid (Gr.ext_trans (ext_alloc w2 _) hx3)
  have HX3 := Lib.hid (Gr.ext_trans HX2.out HE3.out)
  have SX3 := Lib.hid (SX2.out.ext HE3.out)
  have SY3 := Lib.hid hu3
  clear hx3 hu3 HE3 SX2
  go_wp2_with fail
  refine (sum_made al _ [a, b, a] _ hm200 (rws_three _ _ _ _ _ _ _ _ _ (HA.out.ext HX3.out) (HB.out.ext HX3.out) (HA.out.ext HX3.out))).mono ?_
  rintro e w4 ⟨b4, he4, hx4, hu4⟩
  rw [sum_len] at he4 hu4
  subst he4
  have HE4 := Lib.hid (Gr.ext_trans (ext_alloc w3 _) hx4)
  have HX4 := Lib.hid (Gr.ext_trans HX3.out HE4.out)
  have SX4 := Lib.hid (SX3.out.ext HE4.out)
  have SY4 := Lib.hid (SY3.out.ext HE4.out)
  have SZ4 := Lib.hid hu4
  clear hx4 hu4 HE4 SX3 SY3
  go_wp2_with fail
  refine (scale_made by' _ (RM.sum al [a, b]) _ hby SX4.out (by rw [sum_len]; omega)).mono ?_
  rintro e w5 ⟨b5, he5, hx5, hu5⟩
  rw [RM.scale_length, sum_len] at he5 hu5
  subst he5
  have HE5 := Lib.hid (hx5)
  have HX5 := Lib.hid (Gr.ext_trans HX4.out HE5.out)
  have SX5 := Lib.hid (SX4.out.ext HE5.out)
  have SY5 := Lib.hid (SY4.out.ext HE5.out)
  have SZ5 := Lib.hid (SZ4.out.ext HE5.out)
  have SS5 := Lib.hid hu5
  clear hx5 hu5 HE5 SX4 SY4 SZ4
  go_wp2_with fail
  refine (scale_made by' _ a _ hby (HA.out.ext HX5.out) (by rw [HALN.out]; omega)).mono ?_
  rintro e w6 ⟨b6, he6, hx6, hu6⟩
  rw [RM.scale_length, HALN.out] at he6 hu6
  subst he6
  have HE6 := Lib.hid (hx6)
  have HX6 := Lib.hid (Gr.ext_trans HX5.out HE6.out)
  have SX6 := Lib.hid (SX5.out.ext HE6.out)
  have SY6 := Lib.hid (SY5.out.ext HE6.out)
  have SZ6 := Lib.hid (SZ5.out.ext HE6.out)
  have SS6 := Lib.hid (SS5.out.ext HE6.out)
  have SA6 := Lib.hid hu6
  clear hx6 hu6 HE6 SX5 SY5 SZ5 SS5
  go_wp2_with fail
  refine (scale_made by' _ b _ hby (HB.out.ext HX6.out) (by rw [HBLN.out]; omega)).mono ?_
  rintro e w7 ⟨b7, he7, hx7, hu7⟩
  rw [RM.scale_length, HBLN.out] at he7 hu7
  subst he7
  have HE7 := Lib.hid (hx7)
  have HX7 := Lib.hid (Gr.ext_trans HX6.out HE7.out)
  have SX7 := Lib.hid (SX6.out.ext HE7.out)
  have SY7 := Lib.hid (SY6.out.ext HE7.out)
  have SZ7 := Lib.hid (SZ6.out.ext HE7.out)
  have SS7 := Lib.hid (SS6.out.ext HE7.out)
  have SA7 := Lib.hid (SA6.out.ext HE7.out)
  have SB7 := Lib.hid hu7
  clear hx7 hu7 HE7 SX6 SY6 SZ6 SS6 SA6
  go_wp2_with fail
  refine (sum_made al _ [RM.scale by' a, RM.scale by' b] _ hm200 (rws_two _ _ _ _ _ _ _ SA7.out SB7.out)).mono ?_
  rintro e w8 ⟨b8, he8, hx8, hu8⟩
  rw [sum_len] at he8 hu8
  subst he8
  have HE8 := Lib.hid (Gr.ext_trans (ext_alloc w7 _) hx8)
  have HX8 := Lib.hid (Gr.ext_trans HX7.out HE8.out)
  have SX8 := Lib.hid (SX7.out.ext HE8.out)
  have SY8 := Lib.hid (SY7.out.ext HE8.out)
  have SZ8 := Lib.hid (SZ7.out.ext HE8.out)
  have SS8 := Lib.hid (SS7.out.ext HE8.out)
  have SA8 := Lib.hid (SA7.out.ext HE8.out)
  have SB8 := Lib.hid (SB7.out.ext HE8.out)
  have ST8 := Lib.hid hu8
  clear hx8 hu8 HE8 SX7 SY7 SZ7 SS7 SA7 SB7
  rw [RM.sum_swap al b a] at SY8
  rw [RM.sum_twice al a b] at SZ8
  rw [← RM.scale_sum al by' a b] at ST8
  clear SA8 SB8
  go_wp2_with fail
  refine Gr.regionE 34 7 [(false,0),(false,1),(false,2),(false,3),(false,4),(false,5),(false,6),(false,7),(false,8),(false,9),(true,10),(true,11),(false,12),(false,13),(false,14),(false,15),(false,16),(false,17),(false,18),(false,19),(false,20),(false,21),(false,22),(false,23),(false,24),(false,25),(false,29)] (by kernel_rfl) (by kernel_rfl) (fun d _ _ _ _ h => by cases d <;> exact h) ?_
  simp only [Gr.pick, List.getElem?_cons_zero, List.getElem?_cons_succ]
  refine Gr.walkE_t ?_ (Or.inl ⟨by rfl, ?_⟩) ?_
  rotate_left
  · intro w' hw'
    clear hw'
    go_simp
    try with_reducible rfl
  simp only [Act.put, List.setIfInBounds_toArray, List.set_cons_zero, List.set_cons_succ]
  refine Gr.walkE_t ?_ (Or.inl ⟨by rfl, ?_⟩) ?_
  rotate_left
  · intro w' hw'
    have hcv := conv_row (SX8.out.ext (Gr.of_drew hw'))
    clear hw'
    go_simp
    try with_reducible rfl
  simp only [Act.put, List.setIfInBounds_toArray, List.set_cons_zero, List.set_cons_succ]
  refine Gr.walkE_t ?_ (Or.inl ⟨by rfl, ?_⟩) ?_
  rotate_left
  · intro w' hw'
    clear hw'
    go_simp
    try with_reducible rfl
  simp only [Act.put, List.setIfInBounds_toArray, List.set_cons_zero, List.set_cons_succ]
  refine Gr.walkE_t ?_ (Or.inl ⟨by rfl, ?_⟩) ?_
  rotate_left
  · intro w' hw'
    have hcv := conv_row (SY8.out.ext (Gr.of_drew hw'))
    clear hw'
    go_simp
    try with_reducible rfl
  simp only [Act.put, List.setIfInBounds_toArray, List.set_cons_zero, List.set_cons_succ]
  iterate 3
    refine Gr.walkE_t ?_ (Or.inl ⟨by rfl, ?_⟩) ?_
    rotate_left
    · intro w' hw'
      clear hw'
      go_simp
      try with_reducible rfl
    simp only [Act.put, List.setIfInBounds_toArray, List.set_cons_zero, List.set_cons_succ]
  refine Gr.walkE_t ?_ (Or.inl ⟨by rfl, ?_⟩) ?_
  rotate_left
  · intro w' hw'
    have hcv := conv_row (SZ8.out.ext (Gr.of_drew hw'))
    clear hw'
    go_simp
    try with_reducible rfl
  simp only [Act.put, List.setIfInBounds_toArray, List.set_cons_zero, List.set_cons_succ]
  iterate 2
    refine Gr.walkE_t ?_ (Or.inl ⟨by rfl, ?_⟩) ?_
    rotate_left
    · intro w' hw'
      clear hw'
      go_simp
      try with_reducible rfl
    simp only [Act.put, List.setIfInBounds_toArray, List.set_cons_zero, List.set_cons_succ]
  refine Gr.walkE_c (fun K hK => ?_)
  go_simp
  refine hK.out _ _ (ext_alloc _ _) ?_
  clear hK K
  refine Gr.walkE_c (fun K hK => ?_)
  go_simp
  refine (rsum_made al _ [b] _ hm200 (rws_one _ _ _ _ _ (HB.out.ext HX8.out)).drew).mono ?_
  rintro e w9 ⟨b9, he9, hx9, hu9⟩
  rw [sum_len] at he9 hu9
  subst he9
  have HE9 := Lib.hid (Gr.ext_trans (Gr.ext_drew (ext_alloc w8 _)) hx9)
  have HX9 := Lib.hid (Gr.ext_trans HX8.out HE9.out)
  have SS9 := Lib.hid (SS8.out.ext HE9.out)
  have ST9 := Lib.hid (ST8.out.ext HE9.out)
  have SR9 := Lib.hid hu9
  clear hu9
  try go_simp
  refine hK.out _ _ (hx9) ?_
  clear hK K
  clear HE9
  refine Gr.walkE_t ?_ (Or.inl ⟨by rfl, ?_⟩) ?_
  rotate_left
  · intro w' hw'
    have hcv := conv_bytes (SR9.out.ext hw')
    clear hw'
    go_simp
    try with_reducible rfl
  simp only [Act.put, List.setIfInBounds_toArray, List.set_cons_zero, List.set_cons_succ]
  iterate 4
    refine Gr.walkE_t ?_ (Or.inl ⟨by rfl, ?_⟩) ?_
    rotate_left
    · intro w' hw'
      clear hw'
      go_simp
      try with_reducible rfl
    simp only [Act.put, List.setIfInBounds_toArray, List.set_cons_zero, List.set_cons_succ]
  refine Gr.walkE_t ?_ (Or.inl ⟨by rfl, ?_⟩) ?_
  rotate_left
  · intro w' hw'
    have hcv := conv_row (SS9.out.ext hw')
    clear hw'
    go_simp
    try with_reducible rfl
  simp only [Act.put, List.setIfInBounds_toArray, List.set_cons_zero, List.set_cons_succ]
  refine Gr.walkE_t ?_ (Or.inl ⟨by rfl, ?_⟩) ?_
  rotate_left
  · intro w' hw'
    clear hw'
    go_simp
    try with_reducible rfl
  simp only [Act.put, List.setIfInBounds_toArray, List.set_cons_zero, List.set_cons_succ]
  refine Gr.walkE_t ?_ (Or.inl ⟨by rfl, ?_⟩) ?_
  rotate_left
  · intro w' hw'
    have hcv := conv_row (ST9.out.ext hw')
    clear hw'
    go_simp
    try with_reducible rfl
  simp only [Act.put, List.setIfInBounds_toArray, List.set_cons_zero, List.set_cons_succ]
  iterate 7
    refine Gr.walkE_t ?_ (Or.inl ⟨by rfl, ?_⟩) ?_
    rotate_left
    · intro w' hw'
      clear hw'
      go_simp
      try with_reducible rfl
    simp only [Act.put, List.setIfInBounds_toArray, List.set_cons_zero, List.set_cons_succ]
  refine Gr.walkE_nil ?_
  have HXw9 := HX9
  refine Gr.Left.two (i := 26) (j := 30) (by kernel_rfl) (by kernel_rfl) (Gr.Step.mk rfl (fun K hK => ?_)) (Gr.Step.mk rfl (fun K hK => ?_))
  · go_simp
    have hrwA := rws_two w9 w9.heap.size 26 _ _ a a (HA.out.ext HXw9.out) (HA.out.ext HXw9.out)
    have hxwA := ext_alloc w9 (.cells #[.slice aa al ac, .slice aa al ac] 26)
    refine hK.out _ _ hxwA ?_
    clear hK K
    generalize w9.alloc (.cells #[.slice aa al ac, .slice aa al ac] 26) = wA at *
    have HXwA := Lib.hid (Gr.ext_trans HXw9.out hxwA)
    refine Gr.Left.two (i := 27) (j := 30) (by kernel_rfl) (by kernel_rfl) (Gr.Step.mk rfl (fun K hK => ?_)) (Gr.Step.mk rfl (fun K hK => ?_))
    · go_simp
      refine (sum_made al _ [a, a] _ hm200 hrwA).mono ?_
      rintro e wB ⟨bwB, hewB, hxwB, huwB⟩
      rw [sum_len] at hewB huwB
      rw [RM.sum_same] at huwB
      subst hewB
      try go_simp
      refine hK.out _ _ hxwB ?_
      clear hK K
      have HXwB := Lib.hid (Gr.ext_trans HXwA.out hxwB)
      clear hrwA
      refine Gr.Left.take (i := 28) rfl (by kernel_rfl) (fun d _ _ _ _ h => by cases d <;> exact h) ?_ (Or.inl ⟨by rfl, ?_⟩) ?_
      rotate_left
      · intro w' hw'
        have hcv := conv_row (huwB.ext hw')
        clear hw'
        go_simp
        try with_reducible rfl
      simp only [Act.put, List.setIfInBounds_toArray, List.set_cons_zero, List.set_cons_succ]
      refine Gr.Left.one (i := 30) (by kernel_rfl) (by kernel_rfl) (Gr.Step.mk rfl (fun K hK => ?_))
      have hmk := HMK.out
      go_simp
      clear hmk
      have hzwC := HZ.out wB
      have hxwC := ext_alloc wB (.cells (madeCells #[.int .u8 0] al) 5)
      refine hK.out _ _ hxwC ?_
      clear hK K
      generalize wB.alloc (.cells (madeCells #[.int .u8 0] al) 5) = wC at *
      have HXwC := Lib.hid (Gr.ext_trans HXwB.out hxwC)
      refine Gr.Left.take (i := 31) rfl (by kernel_rfl) (fun d _ _ _ _ h => by cases d <;> exact h) ?_ (Or.inl ⟨by rfl, ?_⟩) ?_
      rotate_left
      · intro w' hw'
        have hcv := conv_bytes (hzwC.ext hw')
        clear hw'
        go_simp
        try with_reducible rfl
      simp only [Act.put, List.setIfInBounds_toArray, List.set_cons_zero, List.set_cons_succ]
      refine Gr.Left.take (i := 32) rfl (by kernel_rfl) (fun d _ _ _ _ h => by cases d <;> exact h) ?_ (Or.inl ⟨by rfl, ?_⟩) ?_
      rotate_left
      · intro w' hw'
        clear hw'
        go_simp
        try with_reducible rfl
      simp only [Act.put, List.setIfInBounds_toArray, List.set_cons_zero, List.set_cons_succ]
      refine Gr.Left.take (i := 33) rfl (by kernel_rfl) (fun d _ _ _ _ h => by cases d <;> exact h) ?_ (Or.inl ⟨by rfl, ?_⟩) ?_
      rotate_left
      · intro w' hw'
        clear hw'
        go_simp
        try with_reducible rfl
      simp only [Act.put, List.setIfInBounds_toArray, List.set_cons_zero, List.set_cons_succ]
      refine Gr.Left.done (by kernel_rfl) ?_
      simp only [List.drop_succ_cons, List.drop_zero]
      go_wp2
      go_ret
      exact ⟨rfl, Gr.below_of HXwC.out⟩
    · have hmk := HMK.out
      go_simp
      clear hmk
      have hzwB := HZ.out wA
      have hxwB := ext_alloc wA (.cells (madeCells #[.int .u8 0] al) 5)
      refine hK.out _ _ hxwB ?_
      clear hK K
      generalize wA.alloc (.cells (madeCells #[.int .u8 0] al) 5) = wB at *
      have HXwB := Lib.hid (Gr.ext_trans HXwA.out hxwB)
      have hrwB := hrwA.ext hxwB
      clear hrwA
      refine Gr.Left.take (i := 31) rfl (by kernel_rfl) (fun d _ _ _ _ h => by cases d <;> exact h) ?_ (Or.inl ⟨by rfl, ?_⟩) ?_
      rotate_left
      · intro w' hw'
        have hcv := conv_bytes (hzwB.ext hw')
        clear hw'
        go_simp
        try with_reducible rfl
      simp only [Act.put, List.setIfInBounds_toArray, List.set_cons_zero, List.set_cons_succ]
      refine Gr.Left.one (i := 27) (by kernel_rfl) (by kernel_rfl) (Gr.Step.mk rfl (fun K hK => ?_))
      go_simp
      refine (sum_made al _ [a, a] _ hm200 hrwB).mono ?_
      rintro e wC ⟨bwC, hewC, hxwC, huwC⟩
      rw [sum_len] at hewC huwC
      rw [RM.sum_same] at huwC
      subst hewC
      try go_simp
      refine hK.out _ _ hxwC ?_
      clear hK K
      have HXwC := Lib.hid (Gr.ext_trans HXwB.out hxwC)
      clear hrwB
      refine Gr.Left.take (i := 28) rfl (by kernel_rfl) (fun d _ _ _ _ h => by cases d <;> exact h) ?_ (Or.inl ⟨by rfl, ?_⟩) ?_
      rotate_left
      · intro w' hw'
        have hcv := conv_row (huwC.ext hw')
        clear hw'
        go_simp
        try with_reducible rfl
      simp only [Act.put, List.setIfInBounds_toArray, List.set_cons_zero, List.set_cons_succ]
      refine Gr.Left.take (i := 32) rfl (by kernel_rfl) (fun d _ _ _ _ h => by cases d <;> exact h) ?_ (Or.inl ⟨by rfl, ?_⟩) ?_
      rotate_left
      · intro w' hw'
        clear hw'
        go_simp
        try with_reducible rfl
      simp only [Act.put, List.setIfInBounds_toArray, List.set_cons_zero, List.set_cons_succ]
      refine Gr.Left.take (i := 33) rfl (by kernel_rfl) (fun d _ _ _ _ h => by cases d <;> exact h) ?_ (Or.inl ⟨by rfl, ?_⟩) ?_
      rotate_left
      · intro w' hw'
        clear hw'
        go_simp
        try with_reducible rfl
      simp only [Act.put, List.setIfInBounds_toArray, List.set_cons_zero, List.set_cons_succ]
      refine Gr.Left.done (by kernel_rfl) ?_
      simp only [List.drop_succ_cons, List.drop_zero]
      go_wp2
      go_ret
      exact ⟨rfl, Gr.below_of HXwC.out⟩
  · have hmk := HMK.out
    go_simp
    clear hmk
    have hzwA := HZ.out w9
    have hxwA := ext_alloc w9 (.cells (madeCells #[.int .u8 0] al) 5)
    refine hK.out _ _ hxwA ?_
    clear hK K
    generalize w9.alloc (.cells (madeCells #[.int .u8 0] al) 5) = wA at *
    have HXwA := Lib.hid (Gr.ext_trans HXw9.out hxwA)
    refine Gr.Left.take (i := 31) rfl (by kernel_rfl) (fun d _ _ _ _ h => by cases d <;> exact h) ?_ (Or.inl ⟨by rfl, ?_⟩) ?_
    rotate_left
    · intro w' hw'
      have hcv := conv_bytes (hzwA.ext hw')
      clear hw'
      go_simp
      try with_reducible rfl
    simp only [Act.put, List.setIfInBounds_toArray, List.set_cons_zero, List.set_cons_succ]
    refine Gr.Left.one (i := 26) (by kernel_rfl) (by kernel_rfl) (Gr.Step.mk rfl (fun K hK => ?_))
    go_simp
    have hrwB := rws_two wA wA.heap.size 26 _ _ a a (HA.out.ext HXwA.out) (HA.out.ext HXwA.out)
    have hxwB := ext_alloc wA (.cells #[.slice aa al ac, .slice aa al ac] 26)
    refine hK.out _ _ hxwB ?_
    clear hK K
    generalize wA.alloc (.cells #[.slice aa al ac, .slice aa al ac] 26) = wB at *
    have HXwB := Lib.hid (Gr.ext_trans HXwA.out hxwB)
    refine Gr.Left.one (i := 27) (by kernel_rfl) (by kernel_rfl) (Gr.Step.mk rfl (fun K hK => ?_))
    go_simp
    refine (sum_made al _ [a, a] _ hm200 hrwB).mono ?_
    rintro e wC ⟨bwC, hewC, hxwC, huwC⟩
    rw [sum_len] at hewC huwC
    rw [RM.sum_same] at huwC
    subst hewC
    try go_simp
    refine hK.out _ _ hxwC ?_
    clear hK K
    have HXwC := Lib.hid (Gr.ext_trans HXwB.out hxwC)
    clear hrwB
    refine Gr.Left.take (i := 28) rfl (by kernel_rfl) (fun d _ _ _ _ h => by cases d <;> exact h) ?_ (Or.inl ⟨by rfl, ?_⟩) ?_
    rotate_left
    · intro w' hw'
      have hcv := conv_row (huwC.ext hw')
      clear hw'
      go_simp
      try with_reducible rfl
    simp only [Act.put, List.setIfInBounds_toArray, List.set_cons_zero, List.set_cons_succ]
    refine Gr.Left.take (i := 32) rfl (by kernel_rfl) (fun d _ _ _ _ h => by cases d <;> exact h) ?_ (Or.inl ⟨by rfl, ?_⟩) ?_
    rotate_left
    · intro w' hw'
      clear hw'
      go_simp
      try with_reducible rfl
    simp only [Act.put, List.setIfInBounds_toArray, List.set_cons_zero, List.set_cons_succ]
    refine Gr.Left.take (i := 33) rfl (by kernel_rfl) (fun d _ _ _ _ h => by cases d <;> exact h) ?_ (Or.inl ⟨by rfl, ?_⟩) ?_
    rotate_left
    · intro w' hw'
      clear hw'
      go_simp
      try with_reducible rfl
    simp only [Act.put, List.setIfInBounds_toArray, List.set_cons_zero, List.set_cons_succ]
    refine Gr.Left.done (by kernel_rfl) ?_
    simp only [List.drop_succ_cons, List.drop_zero]
    go_wp2
    go_ret
    exact ⟨rfl, Gr.below_of HXwC.out⟩
set_option maxHeartbeats 1000000 in
theorem twice_long (va vb : Value) (by' : Nat) (a b : List Nat) (w : World) (ha : U8s w va a) (hb : U8s w vb b) (h : 200 < a.length ∨ 200 < b.length) :
    Calls Try.prog 4 #[va, vb, .int .u8 by'] w fun e w' => e = .returned (.bool true) ∧ Below w.heap.size w w' := by
  have hm1 := ha.len
  have hm2 := hb.len
  obtain ⟨aa, ac, rfl, _, _⟩ := ha.slice
  obtain ⟨ba, bc, rfl, _, _⟩ := hb.slice
  clear ha hb
  generalize a.length = al at *
  generalize b.length = bl at *
  unfold maxLen at hm1 hm2
  have hor : (decide (200 < (al : Int)) || decide (200 < (bl : Int))) = true := by
    simp only [Bool.or_eq_true, decide_eq_true_eq]; omega
  go_enter Try.func4, Try.ntmps4
  go_wp2_with fail
  refine (alive2_any _).mono ?_
  rintro e w1 ⟨rfl, hb1⟩
  go_wp2
  all_goals
    go_ret
    exact ⟨rfl, hb1⟩
theorem RowsTwice_walk0 (va vb : Value) (by' : Nat) (a b : List Nat) (w : World) (ha : U8s w va a) (hb : U8s w vb b) (hby : by' < 256) :
    Calls Try.prog 4 #[va, vb, .int .u8 by'] w fun e w' => e = .returned (.bool true) ∧ Below w.heap.size w w' := by
  by_cases h : 200 < a.length ∨ 200 < b.length
  · exact twice_long va vb by' a b w ha hb h
  · by_cases hab : a.length < b.length
    · exact twice_lt va vb by' a b w ha hb hby (by omega) (by omega) hab
    · exact twice_ge va vb by' a b w ha hb hby (by omega) (by omega) hab
theorem RowsTwice_walk (va : Value) (a : List Nat) (vb : Value) (b : List Nat) (by' : Nat) (w : World) (ha : U8s w va a) (hb : U8s w vb b) (hby : by' < 256) :
    Calls Try.prog 4 #[va, vb, .int .u8 by'] w fun e w' => e = .returned (.bool true) ∧ Below w.heap.size w w' := RowsTwice_walk0 va vb by' a b w ha hb hby
end Go.Proofs.Ytkpgdgmjeoogdaa
