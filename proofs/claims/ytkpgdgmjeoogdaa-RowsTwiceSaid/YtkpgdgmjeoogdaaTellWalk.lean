/- RowsTell: the sum, the mixture and the products of any rows are the document's. -/
import Derived.Test.YtkpgdgmjeoogdaaToRows
import Derived.Test.YtkpgdgmjeoogdaaConv
namespace Go.Proofs.Ytkpgdgmjeoogdaa
open Go.RowKit
theorem conv_row {w : World} {v : Value} {xs : List Nat} (h : U8s w v xs) : (convert 26 9 v).run Try.prog w = .ok (.string (strOf xs)) w := conv_any h _ _ _ Try.underlying26 Try.underlying5 Try.underlying9
theorem conv_bytes {w : World} {v : Value} {xs : List Nat} (h : U8s w v xs) : (convert 22 9 v).run Try.prog w = .ok (.string (strOf xs)) w := conv_any h _ _ _ Try.underlying22 Try.underlying5 Try.underlying9
theorem mix_length (n : Nat) (c : List Nat) (l : List (List Nat)) : (RM.mix n c l).length = n := RM.mixTo_length n _ c l
set_option maxHeartbeats 2000000 in
set_option maxRecDepth 100000 in
theorem tells_main (n : Int) (vc vl va vb : Value) (by' : Nat) (c a b : List Nat) (l : List (List Nat)) (w : World) (hc : U8s w vc c) (hl : Rws w vl l) (ha : U8s w va a) (hb : U8s w vb b) (hby : by' < 256)
    (hml : ∀ k, (l.getD k []).length ≤ 140737488351232) (hf : few l = true) (h1 : c.length ≤ 300) (h2 : a.length ≤ 300) (h3 : b.length ≤ 300) :
    Calls Try.prog 3 #[.int .i64 n, vc, vl, va, vb, .int .u8 by'] w fun e w' => e = .returned (.bool true) ∧ Below w.heap.size w w' := by
  have hlm := (few_yes l hf).1
  have hlr' := (few_yes l hf).2
  have hlm' : l.length ≤ 1000000000 := by omega
  have hlr : ∀ k, (l.getD k []).length ≤ 1000000000 := fun k => by have := hlr' k; omega
  have HLR := Lib.hid hlr; clear hlr hlr'
  have HML := Lib.hid hml; clear hml
  have HF := Lib.hid hf; clear hf
  have HC := Lib.hid hc
  have HL := Lib.hid hl
  have HA := Lib.hid ha
  have HB := Lib.hid hb
  have HLM := Lib.hid hlm'
  clear hlm' hlm
  obtain ⟨ca, cc, rfl, _, _⟩ := hc.slice
  obtain ⟨la, lc, rfl, _⟩ := hl.slice
  obtain ⟨aa, ac, rfl, _, _⟩ := ha.slice
  obtain ⟨ba, bc, rfl, _, _⟩ := hb.slice
  clear hc hl ha hb
  generalize hcl : c.length = cl at *
  generalize hll : l.length = ll at *
  generalize hal : a.length = al at *
  generalize hbl : b.length = bl at *
  have HCLN := Lib.hid hcl; clear hcl
  have HLLN := Lib.hid hll; clear hll
  have HALN := Lib.hid hal; clear hal
  have HBLN := Lib.hid hbl; clear hbl
  go_enter Try.func3, Try.ntmps3
  go_wp2_with fail
  refine (alive2_any _).mono ?_
  rintro e w1 ⟨rfl, hb1⟩
  have HX1 := Lib.hid (Gr.ext_of hb1)
  clear hb1
  go_wp2_with fail
  refine (few_any _ l _ (HL.out.ext HX1.out) HML.out).mono ?_
  rintro e w0 ⟨rfl, hb0⟩
  rw [HF.out]
  have HX0 := Lib.hid (Gr.ext_drew (Gr.ext_trans HX1.out (Gr.ext_of hb0)))
  clear hb0
  go_wp2_with fail
  refine Gr.region 44 [(false,0),(false,1),(false,5),(false,6),(true,2),(true,3),(false,4),(true,7),(false,8),(false,9),(false,10),(false,11),(false,12),(false,13),(false,17),(false,18),(false,19),(true,14),(true,15),(false,16),(true,20),(false,21),(false,22),(false,23),(false,24),(false,25),(false,26),(false,28),(false,29),(true,27),(true,30),(false,31),(false,32),(false,33),(false,34),(false,35),(false,38),(false,39),(true,36),(false,37),(true,40),(false,41),(false,42),(false,43)] (by kernel_rfl) (by kernel_rfl) (fun d _ _ _ _ h => by cases d <;> exact h) ?_
  simp only [Gr.pick, List.getElem?_cons_zero, List.getElem?_cons_succ, List.drop_succ_cons, List.drop_zero]
  iterate 4
    refine Gr.walk_t ?_ (Or.inl ⟨by rfl, ?_⟩) ?_
    rotate_left
    · intro w' hw'
      clear hw'
      go_simp
      try with_reducible rfl
    simp only [Act.put, List.setIfInBounds_toArray, List.set_cons_zero, List.set_cons_succ]
  refine Gr.walk_c (fun K hK => ?_)
  go_simp
  refine (to_any _ l _ (HL.out.ext HX0.out) (by rw [HLLN.out]; exact HLM.out) HLR.out).mono ?_
  rintro e w2 ⟨v2, rfl, hb2, hr2, _⟩
  have HR2 := Lib.hid hr2
  have HX2 := Lib.hid (Gr.ext_trans HX0.out (Gr.ext_of hb2))
  have hx2 := Gr.ext_of hb2
  clear hr2 hb2
  try go_simp
  refine hK.out _ _ (hx2) ?_
  clear hK K
  refine Gr.walk_c (fun K hK => ?_)
  go_simp
  refine (sum_any n _ l _ HR2.out).mono ?_
  rintro e w3 ⟨rfl, hb3, ho3⟩
  have HS3 := Lib.hid ho3.u8s
  rw [RM.sum_length] at HS3
  have HX3 := Lib.hid (Gr.ext_trans HX2.out (Gr.ext_of hb3))
  have hx3 := Gr.ext_of hb3
  clear hb3 ho3 HR2
  try go_simp
  refine hK.out _ _ (hx3) ?_
  clear hK K
  refine Gr.walk_t ?_ (Or.inl ⟨by rfl, ?_⟩) ?_
  rotate_left
  · intro w' hw'
    have hcv := conv_row (HS3.out.ext hw')
    clear hw'
    go_simp
    try with_reducible rfl
  simp only [Act.put, List.setIfInBounds_toArray, List.set_cons_zero, List.set_cons_succ]
  refine Gr.walk_c (fun K hK => ?_)
  go_simp
  refine (rsum_any n _ l _ (HL.out.ext HX3.out)).mono ?_
  rintro e w4 ⟨rfl, hb4, ho4⟩
  have HS4 := Lib.hid ho4.u8s
  rw [RM.sum_length] at HS4
  have HX4 := Lib.hid (Gr.ext_trans HX3.out (Gr.ext_of hb4))
  have hx4 := Gr.ext_of hb4
  clear hb4 ho4
  try go_simp
  refine hK.out _ _ (hx4) ?_
  clear hK K
  refine Gr.walk_t ?_ (Or.inl ⟨by rfl, ?_⟩) ?_
  rotate_left
  · intro w' hw'
    have hcv := conv_bytes (HS4.out.ext hw')
    clear hw'
    go_simp
    try with_reducible rfl
  simp only [Act.put, List.setIfInBounds_toArray, List.set_cons_zero, List.set_cons_succ]
  iterate 8
    refine Gr.walk_t ?_ (Or.inl ⟨by rfl, ?_⟩) ?_
    rotate_left
    · intro w' hw'
      clear hw'
      go_simp
      try with_reducible rfl
    simp only [Act.put, List.setIfInBounds_toArray, List.set_cons_zero, List.set_cons_succ]
  refine Gr.walk_c (fun K hK => ?_)
  go_simp
  refine (to_any _ l _ (HL.out.ext HX4.out) (by rw [HLLN.out]; exact HLM.out) HLR.out).mono ?_
  rintro e w5 ⟨v5, rfl, hb5, hr5, _⟩
  have HR5 := Lib.hid hr5
  have HX5 := Lib.hid (Gr.ext_trans HX4.out (Gr.ext_of hb5))
  have hx5 := Gr.ext_of hb5
  clear hr5 hb5
  try go_simp
  refine hK.out _ _ (hx5) ?_
  clear hK K
  refine Gr.walk_c (fun K hK => ?_)
  go_simp
  refine (mix_any n _ _ c l _ (HC.out.ext HX5.out) HR5.out).mono ?_
  rintro e w6 ⟨rfl, hb6, ho6⟩
  have HS6 := Lib.hid ho6.u8s
  rw [mix_length] at HS6
  have HX6 := Lib.hid (Gr.ext_trans HX5.out (Gr.ext_of hb6))
  have hx6 := Gr.ext_of hb6
  clear hb6 ho6 HR5
  try go_simp
  refine hK.out _ _ (hx6) ?_
  clear hK K
  refine Gr.walk_t ?_ (Or.inl ⟨by rfl, ?_⟩) ?_
  rotate_left
  · intro w' hw'
    have hcv := conv_row (HS6.out.ext hw')
    clear hw'
    go_simp
    try with_reducible rfl
  simp only [Act.put, List.setIfInBounds_toArray, List.set_cons_zero, List.set_cons_succ]
  refine Gr.walk_c (fun K hK => ?_)
  go_simp
  refine (rmix_any n _ _ c l _ (HC.out.ext HX6.out) (HL.out.ext HX6.out)).mono ?_
  rintro e w7 ⟨rfl, hb7, ho7⟩
  have HS7 := Lib.hid ho7.u8s
  rw [mix_length] at HS7
  have HX7 := Lib.hid (Gr.ext_trans HX6.out (Gr.ext_of hb7))
  have hx7 := Gr.ext_of hb7
  clear hb7 ho7
  try go_simp
  refine hK.out _ _ (hx7) ?_
  clear hK K
  refine Gr.walk_t ?_ (Or.inl ⟨by rfl, ?_⟩) ?_
  rotate_left
  · intro w' hw'
    have hcv := conv_bytes (HS7.out.ext hw')
    clear hw'
    go_simp
    try with_reducible rfl
  simp only [Act.put, List.setIfInBounds_toArray, List.set_cons_zero, List.set_cons_succ]
  iterate 7
    refine Gr.walk_t ?_ (Or.inl ⟨by rfl, ?_⟩) ?_
    rotate_left
    · intro w' hw'
      clear hw'
      go_simp
      try with_reducible rfl
    simp only [Act.put, List.setIfInBounds_toArray, List.set_cons_zero, List.set_cons_succ]
  refine Gr.walk_c (fun K hK => ?_)
  go_simp
  refine (dot_any _ _ a b _ (HA.out.ext HX7.out) (HB.out.ext HX7.out)).mono ?_
  rintro e w8 ⟨rfl, hb8⟩
  have HX8 := Lib.hid (Gr.ext_trans HX7.out (Gr.ext_of hb8))
  have hx8 := Gr.ext_of hb8
  clear hb8
  try go_simp
  refine hK.out _ _ (hx8) ?_
  clear hK K
  refine Gr.walk_c (fun K hK => ?_)
  go_simp
  refine (rdot_any _ _ a b _ (HA.out.ext HX8.out) (HB.out.ext HX8.out)).mono ?_
  rintro e w9 ⟨rfl, hb9⟩
  have HX9 := Lib.hid (Gr.ext_trans HX8.out (Gr.ext_of hb9))
  have hx9 := Gr.ext_of hb9
  clear hb9
  try go_simp
  refine hK.out _ _ (hx9) ?_
  clear hK K
  iterate 7
    refine Gr.walk_t ?_ (Or.inl ⟨by rfl, ?_⟩) ?_
    rotate_left
    · intro w' hw'
      clear hw'
      go_simp
      try with_reducible rfl
    simp only [Act.put, List.setIfInBounds_toArray, List.set_cons_zero, List.set_cons_succ]
  refine Gr.walk_c (fun K hK => ?_)
  go_simp
  refine (scale_any by' _ a _ hby (HA.out.ext HX9.out) (by rw [HALN.out]; omega)).mono ?_
  rintro e w10 ⟨rfl, hb10, ho10⟩
  have HS10 := Lib.hid ho10.u8s
  rw [RM.scale_length] at HS10
  have HX10 := Lib.hid (Gr.ext_trans HX9.out (Gr.ext_of hb10))
  have hx10 := Gr.ext_of hb10
  clear hb10 ho10
  try go_simp
  refine hK.out _ _ (hx10) ?_
  clear hK K
  refine Gr.walk_t ?_ (Or.inl ⟨by rfl, ?_⟩) ?_
  rotate_left
  · intro w' hw'
    have hcv := conv_row (HS10.out.ext hw')
    clear hw'
    go_simp
    try with_reducible rfl
  simp only [Act.put, List.setIfInBounds_toArray, List.set_cons_zero, List.set_cons_succ]
  refine Gr.walk_c (fun K hK => ?_)
  go_simp
  refine (rscale_any by' _ a _ hby (HA.out.ext HX10.out) (by rw [HALN.out]; omega)).mono ?_
  rintro e w11 ⟨v11, rfl, hb11, hu11, _⟩
  have HS11 := Lib.hid hu11
  have HX11 := Lib.hid (Gr.ext_trans HX10.out (Gr.ext_of hb11))
  have hx11 := Gr.ext_of hb11
  clear hb11 hu11
  try go_simp
  refine hK.out _ _ (hx11) ?_
  clear hK K
  refine Gr.walk_t ?_ (Or.inl ⟨by rfl, ?_⟩) ?_
  rotate_left
  · intro w' hw'
    have hcv := conv_bytes (HS11.out.ext hw')
    clear hw'
    go_simp
    try with_reducible rfl
  simp only [Act.put, List.setIfInBounds_toArray, List.set_cons_zero, List.set_cons_succ]
  iterate 2
    refine Gr.walk_t ?_ (Or.inl ⟨by rfl, ?_⟩) ?_
    rotate_left
    · intro w' hw'
      clear hw'
      go_simp
      try with_reducible rfl
    simp only [Act.put, List.setIfInBounds_toArray, List.set_cons_zero, List.set_cons_succ]
  refine Gr.walk_nil ?_
  go_wp2
  go_ret
  exact ⟨rfl, Gr.below_of HX11.out⟩

set_option maxHeartbeats 1000000 in
theorem tells_few (n : Int) (vc vl va vb : Value) (by' : Nat) (c a b : List Nat) (l : List (List Nat)) (w : World) (hc : U8s w vc c) (hl : Rws w vl l) (ha : U8s w va a) (hb : U8s w vb b)
    (hml : ∀ k, (l.getD k []).length ≤ 140737488351232) (hf : few l = false) :
    Calls Try.prog 3 #[.int .i64 n, vc, vl, va, vb, .int .u8 by'] w fun e w' => e = .returned (.bool true) ∧ Below w.heap.size w w' := by
  have HML := Lib.hid hml; clear hml
  have HF := Lib.hid hf; clear hf
  have HL := Lib.hid hl
  have hm1 := hc.len
  have hm2 := ha.len
  have hm3 := hb.len
  obtain ⟨ca, cc, rfl, _, _⟩ := hc.slice
  obtain ⟨la, lc, rfl, _⟩ := hl.slice
  obtain ⟨aa, ac, rfl, _, _⟩ := ha.slice
  obtain ⟨ba, bc, rfl, _, _⟩ := hb.slice
  clear hc hl ha hb
  generalize hcl : c.length = cl at *
  generalize hll : l.length = ll at *
  generalize hal : a.length = al at *
  generalize hbl : b.length = bl at *
  have HCLN := Lib.hid hcl; clear hcl
  have HLLN := Lib.hid hll; clear hll
  have HALN := Lib.hid hal; clear hal
  have HBLN := Lib.hid hbl; clear hbl
  unfold maxLen at hm1 hm2 hm3
  go_enter Try.func3, Try.ntmps3
  go_wp2_with fail
  refine (alive2_any _).mono ?_
  rintro e w1 ⟨rfl, hb1⟩
  have HX1 := Lib.hid (Gr.ext_of hb1)
  clear hb1
  go_wp2_with fail
  refine (few_any _ l _ (HL.out.ext HX1.out) HML.out).mono ?_
  rintro e w0 ⟨rfl, hb0⟩
  rw [HF.out]
  have HX0 := Lib.hid (Gr.ext_trans HX1.out (Gr.ext_of hb0))
  clear hb0
  go_wp2
  all_goals
    go_ret
    exact ⟨rfl, Gr.below_of HX0.out⟩
set_option maxHeartbeats 1000000 in
theorem tells_long (n : Int) (vc vl va vb : Value) (by' : Nat) (c a b : List Nat) (l : List (List Nat)) (w : World) (hc : U8s w vc c) (hl : Rws w vl l) (ha : U8s w va a) (hb : U8s w vb b)
    (hml : ∀ k, (l.getD k []).length ≤ 140737488351232) (hf : few l = true) (h : 300 < c.length ∨ 300 < a.length ∨ 300 < b.length) :
    Calls Try.prog 3 #[.int .i64 n, vc, vl, va, vb, .int .u8 by'] w fun e w' => e = .returned (.bool true) ∧ Below w.heap.size w w' := by
  have HML := Lib.hid hml; clear hml
  have HF := Lib.hid hf; clear hf
  have HL := Lib.hid hl
  have hm1 := hc.len
  have hm2 := ha.len
  have hm3 := hb.len
  obtain ⟨ca, cc, rfl, _, _⟩ := hc.slice
  obtain ⟨la, lc, rfl, _⟩ := hl.slice
  obtain ⟨aa, ac, rfl, _, _⟩ := ha.slice
  obtain ⟨ba, bc, rfl, _, _⟩ := hb.slice
  clear hc hl ha hb
  generalize hcl : c.length = cl at *
  generalize hll : l.length = ll at *
  generalize hal : a.length = al at *
  generalize hbl : b.length = bl at *
  have HCLN := Lib.hid hcl; clear hcl
  have HLLN := Lib.hid hll; clear hll
  have HALN := Lib.hid hal; clear hal
  have HBLN := Lib.hid hbl; clear hbl
  unfold maxLen at hm1 hm2 hm3
  have hor : (decide (300 < (cl : Int)) || decide (300 < (al : Int)) || decide (300 < (bl : Int))) = true := by
    simp only [Bool.or_eq_true, decide_eq_true_eq]; omega
  go_enter Try.func3, Try.ntmps3
  go_wp2_with fail
  refine (alive2_any _).mono ?_
  rintro e w1 ⟨rfl, hb1⟩
  have HX1 := Lib.hid (Gr.ext_of hb1)
  clear hb1
  go_wp2_with fail
  refine (few_any _ l _ (HL.out.ext HX1.out) HML.out).mono ?_
  rintro e w0 ⟨rfl, hb0⟩
  rw [HF.out]
  have HX0 := Lib.hid (Gr.ext_trans HX1.out (Gr.ext_of hb0))
  clear hb0
  go_wp2
  all_goals
    go_ret
    exact ⟨rfl, Gr.below_of HX0.out⟩
theorem RowsTell_walk0 (n : Int) (vc vl va vb : Value) (by' : Nat) (c a b : List Nat) (l : List (List Nat)) (w : World) (hc : U8s w vc c) (hl : Rws w vl l) (ha : U8s w va a) (hb : U8s w vb b) (hby : by' < 256)
    (hml : ∀ k, (l.getD k []).length ≤ 140737488351232) :
    Calls Try.prog 3 #[.int .i64 n, vc, vl, va, vb, .int .u8 by'] w fun e w' => e = .returned (.bool true) ∧ Below w.heap.size w w' := by
  cases hf : few l with
  | false => exact tells_few n vc vl va vb by' c a b l w hc hl ha hb hml hf
  | true =>
    by_cases h : 300 < c.length ∨ 300 < a.length ∨ 300 < b.length
    · exact tells_long n vc vl va vb by' c a b l w hc hl ha hb hml hf h
    · exact tells_main n vc vl va vb by' c a b l w hc hl ha hb hby hml hf (by omega) (by omega) (by omega)
theorem RowsTell_walk (n : Int) (vc : Value) (c : List Nat) (vl : Value) (l : List (List Nat)) (va : Value) (a : List Nat) (vb : Value) (b : List Nat) (by' : Nat) (w : World) (_hn : (Lit.int .i64 n).wf = true)
    (hc : U8s w vc c) (hl : Rws w vl l ∧ ∀ k, (l.getD k []).length ≤ 140737488351232) (ha : U8s w va a) (hb : U8s w vb b) (hby : by' < 256) :
    Calls Try.prog 3 #[.int .i64 n, vc, vl, va, vb, .int .u8 by'] w fun e w' => e = .returned (.bool true) ∧ Below w.heap.size w w' :=
  RowsTell_walk0 n vc vl va vb by' c a b l w hc hl.1 ha hb hby hl.2
end Go.Proofs.Ytkpgdgmjeoogdaa
