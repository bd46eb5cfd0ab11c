/- In one text: TabSelfW. -/
import Derived.Deep.DeepCutAuto
import Derived.Test.YtffcjnabhblbaaaMA14
namespace Go.Proofs.Ytffcjnabhblbaaa
set_option maxRecDepth 20000
open Go.RowKit Go.Deep
set_option linter.unusedVariables false
set_option maxHeartbeats 8000000 in
theorem TableSelf_walk (p : Int) (v : Value) (l : List Int) (w : World) (_hp : (Lit.int .i64 p).wf = true) (hv : Ints w v l ∧ ∀ y ∈ l, -9223372036854775808 ≤ y ∧ y ≤ 9223372036854775807) :
    Calls Try.prog 5 #[.int .i64 p, v] w fun e w' => e = .returned (.bool true) ∧ Below w.heap.size w w' := by
  obtain ⟨n, hn⟩ : ∃ n, l.length = n := ⟨_, rfl⟩
  obtain ⟨va, vc, rfl, _, _⟩ := hv.1.slice
  rw [hn] at hv ⊢
  have HV := Lib.hid hv.1
  have HN := Lib.hid hn
  clear hv hn
  go_enter Try.func5, Try.ntmps5
  go_wp2_with fail
  refine (alive19_any w).mono ?_
  rintro e w1 ⟨rfl, hx1⟩
  have HX1 := Lib.hid hx1
  clear hx1
  by_cases h60 : 60 < n
  · have h1 : decide (((n : Nat) : Int) > 60) = true := decide_eq_true (by omega)
    have h2 : ((n : Nat) : Int) > 60 := by omega
    have h3 : (60 : Int) < ((n : Nat) : Int) := by omega
    go_wp2
    go_ret
    exact ⟨rfl, Gr.below_of HX1.out⟩
  · have h1 : ¬ ((n : Nat) : Int) > 60 := by omega
    have h2 : ¬ (60 : Int) < ((n : Nat) : Int) := by omega
    have HNT := Lib.hid (tnew_any p w1)
    go_wp2_with fail
    refine HNT.out.mono ?_
    rintro e w2 ⟨rfl, hx2, ht2⟩
    obtain ⟨s, hs⟩ : ∃ s, s = w1.heap.size := ⟨_, rfl⟩
    rw [← hs] at ht2 ⊢
    have HS2 : Hid (Seen w w2 s p l (fun _ => [])) := ⟨Gr.ext_trans HX1.out hx2, by rw [hs]; exact HX1.out.size, ht2, TInv.new p, fun i c hc => nomatch hc⟩
    clear hx2 ht2 HNT h1 h2 h60 hs
    go_wp2_with fail
    go_loopw [7] (fun s7 wr => ∃ k : Nat, k ≤ n ∧ s7 = .int .i64 k ∧ ∃ b, Hid (Seen w wr s p l b)) (fun s7 _ => n - (intOf s7).toNat)
    case atStart => exact ⟨0, by omega, rfl, _, HS2⟩
    case round =>
      obtain ⟨k, hk, rfl, b, HS⟩ := hrel
      by_cases h1 : k < n
      · obtain ⟨vg, vo, rfl, _, hc⟩ := (HV.out.ext HS.out.ext).cell.2 (by omega)
        have hck := hc k h1
        obtain ⟨x, hx⟩ : ∃ x, x = l.getD k 0 := ⟨_, rfl⟩
        rw [← hx] at hck
        have HXL : Hid (x ∈ l) := by
          have : k < l.length := by rw [HN.out]; exact h1
          rw [hx]; show _ ∈ l; simp [this]
        clear hx hc
        go_wp2_with fail
        refine (tsee_any s p x b wr HS.out.t).mono ?_
        rintro e w3 ⟨rfl, ht3, hg3⟩
        have HS3 := Lib.hid (HS.out.see (.inl HXL.out) ht3 hg3)
        clear ht3 hg3 hck
        go_wp2
        go_roundw
        case rel => exact ⟨k + 1, by omega, by go_num, _, HS3⟩
        case measure => simp [intOf]; omega
      · obtain rfl : k = n := by omega
        go_wp2_with fail
        refine (tsee_any s p p b wr HS.out.t).mono ?_
        rintro e w3 ⟨rfl, ht3, hg3⟩
        have HS3 := Lib.hid (HS.out.see (.inr (.inr rfl)) ht3 hg3)
        clear ht3 hg3
        generalize tsee p b p = b2 at *
        generalize tseeX p b p = z1 at *
        generalize tseeB p b p = z2 at *
        go_wp2_with fail
        refine (tall_any s p b2 w3 HS3.out.t).mono ?_
        rintro e w4 ⟨u, rfl, hx4, hu4⟩
        have HX4 := Lib.hid (Gr.ext_trans HS3.out.ext hx4)
        have HAL := Lib.hid HS3.out.all
        have HRS := Lib.hid HS3.out.inv.rising
        generalize allT b2 = al at *
        obtain ⟨N, hN⟩ : ∃ N, al.length = N := ⟨_, rfl⟩
        obtain ⟨ua, uc, rfl, _, _⟩ := hu4.slice
        rw [hN] at hu4 ⊢
        have HNN := Lib.hid hN
        have HU := Lib.hid hu4
        have hNm := hu4.len
        rw [hN] at hNm
        unfold maxLen at hNm
        clear hx4 hu4 hN
        go_wp2_with fail
        go_loopw [9] (fun s9 wz => ∃ k : Nat, k ≤ N ∧ s9 = .int .i64 k ∧ Hid (w4.Extends wz)) (fun s9 _ => N - (intOf s9).toNat)
        case atStart => exact ⟨0, by omega, rfl, Gr.ext_refl _⟩
        case round =>
          obtain ⟨m, hm, rfl, HXM⟩ := hrel
          by_cases h2 : m < N
          · obtain ⟨ub, uo, rfl, _, huc⟩ := HU.out.cell.2 (by omega)
            have hcm := huc m h2
            obtain ⟨x, hx⟩ : ∃ x, x = al.getD m 0 := ⟨_, rfl⟩
            rw [← hx] at hcm
            have hmx : x ∈ al := by
              have : m < al.length := by rw [HNN.out]; exact h2
              rw [hx]; simp [this]
            obtain ⟨hxl, hxo⟩ := HAL.out x hmx
            have h3 : (x == p) = false := by simp; exact fun e => hxo (.inr e)
            have h4 : ¬ x < 0 := fun e => hxo (.inl e)
            have h5 : decide (x < 0) = false := decide_eq_false h4
            have HHAS : Hid (∀ wz, w4.Extends wz → Calls Try.prog 20 #[.slice va k vc, .int .i64 x] wz fun e w' => e = .returned (.bool true) ∧ wz = w') := fun wz hz => (has_any _ l x wz (HV.out.ext (Gr.ext_trans HX4.out hz))).mono fun e w' ⟨he, hw⟩ => ⟨by rw [he]; simp [hxl], hw.symm⟩
            have HCM := Lib.hid hcm
            have hmN : ((m : Nat) : Int) < ((N : Nat) : Int) := by omega
            have HXE := Lib.hid hx
            clear hmx hxl hxo hcm hx
            by_cases h6 : m = 0
            · have HM0 := Lib.hid h6
              have hg0 : ¬ 0 < ((m : Nat) : Int) := by omega
              have hg1 : decide (0 < ((m : Nat) : Int)) = false := decide_eq_false hg0
              have hg2 : ¬ 0 < m := by omega
              have hg3 : decide (0 < m) = false := decide_eq_false hg2
              clear h6 huc
              go_upto_region 16 with fail
              refine Gr.region 37 [(false,0),(false,1),(false,2),(false,3),(false,4),(false,5),(false,6),(false,7),(false,8),(false,9),(false,10),(false,11),(false,12),(false,13),(false,14),(false,15),(false,16),(false,17),(false,18),(false,19),(false,20),(false,21),(false,22),(false,23),(false,24),(false,25),(false,26),(false,27),(false,28),(false,29),(false,30),(false,31),(false,32),(false,33),(false,34),(true,35),(false,36)] (by kernel_rfl) (by kernel_rfl) (fun d _ _ _ _ h => by cases d <;> exact h) ?_
              simp only [Gr.pick, List.getElem?_cons_zero, List.getElem?_cons_succ, List.drop_succ_cons, List.drop_zero]
              generalize hwd1 : wr.drew = wd1
              have HD1 : Hid (w4.Extends wd1) := by rw [← hwd1]; exact Gr.ext_drew HXM.out
              clear hwd1
              iterate 3
                refine Gr.walk_t ?_ (Or.inl ⟨by rfl, ?_⟩) ?_
                rotate_left
                · intro w' hw'
                  clear hw'
                  go_simp
                  try with_reducible rfl
                simp only [Act.put, List.setIfInBounds_toArray, List.set_cons_zero, List.set_cons_succ]
              refine Gr.walk_t ?_ (Or.inl ⟨by rfl, ?_⟩) ?_
              rotate_left
              · intro w' hw'
                have c1 := (Gr.ext_trans HD1.out hw').cell_of HCM.out
                clear hw'
                go_simp
                try with_reducible rfl
              simp only [Act.put, List.setIfInBounds_toArray, List.set_cons_zero, List.set_cons_succ]
              iterate 6
                refine Gr.walk_t ?_ (Or.inl ⟨by rfl, ?_⟩) ?_
                rotate_left
                · intro w' hw'
                  clear hw'
                  go_simp
                  try with_reducible rfl
                simp only [Act.put, List.setIfInBounds_toArray, List.set_cons_zero, List.set_cons_succ]
              refine Gr.walk_t ?_ (Or.inl ⟨by rfl, ?_⟩) ?_
              rotate_left
              · intro w' hw'
                have c1 := (Gr.ext_trans HD1.out hw').cell_of HCM.out
                clear hw'
                go_simp
                try with_reducible rfl
              simp only [Act.put, List.setIfInBounds_toArray, List.set_cons_zero, List.set_cons_succ]
              iterate 6
                refine Gr.walk_t ?_ (Or.inl ⟨by rfl, ?_⟩) ?_
                rotate_left
                · intro w' hw'
                  clear hw'
                  go_simp
                  try with_reducible rfl
                simp only [Act.put, List.setIfInBounds_toArray, List.set_cons_zero, List.set_cons_succ]
              refine Gr.walk_t _ (Or.inr ⟨by rfl, rfl⟩) ?_
              simp only [Act.put, List.setIfInBounds_toArray, List.set_cons_zero, List.set_cons_succ]
              refine Gr.walk_t _ (Or.inr ⟨by rfl, rfl⟩) ?_
              simp only [Act.put, List.setIfInBounds_toArray, List.set_cons_zero, List.set_cons_succ]
              refine Gr.walk_t _ (Or.inr ⟨by rfl, rfl⟩) ?_
              simp only [Act.put, List.setIfInBounds_toArray, List.set_cons_zero, List.set_cons_succ]
              refine Gr.walk_t _ (Or.inr ⟨by rfl, rfl⟩) ?_
              simp only [Act.put, List.setIfInBounds_toArray, List.set_cons_zero, List.set_cons_succ]
              refine Gr.walk_t _ (Or.inr ⟨by rfl, rfl⟩) ?_
              simp only [Act.put, List.setIfInBounds_toArray, List.set_cons_zero, List.set_cons_succ]
              refine Gr.walk_t _ (Or.inr ⟨by rfl, rfl⟩) ?_
              simp only [Act.put, List.setIfInBounds_toArray, List.set_cons_zero, List.set_cons_succ]
              refine Gr.walk_t _ (Or.inr ⟨by rfl, rfl⟩) ?_
              simp only [Act.put, List.setIfInBounds_toArray, List.set_cons_zero, List.set_cons_succ]
              refine Gr.walk_t _ (Or.inr ⟨by rfl, rfl⟩) ?_
              simp only [Act.put, List.setIfInBounds_toArray, List.set_cons_zero, List.set_cons_succ]
              refine Gr.walk_t _ (Or.inr ⟨by rfl, rfl⟩) ?_
              simp only [Act.put, List.setIfInBounds_toArray, List.set_cons_zero, List.set_cons_succ]
              refine Gr.walk_t _ (Or.inr ⟨by rfl, rfl⟩) ?_
              simp only [Act.put, List.setIfInBounds_toArray, List.set_cons_zero, List.set_cons_succ]
              iterate 7
                refine Gr.walk_t ?_ (Or.inl ⟨by rfl, ?_⟩) ?_
                rotate_left
                · intro w' hw'
                  clear hw'
                  go_simp
                  try with_reducible rfl
                simp only [Act.put, List.setIfInBounds_toArray, List.set_cons_zero, List.set_cons_succ]
              refine Gr.walk_t ?_ (Or.inl ⟨by rfl, ?_⟩) ?_
              rotate_left
              · intro w' hw'
                have c1 := (Gr.ext_trans HD1.out hw').cell_of HCM.out
                clear hw'
                go_simp
                try with_reducible rfl
              simp only [Act.put, List.setIfInBounds_toArray, List.set_cons_zero, List.set_cons_succ]
              refine Gr.walk_c (fun K hK => ?_)
              go_simp
              refine (HHAS.out wd1 HD1.out).mono ?_
              rintro e w5 ⟨rfl, rfl⟩
              try go_simp
              refine hK.out _ _ ((Gr.ext_refl _)) ?_
              clear hK K
              refine Gr.walk_t ?_ (Or.inl ⟨by rfl, ?_⟩) ?_
              rotate_left
              · intro w' hw'
                clear hw'
                go_simp
                try with_reducible rfl
              simp only [Act.put, List.setIfInBounds_toArray, List.set_cons_zero, List.set_cons_succ]
              refine Gr.walk_nil ?_
              go_wp2
              go_roundw
              case rel => exact ⟨m + 1, by omega, by go_num, HD1⟩
              case measure => simp [intOf]; omega
            · obtain ⟨q, hq⟩ : ∃ q, m = q + 1 := ⟨m - 1, by omega⟩
              have hqN : q < N := by omega
              have hg0 : 0 < ((m : Nat) : Int) := by omega
              have hg2 : 0 < m := by omega
              have hjw : IntKind.i64.wrap (((m : Nat) : Int) - 1) = ((q : Nat) : Int) := by rw [IntKind.wrap_i64]; omega
              have hcq := huc q hqN
              obtain ⟨y, hy⟩ : ∃ y, y = al.getD q 0 := ⟨_, rfl⟩
              rw [← hy] at hcq
              have hyx : y < x := by
                have h7 := List.pairwise_iff_getElem.1 HRS.out q m (by rw [HNN.out]; exact hqN) (by rw [HNN.out]; exact h2) (by omega)
                rw [hy, HXE.out]
                have e1 : q < al.length := by rw [HNN.out]; exact hqN
                have e2 : m < al.length := by rw [HNN.out]; exact h2
                simpa [e1, e2] using h7
              have h8 : ¬ x ≤ y := by omega
              have h9 : decide (x ≤ y) = false := decide_eq_false h8
              have hqi : ((q : Nat) : Int) < ((N : Nat) : Int) := by omega
              have HCQ := Lib.hid hcq
              clear h6 huc hy hq hcq hyx
              go_upto_region 16 with fail
              refine Gr.region 37 [(false,0),(false,1),(false,2),(false,3),(false,4),(false,5),(false,6),(false,7),(false,8),(false,9),(false,10),(false,11),(false,12),(false,13),(false,14),(false,15),(false,16),(false,17),(false,18),(false,19),(false,20),(false,21),(false,22),(false,23),(false,24),(false,25),(false,26),(false,27),(false,28),(false,29),(false,30),(false,31),(false,32),(false,33),(false,34),(true,35),(false,36)] (by kernel_rfl) (by kernel_rfl) (fun d _ _ _ _ h => by cases d <;> exact h) ?_
              simp only [Gr.pick, List.getElem?_cons_zero, List.getElem?_cons_succ, List.drop_succ_cons, List.drop_zero]
              generalize hwd1 : wr.drew = wd1
              have HD1 : Hid (w4.Extends wd1) := by rw [← hwd1]; exact Gr.ext_drew HXM.out
              clear hwd1
              iterate 3
                refine Gr.walk_t ?_ (Or.inl ⟨by rfl, ?_⟩) ?_
                rotate_left
                · intro w' hw'
                  clear hw'
                  go_simp
                  try with_reducible rfl
                simp only [Act.put, List.setIfInBounds_toArray, List.set_cons_zero, List.set_cons_succ]
              refine Gr.walk_t ?_ (Or.inl ⟨by rfl, ?_⟩) ?_
              rotate_left
              · intro w' hw'
                have c1 := (Gr.ext_trans HD1.out hw').cell_of HCM.out
                clear hw'
                go_simp
                try with_reducible rfl
              simp only [Act.put, List.setIfInBounds_toArray, List.set_cons_zero, List.set_cons_succ]
              iterate 6
                refine Gr.walk_t ?_ (Or.inl ⟨by rfl, ?_⟩) ?_
                rotate_left
                · intro w' hw'
                  clear hw'
                  go_simp
                  try with_reducible rfl
                simp only [Act.put, List.setIfInBounds_toArray, List.set_cons_zero, List.set_cons_succ]
              refine Gr.walk_t ?_ (Or.inl ⟨by rfl, ?_⟩) ?_
              rotate_left
              · intro w' hw'
                have c1 := (Gr.ext_trans HD1.out hw').cell_of HCM.out
                clear hw'
                go_simp
                try with_reducible rfl
              simp only [Act.put, List.setIfInBounds_toArray, List.set_cons_zero, List.set_cons_succ]
              iterate 9
                refine Gr.walk_t ?_ (Or.inl ⟨by rfl, ?_⟩) ?_
                rotate_left
                · intro w' hw'
                  clear hw'
                  go_simp
                  try with_reducible rfl
                simp only [Act.put, List.setIfInBounds_toArray, List.set_cons_zero, List.set_cons_succ]
              refine Gr.walk_t ?_ (Or.inl ⟨by rfl, ?_⟩) ?_
              rotate_left
              · intro w' hw'
                have c1 := (Gr.ext_trans HD1.out hw').cell_of HCM.out
                clear hw'
                go_simp
                try with_reducible rfl
              simp only [Act.put, List.setIfInBounds_toArray, List.set_cons_zero, List.set_cons_succ]
              iterate 4
                refine Gr.walk_t ?_ (Or.inl ⟨by rfl, ?_⟩) ?_
                rotate_left
                · intro w' hw'
                  clear hw'
                  go_simp
                  try with_reducible rfl
                simp only [Act.put, List.setIfInBounds_toArray, List.set_cons_zero, List.set_cons_succ]
              refine Gr.walk_t ?_ (Or.inl ⟨by rfl, ?_⟩) ?_
              rotate_left
              · intro w' hw'
                have c1 := (Gr.ext_trans HD1.out hw').cell_of HCQ.out
                clear hw'
                go_simp
                try with_reducible rfl
              simp only [Act.put, List.setIfInBounds_toArray, List.set_cons_zero, List.set_cons_succ]
              iterate 8
                refine Gr.walk_t ?_ (Or.inl ⟨by rfl, ?_⟩) ?_
                rotate_left
                · intro w' hw'
                  clear hw'
                  go_simp
                  try with_reducible rfl
                simp only [Act.put, List.setIfInBounds_toArray, List.set_cons_zero, List.set_cons_succ]
              refine Gr.walk_t ?_ (Or.inl ⟨by rfl, ?_⟩) ?_
              rotate_left
              · intro w' hw'
                have c1 := (Gr.ext_trans HD1.out hw').cell_of HCM.out
                clear hw'
                go_simp
                try with_reducible rfl
              simp only [Act.put, List.setIfInBounds_toArray, List.set_cons_zero, List.set_cons_succ]
              refine Gr.walk_c (fun K hK => ?_)
              go_simp
              refine (HHAS.out wd1 HD1.out).mono ?_
              rintro e w5 ⟨rfl, rfl⟩
              try go_simp
              refine hK.out _ _ ((Gr.ext_refl _)) ?_
              clear hK K
              refine Gr.walk_t ?_ (Or.inl ⟨by rfl, ?_⟩) ?_
              rotate_left
              · intro w' hw'
                clear hw'
                go_simp
                try with_reducible rfl
              simp only [Act.put, List.setIfInBounds_toArray, List.set_cons_zero, List.set_cons_succ]
              refine Gr.walk_nil ?_
              go_wp2
              go_roundw
              case rel => exact ⟨m + 1, by omega, by go_num, HD1⟩
              case measure => simp [intOf]; omega
          · obtain rfl : m = N := by omega
            have HP := Lib.hid (Gr.below_of (Gr.ext_trans HX4.out HXM.out))
            go_wp2
            go_ret
            exact ⟨rfl, HP.out⟩
end Go.Proofs.Ytffcjnabhblbaaa
