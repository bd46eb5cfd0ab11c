/- The second statement's function answers true. -/
import Derived.Test.YtgdekeeleighcaaDoorTupLaw
import Derived.Deep.DeepCutAuto
namespace Go.Proofs.YtgdekeeleighcaaDoor
open Go.RowKit Go.Deep
set_option linter.unusedVariables false
theorem nodup_at (l : List Nat) (hn : l.Nodup) (m i : Nat) (hm : m < i) (hi : i < l.length) : l.getD m 0 ≠ l.getD i 0 := by
  have h := List.pairwise_iff_getElem.1 hn m i (by omega) hi hm
  simpa [hi, show m < l.length by omega] using h
theorem last_at (p : List Nat) (z W i : Nat) (hp : ∀ x ∈ p, x < W) (hz : W ≤ z) (hi : i < (p ++ [z]).length) : W ≤ (p ++ [z]).getD i 0 ↔ i + 1 = (p ++ [z]).length := by
  rw [List.length_append, List.length_singleton] at hi ⊢
  by_cases h : i < p.length
  · have e : (p ++ [z]).getD i 0 = p.getD i 0 := by simp [List.getD_eq_getElem?_getD, List.getElem?_append_left h]
    have hx := hp (p.getD i 0) (getD_mem_of p i h)
    rw [e]; omega
  · obtain rfl : i = p.length := by omega
    have e : (p ++ [z]).getD p.length 0 = z := by simp
    rw [e]; omega
theorem parts_last (k j esi i : Nat) (hi : i < (TM.parts k j esi).length) : PM.w k ≤ (TM.parts k j esi).getD i 0 ↔ i + 1 = (TM.parts k j esi).length := by
  have hp := TM.places_lt (PM.w k) (TM.num j esi)
  unfold TM.parts TM.partsW at hi ⊢
  generalize TM.places (PM.w k) (TM.num j esi) = p at *
  generalize TM.last (TM.num j esi) = z at *
  exact last_at p (PM.w k + z) (PM.w k) i hp (by omega) hi
theorem parts_once (k j esi m i : Nat) (hm : m < i) (hi : i < (TM.parts k j esi).length) : (TM.parts k j esi).getD m 0 ≠ (TM.parts k j esi).getD i 0 := by
  have h := TM.partsW_once (PM.w k) (TM.num j esi)
  unfold TM.parts at hi ⊢
  generalize TM.partsW (PM.w k) (TM.num j esi) = p at *
  exact nodup_at p h m i hm hi
theorem once_far (k j esi : Int) (w : World) (hT : Tab w) (hb : k < 1 ∨ k > 40 ∨ j < 0 ∨ j > 255 ∨ esi < 0 ∨ esi ≥ 16777216) :
    Calls Tryd.prog 4 #[.int .i64 k, .int .i64 j, .int .i64 esi] w fun e w' => e = .returned (.bool true) ∧ w.Extends w' := by
  have HA := Lib.hid (alive6_any w hT)
  have HB := Lib.hid hb
  clear hT hb
  by_cases c1 : k < 1
  rotate_left
  by_cases c2 : k > 40
  rotate_left
  by_cases c3 : j < 0
  rotate_left
  by_cases c4 : j > 255
  rotate_left
  by_cases c5 : esi < 0
  rotate_left
  have c6 : esi ≥ 16777216 := by have := HB.out; omega
  all_goals
    clear HB
    go_enter Tryd.func4, Tryd.ntmps4
    go_wp2_with fail
    refine HA.out.mono ?_
    rintro e w1 ⟨rfl, hx1⟩
    have HX1 := Lib.hid hx1
    clear hx1
    go_wp2
    go_ret
    exact ⟨rfl, HX1.out⟩
set_option maxRecDepth 100000 in
set_option maxHeartbeats 2000000 in
theorem once_near (k j esi : Nat) (w : World) (h1 : 1 ≤ k) (h2 : k ≤ 40) (hj : j ≤ 255) (he : esi < 16777216) (hT : Tab w) :
    Calls Tryd.prog 4 #[.int .i64 k, .int .i64 j, .int .i64 esi] w fun e w' => e = .returned (.bool true) ∧ w.Extends w' := by
  have HA := Lib.hid (alive6_any w hT)
  have HO := Lib.hid (fun w => prmOf_good k w h1 h2)
  have HP := Lib.hid (fun w hT => (parts_some k j esi w h1 h2 hj he hT).mono fun _ _ h => ints_of (l := TM.parts k j esi) h)
  have hw : (PM.w k : Int) = k + PM.s k := by unfold PM.w; omega
  have hl : (PM.l k : Int) = k + PM.s k + 2 := by unfold PM.l PM.w; omega
  have hl2 := PM.l_le k h2
  have hw2 := PM.w_le k h2
  have hW := fun w => prmW_any k (PM.s k) 2 w (by omega)
  have hL := fun w => prmL_any k (PM.s k) 2 w (by omega) (by omega)
  rw [← hw] at hW
  rw [← hl] at hL
  have HW := Lib.hid hW
  have HL := Lib.hid hL
  have HPL := Lib.hid (parts_at k j esi)
  have HLA := Lib.hid (parts_last k j esi)
  have HON := Lib.hid (parts_once k j esi)
  have hpl := parts_len k j esi
  have hp2 := parts_two k j esi
  rw [nats_length] at hp2
  have HT := Lib.hid hT
  clear hT hw hl hW hL
  obtain ⟨n, hn⟩ : ∃ n, n = (TM.parts k j esi).length := ⟨_, rfl⟩
  rw [← hn] at hpl hp2 HPL HLA HON
  have HN := Lib.hid hn
  clear hn
  have HNA := Lib.hid (nats_at (TM.parts k j esi))
  have HNL := Lib.hid (nats_length (TM.parts k j esi))
  generalize TM.parts k j esi = l at *
  generalize PM.l k = L at *
  generalize PM.w k = W at *
  generalize PM.s k = m at *
  go_enter Tryd.func4, Tryd.ntmps4
  go_wp2_with fail
  refine HA.out.mono ?_
  rintro e w1 ⟨rfl, hx1⟩
  have HX1 := Lib.hid hx1
  clear hx1 HA
  go_wp2_with fail
  refine (HO.out w1).mono ?_
  rintro e w2 ⟨rfl, hx2⟩
  have HX2 := Lib.hid (Gr.ext_trans HX1.out hx2)
  clear hx2 HX1 HO
  go_wp2_with fail
  generalize hw3 : World.alloc w2 _ = w3
  have hx3 : w2.Extends w3 := by subst hw3; exact prm_ext_alloc _ _
  have hp : PAt w3 w2.heap.size k m 2 := by subst hw3; exact PAt.new w2 24 k m 2
  generalize w2.heap.size = b at hp ⊢
  clear hw3
  have HX3 := Lib.hid (Gr.ext_trans HX2.out hx3)
  have HP3 := Lib.hid hp
  clear hx3 hp HX2
  refine (HP.out w3 (HT.out.ext HX3.out)).mono ?_
  rintro e w4 ⟨v, rfl, hx4, hi⟩
  obtain ⟨a, cap, rfl, hcap, hcap2⟩ := hi.slice
  rw [HNL.out, ← HN.out] at hi ⊢
  have HIN := Lib.hid hi.cell.2
  have HX4 := Lib.hid (Gr.ext_trans HX3.out hx4)
  have HP4 := Lib.hid (HP3.out.ext hx4)
  clear hx4 hi hcap hcap2 HX3 HP3 HP
  go_wp2_with fail
  have HPX4 : Hid (∀ w', w4.Extends w' → PAt w' b k m 2) := fun w' hw' => HP4.out.ext hw'
  clear HP4
  go_loopw [11] (fun i wr => ∃ q : Nat, q ≤ n ∧ i = .int .i64 q ∧ Hid (w4.Extends wr)) (fun i _ => (n - intOf i).toNat)
  case atStart => exact ⟨0, by omega, rfl, Lib.hid (Gr.ext_refl _)⟩
  case round =>
    obtain ⟨q, hq, rfl, HX⟩ := hrel
    by_cases h5 : q < n
    · obtain ⟨bp, off, rfl, hbp, hc⟩ := HIN.out (by omega)
      have hc1 := HX.out.cell_of (hc q h5)
      rw [HNA.out] at hc1
      have HCA : Hid (∀ i, i < n → wr.cell? ⟨bp, off + i, none⟩ = some (.int .i64 ((l.getD i 0 : Nat) : Int))) := fun i hi => by
        have := HX.out.cell_of (hc i hi)
        rw [HNA.out] at this; exact this
      have HC1 : Hid (∀ w', wr.Extends w' → w'.cell? ⟨bp, off + q, none⟩ = some (.int .i64 ((l.getD q 0 : Nat) : Int))) := fun w' hw' => hw'.cell_of hc1
      have HPX : Hid (∀ w', wr.Extends w' → PAt w' b k m 2) := fun w' hw' => HPX4.out _ (Gr.ext_trans HX.out hw')
      have hxL := HPL.out q h5
      have HXL := Lib.hid (HLA.out q h5)
      have HNE : Hid (∀ i, i < q → l.getD i 0 ≠ l.getD q 0) := fun i hi => HON.out i q hi h5
      clear hc hbp hc1
      generalize l.getD q 0 = x at *
      obtain ⟨ls, hls⟩ : ∃ ls : Bool, ls = decide (q + 1 = n) := ⟨_, rfl⟩
      have hd1 : decide ((x : Int) < 0) = false := decide_eq_false (by omega)
      have hd2 : decide ((L : Int) ≤ (x : Int)) = false := decide_eq_false (by omega)
      have hd2' : decide (L ≤ x) = false := decide_eq_false (by omega)
      have hd3 : decide ((W : Int) ≤ (x : Int)) = ls := by
        rw [hls]; have := HXL.out
        rw [decide_eq_decide]; omega
      have hd3' : decide (W ≤ x) = ls := by
        rw [hls]; have := HXL.out
        rw [decide_eq_decide]; omega
      have hd4 : ((q : Int) == (n : Int) - 1) = ls := by
        rw [hls, Bool.eq_iff_iff, beq_iff_eq, decide_eq_true_iff]; omega
      have HD1 := Lib.hid hd1
      have HD2 := Lib.hid hd2
      have HD2' := Lib.hid hd2'
      have HD3 := Lib.hid hd3
      have HD3' := Lib.hid hd3'
      clear hd1 hd2 hd2' hd3 hd3' hls
      go_wp2_with fail
      clear hd4
      have HB : Hid ((ls != ls) = false) := by cases ls <;> rfl
      have HCA : Hid (∀ i, i < n → wr.drew.cell? ⟨bp, off + i, none⟩ = some (.int .i64 ((l.getD i 0 : Nat) : Int))) := HCA.out
      have HXD : Hid (w4.Extends wr.drew) := Gr.ext_drew HX.out
      refine Gr.region 24 [(false,0),(false,1),(false,2),(false,3),(false,4),(false,5),(false,6),(false,7),(false,8),(false,9),(false,10),(true,11),(false,12),(false,13),(false,14),(false,15),(false,16),(false,17),(false,18),(false,19),(false,22),(true,20),(false,21),(false,23)] (by kernel_rfl) (by kernel_rfl) (fun d _ _ _ _ h => by cases d <;> exact h) ?_
      simp only [Gr.pick, List.getElem?_cons_zero, List.getElem?_cons_succ, List.drop_succ_cons, List.drop_zero]
      have HC1 : Hid (∀ w', wr.drew.Extends w' → w'.cell? ⟨bp, off + q, none⟩ = some (.int .i64 (x : Int))) := fun w' hw' => HC1.out w' (Gr.of_drew hw')
      have HPX : Hid (∀ w', wr.drew.Extends w' → PAt w' b k m 2) := fun w' hw' => HPX.out w' (Gr.of_drew hw')
      generalize wr.drew = wd at *
      iterate 11
        refine Gr.walk_t ?_ (Or.inl ⟨by rfl, ?_⟩) ?_
        rotate_left
        · intro w' hw'
          have hc1 := HC1.out w' hw'
          obtain ⟨p0, p1, p2⟩ := HPX.out w' hw'
          have hd1 := HD1.out
          clear hw'
          go_simp
          try with_reducible rfl
        simp only [Act.put, List.setIfInBounds_toArray, List.set_cons_zero, List.set_cons_succ]
      refine Gr.walk_c (fun K hK => ?_)
      go_simp
      refine (HL.out wd).mono ?_
      rintro e w5 ⟨rfl, hx5⟩
      have HX5 := Lib.hid (Gr.ext_trans HXD.out hx5)
      have HC1 : Hid (∀ w', w5.Extends w' → w'.cell? ⟨bp, off + q, none⟩ = some (.int .i64 (x : Int))) := fun w' hw' => HC1.out w' (Gr.ext_trans hx5 hw')
      have HCA : Hid (∀ i, i < n → w5.cell? ⟨bp, off + i, none⟩ = some (.int .i64 ((l.getD i 0 : Nat) : Int))) := fun i hi => hx5.cell_of (HCA.out i hi)
      have HPX : Hid (∀ w', w5.Extends w' → PAt w' b k m 2) := fun w' hw' => HPX.out w' (Gr.ext_trans hx5 hw')
      try go_simp
      refine hK.out _ _ (hx5) ?_
      clear hK K
      clear hx5
      iterate 9
        refine Gr.walk_t ?_ (Or.inl ⟨by rfl, ?_⟩) ?_
        rotate_left
        · intro w' hw'
          have hc1 := HC1.out w' hw'
          obtain ⟨p0, p1, p2⟩ := HPX.out w' hw'
          have hd2 := HD2.out
          have hd3 := HD2'.out
          clear hw'
          go_simp
          try with_reducible rfl
        simp only [Act.put, List.setIfInBounds_toArray, List.set_cons_zero, List.set_cons_succ]
      refine Gr.walk_c (fun K hK => ?_)
      go_simp
      refine (HW.out w5).mono ?_
      rintro e w6 ⟨rfl, hx6⟩
      have HX6 := Lib.hid (Gr.ext_trans HX5.out hx6)
      have HC1 : Hid (∀ w', w6.Extends w' → w'.cell? ⟨bp, off + q, none⟩ = some (.int .i64 (x : Int))) := fun w' hw' => HC1.out w' (Gr.ext_trans hx6 hw')
      have HCA : Hid (∀ i, i < n → w6.cell? ⟨bp, off + i, none⟩ = some (.int .i64 ((l.getD i 0 : Nat) : Int))) := fun i hi => hx6.cell_of (HCA.out i hi)
      try go_simp
      refine hK.out _ _ (hx6) ?_
      clear hK K
      clear hx6
      iterate 2
        refine Gr.walk_t ?_ (Or.inl ⟨by rfl, ?_⟩) ?_
        rotate_left
        · intro w' hw'
          have hd2 := HD3.out
          have hd3 := HD3'.out
          have hb := HB.out
          clear hw'
          go_simp
          try with_reducible rfl
        simp only [Act.put, List.setIfInBounds_toArray, List.set_cons_zero, List.set_cons_succ]
      refine Gr.walk_nil ?_
      go_wp2_with fail
      clear HD1 HD2 HD2' HD3 HD3' HXL HX HX5 HXD
      go_loopw [13] (fun i wq => ∃ t : Nat, t ≤ q ∧ i = .int .i64 t ∧ Hid (w6.Extends wq)) (fun i _ => (q - intOf i).toNat)
      case atStart => exact ⟨0, by omega, rfl, Lib.hid (Gr.ext_refl _)⟩
      case round =>
        obtain ⟨t, ht, rfl, HX7⟩ := hrel
        by_cases h6 : t < q
        · have hne := HNE.out t h6
          have htn : t < n := by omega
          have HC2 : Hid (∀ w', w6.Extends w' → w'.cell? ⟨bp, off + t, none⟩ = some (.int .i64 ((l.getD t 0 : Nat) : Int))) := fun w' hw' => hw'.cell_of (HCA.out t (by omega))
          generalize l.getD t 0 = z at *
          have HZ : Hid (((z : Int) == (x : Int)) = false) := by
            show _ = _
            rw [beq_eq_false_iff_ne]; omega
          have HZ' : Hid ((z == x) = false) := by
            show _ = _
            rw [beq_eq_false_iff_ne]; exact hne
          clear hne
          go_wp2_with fail
          refine Gr.region 8 [(false,0),(false,1),(false,2),(false,3),(false,4),(false,5),(false,6),(false,7)] (by kernel_rfl) (by kernel_rfl) (fun d _ _ _ _ h => by cases d <;> exact h) ?_
          simp only [Gr.pick, List.getElem?_cons_zero, List.getElem?_cons_succ, List.drop_succ_cons, List.drop_zero]
          iterate 8
            refine Gr.walk_t ?_ (Or.inl ⟨by rfl, ?_⟩) ?_
            rotate_left
            · intro w' hw'
              have hc1 := HC1.out w' (Gr.ext_trans HX7.out (Gr.of_drew hw'))
              have hc2 := HC2.out w' (Gr.ext_trans HX7.out (Gr.of_drew hw'))
              clear hw'
              go_simp
              try with_reducible rfl
            simp only [Act.put, List.setIfInBounds_toArray, List.set_cons_zero, List.set_cons_succ]
          refine Gr.walk_nil ?_
          have hz := HZ.out
          have hz' := HZ'.out
          go_wp2
          go_roundw
          case rel => exact ⟨t + 1, by omega, by go_num, Lib.hid (Gr.ext_drew HX7.out)⟩
          case measure => simp [intOf]; omega
        · obtain rfl : t = q := by omega
          have HX8 := Lib.hid (Gr.ext_trans HX6.out HX7.out)
          go_wp2
          go_roundw
          case rel => exact ⟨t + 1, by omega, by go_num, HX8⟩
          case measure => simp [intOf]; omega
    · obtain rfl : q = n := by omega
      go_wp2
      go_ret
      exact ⟨rfl, Gr.ext_trans HX4.out HX.out⟩
theorem TupleOnce_walk (k j esi : Int) (w : World) (_ : -9223372036854775808 ≤ k ∧ k ≤ 9223372036854775807) (_ : -9223372036854775808 ≤ j ∧ j ≤ 9223372036854775807) (_ : -9223372036854775808 ≤ esi ∧ esi ≤ 9223372036854775807) (hT : Tab w) :
    Calls Tryd.prog 4 #[.int .i64 k, .int .i64 j, .int .i64 esi] w fun e w' => e = .returned (.bool true) ∧ Below w.heap.size w w' := by
  suffices H : Calls Tryd.prog 4 #[.int .i64 k, .int .i64 j, .int .i64 esi] w fun e w' => e = .returned (.bool true) ∧ w.Extends w' from H.mono fun e w' h => ⟨h.1, Gr.below_of h.2⟩
  by_cases hb : k < 1 ∨ k > 40 ∨ j < 0 ∨ j > 255 ∨ esi < 0 ∨ esi ≥ 16777216
  · exact once_far k j esi w hT hb
  · obtain ⟨n, rfl⟩ := Int.eq_ofNat_of_zero_le (show 0 ≤ k by omega)
    obtain ⟨jn, rfl⟩ := Int.eq_ofNat_of_zero_le (show 0 ≤ j by omega)
    obtain ⟨en, rfl⟩ := Int.eq_ofNat_of_zero_le (show 0 ≤ esi by omega)
    exact once_near n jn en w (by omega) (by omega) (by omega) (by omega) hT
end Go.Proofs.YtgdekeeleighcaaDoor
