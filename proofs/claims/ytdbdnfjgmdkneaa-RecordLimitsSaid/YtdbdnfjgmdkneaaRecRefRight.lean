/- The reference's num and RightRecord. Written by gen_rright.py. -/
import Derived.Test.YtdbdnfjgmdkneaaRecRight
namespace Go.Proofs.Ytdbdnfjgmdkneaa
set_option maxRecDepth 20000
open Go.RowKit Go.Deep
set_option linter.unusedVariables false
theorem rn_yes (n : Int) (w : World) (h1 : 0 ≤ n) (h2 : n ≤ 2147483647) :
    Calls Try.prog 55 #[.int .i64 n] w fun e w' => e = .returned (.bool true) ∧ w = w' := by
  go_enter Try.func55, Try.ntmps55
  go_wp2
  go_ret
  exact ⟨rfl, rfl⟩
theorem rn_no (n : Int) (w : World) (h : ¬ (0 ≤ n ∧ n ≤ 2147483647)) :
    Calls Try.prog 55 #[.int .i64 n] w fun e w' => e = .returned (.bool false) ∧ w = w' := by
  by_cases h1 : n < 0
  · have h1' : decide ((n : Int) ≥ 0) = false := by simp; omega
    go_enter Try.func55, Try.ntmps55
    go_wp2
    go_ret
    exact ⟨rfl, rfl⟩
  · have h2 : decide (n ≤ 2147483647) = false := by simp; omega
    go_enter Try.func55, Try.ntmps55
    go_wp2
    go_ret
    exact ⟨rfl, rfl⟩
theorem rblocks_in (b s m : Int) (h : CM.Right b s m) : ∃ nk : Nat, nk ≤ 10000 ∧ (∀ w, Calls Try.prog 57 #[PV b s m] w fun e w' => e = .returned (.int .i64 (nk : Nat)) ∧ w.Extends w') ∧ nk = CM.bl b.toNat s.toNat m.toNat := by
  obtain ⟨h1, h2, h3, h4, h5, h6⟩ := h
  obtain ⟨b, rfl⟩ := Int.eq_ofNat_of_zero_le (show 0 ≤ b by omega)
  obtain ⟨s, rfl⟩ := Int.eq_ofNat_of_zero_le (show 0 ≤ s by omega)
  obtain ⟨m, rfl⟩ := Int.eq_ofNat_of_zero_le (show 0 ≤ m by omega)
  have h10 := CM.bl_le b s m
  have h11 := CM.sy_le b s (by omega)
  exact ⟨CM.bl b s m, by omega, fun w => rblocks_yes b s m w ⟨h1, h2, h3, h4, h5, h6⟩, by simp⟩
set_option maxHeartbeats 2000000 in
theorem rright14_any (r : Rc) (a : Option Addr) (c : Nat) (w : World) :
    Calls Try.prog 14 #[r.val (.slice a r.d.length c)] w (RightOut r w) := by
  obtain ⟨p, n, b, s, m, k, e, g, u, d⟩ := r
  have HBC := Lib.hid (rblocks_in b s m)
  have HSN : Hid (∀ w', ¬ CM.Right b s m → Calls Try.prog 56 #[PV b s m] w' fun e w2 => e = .returned (.bool false) ∧ w'.Extends w2) := fun w' h => rright_no b s m w' h
  have HSY : Hid (∀ w', CM.Right b s m → Calls Try.prog 56 #[PV b s m] w' fun e w2 => e = .returned (.bool true) ∧ w'.Extends w2) := fun w' h => rright_yes b s m w' h
  have HNO : Hid (∀ w', w.Extends w' → ¬ KM.Right ⟨p, n, b, s, m, k, e, g, u, d⟩ → RightOut ⟨p, n, b, s, m, k, e, g, u, d⟩ w (.returned (.bool false)) w') := fun w' hx h => ⟨false, rfl, by simp [h], hx⟩
  have HYES : Hid (∀ w', w.Extends w' → KM.Right ⟨p, n, b, s, m, k, e, g, u, d⟩ → RightOut ⟨p, n, b, s, m, k, e, g, u, d⟩ w (.returned (.bool true)) w') := fun w' hx h => ⟨true, rfl, by simp [h], hx⟩
  have HR : Hid (KM.Right ⟨p, n, b, s, m, k, e, g, u, d⟩ ↔ (0 ≤ p ∧ p ≤ 2147483647) ∧ (1 ≤ n ∧ n ≤ 2147483647) ∧ (0 ≤ u ∧ u ≤ 2147483647) ∧
    (g = true → ((b = 0 ∧ s = 0 ∧ m = 0) ∧ k = 0) ∧ e = 0 ∧ d = []) ∧
    (g = false → (CM.Right b s m ∧ 0 ≤ k ∧ k < CM.bl b.toNat s.toNat m.toNat) ∧ (0 ≤ e ∧ e ≤ 16777215) ∧ (d.length : Int) = s)) := Iff.rfl
  have HD0 : Hid (d = [] ↔ d.length = 0) := ⟨fun h => by rw [h]; rfl, List.eq_nil_of_length_eq_zero⟩
  generalize RightOut _ w = R at *
  generalize KM.Right _ = RI at *
  generalize d.length = dl at *
  obtain ⟨CR, hcr⟩ : ∃ CR, CR ↔ CM.Right b s m := ⟨_, Iff.rfl⟩
  rw [← hcr] at HR HSN HSY
  have HCR := Lib.hid hcr
  clear hcr
  show Calls Try.prog 14 #[.agg #[.int .i64 p, .int .i64 n, .int .i64 b, .int .i64 s, .int .i64 m, .int .i64 k, .int .i64 e, .bool g, .int .i64 u, .slice a dl c]] w _
  go_enter Try.func14, Try.ntmps14
  go_wp2_with fail
  generalize hw1 : World.alloc w _ = w1
  obtain ⟨hr1, hx1, hb1⟩ := RCell.new w w1 ⟨p, n, b, s, m, k, e, g, u, d⟩ (.slice a dl c) hw1
  obtain ⟨t0, t1, t2, t3, t4, t5, t6, t7, t8, t9⟩ := RCell.ten hr1
  simp only [Nat.zero_add] at t0 t1 t2 t3 t4 t5 t6 t7 t8 t9
  have HX1 := Lib.hid hx1
  clear hw1 hr1 hx1
  generalize w.heap.size = x at *
  by_cases cp : 0 ≤ p ∧ p ≤ 2147483647
  case neg =>
    refine (rn_no p w1 cp).mono ?_
    rintro e w2 ⟨rfl, rfl⟩
    have HP := Lib.hid (HNO.out w1 HX1.out fun h => cp (HR.out.1 h).1)
    clear cp
    go_wp2
    exact HP.out
  refine (rn_yes p w1 cp.1 cp.2).mono ?_
  rintro e w2 ⟨rfl, rfl⟩
  go_wp2_with fail
  by_cases cn0 : 0 ≤ n ∧ n ≤ 2147483647
  case neg =>
    refine (rn_no n w1 cn0).mono ?_
    rintro e w2 ⟨rfl, rfl⟩
    have HP := Lib.hid (HNO.out w1 HX1.out fun h => cn0 ⟨by have := (HR.out.1 h).2.1; omega, (HR.out.1 h).2.1.2⟩)
    clear cn0
    go_wp2
    exact HP.out
  refine (rn_yes n w1 cn0.1 cn0.2).mono ?_
  rintro e w2 ⟨rfl, rfl⟩
  by_cases cn1 : n < 1
  · have HP := Lib.hid (HNO.out w1 HX1.out fun h => by have := (HR.out.1 h).2.1; omega)
    go_wp2
    exact HP.out
  have cn : 1 ≤ n ∧ n ≤ 2147483647 := ⟨by omega, cn0.2⟩
  go_wp2_with fail
  by_cases cu : 0 ≤ u ∧ u ≤ 2147483647
  case neg =>
    refine (rn_no u w1 cu).mono ?_
    rintro e w2 ⟨rfl, rfl⟩
    have HP := Lib.hid (HNO.out w1 HX1.out fun h => cu (HR.out.1 h).2.2.1)
    clear cu
    go_wp2
    exact HP.out
  refine (rn_yes u w1 cu.1 cu.2).mono ?_
  rintro e w2 ⟨rfl, rfl⟩
  cases g with
  | true =>
    clear HBC HSN HSY
    have HH : Hid (RI ↔ b = 0 ∧ s = 0 ∧ m = 0 ∧ k = 0 ∧ e = 0 ∧ dl = 0) := by
      refine ⟨fun h => ?_, fun ⟨h1, h2, h3, h4, h5, h6⟩ => HR.out.2 ⟨cp, cn, cu, fun _ => ⟨⟨⟨h1, h2, h3⟩, h4⟩, h5, HD0.out.2 h6⟩, fun h => absurd h (by decide)⟩⟩
      obtain ⟨_, _, _, h4, _⟩ := HR.out.1 h
      obtain ⟨⟨⟨h1, h2, h3⟩, h4⟩, h5, h6⟩ := h4 rfl
      exact ⟨h1, h2, h3, h4, h5, HD0.out.1 h6⟩
    clear HR HD0 cp cn cu
    by_cases hd : dl = 0
    · subst hd
      go_wp2
      · exact HYES.out w1 HX1.out (HH.out.2 ⟨by assumption, by assumption, by assumption, by assumption, by assumption, trivial⟩)
      all_goals first
        | (refine HNO.out w1 HX1.out fun h => ?_
           obtain ⟨h1, h2, h3, h4, h5, _⟩ := HH.out.1 h
           contradiction)
    · have hd' : ((dl : Int) == 0) = false := by rw [beq_eq_false_iff_ne]; omega
      have HN := Lib.hid (HNO.out w1 HX1.out fun h => hd (HH.out.1 h).2.2.2.2.2)
      clear hd
      go_wp2
      all_goals exact HN.out
  | false =>
    have HH : Hid (RI ↔ (CR ∧ 0 ≤ k ∧ k < CM.bl b.toNat s.toNat m.toNat) ∧ (0 ≤ e ∧ e ≤ 16777215) ∧ (dl : Int) = s) := by
      refine ⟨fun h => ?_, fun h => HR.out.2 ⟨cp, cn, cu, fun h => absurd h (by decide), fun _ => h⟩⟩
      obtain ⟨_, _, _, _, h5⟩ := HR.out.1 h
      exact h5 rfl
    have HT : Hid (∀ w', w1.Extends w' → w'.cell? ⟨x, 0, none⟩ = some (.int .i64 p) ∧ w'.cell? ⟨x, 1, none⟩ = some (.int .i64 n) ∧ w'.cell? ⟨x, 2, none⟩ = some (.int .i64 b) ∧ w'.cell? ⟨x, 3, none⟩ = some (.int .i64 s) ∧ w'.cell? ⟨x, 4, none⟩ = some (.int .i64 m) ∧
        w'.cell? ⟨x, 5, none⟩ = some (.int .i64 k) ∧ w'.cell? ⟨x, 6, none⟩ = some (.int .i64 e) ∧ w'.cell? ⟨x, 7, none⟩ = some (.bool false) ∧ w'.cell? ⟨x, 8, none⟩ = some (.int .i64 u) ∧ w'.cell? ⟨x, 9, none⟩ = some (.slice a dl c)) := fun w' hw' =>
      ⟨hw'.cell_of t0, hw'.cell_of t1, hw'.cell_of t2, hw'.cell_of t3, hw'.cell_of t4, hw'.cell_of t5, hw'.cell_of t6, hw'.cell_of t7, hw'.cell_of t8, hw'.cell_of t9⟩
    clear HR HD0 cp cu
    go_wp2_with fail
    clear cn cn0 cn1 t0 t1 t2 t3 t4 t5 t6 t7 t8 t9
    have HXd := Lib.hid (Gr.ext_drew HX1.out)
    refine Gr.region 35 [(false,0),(false,1),(true,2),(false,3),(false,4),(false,5),(false,6),(false,7),(false,8),(false,9),(false,10),(false,11),(false,12),(true,13),(false,14),(false,15),(false,16),(false,17),(false,18),(false,19),(false,20),(false,21),(false,22),(false,23),(false,24),(false,25),(false,26),(false,27),(false,28),(false,29),(false,30),(false,31),(false,32),(false,33),(false,34)] (by kernel_rfl) (by kernel_rfl) (fun d _ _ _ _ h => by cases d <;> exact h) ?_
    simp only [Gr.pick, List.getElem?_cons_zero, List.getElem?_cons_succ, List.drop_succ_cons, List.drop_zero]
    have HTd : Hid _ := Lib.hid fun w' (hw' : w1.drew.Extends w') => HT.out w' (Gr.of_drew hw')
    generalize w1.drew = w2 at *
    clear HT hb1
    iterate 2
      refine Gr.walk_t ?_ (Or.inl ⟨by rfl, ?_⟩) ?_
      rotate_left
      · intro w' hw'
        obtain ⟨t0, t1, t2, t3, t4, t5, t6, t7, t8, t9⟩ := HTd.out w' hw'
        clear hw'
        go_simp
        try with_reducible rfl
      simp only [Act.put, List.setIfInBounds_toArray, List.set_cons_zero, List.set_cons_succ]
    by_cases cr : CR
    case neg =>
      refine Gr.walk_c (fun K hK => ?_)
      go_simp
      refine (HSN.out w2 cr).mono ?_
      rintro e w3 ⟨rfl, hx3⟩
      have HP := Lib.hid (HNO.out w3 (Gr.ext_trans HXd.out hx3) fun h => cr (HH.out.1 h).1.1)
      try go_simp
      refine hK.out _ _ (hx3) ?_
      clear hK K
      clear hx3 HTd HXd cr
      refine Gr.walk_t ?_ (Or.inl ⟨by rfl, ?_⟩) ?_
      rotate_left
      · intro w' hw'
        clear hw'
        go_simp
        try with_reducible rfl
      simp only [Act.put, List.setIfInBounds_toArray, List.set_cons_zero, List.set_cons_succ]
      refine Gr.walk_t _ (Or.inr ⟨by rfl, rfl⟩) ?_
      simp only [Act.put, List.setIfInBounds_toArray, List.set_cons_zero, List.set_cons_succ]
      refine Gr.walk_t _ (Or.inr ⟨by rfl, rfl⟩) ?_
      simp only [Act.put, List.setIfInBounds_toArray, List.set_cons_zero, List.set_cons_succ]
      refine Gr.walk_t _ (Or.inr ⟨by rfl, rfl⟩) ?_
      simp only [Act.put, List.setIfInBounds_toArray, List.set_cons_zero, List.set_cons_succ]
      iterate 2
        refine Gr.walk_t ?_ (Or.inl ⟨by rfl, ?_⟩) ?_
        rotate_left
        · intro w' hw'
          clear hw'
          go_simp
          try with_reducible rfl
        simp only [Act.put, List.setIfInBounds_toArray, List.set_cons_zero, List.set_cons_succ]
      refine Gr.walk_t _ (Or.inr ⟨by rfl, rfl⟩) ?_
      simp only [Act.put, List.setIfInBounds_toArray, List.set_cons_zero, List.set_cons_succ]
      refine Gr.walk_t _ (Or.inr ⟨by rfl, rfl⟩) ?_
      simp only [Act.put, List.setIfInBounds_toArray, List.set_cons_zero, List.set_cons_succ]
      refine Gr.walk_t _ (Or.inr ⟨by rfl, rfl⟩) ?_
      simp only [Act.put, List.setIfInBounds_toArray, List.set_cons_zero, List.set_cons_succ]
      refine Gr.walk_t _ (Or.inr ⟨by rfl, rfl⟩) ?_
      simp only [Act.put, List.setIfInBounds_toArray, List.set_cons_zero, List.set_cons_succ]
      refine Gr.walk_c (fun K hK => ?_)
      rw [if_neg (by intro h; cases h)]
      refine hK.out _ _ (Gr.ext_refl _) ?_
      clear hK K
      simp only [Act.put, List.setIfInBounds_toArray, List.set_cons_zero, List.set_cons_succ]
      refine Gr.walk_t _ (Or.inr ⟨by rfl, rfl⟩) ?_
      simp only [Act.put, List.setIfInBounds_toArray, List.set_cons_zero, List.set_cons_succ]
      iterate 2
        refine Gr.walk_t ?_ (Or.inl ⟨by rfl, ?_⟩) ?_
        rotate_left
        · intro w' hw'
          clear hw'
          go_simp
          try with_reducible rfl
        simp only [Act.put, List.setIfInBounds_toArray, List.set_cons_zero, List.set_cons_succ]
      refine Gr.walk_t _ (Or.inr ⟨by rfl, rfl⟩) ?_
      simp only [Act.put, List.setIfInBounds_toArray, List.set_cons_zero, List.set_cons_succ]
      refine Gr.walk_t _ (Or.inr ⟨by rfl, rfl⟩) ?_
      simp only [Act.put, List.setIfInBounds_toArray, List.set_cons_zero, List.set_cons_succ]
      refine Gr.walk_t _ (Or.inr ⟨by rfl, rfl⟩) ?_
      simp only [Act.put, List.setIfInBounds_toArray, List.set_cons_zero, List.set_cons_succ]
      iterate 2
        refine Gr.walk_t ?_ (Or.inl ⟨by rfl, ?_⟩) ?_
        rotate_left
        · intro w' hw'
          clear hw'
          go_simp
          try with_reducible rfl
        simp only [Act.put, List.setIfInBounds_toArray, List.set_cons_zero, List.set_cons_succ]
      refine Gr.walk_t _ (Or.inr ⟨by rfl, rfl⟩) ?_
      simp only [Act.put, List.setIfInBounds_toArray, List.set_cons_zero, List.set_cons_succ]
      refine Gr.walk_t _ (Or.inr ⟨by rfl, rfl⟩) ?_
      simp only [Act.put, List.setIfInBounds_toArray, List.set_cons_zero, List.set_cons_succ]
      refine Gr.walk_t _ (Or.inr ⟨by rfl, rfl⟩) ?_
      simp only [Act.put, List.setIfInBounds_toArray, List.set_cons_zero, List.set_cons_succ]
      iterate 2
        refine Gr.walk_t ?_ (Or.inl ⟨by rfl, ?_⟩) ?_
        rotate_left
        · intro w' hw'
          clear hw'
          go_simp
          try with_reducible rfl
        simp only [Act.put, List.setIfInBounds_toArray, List.set_cons_zero, List.set_cons_succ]
      refine Gr.walk_t _ (Or.inr ⟨by rfl, rfl⟩) ?_
      simp only [Act.put, List.setIfInBounds_toArray, List.set_cons_zero, List.set_cons_succ]
      refine Gr.walk_t _ (Or.inr ⟨by rfl, rfl⟩) ?_
      simp only [Act.put, List.setIfInBounds_toArray, List.set_cons_zero, List.set_cons_succ]
      refine Gr.walk_t _ (Or.inr ⟨by rfl, rfl⟩) ?_
      simp only [Act.put, List.setIfInBounds_toArray, List.set_cons_zero, List.set_cons_succ]
      refine Gr.walk_t _ (Or.inr ⟨by rfl, rfl⟩) ?_
      simp only [Act.put, List.setIfInBounds_toArray, List.set_cons_zero, List.set_cons_succ]
      refine Gr.walk_t _ (Or.inr ⟨by rfl, rfl⟩) ?_
      simp only [Act.put, List.setIfInBounds_toArray, List.set_cons_zero, List.set_cons_succ]
      refine Gr.walk_t _ (Or.inr ⟨by rfl, rfl⟩) ?_
      simp only [Act.put, List.setIfInBounds_toArray, List.set_cons_zero, List.set_cons_succ]
      refine Gr.walk_t _ (Or.inr ⟨by rfl, rfl⟩) ?_
      simp only [Act.put, List.setIfInBounds_toArray, List.set_cons_zero, List.set_cons_succ]
      refine Gr.walk_t ?_ (Or.inl ⟨by rfl, ?_⟩) ?_
      rotate_left
      · intro w' hw'
        clear hw'
        go_simp
        try with_reducible rfl
      simp only [Act.put, List.setIfInBounds_toArray, List.set_cons_zero, List.set_cons_succ]
      refine Gr.walk_nil ?_
      go_wp2
      exact HP.out
    obtain ⟨nk, hnk, hbc, hbk⟩ := HBC.out (HCR.out.1 cr)
    have HBC2 := Lib.hid hbc
    rw [← hbk] at HH
    clear hbc hbk HBC
    refine Gr.walk_c (fun K hK => ?_)
    go_simp
    refine (HSY.out w2 cr).mono ?_
    rintro e w3 ⟨rfl, hx3⟩
    have HT3 := Lib.hid fun w' (hw' : w3.Extends w') => HTd.out w' (Gr.ext_trans hx3 hw')
    have HX3 := Lib.hid (Gr.ext_trans HXd.out hx3)
    try go_simp
    refine hK.out _ _ (hx3) ?_
    clear hK K
    clear hx3 HTd HXd
    by_cases ck0 : k < 0
    case pos =>
      have HP := Lib.hid (HNO.out w3 HX3.out fun h => by have := (HH.out.1 h).1.2.1; omega)
      have hd : decide (k ≥ 0) = false := by simp; omega
      clear ck0
      iterate 6
        refine Gr.walk_t ?_ (Or.inl ⟨by rfl, ?_⟩) ?_
        rotate_left
        · intro w' hw'
          obtain ⟨t0, t1, t2, t3, t4, t5, t6, t7, t8, t9⟩ := HT3.out w' hw'
          clear hw'
          go_simp
          try with_reducible rfl
        simp only [Act.put, List.setIfInBounds_toArray, List.set_cons_zero, List.set_cons_succ]
      refine Gr.walk_t _ (Or.inr ⟨by rfl, rfl⟩) ?_
      simp only [Act.put, List.setIfInBounds_toArray, List.set_cons_zero, List.set_cons_succ]
      refine Gr.walk_t _ (Or.inr ⟨by rfl, rfl⟩) ?_
      simp only [Act.put, List.setIfInBounds_toArray, List.set_cons_zero, List.set_cons_succ]
      refine Gr.walk_t _ (Or.inr ⟨by rfl, rfl⟩) ?_
      simp only [Act.put, List.setIfInBounds_toArray, List.set_cons_zero, List.set_cons_succ]
      refine Gr.walk_t _ (Or.inr ⟨by rfl, rfl⟩) ?_
      simp only [Act.put, List.setIfInBounds_toArray, List.set_cons_zero, List.set_cons_succ]
      refine Gr.walk_c (fun K hK => ?_)
      rw [if_neg (by intro h; cases h)]
      refine hK.out _ _ (Gr.ext_refl _) ?_
      clear hK K
      simp only [Act.put, List.setIfInBounds_toArray, List.set_cons_zero, List.set_cons_succ]
      refine Gr.walk_t _ (Or.inr ⟨by rfl, rfl⟩) ?_
      simp only [Act.put, List.setIfInBounds_toArray, List.set_cons_zero, List.set_cons_succ]
      iterate 2
        refine Gr.walk_t ?_ (Or.inl ⟨by rfl, ?_⟩) ?_
        rotate_left
        · intro w' hw'
          clear hw'
          go_simp
          try with_reducible rfl
        simp only [Act.put, List.setIfInBounds_toArray, List.set_cons_zero, List.set_cons_succ]
      refine Gr.walk_t _ (Or.inr ⟨by rfl, rfl⟩) ?_
      simp only [Act.put, List.setIfInBounds_toArray, List.set_cons_zero, List.set_cons_succ]
      refine Gr.walk_t _ (Or.inr ⟨by rfl, rfl⟩) ?_
      simp only [Act.put, List.setIfInBounds_toArray, List.set_cons_zero, List.set_cons_succ]
      refine Gr.walk_t _ (Or.inr ⟨by rfl, rfl⟩) ?_
      simp only [Act.put, List.setIfInBounds_toArray, List.set_cons_zero, List.set_cons_succ]
      iterate 2
        refine Gr.walk_t ?_ (Or.inl ⟨by rfl, ?_⟩) ?_
        rotate_left
        · intro w' hw'
          clear hw'
          go_simp
          try with_reducible rfl
        simp only [Act.put, List.setIfInBounds_toArray, List.set_cons_zero, List.set_cons_succ]
      refine Gr.walk_t _ (Or.inr ⟨by rfl, rfl⟩) ?_
      simp only [Act.put, List.setIfInBounds_toArray, List.set_cons_zero, List.set_cons_succ]
      refine Gr.walk_t _ (Or.inr ⟨by rfl, rfl⟩) ?_
      simp only [Act.put, List.setIfInBounds_toArray, List.set_cons_zero, List.set_cons_succ]
      refine Gr.walk_t _ (Or.inr ⟨by rfl, rfl⟩) ?_
      simp only [Act.put, List.setIfInBounds_toArray, List.set_cons_zero, List.set_cons_succ]
      iterate 2
        refine Gr.walk_t ?_ (Or.inl ⟨by rfl, ?_⟩) ?_
        rotate_left
        · intro w' hw'
          clear hw'
          go_simp
          try with_reducible rfl
        simp only [Act.put, List.setIfInBounds_toArray, List.set_cons_zero, List.set_cons_succ]
      refine Gr.walk_t _ (Or.inr ⟨by rfl, rfl⟩) ?_
      simp only [Act.put, List.setIfInBounds_toArray, List.set_cons_zero, List.set_cons_succ]
      refine Gr.walk_t _ (Or.inr ⟨by rfl, rfl⟩) ?_
      simp only [Act.put, List.setIfInBounds_toArray, List.set_cons_zero, List.set_cons_succ]
      refine Gr.walk_t _ (Or.inr ⟨by rfl, rfl⟩) ?_
      simp only [Act.put, List.setIfInBounds_toArray, List.set_cons_zero, List.set_cons_succ]
      refine Gr.walk_t _ (Or.inr ⟨by rfl, rfl⟩) ?_
      simp only [Act.put, List.setIfInBounds_toArray, List.set_cons_zero, List.set_cons_succ]
      refine Gr.walk_t _ (Or.inr ⟨by rfl, rfl⟩) ?_
      simp only [Act.put, List.setIfInBounds_toArray, List.set_cons_zero, List.set_cons_succ]
      refine Gr.walk_t _ (Or.inr ⟨by rfl, rfl⟩) ?_
      simp only [Act.put, List.setIfInBounds_toArray, List.set_cons_zero, List.set_cons_succ]
      refine Gr.walk_t _ (Or.inr ⟨by rfl, rfl⟩) ?_
      simp only [Act.put, List.setIfInBounds_toArray, List.set_cons_zero, List.set_cons_succ]
      refine Gr.walk_t ?_ (Or.inl ⟨by rfl, ?_⟩) ?_
      rotate_left
      · intro w' hw'
        clear hw'
        go_simp
        try with_reducible rfl
      simp only [Act.put, List.setIfInBounds_toArray, List.set_cons_zero, List.set_cons_succ]
      refine Gr.walk_nil ?_
      go_wp2
      exact HP.out
    have hd0 : decide (k ≥ 0) = true := by simp; omega
    iterate 10
      refine Gr.walk_t ?_ (Or.inl ⟨by rfl, ?_⟩) ?_
      rotate_left
      · intro w' hw'
        obtain ⟨t0, t1, t2, t3, t4, t5, t6, t7, t8, t9⟩ := HT3.out w' hw'
        clear hw'
        go_simp
        try with_reducible rfl
      simp only [Act.put, List.setIfInBounds_toArray, List.set_cons_zero, List.set_cons_succ]
    refine Gr.walk_c (fun K hK => ?_)
    go_simp
    refine (HBC2.out w3).mono ?_
    rintro e w4 ⟨rfl, hx4⟩
    have HT4 := Lib.hid fun w' (hw' : w4.Extends w') => HT3.out w' (Gr.ext_trans hx4 hw')
    have HX4 := Lib.hid (Gr.ext_trans HX3.out hx4)
    try go_simp
    refine hK.out _ _ (hx4) ?_
    clear hK K
    clear hx4 HT3 HX3 hd0
    by_cases ck1 : k < nk
    case neg =>
      have HP := Lib.hid (HNO.out w4 HX4.out fun h => ck1 (HH.out.1 h).1.2.2)
      have hd : decide (k < (nk : Int)) = false := by simp; omega
      clear ck0 ck1
      iterate 3
        refine Gr.walk_t ?_ (Or.inl ⟨by rfl, ?_⟩) ?_
        rotate_left
        · intro w' hw'
          obtain ⟨t0, t1, t2, t3, t4, t5, t6, t7, t8, t9⟩ := HT4.out w' hw'
          clear hw'
          go_simp
          try with_reducible rfl
        simp only [Act.put, List.setIfInBounds_toArray, List.set_cons_zero, List.set_cons_succ]
      refine Gr.walk_t _ (Or.inr ⟨by rfl, rfl⟩) ?_
      simp only [Act.put, List.setIfInBounds_toArray, List.set_cons_zero, List.set_cons_succ]
      refine Gr.walk_t _ (Or.inr ⟨by rfl, rfl⟩) ?_
      simp only [Act.put, List.setIfInBounds_toArray, List.set_cons_zero, List.set_cons_succ]
      refine Gr.walk_t _ (Or.inr ⟨by rfl, rfl⟩) ?_
      simp only [Act.put, List.setIfInBounds_toArray, List.set_cons_zero, List.set_cons_succ]
      iterate 2
        refine Gr.walk_t ?_ (Or.inl ⟨by rfl, ?_⟩) ?_
        rotate_left
        · intro w' hw'
          clear hw'
          go_simp
          try with_reducible rfl
        simp only [Act.put, List.setIfInBounds_toArray, List.set_cons_zero, List.set_cons_succ]
      refine Gr.walk_t _ (Or.inr ⟨by rfl, rfl⟩) ?_
      simp only [Act.put, List.setIfInBounds_toArray, List.set_cons_zero, List.set_cons_succ]
      refine Gr.walk_t _ (Or.inr ⟨by rfl, rfl⟩) ?_
      simp only [Act.put, List.setIfInBounds_toArray, List.set_cons_zero, List.set_cons_succ]
      refine Gr.walk_t _ (Or.inr ⟨by rfl, rfl⟩) ?_
      simp only [Act.put, List.setIfInBounds_toArray, List.set_cons_zero, List.set_cons_succ]
      iterate 2
        refine Gr.walk_t ?_ (Or.inl ⟨by rfl, ?_⟩) ?_
        rotate_left
        · intro w' hw'
          clear hw'
          go_simp
          try with_reducible rfl
        simp only [Act.put, List.setIfInBounds_toArray, List.set_cons_zero, List.set_cons_succ]
      refine Gr.walk_t _ (Or.inr ⟨by rfl, rfl⟩) ?_
      simp only [Act.put, List.setIfInBounds_toArray, List.set_cons_zero, List.set_cons_succ]
      refine Gr.walk_t _ (Or.inr ⟨by rfl, rfl⟩) ?_
      simp only [Act.put, List.setIfInBounds_toArray, List.set_cons_zero, List.set_cons_succ]
      refine Gr.walk_t _ (Or.inr ⟨by rfl, rfl⟩) ?_
      simp only [Act.put, List.setIfInBounds_toArray, List.set_cons_zero, List.set_cons_succ]
      refine Gr.walk_t _ (Or.inr ⟨by rfl, rfl⟩) ?_
      simp only [Act.put, List.setIfInBounds_toArray, List.set_cons_zero, List.set_cons_succ]
      refine Gr.walk_t _ (Or.inr ⟨by rfl, rfl⟩) ?_
      simp only [Act.put, List.setIfInBounds_toArray, List.set_cons_zero, List.set_cons_succ]
      refine Gr.walk_t _ (Or.inr ⟨by rfl, rfl⟩) ?_
      simp only [Act.put, List.setIfInBounds_toArray, List.set_cons_zero, List.set_cons_succ]
      refine Gr.walk_t _ (Or.inr ⟨by rfl, rfl⟩) ?_
      simp only [Act.put, List.setIfInBounds_toArray, List.set_cons_zero, List.set_cons_succ]
      refine Gr.walk_t ?_ (Or.inl ⟨by rfl, ?_⟩) ?_
      rotate_left
      · intro w' hw'
        clear hw'
        go_simp
        try with_reducible rfl
      simp only [Act.put, List.setIfInBounds_toArray, List.set_cons_zero, List.set_cons_succ]
      refine Gr.walk_nil ?_
      go_wp2
      exact HP.out
    have hd1 : decide (k < (nk : Int)) = true := by simp; omega
    by_cases ce0 : e < 0
    case pos =>
      have HP := Lib.hid (HNO.out w4 HX4.out fun h => by have := (HH.out.1 h).2.1.1; omega)
      have hd : decide (e ≥ 0) = false := by simp; omega
      clear ck0 ck1 ce0
      iterate 8
        refine Gr.walk_t ?_ (Or.inl ⟨by rfl, ?_⟩) ?_
        rotate_left
        · intro w' hw'
          obtain ⟨t0, t1, t2, t3, t4, t5, t6, t7, t8, t9⟩ := HT4.out w' hw'
          clear hw'
          go_simp
          try with_reducible rfl
        simp only [Act.put, List.setIfInBounds_toArray, List.set_cons_zero, List.set_cons_succ]
      refine Gr.walk_t _ (Or.inr ⟨by rfl, rfl⟩) ?_
      simp only [Act.put, List.setIfInBounds_toArray, List.set_cons_zero, List.set_cons_succ]
      refine Gr.walk_t _ (Or.inr ⟨by rfl, rfl⟩) ?_
      simp only [Act.put, List.setIfInBounds_toArray, List.set_cons_zero, List.set_cons_succ]
      refine Gr.walk_t _ (Or.inr ⟨by rfl, rfl⟩) ?_
      simp only [Act.put, List.setIfInBounds_toArray, List.set_cons_zero, List.set_cons_succ]
      iterate 2
        refine Gr.walk_t ?_ (Or.inl ⟨by rfl, ?_⟩) ?_
        rotate_left
        · intro w' hw'
          clear hw'
          go_simp
          try with_reducible rfl
        simp only [Act.put, List.setIfInBounds_toArray, List.set_cons_zero, List.set_cons_succ]
      refine Gr.walk_t _ (Or.inr ⟨by rfl, rfl⟩) ?_
      simp only [Act.put, List.setIfInBounds_toArray, List.set_cons_zero, List.set_cons_succ]
      refine Gr.walk_t _ (Or.inr ⟨by rfl, rfl⟩) ?_
      simp only [Act.put, List.setIfInBounds_toArray, List.set_cons_zero, List.set_cons_succ]
      refine Gr.walk_t _ (Or.inr ⟨by rfl, rfl⟩) ?_
      simp only [Act.put, List.setIfInBounds_toArray, List.set_cons_zero, List.set_cons_succ]
      refine Gr.walk_t _ (Or.inr ⟨by rfl, rfl⟩) ?_
      simp only [Act.put, List.setIfInBounds_toArray, List.set_cons_zero, List.set_cons_succ]
      refine Gr.walk_t _ (Or.inr ⟨by rfl, rfl⟩) ?_
      simp only [Act.put, List.setIfInBounds_toArray, List.set_cons_zero, List.set_cons_succ]
      refine Gr.walk_t _ (Or.inr ⟨by rfl, rfl⟩) ?_
      simp only [Act.put, List.setIfInBounds_toArray, List.set_cons_zero, List.set_cons_succ]
      refine Gr.walk_t _ (Or.inr ⟨by rfl, rfl⟩) ?_
      simp only [Act.put, List.setIfInBounds_toArray, List.set_cons_zero, List.set_cons_succ]
      refine Gr.walk_t ?_ (Or.inl ⟨by rfl, ?_⟩) ?_
      rotate_left
      · intro w' hw'
        clear hw'
        go_simp
        try with_reducible rfl
      simp only [Act.put, List.setIfInBounds_toArray, List.set_cons_zero, List.set_cons_succ]
      refine Gr.walk_nil ?_
      go_wp2
      exact HP.out
    have hd2 : decide (e ≥ 0) = true := by simp; omega
    by_cases ce1 : e < 16777216
    case neg =>
      have HP := Lib.hid (HNO.out w4 HX4.out fun h => by have := (HH.out.1 h).2.1.2; omega)
      have hd : decide (e < 16777216) = false := by simp; omega
      clear ck0 ck1 ce0 ce1
      iterate 13
        refine Gr.walk_t ?_ (Or.inl ⟨by rfl, ?_⟩) ?_
        rotate_left
        · intro w' hw'
          obtain ⟨t0, t1, t2, t3, t4, t5, t6, t7, t8, t9⟩ := HT4.out w' hw'
          clear hw'
          go_simp
          try with_reducible rfl
        simp only [Act.put, List.setIfInBounds_toArray, List.set_cons_zero, List.set_cons_succ]
      refine Gr.walk_t _ (Or.inr ⟨by rfl, rfl⟩) ?_
      simp only [Act.put, List.setIfInBounds_toArray, List.set_cons_zero, List.set_cons_succ]
      refine Gr.walk_t _ (Or.inr ⟨by rfl, rfl⟩) ?_
      simp only [Act.put, List.setIfInBounds_toArray, List.set_cons_zero, List.set_cons_succ]
      refine Gr.walk_t _ (Or.inr ⟨by rfl, rfl⟩) ?_
      simp only [Act.put, List.setIfInBounds_toArray, List.set_cons_zero, List.set_cons_succ]
      refine Gr.walk_t _ (Or.inr ⟨by rfl, rfl⟩) ?_
      simp only [Act.put, List.setIfInBounds_toArray, List.set_cons_zero, List.set_cons_succ]
      refine Gr.walk_t _ (Or.inr ⟨by rfl, rfl⟩) ?_
      simp only [Act.put, List.setIfInBounds_toArray, List.set_cons_zero, List.set_cons_succ]
      refine Gr.walk_t _ (Or.inr ⟨by rfl, rfl⟩) ?_
      simp only [Act.put, List.setIfInBounds_toArray, List.set_cons_zero, List.set_cons_succ]
      refine Gr.walk_t _ (Or.inr ⟨by rfl, rfl⟩) ?_
      simp only [Act.put, List.setIfInBounds_toArray, List.set_cons_zero, List.set_cons_succ]
      refine Gr.walk_t ?_ (Or.inl ⟨by rfl, ?_⟩) ?_
      rotate_left
      · intro w' hw'
        clear hw'
        go_simp
        try with_reducible rfl
      simp only [Act.put, List.setIfInBounds_toArray, List.set_cons_zero, List.set_cons_succ]
      refine Gr.walk_nil ?_
      go_wp2
      exact HP.out
    have hd3 : decide (e < 16777216) = true := by simp; omega
    by_cases cl : (dl : Int) = s
    · have hcl : (((dl : Int)) == s) = true := by rw [beq_iff_eq]; exact cl
      have HP := Lib.hid (HYES.out w4 HX4.out (HH.out.2 ⟨⟨cr, by omega, ck1⟩, ⟨by omega, by omega⟩, cl⟩))
      clear cl ck0 ck1 ce0 ce1 cr
      iterate 21
        refine Gr.walk_t ?_ (Or.inl ⟨by rfl, ?_⟩) ?_
        rotate_left
        · intro w' hw'
          obtain ⟨t0, t1, t2, t3, t4, t5, t6, t7, t8, t9⟩ := HT4.out w' hw'
          clear hw'
          go_simp
          try with_reducible rfl
        simp only [Act.put, List.setIfInBounds_toArray, List.set_cons_zero, List.set_cons_succ]
      refine Gr.walk_nil ?_
      go_wp2
      exact HP.out
    · have hcl : (((dl : Int)) == s) = false := by rw [beq_eq_false_iff_ne]; exact cl
      have HP := Lib.hid (HNO.out w4 HX4.out fun h => cl (HH.out.1 h).2.2)
      clear cl ck0 ck1 ce0 ce1 cr
      iterate 21
        refine Gr.walk_t ?_ (Or.inl ⟨by rfl, ?_⟩) ?_
        rotate_left
        · intro w' hw'
          obtain ⟨t0, t1, t2, t3, t4, t5, t6, t7, t8, t9⟩ := HT4.out w' hw'
          clear hw'
          go_simp
          try with_reducible rfl
        simp only [Act.put, List.setIfInBounds_toArray, List.set_cons_zero, List.set_cons_succ]
      refine Gr.walk_nil ?_
      go_wp2
      exact HP.out
end Go.Proofs.Ytdbdnfjgmdkneaa
