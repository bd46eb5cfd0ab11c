/- In one text: RecRefRight, GrowB, RecRefBytes. -/
import Derived.Test.YtdbdnfjgmdkneaaMD1
import Derived.Test.YtdbdnfjgmdkneaaMD2
import Derived.Test.YtdbdnfjgmdkneaaMD4
import Derived.Test.YtdbdnfjgmdkneaaMD5
namespace Go.Proofs.Ytdbdnfjgmdkneaa
set_option maxRecDepth 20000
open Go.RowKit Go.Deep
set_option linter.unusedVariables false
theorem rn_yes (n : Int) (w : World) (h1 : 0 ≤ n) (h2 : n ≤ 2147483647) :
    Calls Try.prog 55 #[.int .i64 n] w fun e w' => e = .returned (.bool true) ∧ w = w' := by
  go_enter Try.func55, Try.ntmps55
  go_wp2
  go_ret
  exact ⟨rfl, rfl⟩
theorem rn_no (n : Int) (w : World) (h : ¬ (0 ≤ n ∧ n ≤ 2147483647)) :
    Calls Try.prog 55 #[.int .i64 n] w fun e w' => e = .returned (.bool false) ∧ w = w' := by
  by_cases h1 : n < 0
  · have h1' : decide ((n : Int) ≥ 0) = false := by simp; omega
    go_enter Try.func55, Try.ntmps55
    go_wp2
    go_ret
    exact ⟨rfl, rfl⟩
  · have h2 : decide (n ≤ 2147483647) = false := by simp; omega
    go_enter Try.func55, Try.ntmps55
    go_wp2
    go_ret
    exact ⟨rfl, rfl⟩
theorem rblocks_in (b s m : Int) (h : CM.Right b s m) : ∃ nk : Nat, nk ≤ 10000 ∧ (∀ w, Calls Try.prog 57 #[PV b s m] w fun e w' => e = .returned (.int .i64 (nk : Nat)) ∧ w.Extends w') ∧ nk = CM.bl b.toNat s.toNat m.toNat := by
  obtain ⟨h1, h2, h3, h4, h5, h6⟩ := h
  obtain ⟨b, rfl⟩ := Int.eq_ofNat_of_zero_le (show 0 ≤ b by omega)
  obtain ⟨s, rfl⟩ := Int.eq_ofNat_of_zero_le (show 0 ≤ s by omega)
  obtain ⟨m, rfl⟩ := Int.eq_ofNat_of_zero_le (show 0 ≤ m by omega)
  have h10 := CM.bl_le b s m
  have h11 := CM.sy_le b s (by omega)
  exact ⟨CM.bl b s m, by omega, fun w => rblocks_yes b s m w ⟨h1, h2, h3, h4, h5, h6⟩, by simp⟩
set_option maxHeartbeats 2000000 in
theorem rright14_any (r : Rc) (a : Option Addr) (c : Nat) (w : World) :
    Calls Try.prog 14 #[r.val (.slice a r.d.length c)] w (RightOut r w) := by
  obtain ⟨p, n, b, s, m, k, e, g, u, d⟩ := r
  have HBC := Lib.hid (rblocks_in b s m)
  have HSN : Hid (∀ w', ¬ CM.Right b s m → Calls Try.prog 56 #[PV b s m] w' fun e w2 => e = .returned (.bool false) ∧ w'.Extends w2) := fun w' h => rright_no b s m w' h
  have HSY : Hid (∀ w', CM.Right b s m → Calls Try.prog 56 #[PV b s m] w' fun e w2 => e = .returned (.bool true) ∧ w'.Extends w2) := fun w' h => rright_yes b s m w' h
  have HNO : Hid (∀ w', w.Extends w' → ¬ KM.Right ⟨p, n, b, s, m, k, e, g, u, d⟩ → RightOut ⟨p, n, b, s, m, k, e, g, u, d⟩ w (.returned (.bool false)) w') := fun w' hx h => ⟨false, rfl, by simp [h], hx⟩
  have HYES : Hid (∀ w', w.Extends w' → KM.Right ⟨p, n, b, s, m, k, e, g, u, d⟩ → RightOut ⟨p, n, b, s, m, k, e, g, u, d⟩ w (.returned (.bool true)) w') := fun w' hx h => ⟨true, rfl, by simp [h], hx⟩
  have HR : Hid (KM.Right ⟨p, n, b, s, m, k, e, g, u, d⟩ ↔ (0 ≤ p ∧ p ≤ 2147483647) ∧ (1 ≤ n ∧ n ≤ 2147483647) ∧ (0 ≤ u ∧ u ≤ 2147483647) ∧
    (g = true → ((b = 0 ∧ s = 0 ∧ m = 0) ∧ k = 0) ∧ e = 0 ∧ d = []) ∧
    (g = false → (CM.Right b s m ∧ 0 ≤ k ∧ k < CM.bl b.toNat s.toNat m.toNat) ∧ (0 ≤ e ∧ e ≤ 16777215) ∧ (d.length : Int) = s)) := Iff.rfl
  have HD0 : Hid (d = [] ↔ d.length = 0) := ⟨fun h => by rw [h]; rfl, List.eq_nil_of_length_eq_zero⟩
  generalize RightOut _ w = R at *
  generalize KM.Right _ = RI at *
  generalize d.length = dl at *
  obtain ⟨CR, hcr⟩ : ∃ CR, CR ↔ CM.Right b s m := ⟨_, Iff.rfl⟩
  rw [← hcr] at HR HSN HSY
  have HCR := Lib.hid hcr
  clear hcr
  show Calls Try.prog 14 #[.agg #[.int .i64 p, .int .i64 n, .int .i64 b, .int .i64 s, .int .i64 m, .int .i64 k, .int .i64 e, .bool g, .int .i64 u, .slice a dl c]] w _
  go_enter Try.func14, Try.ntmps14
  go_wp2_with fail
  generalize hw1 : World.alloc w _ = w1
  obtain ⟨hr1, hx1, hb1⟩ := RCell.new w w1 ⟨p, n, b, s, m, k, e, g, u, d⟩ (.slice a dl c) hw1
  obtain ⟨t0, t1, t2, t3, t4, t5, t6, t7, t8, t9⟩ := RCell.ten hr1
  simp only [Nat.zero_add] at t0 t1 t2 t3 t4 t5 t6 t7 t8 t9
  have HX1 := Lib.hid hx1
  clear hw1 hr1 hx1
  generalize w.heap.size = x at *
  by_cases cp : 0 ≤ p ∧ p ≤ 2147483647
  case neg =>
    refine (rn_no p w1 cp).mono ?_
    rintro e w2 ⟨rfl, rfl⟩
    have HP := Lib.hid (HNO.out w1 HX1.out fun h => cp (HR.out.1 h).1)
    clear cp
    go_wp2
    exact HP.out
  refine (rn_yes p w1 cp.1 cp.2).mono ?_
  rintro e w2 ⟨rfl, rfl⟩
  go_wp2_with fail
  by_cases cn0 : 0 ≤ n ∧ n ≤ 2147483647
  case neg =>
    refine (rn_no n w1 cn0).mono ?_
    rintro e w2 ⟨rfl, rfl⟩
    have HP := Lib.hid (HNO.out w1 HX1.out fun h => cn0 ⟨by have := (HR.out.1 h).2.1; omega, (HR.out.1 h).2.1.2⟩)
    clear cn0
    go_wp2
    exact HP.out
  refine (rn_yes n w1 cn0.1 cn0.2).mono ?_
  rintro e w2 ⟨rfl, rfl⟩
  by_cases cn1 : n < 1
  · have HP := Lib.hid (HNO.out w1 HX1.out fun h => by have := (HR.out.1 h).2.1; omega)
    go_wp2
    exact HP.out
  have cn : 1 ≤ n ∧ n ≤ 2147483647 := ⟨by omega, cn0.2⟩
  go_wp2_with fail
  by_cases cu : 0 ≤ u ∧ u ≤ 2147483647
  case neg =>
    refine (rn_no u w1 cu).mono ?_
    rintro e w2 ⟨rfl, rfl⟩
    have HP := Lib.hid (HNO.out w1 HX1.out fun h => cu (HR.out.1 h).2.2.1)
    clear cu
    go_wp2
    exact HP.out
  refine (rn_yes u w1 cu.1 cu.2).mono ?_
  rintro e w2 ⟨rfl, rfl⟩
  cases g with
  | true =>
    clear HBC HSN HSY
    have HH : Hid (RI ↔ b = 0 ∧ s = 0 ∧ m = 0 ∧ k = 0 ∧ e = 0 ∧ dl = 0) := by
      refine ⟨fun h => ?_, fun ⟨h1, h2, h3, h4, h5, h6⟩ => HR.out.2 ⟨cp, cn, cu, fun _ => ⟨⟨⟨h1, h2, h3⟩, h4⟩, h5, HD0.out.2 h6⟩, fun h => absurd h (by decide)⟩⟩
      obtain ⟨_, _, _, h4, _⟩ := HR.out.1 h
      obtain ⟨⟨⟨h1, h2, h3⟩, h4⟩, h5, h6⟩ := h4 rfl
      exact ⟨h1, h2, h3, h4, h5, HD0.out.1 h6⟩
    clear HR HD0 cp cn cu
    by_cases hd : dl = 0
    · subst hd
      go_wp2
      · exact HYES.out w1 HX1.out (HH.out.2 ⟨by assumption, by assumption, by assumption, by assumption, by assumption, trivial⟩)
      all_goals first
        | (refine HNO.out w1 HX1.out fun h => ?_
           obtain ⟨h1, h2, h3, h4, h5, _⟩ := HH.out.1 h
           contradiction)
    · have hd' : ((dl : Int) == 0) = false := by rw [beq_eq_false_iff_ne]; omega
      have HN := Lib.hid (HNO.out w1 HX1.out fun h => hd (HH.out.1 h).2.2.2.2.2)
      clear hd
      go_wp2
      all_goals exact HN.out
  | false =>
    have HH : Hid (RI ↔ (CR ∧ 0 ≤ k ∧ k < CM.bl b.toNat s.toNat m.toNat) ∧ (0 ≤ e ∧ e ≤ 16777215) ∧ (dl : Int) = s) := by
      refine ⟨fun h => ?_, fun h => HR.out.2 ⟨cp, cn, cu, fun h => absurd h (by decide), fun _ => h⟩⟩
      obtain ⟨_, _, _, _, h5⟩ := HR.out.1 h
      exact h5 rfl
    have HT : Hid (∀ w', w1.Extends w' → w'.cell? ⟨x, 0, none⟩ = some (.int .i64 p) ∧ w'.cell? ⟨x, 1, none⟩ = some (.int .i64 n) ∧ w'.cell? ⟨x, 2, none⟩ = some (.int .i64 b) ∧ w'.cell? ⟨x, 3, none⟩ = some (.int .i64 s) ∧ w'.cell? ⟨x, 4, none⟩ = some (.int .i64 m) ∧
        w'.cell? ⟨x, 5, none⟩ = some (.int .i64 k) ∧ w'.cell? ⟨x, 6, none⟩ = some (.int .i64 e) ∧ w'.cell? ⟨x, 7, none⟩ = some (.bool false) ∧ w'.cell? ⟨x, 8, none⟩ = some (.int .i64 u) ∧ w'.cell? ⟨x, 9, none⟩ = some (.slice a dl c)) := fun w' hw' =>
      ⟨hw'.cell_of t0, hw'.cell_of t1, hw'.cell_of t2, hw'.cell_of t3, hw'.cell_of t4, hw'.cell_of t5, hw'.cell_of t6, hw'.cell_of t7, hw'.cell_of t8, hw'.cell_of t9⟩
    clear HR HD0 cp cu
    go_wp2_with fail
    clear cn cn0 cn1 t0 t1 t2 t3 t4 t5 t6 t7 t8 t9
    have HXd := Lib.hid (Gr.ext_drew HX1.out)
    refine Gr.region 35 [(false,0),(false,1),(true,2),(false,3),(false,4),(false,5),(false,6),(false,7),(false,8),(false,9),(false,10),(false,11),(false,12),(true,13),(false,14),(false,15),(false,16),(false,17),(false,18),(false,19),(false,20),(false,21),(false,22),(false,23),(false,24),(false,25),(false,26),(false,27),(false,28),(false,29),(false,30),(false,31),(false,32),(false,33),(false,34)] (by kernel_rfl) (by kernel_rfl) (fun d _ _ _ _ h => by cases d <;> exact h) ?_
    simp only [Gr.pick, List.getElem?_cons_zero, List.getElem?_cons_succ, List.drop_succ_cons, List.drop_zero]
    have HTd : Hid _ := Lib.hid fun w' (hw' : w1.drew.Extends w') => HT.out w' (Gr.of_drew hw')
    generalize w1.drew = w2 at *
    clear HT hb1
    iterate 2
      refine Gr.walk_t ?_ (Or.inl ⟨by rfl, ?_⟩) ?_
      rotate_left
      · intro w' hw'
        obtain ⟨t0, t1, t2, t3, t4, t5, t6, t7, t8, t9⟩ := HTd.out w' hw'
        clear hw'
        go_simp
        try with_reducible rfl
      simp only [Act.put, List.setIfInBounds_toArray, List.set_cons_zero, List.set_cons_succ]
    by_cases cr : CR
    case neg =>
      refine Gr.walk_c (fun K hK => ?_)
      go_simp
      refine (HSN.out w2 cr).mono ?_
      rintro e w3 ⟨rfl, hx3⟩
      have HP := Lib.hid (HNO.out w3 (Gr.ext_trans HXd.out hx3) fun h => cr (HH.out.1 h).1.1)
      try go_simp
      refine hK.out _ _ (hx3) ?_
      clear hK K
      clear hx3 HTd HXd cr
      refine Gr.walk_t ?_ (Or.inl ⟨by rfl, ?_⟩) ?_
      rotate_left
      · intro w' hw'
        clear hw'
        go_simp
        try with_reducible rfl
      simp only [Act.put, List.setIfInBounds_toArray, List.set_cons_zero, List.set_cons_succ]
      refine Gr.walk_t _ (Or.inr ⟨by rfl, rfl⟩) ?_
      simp only [Act.put, List.setIfInBounds_toArray, List.set_cons_zero, List.set_cons_succ]
      refine Gr.walk_t _ (Or.inr ⟨by rfl, rfl⟩) ?_
      simp only [Act.put, List.setIfInBounds_toArray, List.set_cons_zero, List.set_cons_succ]
      refine Gr.walk_t _ (Or.inr ⟨by rfl, rfl⟩) ?_
      simp only [Act.put, List.setIfInBounds_toArray, List.set_cons_zero, List.set_cons_succ]
      iterate 2
        refine Gr.walk_t ?_ (Or.inl ⟨by rfl, ?_⟩) ?_
        rotate_left
        · intro w' hw'
          clear hw'
          go_simp
          try with_reducible rfl
        simp only [Act.put, List.setIfInBounds_toArray, List.set_cons_zero, List.set_cons_succ]
      refine Gr.walk_t _ (Or.inr ⟨by rfl, rfl⟩) ?_
      simp only [Act.put, List.setIfInBounds_toArray, List.set_cons_zero, List.set_cons_succ]
      refine Gr.walk_t _ (Or.inr ⟨by rfl, rfl⟩) ?_
      simp only [Act.put, List.setIfInBounds_toArray, List.set_cons_zero, List.set_cons_succ]
      refine Gr.walk_t _ (Or.inr ⟨by rfl, rfl⟩) ?_
      simp only [Act.put, List.setIfInBounds_toArray, List.set_cons_zero, List.set_cons_succ]
      refine Gr.walk_t _ (Or.inr ⟨by rfl, rfl⟩) ?_
      simp only [Act.put, List.setIfInBounds_toArray, List.set_cons_zero, List.set_cons_succ]
      refine Gr.walk_c (fun K hK => ?_)
      rw [if_neg (by intro h; cases h)]
      refine hK.out _ _ (Gr.ext_refl _) ?_
      clear hK K
      simp only [Act.put, List.setIfInBounds_toArray, List.set_cons_zero, List.set_cons_succ]
      refine Gr.walk_t _ (Or.inr ⟨by rfl, rfl⟩) ?_
      simp only [Act.put, List.setIfInBounds_toArray, List.set_cons_zero, List.set_cons_succ]
      iterate 2
        refine Gr.walk_t ?_ (Or.inl ⟨by rfl, ?_⟩) ?_
        rotate_left
        · intro w' hw'
          clear hw'
          go_simp
          try with_reducible rfl
        simp only [Act.put, List.setIfInBounds_toArray, List.set_cons_zero, List.set_cons_succ]
      refine Gr.walk_t _ (Or.inr ⟨by rfl, rfl⟩) ?_
      simp only [Act.put, List.setIfInBounds_toArray, List.set_cons_zero, List.set_cons_succ]
      refine Gr.walk_t _ (Or.inr ⟨by rfl, rfl⟩) ?_
      simp only [Act.put, List.setIfInBounds_toArray, List.set_cons_zero, List.set_cons_succ]
      refine Gr.walk_t _ (Or.inr ⟨by rfl, rfl⟩) ?_
      simp only [Act.put, List.setIfInBounds_toArray, List.set_cons_zero, List.set_cons_succ]
      iterate 2
        refine Gr.walk_t ?_ (Or.inl ⟨by rfl, ?_⟩) ?_
        rotate_left
        · intro w' hw'
          clear hw'
          go_simp
          try with_reducible rfl
        simp only [Act.put, List.setIfInBounds_toArray, List.set_cons_zero, List.set_cons_succ]
      refine Gr.walk_t _ (Or.inr ⟨by rfl, rfl⟩) ?_
      simp only [Act.put, List.setIfInBounds_toArray, List.set_cons_zero, List.set_cons_succ]
      refine Gr.walk_t _ (Or.inr ⟨by rfl, rfl⟩) ?_
      simp only [Act.put, List.setIfInBounds_toArray, List.set_cons_zero, List.set_cons_succ]
      refine Gr.walk_t _ (Or.inr ⟨by rfl, rfl⟩) ?_
      simp only [Act.put, List.setIfInBounds_toArray, List.set_cons_zero, List.set_cons_succ]
      iterate 2
        refine Gr.walk_t ?_ (Or.inl ⟨by rfl, ?_⟩) ?_
        rotate_left
        · intro w' hw'
          clear hw'
          go_simp
          try with_reducible rfl
        simp only [Act.put, List.setIfInBounds_toArray, List.set_cons_zero, List.set_cons_succ]
      refine Gr.walk_t _ (Or.inr ⟨by rfl, rfl⟩) ?_
      simp only [Act.put, List.setIfInBounds_toArray, List.set_cons_zero, List.set_cons_succ]
      refine Gr.walk_t _ (Or.inr ⟨by rfl, rfl⟩) ?_
      simp only [Act.put, List.setIfInBounds_toArray, List.set_cons_zero, List.set_cons_succ]
      refine Gr.walk_t _ (Or.inr ⟨by rfl, rfl⟩) ?_
      simp only [Act.put, List.setIfInBounds_toArray, List.set_cons_zero, List.set_cons_succ]
      refine Gr.walk_t _ (Or.inr ⟨by rfl, rfl⟩) ?_
      simp only [Act.put, List.setIfInBounds_toArray, List.set_cons_zero, List.set_cons_succ]
      refine Gr.walk_t _ (Or.inr ⟨by rfl, rfl⟩) ?_
      simp only [Act.put, List.setIfInBounds_toArray, List.set_cons_zero, List.set_cons_succ]
      refine Gr.walk_t _ (Or.inr ⟨by rfl, rfl⟩) ?_
      simp only [Act.put, List.setIfInBounds_toArray, List.set_cons_zero, List.set_cons_succ]
      refine Gr.walk_t _ (Or.inr ⟨by rfl, rfl⟩) ?_
      simp only [Act.put, List.setIfInBounds_toArray, List.set_cons_zero, List.set_cons_succ]
      refine Gr.walk_t ?_ (Or.inl ⟨by rfl, ?_⟩) ?_
      rotate_left
      · intro w' hw'
        clear hw'
        go_simp
        try with_reducible rfl
      simp only [Act.put, List.setIfInBounds_toArray, List.set_cons_zero, List.set_cons_succ]
      refine Gr.walk_nil ?_
      go_wp2
      exact HP.out
    obtain ⟨nk, hnk, hbc, hbk⟩ := HBC.out (HCR.out.1 cr)
    have HBC2 := Lib.hid hbc
    rw [← hbk] at HH
    clear hbc hbk HBC
    refine Gr.walk_c (fun K hK => ?_)
    go_simp
    refine (HSY.out w2 cr).mono ?_
    rintro e w3 ⟨rfl, hx3⟩
    have HT3 := Lib.hid fun w' (hw' : w3.Extends w') => HTd.out w' (Gr.ext_trans hx3 hw')
    have HX3 := Lib.hid (Gr.ext_trans HXd.out hx3)
    try go_simp
    refine hK.out _ _ (hx3) ?_
    clear hK K
    clear hx3 HTd HXd
    by_cases ck0 : k < 0
    case pos =>
      have HP := Lib.hid (HNO.out w3 HX3.out fun h => by have := (HH.out.1 h).1.2.1; omega)
      have hd : decide (k ≥ 0) = false := by simp; omega
      clear ck0
      iterate 6
        refine Gr.walk_t ?_ (Or.inl ⟨by rfl, ?_⟩) ?_
        rotate_left
        · intro w' hw'
          obtain ⟨t0, t1, t2, t3, t4, t5, t6, t7, t8, t9⟩ := HT3.out w' hw'
          clear hw'
          go_simp
          try with_reducible rfl
        simp only [Act.put, List.setIfInBounds_toArray, List.set_cons_zero, List.set_cons_succ]
      refine Gr.walk_t _ (Or.inr ⟨by rfl, rfl⟩) ?_
      simp only [Act.put, List.setIfInBounds_toArray, List.set_cons_zero, List.set_cons_succ]
      refine Gr.walk_t _ (Or.inr ⟨by rfl, rfl⟩) ?_
      simp only [Act.put, List.setIfInBounds_toArray, List.set_cons_zero, List.set_cons_succ]
      refine Gr.walk_t _ (Or.inr ⟨by rfl, rfl⟩) ?_
      simp only [Act.put, List.setIfInBounds_toArray, List.set_cons_zero, List.set_cons_succ]
      refine Gr.walk_t _ (Or.inr ⟨by rfl, rfl⟩) ?_
      simp only [Act.put, List.setIfInBounds_toArray, List.set_cons_zero, List.set_cons_succ]
      refine Gr.walk_c (fun K hK => ?_)
      rw [if_neg (by intro h; cases h)]
      refine hK.out _ _ (Gr.ext_refl _) ?_
      clear hK K
      simp only [Act.put, List.setIfInBounds_toArray, List.set_cons_zero, List.set_cons_succ]
      refine Gr.walk_t _ (Or.inr ⟨by rfl, rfl⟩) ?_
      simp only [Act.put, List.setIfInBounds_toArray, List.set_cons_zero, List.set_cons_succ]
      iterate 2
        refine Gr.walk_t ?_ (Or.inl ⟨by rfl, ?_⟩) ?_
        rotate_left
        · intro w' hw'
          clear hw'
          go_simp
          try with_reducible rfl
        simp only [Act.put, List.setIfInBounds_toArray, List.set_cons_zero, List.set_cons_succ]
      refine Gr.walk_t _ (Or.inr ⟨by rfl, rfl⟩) ?_
      simp only [Act.put, List.setIfInBounds_toArray, List.set_cons_zero, List.set_cons_succ]
      refine Gr.walk_t _ (Or.inr ⟨by rfl, rfl⟩) ?_
      simp only [Act.put, List.setIfInBounds_toArray, List.set_cons_zero, List.set_cons_succ]
      refine Gr.walk_t _ (Or.inr ⟨by rfl, rfl⟩) ?_
      simp only [Act.put, List.setIfInBounds_toArray, List.set_cons_zero, List.set_cons_succ]
      iterate 2
        refine Gr.walk_t ?_ (Or.inl ⟨by rfl, ?_⟩) ?_
        rotate_left
        · intro w' hw'
          clear hw'
          go_simp
          try with_reducible rfl
        simp only [Act.put, List.setIfInBounds_toArray, List.set_cons_zero, List.set_cons_succ]
      refine Gr.walk_t _ (Or.inr ⟨by rfl, rfl⟩) ?_
      simp only [Act.put, List.setIfInBounds_toArray, List.set_cons_zero, List.set_cons_succ]
      refine Gr.walk_t _ (Or.inr ⟨by rfl, rfl⟩) ?_
      simp only [Act.put, List.setIfInBounds_toArray, List.set_cons_zero, List.set_cons_succ]
      refine Gr.walk_t _ (Or.inr ⟨by rfl, rfl⟩) ?_
      simp only [Act.put, List.setIfInBounds_toArray, List.set_cons_zero, List.set_cons_succ]
      iterate 2
        refine Gr.walk_t ?_ (Or.inl ⟨by rfl, ?_⟩) ?_
        rotate_left
        · intro w' hw'
          clear hw'
          go_simp
          try with_reducible rfl
        simp only [Act.put, List.setIfInBounds_toArray, List.set_cons_zero, List.set_cons_succ]
      refine Gr.walk_t _ (Or.inr ⟨by rfl, rfl⟩) ?_
      simp only [Act.put, List.setIfInBounds_toArray, List.set_cons_zero, List.set_cons_succ]
      refine Gr.walk_t _ (Or.inr ⟨by rfl, rfl⟩) ?_
      simp only [Act.put, List.setIfInBounds_toArray, List.set_cons_zero, List.set_cons_succ]
      refine Gr.walk_t _ (Or.inr ⟨by rfl, rfl⟩) ?_
      simp only [Act.put, List.setIfInBounds_toArray, List.set_cons_zero, List.set_cons_succ]
      refine Gr.walk_t _ (Or.inr ⟨by rfl, rfl⟩) ?_
      simp only [Act.put, List.setIfInBounds_toArray, List.set_cons_zero, List.set_cons_succ]
      refine Gr.walk_t _ (Or.inr ⟨by rfl, rfl⟩) ?_
      simp only [Act.put, List.setIfInBounds_toArray, List.set_cons_zero, List.set_cons_succ]
      refine Gr.walk_t _ (Or.inr ⟨by rfl, rfl⟩) ?_
      simp only [Act.put, List.setIfInBounds_toArray, List.set_cons_zero, List.set_cons_succ]
      refine Gr.walk_t _ (Or.inr ⟨by rfl, rfl⟩) ?_
      simp only [Act.put, List.setIfInBounds_toArray, List.set_cons_zero, List.set_cons_succ]
      refine Gr.walk_t ?_ (Or.inl ⟨by rfl, ?_⟩) ?_
      rotate_left
      · intro w' hw'
        clear hw'
        go_simp
        try with_reducible rfl
      simp only [Act.put, List.setIfInBounds_toArray, List.set_cons_zero, List.set_cons_succ]
      refine Gr.walk_nil ?_
      go_wp2
      exact HP.out
    have hd0 : decide (k ≥ 0) = true := by simp; omega
    iterate 10
      refine Gr.walk_t ?_ (Or.inl ⟨by rfl, ?_⟩) ?_
      rotate_left
      · intro w' hw'
        obtain ⟨t0, t1, t2, t3, t4, t5, t6, t7, t8, t9⟩ := HT3.out w' hw'
        clear hw'
        go_simp
        try with_reducible rfl
      simp only [Act.put, List.setIfInBounds_toArray, List.set_cons_zero, List.set_cons_succ]
    refine Gr.walk_c (fun K hK => ?_)
    go_simp
    refine (HBC2.out w3).mono ?_
    rintro e w4 ⟨rfl, hx4⟩
    have HT4 := Lib.hid fun w' (hw' : w4.Extends w') => HT3.out w' (Gr.ext_trans hx4 hw')
    have HX4 := Lib.hid (Gr.ext_trans HX3.out hx4)
    try go_simp
    refine hK.out _ _ (hx4) ?_
    clear hK K
    clear hx4 HT3 HX3 hd0
    by_cases ck1 : k < nk
    case neg =>
      have HP := Lib.hid (HNO.out w4 HX4.out fun h => ck1 (HH.out.1 h).1.2.2)
      have hd : decide (k < (nk : Int)) = false := by simp; omega
      clear ck0 ck1
      iterate 3
        refine Gr.walk_t ?_ (Or.inl ⟨by rfl, ?_⟩) ?_
        rotate_left
        · intro w' hw'
          obtain ⟨t0, t1, t2, t3, t4, t5, t6, t7, t8, t9⟩ := HT4.out w' hw'
          clear hw'
          go_simp
          try with_reducible rfl
        simp only [Act.put, List.setIfInBounds_toArray, List.set_cons_zero, List.set_cons_succ]
      refine Gr.walk_t _ (Or.inr ⟨by rfl, rfl⟩) ?_
      simp only [Act.put, List.setIfInBounds_toArray, List.set_cons_zero, List.set_cons_succ]
      refine Gr.walk_t _ (Or.inr ⟨by rfl, rfl⟩) ?_
      simp only [Act.put, List.setIfInBounds_toArray, List.set_cons_zero, List.set_cons_succ]
      refine Gr.walk_t _ (Or.inr ⟨by rfl, rfl⟩) ?_
      simp only [Act.put, List.setIfInBounds_toArray, List.set_cons_zero, List.set_cons_succ]
      iterate 2
        refine Gr.walk_t ?_ (Or.inl ⟨by rfl, ?_⟩) ?_
        rotate_left
        · intro w' hw'
          clear hw'
          go_simp
          try with_reducible rfl
        simp only [Act.put, List.setIfInBounds_toArray, List.set_cons_zero, List.set_cons_succ]
      refine Gr.walk_t _ (Or.inr ⟨by rfl, rfl⟩) ?_
      simp only [Act.put, List.setIfInBounds_toArray, List.set_cons_zero, List.set_cons_succ]
      refine Gr.walk_t _ (Or.inr ⟨by rfl, rfl⟩) ?_
      simp only [Act.put, List.setIfInBounds_toArray, List.set_cons_zero, List.set_cons_succ]
      refine Gr.walk_t _ (Or.inr ⟨by rfl, rfl⟩) ?_
      simp only [Act.put, List.setIfInBounds_toArray, List.set_cons_zero, List.set_cons_succ]
      iterate 2
        refine Gr.walk_t ?_ (Or.inl ⟨by rfl, ?_⟩) ?_
        rotate_left
        · intro w' hw'
          clear hw'
          go_simp
          try with_reducible rfl
        simp only [Act.put, List.setIfInBounds_toArray, List.set_cons_zero, List.set_cons_succ]
      refine Gr.walk_t _ (Or.inr ⟨by rfl, rfl⟩) ?_
      simp only [Act.put, List.setIfInBounds_toArray, List.set_cons_zero, List.set_cons_succ]
      refine Gr.walk_t _ (Or.inr ⟨by rfl, rfl⟩) ?_
      simp only [Act.put, List.setIfInBounds_toArray, List.set_cons_zero, List.set_cons_succ]
      refine Gr.walk_t _ (Or.inr ⟨by rfl, rfl⟩) ?_
      simp only [Act.put, List.setIfInBounds_toArray, List.set_cons_zero, List.set_cons_succ]
      refine Gr.walk_t _ (Or.inr ⟨by rfl, rfl⟩) ?_
      simp only [Act.put, List.setIfInBounds_toArray, List.set_cons_zero, List.set_cons_succ]
      refine Gr.walk_t _ (Or.inr ⟨by rfl, rfl⟩) ?_
      simp only [Act.put, List.setIfInBounds_toArray, List.set_cons_zero, List.set_cons_succ]
      refine Gr.walk_t _ (Or.inr ⟨by rfl, rfl⟩) ?_
      simp only [Act.put, List.setIfInBounds_toArray, List.set_cons_zero, List.set_cons_succ]
      refine Gr.walk_t _ (Or.inr ⟨by rfl, rfl⟩) ?_
      simp only [Act.put, List.setIfInBounds_toArray, List.set_cons_zero, List.set_cons_succ]
      refine Gr.walk_t ?_ (Or.inl ⟨by rfl, ?_⟩) ?_
      rotate_left
      · intro w' hw'
        clear hw'
        go_simp
        try with_reducible rfl
      simp only [Act.put, List.setIfInBounds_toArray, List.set_cons_zero, List.set_cons_succ]
      refine Gr.walk_nil ?_
      go_wp2
      exact HP.out
    have hd1 : decide (k < (nk : Int)) = true := by simp; omega
    by_cases ce0 : e < 0
    case pos =>
      have HP := Lib.hid (HNO.out w4 HX4.out fun h => by have := (HH.out.1 h).2.1.1; omega)
      have hd : decide (e ≥ 0) = false := by simp; omega
      clear ck0 ck1 ce0
      iterate 8
        refine Gr.walk_t ?_ (Or.inl ⟨by rfl, ?_⟩) ?_
        rotate_left
        · intro w' hw'
          obtain ⟨t0, t1, t2, t3, t4, t5, t6, t7, t8, t9⟩ := HT4.out w' hw'
          clear hw'
          go_simp
          try with_reducible rfl
        simp only [Act.put, List.setIfInBounds_toArray, List.set_cons_zero, List.set_cons_succ]
      refine Gr.walk_t _ (Or.inr ⟨by rfl, rfl⟩) ?_
      simp only [Act.put, List.setIfInBounds_toArray, List.set_cons_zero, List.set_cons_succ]
      refine Gr.walk_t _ (Or.inr ⟨by rfl, rfl⟩) ?_
      simp only [Act.put, List.setIfInBounds_toArray, List.set_cons_zero, List.set_cons_succ]
      refine Gr.walk_t _ (Or.inr ⟨by rfl, rfl⟩) ?_
      simp only [Act.put, List.setIfInBounds_toArray, List.set_cons_zero, List.set_cons_succ]
      iterate 2
        refine Gr.walk_t ?_ (Or.inl ⟨by rfl, ?_⟩) ?_
        rotate_left
        · intro w' hw'
          clear hw'
          go_simp
          try with_reducible rfl
        simp only [Act.put, List.setIfInBounds_toArray, List.set_cons_zero, List.set_cons_succ]
      refine Gr.walk_t _ (Or.inr ⟨by rfl, rfl⟩) ?_
      simp only [Act.put, List.setIfInBounds_toArray, List.set_cons_zero, List.set_cons_succ]
      refine Gr.walk_t _ (Or.inr ⟨by rfl, rfl⟩) ?_
      simp only [Act.put, List.setIfInBounds_toArray, List.set_cons_zero, List.set_cons_succ]
      refine Gr.walk_t _ (Or.inr ⟨by rfl, rfl⟩) ?_
      simp only [Act.put, List.setIfInBounds_toArray, List.set_cons_zero, List.set_cons_succ]
      refine Gr.walk_t _ (Or.inr ⟨by rfl, rfl⟩) ?_
      simp only [Act.put, List.setIfInBounds_toArray, List.set_cons_zero, List.set_cons_succ]
      refine Gr.walk_t _ (Or.inr ⟨by rfl, rfl⟩) ?_
      simp only [Act.put, List.setIfInBounds_toArray, List.set_cons_zero, List.set_cons_succ]
      refine Gr.walk_t _ (Or.inr ⟨by rfl, rfl⟩) ?_
      simp only [Act.put, List.setIfInBounds_toArray, List.set_cons_zero, List.set_cons_succ]
      refine Gr.walk_t _ (Or.inr ⟨by rfl, rfl⟩) ?_
      simp only [Act.put, List.setIfInBounds_toArray, List.set_cons_zero, List.set_cons_succ]
      refine Gr.walk_t ?_ (Or.inl ⟨by rfl, ?_⟩) ?_
      rotate_left
      · intro w' hw'
        clear hw'
        go_simp
        try with_reducible rfl
      simp only [Act.put, List.setIfInBounds_toArray, List.set_cons_zero, List.set_cons_succ]
      refine Gr.walk_nil ?_
      go_wp2
      exact HP.out
    have hd2 : decide (e ≥ 0) = true := by simp; omega
    by_cases ce1 : e < 16777216
    case neg =>
      have HP := Lib.hid (HNO.out w4 HX4.out fun h => by have := (HH.out.1 h).2.1.2; omega)
      have hd : decide (e < 16777216) = false := by simp; omega
      clear ck0 ck1 ce0 ce1
      iterate 13
        refine Gr.walk_t ?_ (Or.inl ⟨by rfl, ?_⟩) ?_
        rotate_left
        · intro w' hw'
          obtain ⟨t0, t1, t2, t3, t4, t5, t6, t7, t8, t9⟩ := HT4.out w' hw'
          clear hw'
          go_simp
          try with_reducible rfl
        simp only [Act.put, List.setIfInBounds_toArray, List.set_cons_zero, List.set_cons_succ]
      refine Gr.walk_t _ (Or.inr ⟨by rfl, rfl⟩) ?_
      simp only [Act.put, List.setIfInBounds_toArray, List.set_cons_zero, List.set_cons_succ]
      refine Gr.walk_t _ (Or.inr ⟨by rfl, rfl⟩) ?_
      simp only [Act.put, List.setIfInBounds_toArray, List.set_cons_zero, List.set_cons_succ]
      refine Gr.walk_t _ (Or.inr ⟨by rfl, rfl⟩) ?_
      simp only [Act.put, List.setIfInBounds_toArray, List.set_cons_zero, List.set_cons_succ]
      refine Gr.walk_t _ (Or.inr ⟨by rfl, rfl⟩) ?_
      simp only [Act.put, List.setIfInBounds_toArray, List.set_cons_zero, List.set_cons_succ]
      refine Gr.walk_t _ (Or.inr ⟨by rfl, rfl⟩) ?_
      simp only [Act.put, List.setIfInBounds_toArray, List.set_cons_zero, List.set_cons_succ]
      refine Gr.walk_t _ (Or.inr ⟨by rfl, rfl⟩) ?_
      simp only [Act.put, List.setIfInBounds_toArray, List.set_cons_zero, List.set_cons_succ]
      refine Gr.walk_t _ (Or.inr ⟨by rfl, rfl⟩) ?_
      simp only [Act.put, List.setIfInBounds_toArray, List.set_cons_zero, List.set_cons_succ]
      refine Gr.walk_t ?_ (Or.inl ⟨by rfl, ?_⟩) ?_
      rotate_left
      · intro w' hw'
        clear hw'
        go_simp
        try with_reducible rfl
      simp only [Act.put, List.setIfInBounds_toArray, List.set_cons_zero, List.set_cons_succ]
      refine Gr.walk_nil ?_
      go_wp2
      exact HP.out
    have hd3 : decide (e < 16777216) = true := by simp; omega
    by_cases cl : (dl : Int) = s
    · have hcl : (((dl : Int)) == s) = true := by rw [beq_iff_eq]; exact cl
      have HP := Lib.hid (HYES.out w4 HX4.out (HH.out.2 ⟨⟨cr, by omega, ck1⟩, ⟨by omega, by omega⟩, cl⟩))
      clear cl ck0 ck1 ce0 ce1 cr
      iterate 21
        refine Gr.walk_t ?_ (Or.inl ⟨by rfl, ?_⟩) ?_
        rotate_left
        · intro w' hw'
          obtain ⟨t0, t1, t2, t3, t4, t5, t6, t7, t8, t9⟩ := HT4.out w' hw'
          clear hw'
          go_simp
          try with_reducible rfl
        simp only [Act.put, List.setIfInBounds_toArray, List.set_cons_zero, List.set_cons_succ]
      refine Gr.walk_nil ?_
      go_wp2
      exact HP.out
    · have hcl : (((dl : Int)) == s) = false := by rw [beq_eq_false_iff_ne]; exact cl
      have HP := Lib.hid (HNO.out w4 HX4.out fun h => cl (HH.out.1 h).2.2)
      clear cl ck0 ck1 ce0 ce1 cr
      iterate 21
        refine Gr.walk_t ?_ (Or.inl ⟨by rfl, ?_⟩) ?_
        rotate_left
        · intro w' hw'
          obtain ⟨t0, t1, t2, t3, t4, t5, t6, t7, t8, t9⟩ := HT4.out w' hw'
          clear hw'
          go_simp
          try with_reducible rfl
        simp only [Act.put, List.setIfInBounds_toArray, List.set_cons_zero, List.set_cons_succ]
      refine Gr.walk_nil ?_
      go_wp2
      exact HP.out
end Go.Proofs.Ytdbdnfjgmdkneaa
namespace Go.Proofs.Ytdbdnfjgmdkneaa
set_option maxRecDepth 20000
open Go.RowKit
namespace GrB
open Gr (AnyE check growB pick)
section
variable {P : Program} {ops : Array Oper} {Q : Exit → Act → World → Prop} {md : Region.Mode} {S : World → Prop}
def walk (B : Nat) (P : Program) (ops : Array Oper) (Q : Exit → Act → World → Prop) (tail : List Oper) : List (Bool × Oper) → Act → World → Prop
  | [], a, w => wpList P ops Q tail a w
  | (true, o) :: rest, a, w => if Region.wanted o (yielded ops a.tmps) = true then o.wp P a w (fun a' w' => Below B w w' ∧ walk B P ops Q tail rest a' w') Q else walk B P ops Q tail rest (a.put o.dst undef) w
  | (false, o) :: rest, a, w => ∃ v, YieldsIf P ops (Below B w) o v a ∧ walk B P ops Q tail rest (a.put o.dst v) w
theorem walk_nil {B : Nat} {tail : List Oper} {a : Act} {w : World} (h : wpList P ops Q tail a w) : walk B P ops Q tail [] a w := h
/-- An operation that is taken. -/
theorem walk_t {B : Nat} {tail : List Oper} {rest : List (Bool × Oper)} {o : Oper} {a : Act} {w : World} (v : Value) (hy : YieldsIf P ops (Below B w) o v a) (h : walk B P ops Q tail rest (a.put o.dst v) w) :
    walk B P ops Q tail ((false, o) :: rest) a w := ⟨v, hy, h⟩
/-- An operation that is carried out. -/
theorem walk_c {B : Nat} {tail : List Oper} {rest : List (Bool × Oper)} {o : Oper} {a : Act} {w : World}
    (h : ∀ K : Act → World → Prop, Shut (∀ a' w', Below B w w' → walk B P ops Q tail rest a' w' → K a' w') → if Region.wanted o (yielded ops a.tmps) = true then o.wp P a w K Q else K (a.put o.dst undef) w) :
    walk B P ops Q tail ((true, o) :: rest) a w := by
  have h0 := h (fun a' w' => Below B w w' ∧ walk B P ops Q tail rest a' w') (fun _ _ h1 h2 => ⟨h1, h2⟩)
  unfold walk
  split
  · rename_i hw; rw [if_pos hw] at h0; exact h0
  · rename_i hw; rw [if_neg hw] at h0; exact h0.2

theorem walk_sound (B : Nat) {l : List Oper} {n : Nat} (hsel : Region.noSelect l.toArray = true) (hs : Region.sinkB md l.toArray n = true) (hc : Region.chainB md l.toArray n = true) (hn : n < l.toArray.size)
    (hQ : ∀ d v c a w, Q (.panic c) (Act.put a d v) w → Q (.panic c) a w) :
    ∀ (ord : List (Bool × Nat)) (listed : Array Bool) (a : Act) (w : World), HeadInv md l.toArray n listed → check md l.toArray n (l.toArray.size - n) ord listed = true →
      walk B P l.toArray Q (l.drop n) (pick l ord) a w →
      AnyE P md l.toArray Q n (fun listed' a' w' => Region.seqB md l.toArray (l.toArray.size - n) n listed' = true ∧ wpList P l.toArray Q (l.drop n) a' w') (Below B w) ord.length listed a w
  | [], listed, a, w, _, hB, h => ⟨hB, h⟩
  | (c, i) :: rest, listed, a, w, inv, hB, h => by
    simp only [check, Bool.and_eq_true, decide_eq_true_eq] at hB
    obtain ⟨⟨hin, hr⟩, hB'⟩ := hB
    have hil : i < l.length := by have : l.toArray.size = l.length := by simp
                                  omega
    have ho : l[i]? = some l[i] := List.getElem?_eq_getElem hil
    have hoa : l.toArray[i]? = some l[i] := by simp
    simp only [pick, ho] at h
    cases c with
    | true =>
      simp only [decide_eq_true_eq] at hr
      refine ⟨(by rw [hr]; simp), fun j hj => ?_⟩
      rw [hr] at hj
      obtain rfl : j = i := by simpa using hj
      refine ⟨hin, ?_⟩
      have hrm : j ∈ Region.ready md l.toArray listed := by rw [hr]; simp
      unfold walk at h
      unfold wpOp
      simp only [hoa]
      split
      · rename_i hw
        rw [if_pos hw] at h
        exact .inl (Oper.wp_mono (fun a' w' hk => ⟨hk.1, AnyE.weaken (fun u hu => Below.trans hk.1 hu) _ _ _ _ (walk_sound B hsel hs hc hn hQ rest _ a' w' (inv.set hrm hin) hB' hk.2)⟩) h)
      · rename_i hw
        rw [if_neg hw] at h
        exact ⟨Below.refl B w, walk_sound B hsel hs hc hn hQ rest _ _ w (inv.set hrm hin) hB' h⟩
    | false =>
      simp only [Bool.and_eq_true] at hr
      unfold walk at h
      obtain ⟨v, hy, hK⟩ := h
      have hrm : i ∈ Region.ready md l.toArray listed := by simpa using hr.1
      exact AnyE.first hoa (Region.noSelect_spec hsel) hs hc hn hin (fun c a w => hQ _ v c a w) (fun listed' a' w' hL => seqB_ready hL.1) rest.length listed a w inv (Region.free_spec hoa hr.2) hrm hy (Below.refl B w)
        (walk_sound B hsel hs hc hn hQ rest _ _ w (inv.set hrm hin) hB' hK)

theorem region (B : Nat) {id : Nat} {a : Act} {w : World} {l : List Oper} (n : Nat) (ord : List (Bool × Nat)) (hm : P.follows .mixedOrders = true) (hB : growB .any l.toArray n ord = true)
    (hQ : ∀ d v c a w, Q (.panic c) (Act.put a d v) w → Q (.panic c) a w)
    (h : walk B P l.toArray Q (l.drop n) (pick l ord) a w.drew) : (Code.region id l.toArray true).wp P Q a w := by
  simp only [growB, Bool.and_eq_true, decide_eq_true_eq] at hB
  obtain ⟨⟨⟨⟨⟨hsel, hn⟩, hs⟩, hc⟩, hlen⟩, hck⟩ := hB
  have hdl : (l.drop n).length = l.toArray.size - n := by simp
  have inv0 : HeadInv .any l.toArray n (Array.replicate l.toArray.size false) :=
    ⟨by simp, fun j oj _ hl => (by rw [getD_replicate_false] at hl; cases hl), fun t _ ht => getD_in (by simpa using ht) (getD_replicate_false _ _)⟩
  have H := walk_sound B (md := .any) hsel hs hc hn hQ ord _ a w.drew inv0 hck h
  refine wp_region_any hm ?_
  have := AnyE.any (Q := Q) (g := l.toArray.size - n) (fun listed a' w' hL => by
    have := wpAny_of_seq (md := .any) (Q' := Q) (l.drop n) n listed a' w' (fun j => by simp [List.getElem?_drop]) (by rw [hdl]; exact hL.1) hL.2
    rwa [hdl] at this) _ _ _ _ H
  rw [hlen] at this
  exact this
end
end GrB
end Go.Proofs.Ytdbdnfjgmdkneaa
namespace Go.Proofs.Ytdbdnfjgmdkneaa
set_option maxRecDepth 20000
open Go.RowKit Go.Deep
set_option linter.unusedVariables false
theorem rright14_yes (r : Rc) (a : Option Addr) (c : Nat) (w : World) (h : KM.Right r) :
    Calls Try.prog 14 #[r.val (.slice a r.d.length c)] w fun e w' => e = .returned (.bool true) ∧ w.Extends w' :=
  (rright14_any r a c w).mono fun e w' ⟨x, h1, h2, h3⟩ => ⟨by rw [h1, h2.2 h], h3⟩
theorem rright14_no (r : Rc) (a : Option Addr) (c : Nat) (w : World) (h : ¬ KM.Right r) :
    Calls Try.prog 14 #[r.val (.slice a r.d.length c)] w fun e w' => e = .returned (.bool false) ∧ w.Extends w' :=
  (rright14_any r a c w).mono fun e w' ⟨x, h1, h2, h3⟩ => ⟨by cases x with
    | true => exact absurd (h2.1 rfl) h
    | false => exact h1, h3⟩
theorem below_drew {B : Nat} {w w' : World} (h : Below B w w') : Below B w w'.drew := ⟨h.os, h.tape, h.output, h.size, h.block⟩
theorem own_lit (w : World) (B x : Nat) (h : w.heap[B]? = some (.cells #[.int .u8 (x : Nat)] 5)) : w.ownsRow B 5 1 (.slice (some ⟨B, 0, none⟩) ([x] : List Nat).length 1) ([x] : List Nat).length (u8vs [x]) :=
  ⟨rfl, .inr ⟨B, 1, #[.int .u8 (x : Nat)], rfl, Nat.le_refl _, h, Nat.le_refl _, by decide, rfl, rfl⟩⟩
theorem rbytes14_no (r : Rc) (a : Option Addr) (c : Nat) (w : World) (h : ¬ KM.Right r) :
    Calls Try.prog 19 #[r.val (.slice a r.d.length c)] w (MadeBytes w []) := by
  have HR : Hid (∀ w', Calls Try.prog 14 #[r.val (.slice a r.d.length c)] w' fun e w2 => e = .returned (.bool false) ∧ w'.Extends w2) := fun w' => rright14_no r a c w' h
  clear h
  obtain ⟨p, n, b, s, m, k, e, g, u, d⟩ := r
  generalize d.length = dl at *
  have HR2 : Hid (∀ w', Calls Try.prog 14 #[.agg #[.int .i64 p, .int .i64 n, .int .i64 b, .int .i64 s, .int .i64 m, .int .i64 k, .int .i64 e, .bool g, .int .i64 u, .slice a dl c]] w' fun e w2 => e = .returned (.bool false) ∧ w'.Extends w2) := HR.out
  clear HR
  show Calls Try.prog 19 #[.agg #[.int .i64 p, .int .i64 n, .int .i64 b, .int .i64 s, .int .i64 m, .int .i64 k, .int .i64 e, .bool g, .int .i64 u, .slice a dl c]] w _
  go_enter Try.func19, Try.ntmps19
  go_wp2_with fail
  generalize hw1 : World.alloc w _ = w1
  have HX1 : Hid (w.Extends w1) := by subst hw1; exact ext_alloc _ _
  clear hw1
  refine (HR2.out w1).mono ?_
  rintro e w2 ⟨rfl, hx⟩
  have HP : Hid (MadeBytes w [] (.returned (.slice none 0 0)) w2) := ⟨_, rfl, nil_u8s _ _ _, Gr.ext_trans HX1.out hx⟩
  clear hx HX1
  go_wp2
  go_ret
  exact HP.out
set_option maxHeartbeats 2000000 in
theorem rbytes14_new (r : Rc) (a : Option Addr) (c : Nat) (w : World) (h : KM.Right r) (hu : r.g = true ∨ U8s w (.slice a r.d.length c) r.d) :
    Calls Try.prog 19 #[r.val (.slice a r.d.length c)] w (MadeBytesN w (KM.bytes r)) := by
  have HRI : Hid (∀ w', Calls Try.prog 14 #[r.val (.slice a r.d.length c)] w' fun e w2 => e = .returned (.bool true) ∧ w'.Extends w2) := fun w' => rright14_yes r a c w' h
  have HU0 : Hid (r.g = false → U8s w (.slice a r.d.length c) r.d) := fun hg => hu.resolve_left (by rw [hg]; decide)
  obtain ⟨hp, hn, hk, hrest⟩ := KM.right_bounds h
  obtain ⟨h1, h2, h3, h4, h5⟩ := h
  obtain ⟨p, n, b, s, m, k, e, g, u, d⟩ := r
  simp only at h1 h2 h3 h4 h5 hp hn hk hrest
  obtain ⟨p, rfl⟩ := Int.eq_ofNat_of_zero_le h1.1
  obtain ⟨n, rfl⟩ := Int.eq_ofNat_of_zero_le (show 0 ≤ n by omega)
  obtain ⟨u, rfl⟩ := Int.eq_ofNat_of_zero_le h3.1
  have HDL0 : Hid (g = false → ∀ x ∈ d, x < 256) := fun hg => (HU0.out hg).lt
  have HDS : Hid (d.length ≤ 64) := by
    cases g with
    | true => rw [(h4 rfl).2.2]; exact Nat.zero_le _
    | false =>
      obtain ⟨⟨⟨_, _, _, h6, _⟩, _⟩, _, h8⟩ := h5 rfl
      show d.length ≤ 64; omega
  clear hu
  obtain ⟨iu, hiu, hz0, hz1, hz2⟩ := info_parts byteinfo
  have HI := Lib.hid hiu
  have HZ0 := Lib.hid hz0
  have HZ1 := Lib.hid hz1
  have HZ2 := Lib.hid hz2
  clear hiu hz0 hz1 hz2
  cases g with
  | true =>
    obtain ⟨⟨⟨rfl, rfl, rfl⟩, rfl⟩, rfl, rfl⟩ := h4 rfl
    have HBY : Hid (KM.bytes ⟨p, n, 0, 0, 0, 0, 0, true, u, []⟩ = [1] ++ KM.nb 4 p ++ KM.nb 4 n ++ KM.nb 4 u) := by
      show _ = _
      simp [KM.bytes, KM.head, KM.nb]
    have HPN : Hid (p < 4611686018427387904 ∧ n < 4611686018427387904 ∧ u < 4611686018427387904) := by show _ ∧ _; omega
    have HR2 : Hid (∀ w', Calls Try.prog 14 #[.agg #[.int .i64 p, .int .i64 n, .int .i64 0, .int .i64 0, .int .i64 0, .int .i64 0, .int .i64 0, .bool true, .int .i64 u, .slice a 0 c]] w' fun e w2 => e = .returned (.bool true) ∧ w'.Extends w2) := HRI.out
    clear h1 h2 h3 h4 h5 hp hn hk hrest HRI HU0 HDS HDL0
    generalize KM.bytes _ = bs at *
    show Calls Try.prog 19 #[.agg #[.int .i64 p, .int .i64 n, .int .i64 0, .int .i64 0, .int .i64 0, .int .i64 0, .int .i64 0, .bool true, .int .i64 u, .slice a 0 c]] w _
    go_enter Try.func19, Try.ntmps19
    go_wp2_with fail
    generalize hw1 : World.alloc w _ = w1
    obtain ⟨hr1, hx1, hb1⟩ := RCell.new w w1 ⟨p, n, 0, 0, 0, 0, 0, true, u, []⟩ (.slice a 0 c) hw1
    generalize w.heap.size = x at *
    have HX1 := Lib.hid hx1
    clear hw1 hx1
    refine (HR2.out w1).mono ?_
    rintro e' w2 ⟨rfl, hx⟩
    have HX2 := Lib.hid (Gr.ext_trans HX1.out hx)
    have hr2 := rangeAt_ext hr1 hx
    obtain ⟨t0, t1, t2, t3, t4, t5, t6, t7, t8, t9⟩ := RCell.ten hr2
    simp only [Nat.zero_add] at t0 t1 t2 t3 t4 t5 t6 t7 t8 t9
    have hb2 : x < w2.heap.size := Nat.lt_of_lt_of_le hb1 hx.size
    have HR := Lib.hid hr2
    clear hr1 hr2 hx HX1 HR2 hb1
    go_wp2_with fail
    clear t0 t1 t2 t3 t4 t5 t6 t7 t8 t9
    generalize hw4 : World.alloc w2 _ = w4
    obtain ⟨B, hB⟩ : ∃ B, B = w2.heap.size := ⟨_, rfl⟩
    have HE : Hid (∀ w', Below B w2 w' → w2.Extends w') := fun w' h => ext_below h hB
    have HB4 : Hid (Below B w2 w4) := by subst hw4; exact (Below.refl _ _).alloc (Nat.le_of_eq hB) _
    have hh4 : w4.heap[B]? = some (.cells #[.int .u8 (1 : Nat)] 5) := by subst hw4; rw [hB]; exact heap_alloc_new _ _
    have HO5 : Hid (w4.drew.ownsRow B 5 1 (.slice (some ⟨B, 0, none⟩) ([1] : List Nat).length 1) ([1] : List Nat).length (u8vs [1])) := own_lit _ B 1 hh4
    rw [← hB]
    have hbB : x < B := by omega
    have hsz : B < w4.heap.size := (Array.getElem?_eq_some_iff.1 hh4).1
    have HWB : Hid (w.heap.size ≤ B) := by show _ ≤ _; rw [hB]; exact HX2.out.size
    clear hw4 hB hh4 hb2
    refine GrB.region B 12 [(false,0),(false,1),(false,2),(false,3),(false,5),(false,6),(false,7),(false,9),(false,10),(true,4),(true,8),(true,11)] (by kernel_rfl) (by kernel_rfl) (fun d _ _ _ _ h => by cases d <;> exact h) ?_
    simp only [Gr.pick, List.getElem?_cons_zero, List.getElem?_cons_succ, List.drop_succ_cons, List.drop_zero]
    have HB5 : Hid (Below B w2 w4.drew) := below_drew HB4.out
    have HBS5 : Hid (B ≤ w4.drew.heap.size) := Nat.le_of_lt hsz
    clear HB4 hsz
    generalize w4.drew = w5 at *
    iterate 9
      refine GrB.walk_t ?_ (Or.inl ⟨by rfl, ?_⟩) ?_
      rotate_left
      · intro w' hw'
        have hr := rangeAt_ext HR.out (HE.out w' (HB5.out.trans hw'))
        obtain ⟨t0, t1, t2, t3, t4, t5, t6, t7, t8, t9⟩ := RCell.ten hr
        simp only [Nat.zero_add] at t0 t1 t2 t3 t4 t5 t6 t7 t8 t9
        have hbx : x < w'.heap.size := Nat.lt_of_lt_of_le hbB (Nat.le_trans HBS5.out hw'.size)
        clear hw'
        go_simp
        try with_reducible rfl
      simp only [Act.put, List.setIfInBounds_toArray, List.set_cons_zero, List.set_cons_succ]
    refine GrB.walk_c (fun K hK => ?_)
    go_simp
    refine (put_new B _ [1] p 4 w5 (by omega) (by have := HPN.out; omega) (by simp) HO5.out HBS5.out).mono ?_
    rintro e' w6 ⟨a6, c6, z6, rfl, hz6, ho6, hb6⟩
    have HZ6 : Hid (z6 = [1] ++ KM.nb 4 p) := hz6
    have HQ6 : Hid (z6.length = 5) := by show _ = _; rw [hz6, List.length_append, KM.nb_length]; rfl
    have HB6 : Hid (Below B w2 w6) := HB5.out.trans hb6
    have HBS6 : Hid (B ≤ w6.heap.size) := Nat.le_trans HBS5.out hb6.size
    have HO6 := Lib.hid ho6
    clear ho6 hz6
    try go_simp
    refine hK.out _ _ (hb6) ?_
    clear hK K
    clear hb6 HB5 HO5 HBS5
    refine GrB.walk_c (fun K hK => ?_)
    go_simp
    refine (put_new B _ z6 n 4 w6 (by omega) (by have := HPN.out; omega) (by rw [HQ6.out]; omega) HO6.out HBS6.out).mono ?_
    rintro e' w7 ⟨a7, c7, z7, rfl, hz7, ho7, hb7⟩
    have HZ7 : Hid (z7 = z6 ++ KM.nb 4 n) := hz7
    have HQ7 : Hid (z7.length = 9) := by show _ = _; rw [hz7, List.length_append, KM.nb_length]; rw [HQ6.out]
    have HB7 : Hid (Below B w2 w7) := HB6.out.trans hb7
    have HBS7 : Hid (B ≤ w7.heap.size) := Nat.le_trans HBS6.out hb7.size
    have HO7 := Lib.hid ho7
    clear ho7 hz7
    try go_simp
    refine hK.out _ _ (hb7) ?_
    clear hK K
    clear hb7 HB6 HO6 HBS6
    refine GrB.walk_c (fun K hK => ?_)
    go_simp
    refine (put_new B _ z7 u 4 w7 (by omega) (by have := HPN.out; omega) (by rw [HQ7.out]; omega) HO7.out HBS7.out).mono ?_
    rintro e' w8 ⟨a8, c8, z8, rfl, hz8, ho8, hb8⟩
    have HZ8 : Hid (z8 = z7 ++ KM.nb 4 u) := hz8
    have HQ8 : Hid (z8.length = 13) := by show _ = _; rw [hz8, List.length_append, KM.nb_length]; rw [HQ7.out]
    have HB8 : Hid (Below B w2 w8) := HB7.out.trans hb8
    have HBS8 : Hid (B ≤ w8.heap.size) := Nat.le_trans HBS7.out hb8.size
    have HO8 := Lib.hid ho8
    clear ho8 hz8
    try go_simp
    refine hK.out _ _ (hb8) ?_
    clear hK K
    clear hb8 HB7 HO7 HBS7
    refine GrB.walk_nil ?_
    have HP : Hid (MadeBytesN w bs (.returned (.slice a8 z8.length c8)) w8) := by
      refine ⟨_, rfl, ?_, Gr.ext_trans HX2.out (HE.out _ HB8.out), fun g hg => Nat.le_trans HWB.out (HO8.out.lt g hg).1⟩
      rw [show bs = z8 by rw [HBY.out, HZ8.out, HZ7.out, HZ6.out]]
      refine owns_u8s HO8.out (fun y hy => ?_)
      rw [HZ8.out, HZ7.out, HZ6.out] at hy
      simp only [List.mem_append, List.mem_cons, List.not_mem_nil, or_false] at hy
      rcases hy with ((h | h) | h) | h
      · omega
      all_goals exact KM.nb_lt _ _ y h
    have hr := rangeAt_ext HR.out (HE.out w8 HB8.out)
    obtain ⟨t0, t1, t2, t3, t4, t5, t6, t7, t8, t9⟩ := RCell.ten hr
    simp only [Nat.zero_add] at t0 t1 t2 t3 t4 t5 t6 t7 t8 t9
    clear hr
    have hbx : x < w8.heap.size := Nat.lt_of_lt_of_le hbB HBS8.out
    generalize z8.length = ll at *
    go_wp2
    go_ret
    exact HP.out
  | false =>
    have HU := Lib.hid (HU0.out rfl)
    have HDL := Lib.hid (HDL0.out rfl)
    clear HU0 HDL0
    obtain ⟨⟨hsh, h6⟩, h7, h8⟩ := h5 rfl
    obtain ⟨hb1, hb2, hb3, hb4, hb5⟩ := hrest rfl
    obtain ⟨g1, g2, g3, g4, g5, g6⟩ := hsh
    obtain ⟨b, rfl⟩ := Int.eq_ofNat_of_zero_le (show 0 ≤ b by omega)
    obtain ⟨s, rfl⟩ := Int.eq_ofNat_of_zero_le (show 0 ≤ s by omega)
    obtain ⟨m, rfl⟩ := Int.eq_ofNat_of_zero_le (show 0 ≤ m by omega)
    obtain ⟨k, rfl⟩ := Int.eq_ofNat_of_zero_le h6.1
    obtain ⟨e, rfl⟩ := Int.eq_ofNat_of_zero_le h7.1
    have HBY : Hid (KM.bytes ⟨p, n, b, s, m, k, e, false, u, d⟩ = [0] ++ KM.nb 4 p ++ KM.nb 4 n ++ KM.nb 4 u ++ KM.nb 2 b ++ KM.nb 2 s ++ KM.nb 2 m ++ KM.nb 2 k ++ KM.nb 3 e ++ d) := by
      show _ = _
      simp [KM.bytes, KM.head, KM.body, KM.nb]
    have HPN : Hid (p < 4611686018427387904 ∧ n < 4611686018427387904 ∧ u < 4611686018427387904 ∧ b < 4611686018427387904 ∧ s < 4611686018427387904 ∧ m < 4611686018427387904 ∧ k < 4611686018427387904 ∧ e < 4611686018427387904) := by
      simp only [Int.toNat_natCast] at hp hn hk hb1 hb2 hb3 hb4 hb5
      show _ ∧ _; omega
    obtain ⟨dl, hdl⟩ : ∃ dl, dl = d.length := ⟨_, rfl⟩
    rw [← hdl] at HDS
    have HDE := Lib.hid hdl
    have HR2 : Hid (∀ w', Calls Try.prog 14 #[.agg #[.int .i64 p, .int .i64 n, .int .i64 b, .int .i64 s, .int .i64 m, .int .i64 k, .int .i64 e, .bool false, .int .i64 u, .slice a dl c]] w' fun e w2 => e = .returned (.bool true) ∧ w'.Extends w2) := by rw [hdl]; exact HRI.out
    have HU2 : Hid (U8s w (.slice a dl c) d) := by rw [hdl]; exact HU.out
    clear h1 h2 h3 h4 h5 hp hn hk hrest HRI HU h6 h7 h8 hb1 hb2 hb3 hb4 hb5 g1 g2 g3 g4 g5 g6
    generalize KM.bytes _ = bs at *
    have HSL : (Value.slice a d.length c) = .slice a dl c := by rw [hdl]
    show Calls Try.prog 19 #[.agg #[.int .i64 p, .int .i64 n, .int .i64 b, .int .i64 s, .int .i64 m, .int .i64 k, .int .i64 e, .bool false, .int .i64 u, .slice a d.length c]] w _
    rw [HSL]
    clear HSL hdl
    go_enter Try.func19, Try.ntmps19
    go_wp2_with fail
    generalize hw1 : World.alloc w _ = w1
    obtain ⟨hr1, hx1, hb1⟩ := RCell.new w w1 ⟨p, n, b, s, m, k, e, false, u, d⟩ (.slice a dl c) hw1
    generalize w.heap.size = x at *
    have HX1 := Lib.hid hx1
    clear hw1 hx1
    refine (HR2.out w1).mono ?_
    rintro e' w2 ⟨rfl, hx⟩
    have HX2 := Lib.hid (Gr.ext_trans HX1.out hx)
    have hr2 := rangeAt_ext hr1 hx
    obtain ⟨t0, t1, t2, t3, t4, t5, t6, t7, t8, t9⟩ := RCell.ten hr2
    simp only [Nat.zero_add] at t0 t1 t2 t3 t4 t5 t6 t7 t8 t9
    have hb2 : x < w2.heap.size := Nat.lt_of_lt_of_le hb1 hx.size
    have HR := Lib.hid hr2
    clear hr1 hr2 hx HX1 HR2 hb1
    go_wp2_with fail
    clear t0 t1 t2 t3 t4 t5 t6 t7 t8 t9
    generalize hw4 : World.alloc w2 _ = w4
    obtain ⟨B, hB⟩ : ∃ B, B = w2.heap.size := ⟨_, rfl⟩
    have HE : Hid (∀ w', Below B w2 w' → w2.Extends w') := fun w' h => ext_below h hB
    have HB4 : Hid (Below B w2 w4) := by subst hw4; exact (Below.refl _ _).alloc (Nat.le_of_eq hB) _
    have hh4 : w4.heap[B]? = some (.cells #[.int .u8 (0 : Nat)] 5) := by subst hw4; rw [hB]; exact heap_alloc_new _ _
    have HO5 : Hid (w4.drew.ownsRow B 5 1 (.slice (some ⟨B, 0, none⟩) ([0] : List Nat).length 1) ([0] : List Nat).length (u8vs [0])) := own_lit _ B 0 hh4
    rw [← hB]
    have hbB : x < B := by omega
    have hsz : B < w4.heap.size := (Array.getElem?_eq_some_iff.1 hh4).1
    have HWB : Hid (w.heap.size ≤ B) := by show _ ≤ _; rw [hB]; exact HX2.out.size
    clear hw4 hB hh4 hb2
    refine GrB.region B 12 [(false,0),(false,1),(false,2),(false,3),(false,5),(false,6),(false,7),(false,9),(false,10),(true,4),(true,8),(true,11)] (by kernel_rfl) (by kernel_rfl) (fun d _ _ _ _ h => by cases d <;> exact h) ?_
    simp only [Gr.pick, List.getElem?_cons_zero, List.getElem?_cons_succ, List.drop_succ_cons, List.drop_zero]
    have HB5 : Hid (Below B w2 w4.drew) := below_drew HB4.out
    have HBS5 : Hid (B ≤ w4.drew.heap.size) := Nat.le_of_lt hsz
    clear HB4 hsz
    generalize w4.drew = w5 at *
    iterate 9
      refine GrB.walk_t ?_ (Or.inl ⟨by rfl, ?_⟩) ?_
      rotate_left
      · intro w' hw'
        have hr := rangeAt_ext HR.out (HE.out w' (HB5.out.trans hw'))
        obtain ⟨t0, t1, t2, t3, t4, t5, t6, t7, t8, t9⟩ := RCell.ten hr
        simp only [Nat.zero_add] at t0 t1 t2 t3 t4 t5 t6 t7 t8 t9
        have hbx : x < w'.heap.size := Nat.lt_of_lt_of_le hbB (Nat.le_trans HBS5.out hw'.size)
        clear hw'
        go_simp
        try with_reducible rfl
      simp only [Act.put, List.setIfInBounds_toArray, List.set_cons_zero, List.set_cons_succ]
    refine GrB.walk_c (fun K hK => ?_)
    go_simp
    refine (put_new B _ [0] p 4 w5 (by omega) (by have := HPN.out; omega) (by simp) HO5.out HBS5.out).mono ?_
    rintro e' w6 ⟨a6, c6, z6, rfl, hz6, ho6, hb6⟩
    have HZ6 : Hid (z6 = [0] ++ KM.nb 4 p) := hz6
    have HQ6 : Hid (z6.length = 5) := by show _ = _; rw [hz6, List.length_append, KM.nb_length]; rfl
    have HB6 : Hid (Below B w2 w6) := HB5.out.trans hb6
    have HBS6 : Hid (B ≤ w6.heap.size) := Nat.le_trans HBS5.out hb6.size
    have HO6 := Lib.hid ho6
    clear ho6 hz6
    try go_simp
    refine hK.out _ _ (hb6) ?_
    clear hK K
    clear hb6 HB5 HO5 HBS5
    refine GrB.walk_c (fun K hK => ?_)
    go_simp
    refine (put_new B _ z6 n 4 w6 (by omega) (by have := HPN.out; omega) (by rw [HQ6.out]; omega) HO6.out HBS6.out).mono ?_
    rintro e' w7 ⟨a7, c7, z7, rfl, hz7, ho7, hb7⟩
    have HZ7 : Hid (z7 = z6 ++ KM.nb 4 n) := hz7
    have HQ7 : Hid (z7.length = 9) := by show _ = _; rw [hz7, List.length_append, KM.nb_length]; rw [HQ6.out]
    have HB7 : Hid (Below B w2 w7) := HB6.out.trans hb7
    have HBS7 : Hid (B ≤ w7.heap.size) := Nat.le_trans HBS6.out hb7.size
    have HO7 := Lib.hid ho7
    clear ho7 hz7
    try go_simp
    refine hK.out _ _ (hb7) ?_
    clear hK K
    clear hb7 HB6 HO6 HBS6
    refine GrB.walk_c (fun K hK => ?_)
    go_simp
    refine (put_new B _ z7 u 4 w7 (by omega) (by have := HPN.out; omega) (by rw [HQ7.out]; omega) HO7.out HBS7.out).mono ?_
    rintro e' w8 ⟨a8, c8, z8, rfl, hz8, ho8, hb8⟩
    have HZ8 : Hid (z8 = z7 ++ KM.nb 4 u) := hz8
    have HQ8 : Hid (z8.length = 13) := by show _ = _; rw [hz8, List.length_append, KM.nb_length]; rw [HQ7.out]
    have HB8 : Hid (Below B w2 w8) := HB7.out.trans hb8
    have HBS8 : Hid (B ≤ w8.heap.size) := Nat.le_trans HBS7.out hb8.size
    have HO8 := Lib.hid ho8
    clear ho8 hz8
    try go_simp
    refine hK.out _ _ (hb8) ?_
    clear hK K
    clear hb8 HB7 HO7 HBS7
    refine GrB.walk_nil ?_
    have hr := rangeAt_ext HR.out (HE.out w8 HB8.out)
    obtain ⟨t0, t1, t2, t3, t4, t5, t6, t7, t8, t9⟩ := RCell.ten hr
    simp only [Nat.zero_add] at t0 t1 t2 t3 t4 t5 t6 t7 t8 t9
    clear hr
    have hbx : x < w8.heap.size := Nat.lt_of_lt_of_le hbB HBS8.out
    go_wp2_with fail
    clear t0 t1 t2 t3 t4 t5 t6 t7 t8 t9 hbx
    refine GrB.region B 19 [(false,0),(false,1),(false,2),(false,3),(false,5),(false,6),(false,7),(false,9),(false,10),(false,11),(false,13),(false,14),(false,16),(false,17),(true,4),(true,8),(true,12),(true,15),(true,18)] (by kernel_rfl) (by kernel_rfl) (fun d _ _ _ _ h => by cases d <;> exact h) ?_
    simp only [Gr.pick, List.getElem?_cons_zero, List.getElem?_cons_succ, List.drop_succ_cons, List.drop_zero]
    have HB9 : Hid (Below B w2 w8.drew) := below_drew HB8.out
    have HBS9 : Hid (B ≤ w8.drew.heap.size) := HBS8.out
    have HO9 : Hid (w8.drew.ownsRow B 5 1 (.slice a8 z8.length c8) z8.length (u8vs z8)) := HO8.out
    have HZ9 := HZ8
    have HQ9 := HQ8
    clear HB8 HBS8 HO8 HZ8 HQ8
    generalize w8.drew = w9 at *
    obtain ⟨z9, hz9⟩ : ∃ z9, z9 = z8 := ⟨_, rfl⟩
    subst hz9
    iterate 14
      refine GrB.walk_t ?_ (Or.inl ⟨by rfl, ?_⟩) ?_
      rotate_left
      · intro w' hw'
        have hr := rangeAt_ext HR.out (HE.out w' (HB9.out.trans hw'))
        obtain ⟨t0, t1, t2, t3, t4, t5, t6, t7, t8, t9⟩ := RCell.ten hr
        simp only [Nat.zero_add] at t0 t1 t2 t3 t4 t5 t6 t7 t8 t9
        have hbx : x < w'.heap.size := Nat.lt_of_lt_of_le hbB (Nat.le_trans HBS9.out hw'.size)
        clear hw'
        go_simp
        try with_reducible rfl
      simp only [Act.put, List.setIfInBounds_toArray, List.set_cons_zero, List.set_cons_succ]
    refine GrB.walk_c (fun K hK => ?_)
    go_simp
    refine (put_new B _ z9 b 2 w9 (by omega) (by have := HPN.out; omega) (by rw [HQ9.out]; omega) HO9.out HBS9.out).mono ?_
    rintro e' w10 ⟨a10, c10, z10, rfl, hz10, ho10, hb10⟩
    have HZ10 : Hid (z10 = z9 ++ KM.nb 2 b) := hz10
    have HQ10 : Hid (z10.length = 15) := by show _ = _; rw [hz10, List.length_append, KM.nb_length]; rw [HQ9.out]
    have HB10 : Hid (Below B w2 w10) := HB9.out.trans hb10
    have HBS10 : Hid (B ≤ w10.heap.size) := Nat.le_trans HBS9.out hb10.size
    have HO10 := Lib.hid ho10
    clear ho10 hz10
    try go_simp
    refine hK.out _ _ (hb10) ?_
    clear hK K
    clear hb10 HB9 HO9 HBS9
    refine GrB.walk_c (fun K hK => ?_)
    go_simp
    refine (put_new B _ z10 s 2 w10 (by omega) (by have := HPN.out; omega) (by rw [HQ10.out]; omega) HO10.out HBS10.out).mono ?_
    rintro e' w11 ⟨a11, c11, z11, rfl, hz11, ho11, hb11⟩
    have HZ11 : Hid (z11 = z10 ++ KM.nb 2 s) := hz11
    have HQ11 : Hid (z11.length = 17) := by show _ = _; rw [hz11, List.length_append, KM.nb_length]; rw [HQ10.out]
    have HB11 : Hid (Below B w2 w11) := HB10.out.trans hb11
    have HBS11 : Hid (B ≤ w11.heap.size) := Nat.le_trans HBS10.out hb11.size
    have HO11 := Lib.hid ho11
    clear ho11 hz11
    try go_simp
    refine hK.out _ _ (hb11) ?_
    clear hK K
    clear hb11 HB10 HO10 HBS10
    refine GrB.walk_c (fun K hK => ?_)
    go_simp
    refine (put_new B _ z11 m 2 w11 (by omega) (by have := HPN.out; omega) (by rw [HQ11.out]; omega) HO11.out HBS11.out).mono ?_
    rintro e' w12 ⟨a12, c12, z12, rfl, hz12, ho12, hb12⟩
    have HZ12 : Hid (z12 = z11 ++ KM.nb 2 m) := hz12
    have HQ12 : Hid (z12.length = 19) := by show _ = _; rw [hz12, List.length_append, KM.nb_length]; rw [HQ11.out]
    have HB12 : Hid (Below B w2 w12) := HB11.out.trans hb12
    have HBS12 : Hid (B ≤ w12.heap.size) := Nat.le_trans HBS11.out hb12.size
    have HO12 := Lib.hid ho12
    clear ho12 hz12
    try go_simp
    refine hK.out _ _ (hb12) ?_
    clear hK K
    clear hb12 HB11 HO11 HBS11
    refine GrB.walk_c (fun K hK => ?_)
    go_simp
    refine (put_new B _ z12 k 2 w12 (by omega) (by have := HPN.out; omega) (by rw [HQ12.out]; omega) HO12.out HBS12.out).mono ?_
    rintro e' w13 ⟨a13, c13, z13, rfl, hz13, ho13, hb13⟩
    have HZ13 : Hid (z13 = z12 ++ KM.nb 2 k) := hz13
    have HQ13 : Hid (z13.length = 21) := by show _ = _; rw [hz13, List.length_append, KM.nb_length]; rw [HQ12.out]
    have HB13 : Hid (Below B w2 w13) := HB12.out.trans hb13
    have HBS13 : Hid (B ≤ w13.heap.size) := Nat.le_trans HBS12.out hb13.size
    have HO13 := Lib.hid ho13
    clear ho13 hz13
    try go_simp
    refine hK.out _ _ (hb13) ?_
    clear hK K
    clear hb13 HB12 HO12 HBS12
    refine GrB.walk_c (fun K hK => ?_)
    go_simp
    refine (put_new B _ z13 e 3 w13 (by omega) (by have := HPN.out; omega) (by rw [HQ13.out]; omega) HO13.out HBS13.out).mono ?_
    rintro e' w14 ⟨a14, c14, z14, rfl, hz14, ho14, hb14⟩
    have HZ14 : Hid (z14 = z13 ++ KM.nb 3 e) := hz14
    have HQ14 : Hid (z14.length = 24) := by show _ = _; rw [hz14, List.length_append, KM.nb_length]; rw [HQ13.out]
    have HB14 : Hid (Below B w2 w14) := HB13.out.trans hb14
    have HBS14 : Hid (B ≤ w14.heap.size) := Nat.le_trans HBS13.out hb14.size
    have HO14 := Lib.hid ho14
    clear ho14 hz14
    try go_simp
    refine hK.out _ _ (hb14) ?_
    clear hK K
    clear hb14 HB13 HO13 HBS13
    refine GrB.walk_nil ?_
    have hr := rangeAt_ext HR.out (HE.out w14 HB14.out)
    obtain ⟨t0, t1, t2, t3, t4, t5, t6, t7, t8, t9⟩ := RCell.ten hr
    simp only [Nat.zero_add] at t0 t1 t2 t3 t4 t5 t6 t7 t8 t9
    clear hr
    have hbx : x < w14.heap.size := Nat.lt_of_lt_of_le hbB HBS14.out
    have HUQ := Lib.hid (HU2.out.ext (Gr.ext_trans HX2.out (HE.out _ HB14.out)))
    have HZS : Hid (z14 = [0] ++ KM.nb 4 p ++ KM.nb 4 n ++ KM.nb 4 u ++ KM.nb 2 b ++ KM.nb 2 s ++ KM.nb 2 m ++ KM.nb 2 k ++ KM.nb 3 e) := by show _ = _; rw [HZ14.out, HZ13.out, HZ12.out, HZ11.out, HZ10.out, HZ9.out, HZ7.out, HZ6.out]
    have HLT : Hid (∀ y ∈ z14, y < 256) := fun y hy => by
      rw [HZS.out] at hy
      simp only [List.mem_append, List.mem_cons, List.not_mem_nil, or_false] at hy
      rcases hy with (((((((h | h) | h) | h) | h) | h) | h) | h) | h
      · omega
      all_goals exact KM.nb_lt _ _ y h
    have hds := HDS.out
    have hlq := HQ14.out
    have HLQ := Lib.hid hlq
    rw [hlq] at HO14 ⊢
    clear hlq
    go_wp2_with (at_builtin; refine wpList_append_own_src _ rfl _ _ 26 26 rfl B 5 iu (.int .u8 0) 1 1 Try.underlying26 HI.out HZ0.out HZ1.out HZ2.out rfl _ _ _ rfl HO14.out _ dl (u8vs d) rfl (by have h := HUQ.out.src (P := Try.prog) Try.underlying26; rwa [← HDE.out] at h) (by unfold maxLen; omega) (by omega) HBS14.out ?_)
    intro v9_ w9_ ho9 hg9 _
    have HP : Hid (MadeBytesN w bs (.returned v9_) w9_) := by
      refine ⟨_, rfl, ?_, Gr.ext_trans HX2.out (HE.out _ (HB14.out.grown hg9 HBS14.out (fun g hg => (HO14.out.lt g hg).1))), fun g hg => Nat.le_trans HWB.out (ho9.lt g hg).1⟩
      rw [← u8vs_app1] at ho9
      rw [show bs = z14 ++ d by rw [HBY.out, HZS.out]]
      exact owns_u8s ho9 (fun z hz => (List.mem_append.1 hz).elim (HLT.out z) (HDL.out z))
    clear ho9 hg9
    go_wp2
    go_ret
    exact HP.out
theorem rbytes14_yes (r : Rc) (a : Option Addr) (c : Nat) (w : World) (h : KM.Right r) (hu : U8s w (.slice a r.d.length c) r.d) :
    Calls Try.prog 19 #[r.val (.slice a r.d.length c)] w (MadeBytes w (KM.bytes r)) := (rbytes14_new r a c w h (.inr hu)).mono fun e w' ⟨v, h1, h2, h3, _⟩ => ⟨v, h1, h2, h3⟩
end Go.Proofs.Ytdbdnfjgmdkneaa
