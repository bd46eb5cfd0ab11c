/- record.Right. -/
import Derived.Test.YtdbdnfjgmdkneaaRecMath
import Derived.Test.YtdbdnfjgmdkneaaSplK
import Derived.Lib.Hide
import Derived.Handy
import Derived.WalkKit
import Derived.IntWalk
namespace Go.Proofs.Ytdbdnfjgmdkneaa
set_option maxRecDepth 20000
open Go.RowKit Go.Deep
set_option linter.unusedVariables false
theorem wi_yes (n l m : Int) (w : World) (h1 : l ≤ n) (h2 : n ≤ m) :
    Calls Try.prog 63 #[.int .i64 n, .int .i64 l, .int .i64 m] w fun e w' => e = .returned (.bool true) ∧ w = w' := by
  go_enter Try.func63, Try.ntmps63
  go_wp2
  go_ret
  exact ⟨rfl, rfl⟩
theorem wi_no (n l m : Int) (w : World) (h : ¬ (l ≤ n ∧ n ≤ m)) :
    Calls Try.prog 63 #[.int .i64 n, .int .i64 l, .int .i64 m] w fun e w' => e = .returned (.bool false) ∧ w = w' := by
  by_cases h1 : n < l
  · have h1' : decide ((n : Int) ≥ l) = false := by simp; omega
    go_enter Try.func63, Try.ntmps63
    go_wp2
    go_ret
    exact ⟨rfl, rfl⟩
  · have h2 : decide (n ≤ m) = false := by simp; omega
    go_enter Try.func63, Try.ntmps63
    go_wp2
    go_ret
    exact ⟨rfl, rfl⟩
/-- Shape, whether right or not: its blocks; and whether a block is one of them. -/
theorem blocks_in (b s m k : Int) : ∃ nk : Nat, nk ≤ 10000 ∧ (∀ w, Calls Try.prog 64 #[PV b s m] w fun e w' => e = .returned (.int .i64 (nk : Nat)) ∧ w.Extends w') ∧
    ((CM.Right b s m ∧ 0 ≤ k ∧ k < CM.bl b.toNat s.toNat m.toNat) ↔ (0 ≤ k ∧ k ≤ (nk : Int) - 1)) := by
  by_cases h : CM.Right b s m
  · obtain ⟨h1, h2, h3, h4, h5, h6⟩ := h
    obtain ⟨b, rfl⟩ := Int.eq_ofNat_of_zero_le (show 0 ≤ b by omega)
    obtain ⟨s, rfl⟩ := Int.eq_ofNat_of_zero_le (show 0 ≤ s by omega)
    obtain ⟨m, rfl⟩ := Int.eq_ofNat_of_zero_le (show 0 ≤ m by omega)
    have h10 := CM.bl_le b s m
    have h11 := CM.sy_le b s (by omega)
    have h : CM.Right (b : Int) (s : Int) (m : Int) := ⟨h1, h2, h3, h4, h5, h6⟩
    refine ⟨CM.bl b s m, by omega, fun w => blocks_yes b s m w h, ?_⟩
    simp only [Int.toNat_natCast]
    constructor
    · rintro ⟨_, h7, h8⟩; omega
    · rintro ⟨h7, h8⟩; exact ⟨h, h7, by omega⟩
  · refine ⟨0, by omega, fun w => blocks_no b s m w h, ?_⟩
    constructor
    · rintro ⟨h', _⟩; exact absurd h' h
    · rintro ⟨h7, h8⟩; omega
theorem RCell.new {T : TypeId} (w w1 : World) (r : Rc) (u : Value) (hw : w.alloc (.cells (r.cells u).toArray T) = w1) : w1.rangeAt w.heap.size 0 (r.cells u) ∧ w.Extends w1 ∧ w.heap.size < w1.heap.size := by
  subst hw
  exact ⟨box_rec _ _ _ _, ext_alloc _ _, by simp⟩
def RightOut (r : Rc) (w : World) (e : Ending) (w' : World) : Prop := ∃ x, e = .returned (.bool x) ∧ (x = true ↔ KM.Right r) ∧ w.Extends w'
set_option maxHeartbeats 1000000 in
theorem right14_any (r : Rc) (a : Option Addr) (c : Nat) (w : World) :
    Calls Try.prog 18 #[r.val (.slice a r.d.length c)] w (RightOut r w) := by
  obtain ⟨p, n, b, s, m, k, e, g, u, d⟩ := r
  obtain ⟨nk, hnk, hbc, hbk⟩ := blocks_in b s m k
  have HBC := Lib.hid hbc
  have HBK := Lib.hid hbk
  clear hbc hbk
  have HNO : Hid (∀ w', w.Extends w' → ¬ KM.Right ⟨p, n, b, s, m, k, e, g, u, d⟩ → RightOut ⟨p, n, b, s, m, k, e, g, u, d⟩ w (.returned (.bool false)) w') := fun w' hx h => ⟨false, rfl, by simp [h], hx⟩
  have HYES : Hid (∀ w', w.Extends w' → KM.Right ⟨p, n, b, s, m, k, e, g, u, d⟩ → RightOut ⟨p, n, b, s, m, k, e, g, u, d⟩ w (.returned (.bool true)) w') := fun w' hx h => ⟨true, rfl, by simp [h], hx⟩
  have HR : Hid (KM.Right ⟨p, n, b, s, m, k, e, g, u, d⟩ ↔ (0 ≤ p ∧ p ≤ 2147483647) ∧ (1 ≤ n ∧ n ≤ 2147483647) ∧ (0 ≤ u ∧ u ≤ 2147483647) ∧
    (g = true → ((b = 0 ∧ s = 0 ∧ m = 0) ∧ k = 0) ∧ e = 0 ∧ d = []) ∧
    (g = false → (CM.Right b s m ∧ 0 ≤ k ∧ k < CM.bl b.toNat s.toNat m.toNat) ∧ (0 ≤ e ∧ e ≤ 16777215) ∧ (d.length : Int) = s)) := Iff.rfl
  have HD0 : Hid (d = [] ↔ d.length = 0) := ⟨fun h => by rw [h]; rfl, List.eq_nil_of_length_eq_zero⟩
  generalize RightOut _ w = R at *
  generalize KM.Right _ = RI at *
  generalize d.length = dl at *
  generalize CM.Right b s m = CR at *
  show Calls Try.prog 18 #[.agg #[.int .i64 p, .int .i64 n, .int .i64 b, .int .i64 s, .int .i64 m, .int .i64 k, .int .i64 e, .bool g, .int .i64 u, .slice a dl c]] w _
  go_enter Try.func18, Try.ntmps18
  go_wp2_with fail
  generalize hw1 : World.alloc w _ = w1
  obtain ⟨hr1, hx1, hb1⟩ := RCell.new w w1 ⟨p, n, b, s, m, k, e, g, u, d⟩ (.slice a dl c) hw1
  obtain ⟨t0, t1, t2, t3, t4, t5, t6, t7, t8, t9⟩ := RCell.ten hr1
  simp only [Nat.zero_add] at t0 t1 t2 t3 t4 t5 t6 t7 t8 t9
  have HX1 := Lib.hid hx1
  clear hw1 hr1 hx1
  generalize w.heap.size = x at *
  by_cases cp : 0 ≤ p ∧ p ≤ 2147483647
  case neg =>
    refine (wi_no p 0 2147483647 w1 cp).mono ?_
    rintro e w2 ⟨rfl, rfl⟩
    have HP := Lib.hid (HNO.out w1 HX1.out fun h => cp (HR.out.1 h).1)
    clear cp
    go_wp2
    exact HP.out
  refine (wi_yes p 0 2147483647 w1 cp.1 cp.2).mono ?_
  rintro e w2 ⟨rfl, rfl⟩
  go_wp2_with fail
  by_cases cn : 1 ≤ n ∧ n ≤ 2147483647
  case neg =>
    refine (wi_no n 1 2147483647 w1 cn).mono ?_
    rintro e w2 ⟨rfl, rfl⟩
    have HP := Lib.hid (HNO.out w1 HX1.out fun h => cn (HR.out.1 h).2.1)
    clear cn
    go_wp2
    exact HP.out
  refine (wi_yes n 1 2147483647 w1 cn.1 cn.2).mono ?_
  rintro e w2 ⟨rfl, rfl⟩
  go_wp2_with fail
  by_cases cu : 0 ≤ u ∧ u ≤ 2147483647
  case neg =>
    refine (wi_no u 0 2147483647 w1 cu).mono ?_
    rintro e w2 ⟨rfl, rfl⟩
    have HP := Lib.hid (HNO.out w1 HX1.out fun h => cu (HR.out.1 h).2.2.1)
    clear cu
    go_wp2
    exact HP.out
  refine (wi_yes u 0 2147483647 w1 cu.1 cu.2).mono ?_
  rintro e w2 ⟨rfl, rfl⟩
  cases g with
  | true =>
    clear HBC HBK
    have HH : Hid (RI ↔ b = 0 ∧ s = 0 ∧ m = 0 ∧ k = 0 ∧ e = 0 ∧ dl = 0) := by
      refine ⟨fun h => ?_, fun ⟨h1, h2, h3, h4, h5, h6⟩ => HR.out.2 ⟨cp, cn, cu, fun _ => ⟨⟨⟨h1, h2, h3⟩, h4⟩, h5, HD0.out.2 h6⟩, fun h => absurd h (by decide)⟩⟩
      obtain ⟨_, _, _, h4, _⟩ := HR.out.1 h
      obtain ⟨⟨⟨h1, h2, h3⟩, h4⟩, h5, h6⟩ := h4 rfl
      exact ⟨h1, h2, h3, h4, h5, HD0.out.1 h6⟩
    clear HR HD0 cp cn cu
    by_cases hd : dl = 0
    · subst hd
      go_wp2
      · exact HYES.out w1 HX1.out (HH.out.2 ⟨by assumption, by assumption, by assumption, by assumption, by assumption, trivial⟩)
      all_goals first
        | (refine HNO.out w1 HX1.out fun h => ?_
           obtain ⟨h1, h2, h3, h4, h5, _⟩ := HH.out.1 h
           contradiction)
    · have hd' : ((dl : Int) == 0) = false := by rw [beq_eq_false_iff_ne]; omega
      have HN := Lib.hid (HNO.out w1 HX1.out fun h => hd (HH.out.1 h).2.2.2.2.2)
      clear hd
      go_wp2
      all_goals exact HN.out
  | false =>
    have HH : Hid (RI ↔ (0 ≤ k ∧ k ≤ (nk : Int) - 1) ∧ (0 ≤ e ∧ e ≤ 16777215) ∧ (dl : Int) = s) := by
      refine ⟨fun h => ?_, fun ⟨h1, h2, h3⟩ => HR.out.2 ⟨cp, cn, cu, fun h => absurd h (by decide), fun _ => ⟨HBK.out.2 h1, h2, h3⟩⟩⟩
      obtain ⟨_, _, _, _, h5⟩ := HR.out.1 h
      obtain ⟨h1, h2, h3⟩ := h5 rfl
      exact ⟨HBK.out.1 h1, h2, h3⟩
    have HT : Hid (∀ w', w1.Extends w' → w'.cell? ⟨x, 0, none⟩ = some (.int .i64 p) ∧ w'.cell? ⟨x, 1, none⟩ = some (.int .i64 n) ∧ w'.cell? ⟨x, 2, none⟩ = some (.int .i64 b) ∧ w'.cell? ⟨x, 3, none⟩ = some (.int .i64 s) ∧ w'.cell? ⟨x, 4, none⟩ = some (.int .i64 m) ∧
        w'.cell? ⟨x, 5, none⟩ = some (.int .i64 k) ∧ w'.cell? ⟨x, 6, none⟩ = some (.int .i64 e) ∧ w'.cell? ⟨x, 7, none⟩ = some (.bool false) ∧ w'.cell? ⟨x, 8, none⟩ = some (.int .i64 u) ∧ w'.cell? ⟨x, 9, none⟩ = some (.slice a dl c)) := fun w' hw' =>
      ⟨hw'.cell_of t0, hw'.cell_of t1, hw'.cell_of t2, hw'.cell_of t3, hw'.cell_of t4, hw'.cell_of t5, hw'.cell_of t6, hw'.cell_of t7, hw'.cell_of t8, hw'.cell_of t9⟩
    clear HR HBK HD0 cp cn cu
    go_wp2_with fail
    clear t0 t1 t2 t3 t4 t5 t6 t7 t8 t9
    have HXd := Lib.hid (Gr.ext_drew HX1.out)
    refine Gr.region 21 [(false,0),(false,1),(false,2),(false,3),(true,4),(false,5),(true,6),(false,7),(false,8),(false,9),(true,10),(false,11),(false,12),(false,13),(false,14),(false,15),(false,16),(false,17),(false,18),(false,19),(false,20)] (by kernel_rfl) (by kernel_rfl) (fun d _ _ _ _ h => by cases d <;> exact h) ?_
    simp only [Gr.pick, List.getElem?_cons_zero, List.getElem?_cons_succ, List.drop_succ_cons, List.drop_zero]
    have HTd : Hid _ := Lib.hid fun w' (hw' : w1.drew.Extends w') => HT.out w' (Gr.of_drew hw')
    generalize w1.drew = w2 at *
    iterate 4
      refine Gr.walk_t ?_ (Or.inl ⟨by rfl, ?_⟩) ?_
      rotate_left
      · intro w' hw'
        obtain ⟨t0, t1, t2, t3, t4, t5, t6, t7, t8, t9⟩ := HTd.out w' hw'
        clear hw'
        go_simp
        try with_reducible rfl
      simp only [Act.put, List.setIfInBounds_toArray, List.set_cons_zero, List.set_cons_succ]
    refine Gr.walk_c (fun K hK => ?_)
    go_simp
    refine (HBC.out w2).mono ?_
    rintro e w3 ⟨rfl, hx3⟩
    have HT3 := Lib.hid fun w' (hw' : w3.Extends w') => HTd.out w' (Gr.ext_trans hx3 hw')
    have HX3 := Lib.hid (Gr.ext_trans HXd.out hx3)
    try go_simp
    refine hK.out _ _ (hx3) ?_
    clear hK K
    clear hx3 HTd HXd
    have hwr : IntKind.i64.wrap ((nk : Int) - 1) = (nk : Int) - 1 := by rw [IntKind.wrap_i64]; omega
    refine Gr.walk_t ?_ (Or.inl ⟨by rfl, ?_⟩) ?_
    rotate_left
    · intro w' hw'
      clear hw'
      go_simp
      try with_reducible rfl
    simp only [Act.put, List.setIfInBounds_toArray, List.set_cons_zero, List.set_cons_succ]
    clear hwr
    by_cases ck : 0 ≤ k ∧ k ≤ (nk : Int) - 1
    case neg =>
      refine Gr.walk_c (fun K hK => ?_)
      go_simp
      refine (wi_no k 0 ((nk : Int) - 1) w3 ck).mono ?_
      rintro e w4 ⟨rfl, rfl⟩
      try go_simp
      refine hK.out _ _ (Gr.ext_refl _) ?_
      clear hK K
      have HP := Lib.hid (HNO.out w3 HX3.out fun h => ck (HH.out.1 h).1)
      clear ck
      refine Gr.walk_t ?_ (Or.inl ⟨by rfl, ?_⟩) ?_
      rotate_left
      · intro w' hw'
        clear hw'
        go_simp
        try with_reducible rfl
      simp only [Act.put, List.setIfInBounds_toArray, List.set_cons_zero, List.set_cons_succ]
      refine Gr.walk_t _ (Or.inr ⟨by rfl, rfl⟩) ?_
      simp only [Act.put, List.setIfInBounds_toArray, List.set_cons_zero, List.set_cons_succ]
      refine Gr.walk_t _ (Or.inr ⟨by rfl, rfl⟩) ?_
      simp only [Act.put, List.setIfInBounds_toArray, List.set_cons_zero, List.set_cons_succ]
      refine Gr.walk_c (fun K hK => ?_)
      rw [if_neg (by intro h; cases h)]
      refine hK.out _ _ (Gr.ext_refl _) ?_
      clear hK K
      simp only [Act.put, List.setIfInBounds_toArray, List.set_cons_zero, List.set_cons_succ]
      iterate 2
        refine Gr.walk_t ?_ (Or.inl ⟨by rfl, ?_⟩) ?_
        rotate_left
        · intro w' hw'
          clear hw'
          go_simp
          try with_reducible rfl
        simp only [Act.put, List.setIfInBounds_toArray, List.set_cons_zero, List.set_cons_succ]
      refine Gr.walk_t _ (Or.inr ⟨by rfl, rfl⟩) ?_
      simp only [Act.put, List.setIfInBounds_toArray, List.set_cons_zero, List.set_cons_succ]
      refine Gr.walk_t _ (Or.inr ⟨by rfl, rfl⟩) ?_
      simp only [Act.put, List.setIfInBounds_toArray, List.set_cons_zero, List.set_cons_succ]
      refine Gr.walk_t _ (Or.inr ⟨by rfl, rfl⟩) ?_
      simp only [Act.put, List.setIfInBounds_toArray, List.set_cons_zero, List.set_cons_succ]
      refine Gr.walk_t _ (Or.inr ⟨by rfl, rfl⟩) ?_
      simp only [Act.put, List.setIfInBounds_toArray, List.set_cons_zero, List.set_cons_succ]
      refine Gr.walk_t _ (Or.inr ⟨by rfl, rfl⟩) ?_
      simp only [Act.put, List.setIfInBounds_toArray, List.set_cons_zero, List.set_cons_succ]
      refine Gr.walk_t _ (Or.inr ⟨by rfl, rfl⟩) ?_
      simp only [Act.put, List.setIfInBounds_toArray, List.set_cons_zero, List.set_cons_succ]
      refine Gr.walk_t _ (Or.inr ⟨by rfl, rfl⟩) ?_
      simp only [Act.put, List.setIfInBounds_toArray, List.set_cons_zero, List.set_cons_succ]
      refine Gr.walk_t ?_ (Or.inl ⟨by rfl, ?_⟩) ?_
      rotate_left
      · intro w' hw'
        clear hw'
        go_simp
        try with_reducible rfl
      simp only [Act.put, List.setIfInBounds_toArray, List.set_cons_zero, List.set_cons_succ]
      refine Gr.walk_nil ?_
      go_wp2
      exact HP.out
    refine Gr.walk_c (fun K hK => ?_)
    go_simp
    refine (wi_yes k 0 ((nk : Int) - 1) w3 ck.1 ck.2).mono ?_
    rintro e w4 ⟨rfl, rfl⟩
    try go_simp
    refine hK.out _ _ (Gr.ext_refl _) ?_
    clear hK K
    iterate 3
      refine Gr.walk_t ?_ (Or.inl ⟨by rfl, ?_⟩) ?_
      rotate_left
      · intro w' hw'
        obtain ⟨t0, t1, t2, t3, t4, t5, t6, t7, t8, t9⟩ := HT3.out w' hw'
        clear hw'
        go_simp
        try with_reducible rfl
      simp only [Act.put, List.setIfInBounds_toArray, List.set_cons_zero, List.set_cons_succ]
    by_cases ce : 0 ≤ e ∧ e ≤ 16777215
    case neg =>
      refine Gr.walk_c (fun K hK => ?_)
      go_simp
      refine (wi_no e 0 16777215 w3 ce).mono ?_
      rintro e w4 ⟨rfl, rfl⟩
      try go_simp
      refine hK.out _ _ (Gr.ext_refl _) ?_
      clear hK K
      have HP := Lib.hid (HNO.out w3 HX3.out fun h => ce (HH.out.1 h).2.1)
      clear ce
      iterate 2
        refine Gr.walk_t ?_ (Or.inl ⟨by rfl, ?_⟩) ?_
        rotate_left
        · intro w' hw'
          clear hw'
          go_simp
          try with_reducible rfl
        simp only [Act.put, List.setIfInBounds_toArray, List.set_cons_zero, List.set_cons_succ]
      refine Gr.walk_t _ (Or.inr ⟨by rfl, rfl⟩) ?_
      simp only [Act.put, List.setIfInBounds_toArray, List.set_cons_zero, List.set_cons_succ]
      refine Gr.walk_t _ (Or.inr ⟨by rfl, rfl⟩) ?_
      simp only [Act.put, List.setIfInBounds_toArray, List.set_cons_zero, List.set_cons_succ]
      refine Gr.walk_t _ (Or.inr ⟨by rfl, rfl⟩) ?_
      simp only [Act.put, List.setIfInBounds_toArray, List.set_cons_zero, List.set_cons_succ]
      refine Gr.walk_t _ (Or.inr ⟨by rfl, rfl⟩) ?_
      simp only [Act.put, List.setIfInBounds_toArray, List.set_cons_zero, List.set_cons_succ]
      refine Gr.walk_t _ (Or.inr ⟨by rfl, rfl⟩) ?_
      simp only [Act.put, List.setIfInBounds_toArray, List.set_cons_zero, List.set_cons_succ]
      refine Gr.walk_t _ (Or.inr ⟨by rfl, rfl⟩) ?_
      simp only [Act.put, List.setIfInBounds_toArray, List.set_cons_zero, List.set_cons_succ]
      refine Gr.walk_t _ (Or.inr ⟨by rfl, rfl⟩) ?_
      simp only [Act.put, List.setIfInBounds_toArray, List.set_cons_zero, List.set_cons_succ]
      refine Gr.walk_t ?_ (Or.inl ⟨by rfl, ?_⟩) ?_
      rotate_left
      · intro w' hw'
        clear hw'
        go_simp
        try with_reducible rfl
      simp only [Act.put, List.setIfInBounds_toArray, List.set_cons_zero, List.set_cons_succ]
      refine Gr.walk_nil ?_
      go_wp2
      exact HP.out
    refine Gr.walk_c (fun K hK => ?_)
    go_simp
    refine (wi_yes e 0 16777215 w3 ce.1 ce.2).mono ?_
    rintro e w4 ⟨rfl, rfl⟩
    try go_simp
    refine hK.out _ _ (Gr.ext_refl _) ?_
    clear hK K
    by_cases cl : (dl : Int) = s
    · have hcl : (((dl : Int)) == s) = true := by rw [beq_iff_eq]; exact cl
      have HP := Lib.hid (HYES.out w3 HX3.out (HH.out.2 ⟨ck, ce, cl⟩))
      clear cl ck ce
      iterate 10
        refine Gr.walk_t ?_ (Or.inl ⟨by rfl, ?_⟩) ?_
        rotate_left
        · intro w' hw'
          obtain ⟨t0, t1, t2, t3, t4, t5, t6, t7, t8, t9⟩ := HT3.out w' hw'
          clear hw'
          go_simp
          try with_reducible rfl
        simp only [Act.put, List.setIfInBounds_toArray, List.set_cons_zero, List.set_cons_succ]
      refine Gr.walk_nil ?_
      go_wp2
      exact HP.out
    · have hcl : (((dl : Int)) == s) = false := by rw [beq_eq_false_iff_ne]; exact cl
      have HP := Lib.hid (HNO.out w3 HX3.out fun h => cl (HH.out.1 h).2.2)
      clear cl ck ce
      iterate 10
        refine Gr.walk_t ?_ (Or.inl ⟨by rfl, ?_⟩) ?_
        rotate_left
        · intro w' hw'
          obtain ⟨t0, t1, t2, t3, t4, t5, t6, t7, t8, t9⟩ := HT3.out w' hw'
          clear hw'
          go_simp
          try with_reducible rfl
        simp only [Act.put, List.setIfInBounds_toArray, List.set_cons_zero, List.set_cons_succ]
      refine Gr.walk_nil ?_
      go_wp2
      exact HP.out
end Go.Proofs.Ytdbdnfjgmdkneaa
