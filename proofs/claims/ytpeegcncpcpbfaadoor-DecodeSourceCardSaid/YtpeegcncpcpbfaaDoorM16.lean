/- In one text: DecEnough, BlkNew, BlkSym. -/
import Derived.Test.YtpeegcncpcpbfaaDoorM8
import Derived.Test.YtpeegcncpcpbfaaDoorM12
import Derived.Test.YtpeegcncpcpbfaaDoorM13
import Derived.Test.YtpeegcncpcpbfaaDoorM14
import Derived.Test.YtpeegcncpcpbfaaDoorM15
/- decode.Enough, and the reference's. -/
namespace Go.Proofs.YtpeegcncpcpbfaaDoor
set_option maxRecDepth 20000
open Go.RowKit Go.Deep
set_option linter.unusedVariables false
theorem enough_k (k : Int) (v : Value) (w : World) (h : k < 1 ∨ 40 < k) :
    Calls Tryd.prog 15 #[.int .i64 k, v] w (Says False w) := by
  have HO := Lib.hid (fun w => prmOf_bad k w h)
  clear h
  go_enter Tryd.func15, Tryd.ntmps15
  go_wp2_with fail
  refine (HO.out w).mono ?_
  rintro e w1 ⟨rfl, hx1⟩
  have HX1 := Lib.hid hx1
  clear hx1 HO
  go_wp2_with fail
  generalize hw2 : World.alloc w1 _ = w2
  have HP : Hid (Says False w (.returned (.bool false)) w2) := Says.no id (by subst hw2; exact Gr.ext_trans HX1.out (prm_ext_alloc _ _))
  clear hw2
  go_ret
  exact HP.out
theorem enough_none (k : Nat) (v : Value) (w : World) (k1 : 1 ≤ k) (k2 : k ≤ 40) (hT : Tab w) (r : Nat) (hs : SM.SeedIs k r 5) :
    Calls Tryd.prog 15 #[.int .i64 k, v] w (Says False w) := by
  have HO := Lib.hid (fun w => prmOf_good k w k1 k2)
  have HS : Hid (∀ w, Tab w → Calls Tryd.prog 22 #[.int .i64 k] w fun e w' => e = .returned (.tuple #[.int .i64 r, .int .i64 (5 : Nat)]) ∧ w.Extends w') := fun w hT =>
    (find_some k w k1 k2 hT).mono fun e w' ⟨r', er', he, hr', hx⟩ => by
      obtain ⟨rfl, rfl⟩ := hs.uniq hr'
      exact ⟨he, hx⟩
  have HT := Lib.hid hT
  clear hT hs
  generalize PM.s k = S at *
  go_enter Tryd.func15, Tryd.ntmps15
  go_wp2_with fail
  refine (HO.out w).mono ?_
  rintro e w1 ⟨rfl, hx1⟩
  have HX1 := Lib.hid hx1
  clear hx1 HO
  go_wp2_with fail
  generalize hw2 : World.alloc w1 _ = w2
  have HX2 : Hid (w.Extends w2) := by subst hw2; exact Gr.ext_trans HX1.out (prm_ext_alloc _ _)
  clear hw2 HX1
  refine (HS.out w2 (HT.out.ext HX2.out)).mono ?_
  rintro e w3 ⟨rfl, hx3⟩
  have HP : Hid (Says False w (.returned (.bool false)) w3) := Says.no id (Gr.ext_trans HX2.out hx3)
  clear hx3
  go_wp2
  go_ret
  exact HP.out
theorem rank_of_rows (k : Nat) (m : List (List Nat)) (u : Value) (w : World) (k2 : k ≤ 40) (hu : Rws w u m) :
    Calls Tryd.prog 32 #[.int .i64 (PM.l k), u] w (RankOut w (PM.l k) (· < m.length) (rowsF (PM.l k) 0 m [])) := by
  have := rank_any (PM.l k) u m w hu
  rwa [wid_l k k2] at this
theorem rrank_of_rows (k : Nat) (m : List (List Nat)) (u : Value) (w : World) (k2 : k ≤ 40) (hm : m.length ≤ 4000) (hu : Rws w u m) :
    Calls Tryd.prog 35 #[.int .i64 (PM.l k), u] w (RankOut w (PM.l k) (· < m.length) (rowsF (PM.l k) 0 m [])) := by
  have := rrank_any (PM.l k) u m w hu hm
  rwa [wid_l k k2] at this
/-- Over whatever rows Matrix answers. -/
theorem enough_of (k j : Nat) (v : Value) (es : List Int) (m : List (List Nat)) (P : Prop) (w : World) (k1 : 1 ≤ k) (k2 : k ≤ 40) (hv : Ints w v es) (hT : Tab w) (hs : SM.SeedIs k j 0)
    (hm : ∀ w v, Ints w v es → Tab w → Calls Tryd.prog 34 #[PV k (PM.s k) 2, .int .i64 j, v] w (MadeList w m))
    (he : ∀ r : Nat, LA.RankIs (PM.l k) (· < m.length) (rowsF (PM.l k) 0 m []) r → (((r : Int) == (PM.l k : Int)) = true ↔ P)) :
    Calls Tryd.prog 15 #[.int .i64 k, v] w (Says P w) := by
  have hs7 := PM.s_le k k2
  have hlk : (k : Int) + (PM.s k : Int) + 2 = (PM.l k : Int) := by unfold PM.l PM.w; omega
  have hL := prmL_any k (PM.s k) 2
  rw [hlk] at hL
  have HL := Lib.hid (fun w => hL w (by omega) (by omega))
  have HO := Lib.hid (fun w => prmOf_good k w k1 k2)
  have HS : Hid (∀ w, Tab w → Calls Tryd.prog 22 #[.int .i64 k] w fun e w' => e = .returned (.tuple #[.int .i64 j, .int .i64 (0 : Nat)]) ∧ w.Extends w') := fun w hT =>
    (find_some k w k1 k2 hT).mono fun e w' ⟨r', er', he, hr', hx⟩ => by
      obtain ⟨rfl, rfl⟩ := hs.uniq hr'
      exact ⟨he, hx⟩
  have HM := Lib.hid hm
  have HR := Lib.hid (fun u w hu => rank_of_rows k m u w k2 hu)
  have HE := Lib.hid he
  have HT := Lib.hid hT
  have HV := Lib.hid hv
  obtain ⟨a, cap, rfl, _⟩ := hv.slice
  clear hT hs hm he hL hlk hs7 hv
  generalize es.length = n at *
  generalize PM.s k = S at *
  generalize PM.l k = L at *
  go_enter Tryd.func15, Tryd.ntmps15
  go_wp2_with fail
  refine (HO.out w).mono ?_
  rintro e w1 ⟨rfl, hx1⟩
  have HX1 := Lib.hid hx1
  clear hx1 HO
  go_wp2_with fail
  generalize hw2 : World.alloc w1 _ = w2
  have hx2 : w1.Extends w2 := by subst hw2; exact prm_ext_alloc _ _
  have hp : PAt w2 w1.heap.size k S 2 := by subst hw2; exact PAt.new w1 56 k S 2
  generalize w1.heap.size = b at hp ⊢
  have HX2 := Lib.hid (Gr.ext_trans HX1.out hx2)
  have HP2 := Lib.hid hp
  clear hw2 hx2 hp HX1
  refine (HS.out w2 (HT.out.ext HX2.out)).mono ?_
  rintro e w3 ⟨rfl, hx3⟩
  have HX4 := Lib.hid (Gr.ext_drew (Gr.ext_trans HX2.out hx3))
  have HP4 := Lib.hid ((HP2.out.ext hx3).ext (Gr.ext_drew (Gr.ext_refl w3)))
  clear hx3 HX2 HP2 HS
  go_wp2_with fail
  refine Gr.region 10 [(false,0),(false,2),(false,3),(false,4),(false,7),(true,1),(true,5),(true,6),(true,8),(false,9)] (by kernel_rfl) (by kernel_rfl) (fun d _ _ _ _ h => by cases d <;> exact h) ?_
  simp only [Gr.pick, List.getElem?_cons_zero, List.getElem?_cons_succ, List.drop_succ_cons, List.drop_zero]
  generalize w3.drew = w4 at *
  iterate 5
    refine Gr.walk_t ?_ (Or.inl ⟨by rfl, ?_⟩) ?_
    rotate_left
    · intro w' hw'
      obtain ⟨p0, p1, p2⟩ := HP4.out.ext hw'
      clear hw'
      go_simp
      try with_reducible rfl
    simp only [Act.put, List.setIfInBounds_toArray, List.set_cons_zero, List.set_cons_succ]
  refine Gr.walk_c (fun K hK => ?_)
  go_simp
  refine (HL.out w4).mono ?_
  rintro e w5 ⟨rfl, hx5⟩
  have HX5 := Lib.hid (Gr.ext_trans HX4.out hx5)
  try go_simp
  refine hK.out _ _ (hx5) ?_
  clear hK K
  clear hx5 HX4 HP4
  refine Gr.walk_c (fun K hK => ?_)
  go_simp
  refine (HM.out w5 _ (HV.out.ext HX5.out) (HT.out.ext HX5.out)).mono ?_
  rintro e w6 ⟨u6, rfl, hx6, hu6⟩
  have HX6 := Lib.hid (Gr.ext_trans HX5.out hx6)
  have HU6 := Lib.hid hu6
  try go_simp
  refine hK.out _ _ (hx6) ?_
  clear hK K
  clear hx6 hu6 HX5
  refine Gr.walk_c (fun K hK => ?_)
  go_simp
  refine (HR.out u6 w6 HU6.out).mono ?_
  rintro e w7 ⟨r, rfl, hr, hb7⟩
  have hx7 := Gr.ext_of hb7
  have HX7 := Lib.hid (Gr.ext_trans HX6.out hx7)
  have HEQ := Lib.hid (HE.out r hr)
  try go_simp
  refine hK.out _ _ (hx7) ?_
  clear hK K
  clear hx7 hb7 hr HX6 HU6
  refine Gr.walk_c (fun K hK => ?_)
  go_simp
  refine (HL.out w7).mono ?_
  rintro e w8 ⟨rfl, hx8⟩
  have HP : Hid (Says P w (.returned (.bool ((r : Int) == (L : Int)))) w8) := ⟨⟨_, rfl, HEQ.out⟩, Gr.ext_trans HX7.out hx8⟩
  try go_simp
  refine hK.out _ _ (hx8) ?_
  clear hK K
  clear hx8 HX7 HEQ
  refine Gr.walk_t ?_ (Or.inl ⟨by rfl, ?_⟩) ?_
  rotate_left
  · intro w' hw'
    clear hw'
    go_simp
    try with_reducible rfl
  simp only [Act.put, List.setIfInBounds_toArray, List.set_cons_zero, List.set_cons_succ]
  refine Gr.walk_nil ?_
  go_wp2
  go_ret
  exact HP.out
theorem enough_yes (k j : Nat) (v : Value) (es : List Int) (w : World) (k1 : 1 ≤ k) (k2 : k ≤ 40) (hl : es.length ≤ 1000) (hv : Ints w v es) (hT : Tab w) (hs : SM.SeedIs k j 0) (ha : AllOk es) :
    Calls Tryd.prog 15 #[.int .i64 k, v] w (Says (DC.Full k j es) w) :=
  enough_of k j v es (QM.mat k j es) _ w k1 k2 hv hT hs (fun w v hv hT => (mat_some k j v es w k1 k2 (by have := hs.lt; omega) ha hl hv hT).mono fun e w' ⟨u, he, hx, hu⟩ => ⟨u, he, hx, mats_rows hu⟩) fun r hr => DC.eq_full hr
theorem no_rank (k : Nat) {r : Nat} (h : LA.RankIs (PM.l k) (· < ([] : List (List Nat)).length) (rowsF (PM.l k) 0 [] []) r) : ((r : Int) == (PM.l k : Int)) = true ↔ False := by
  have h0 : r = 0 := h.uniq (LA.RankIs.none fun j hj => absurd hj (Nat.not_lt_zero _))
  subst h0
  rw [beq_iff_eq]
  unfold PM.l PM.w PM.s
  exact ⟨fun h => by omega, False.elim⟩
theorem enough_not (k j : Nat) (v : Value) (es : List Int) (w : World) (k1 : 1 ≤ k) (k2 : k ≤ 40) (hv : Ints w v es) (hT : Tab w) (hs : SM.SeedIs k j 0) (ha : ¬ AllOk es) :
    Calls Tryd.prog 15 #[.int .i64 k, v] w (Says False w) :=
  enough_of k j v es [] _ w k1 k2 hv hT hs (fun w v hv hT => (mat_none k (PM.s k) 2 j v es w (fun h => ha h.2.2.2) hv).mono fun e w' ⟨he, hx⟩ => ⟨_, he, hx, Rws.nil _ _ _⟩) fun r hr => no_rank k hr
/-! The reference's. -/
theorem renough_none (k : Int) (v : Value) (r er : Nat) (w : World) (hne : er ≠ 0) (hf : ∀ w, Calls Tryd.prog 19 #[.int .i64 k] w fun e w' => e = .returned (.tuple #[.int .i64 r, .int .i64 er]) ∧ w.Extends w') :
    Calls Tryd.prog 16 #[.int .i64 k, v] w (Says False w) := by
  have HF := Lib.hid hf
  have hn : ((er : Int) != 0) = true := by simp; omega
  clear hf hne
  go_enter Tryd.func16, Tryd.ntmps16
  go_wp2_with fail
  refine (HF.out w).mono ?_
  rintro e w1 ⟨rfl, hx1⟩
  have HP : Hid (Says False w (.returned (.bool false)) w1) := Says.no id hx1
  clear hx1 HF
  go_wp2
  go_ret
  exact HP.out
theorem renough_of (k j : Nat) (v : Value) (es : List Int) (m : List (List Nat)) (P : Prop) (w : World) (k1 : 1 ≤ k) (k2 : k ≤ 40) (hm0 : 1 ≤ m.length) (hm4 : m.length ≤ 4000) (hv : Ints w v es) (hs : SM.SeedIs k j 0)
    (hm : ∀ w v, Ints w v es → Calls Tryd.prog 29 #[.int .i64 k, .int .i64 j, v] w (MadeList w m))
    (he : ∀ r : Nat, LA.RankIs (PM.l k) (· < m.length) (rowsF (PM.l k) 0 m []) r → (((r : Int) == (PM.l k : Int)) = true ↔ P)) :
    Calls Tryd.prog 16 #[.int .i64 k, v] w (Says P w) := by
  have HF : Hid (∀ w, Calls Tryd.prog 19 #[.int .i64 k] w fun e w' => e = .returned (.tuple #[.int .i64 j, .int .i64 (0 : Nat)]) ∧ w.Extends w') := fun w =>
    (refSeed_some k w k1 k2).mono fun e w' ⟨r', er', he, hr', hx⟩ => by
      obtain ⟨rfl, rfl⟩ := hs.uniq hr'
      exact ⟨he, hx⟩
  have HL := Lib.hid (fun w => refL_any k w (by omega))
  have HM := Lib.hid hm
  have HR := Lib.hid (fun u w hu => rrank_of_rows k m u w k2 hm4 hu)
  have HE := Lib.hid he
  have HV := Lib.hid hv
  obtain ⟨a, cap, rfl, _⟩ := hv.slice
  obtain ⟨ml, hml⟩ : ∃ ml, ml = m.length := ⟨_, rfl⟩
  have HML := Lib.hid hml
  rw [← hml] at hm0
  clear hs hm he hv hml hm4
  generalize es.length = n at *
  generalize PM.l k = L at *
  go_enter Tryd.func16, Tryd.ntmps16
  go_wp2_with fail
  refine (HF.out w).mono ?_
  rintro e w1 ⟨rfl, hx1⟩
  have HX1 := Lib.hid hx1
  clear hx1 HF
  go_wp2_with fail
  refine (HM.out w1 _ (HV.out.ext HX1.out)).mono ?_
  rintro e w2 ⟨u2, rfl, hx2, hu2⟩
  have HX2 := Lib.hid (Gr.ext_trans HX1.out hx2)
  have HU2 := Lib.hid hu2
  obtain ⟨ua, uc, rfl, _⟩ := hu2.slice
  rw [← HML.out] at HU2 ⊢
  clear hx2 hu2 HX1 HM
  have hpos : decide ((0 : Int) < (ml : Int)) = true := by simp; omega
  go_wp2_with fail
  refine (HL.out w2).mono ?_
  rintro e w' ⟨rfl, rfl⟩
  go_wp2_with fail
  refine (HR.out _ w2 HU2.out).mono ?_
  rintro e w3 ⟨r, rfl, hr, hb3⟩
  have HX3 := Lib.hid (Gr.ext_trans HX2.out (Gr.ext_of hb3))
  have HEQ := Lib.hid (HE.out r hr)
  clear hr hb3 HX2 HU2
  go_wp2_with fail
  refine (HL.out w3).mono ?_
  rintro e w' ⟨rfl, rfl⟩
  have HP : Hid (Says P w (.returned (.bool ((r : Int) == (L : Int)))) w3) := ⟨⟨_, rfl, HEQ.out⟩, HX3.out⟩
  go_wp2
  go_ret
  exact HP.out
theorem renough_yes (k j : Nat) (v : Value) (es : List Int) (w : World) (k1 : 1 ≤ k) (k2 : k ≤ 40) (hl : es.length ≤ 1000) (hv : Ints w v es) (hs : SM.SeedIs k j 0) (ha : AllOk es) :
    Calls Tryd.prog 16 #[.int .i64 k, v] w (Says (DC.Full k j es) w) :=
  renough_of k j v es (QM.mat k j es) _ w k1 k2 (by rw [QM.mat_length]; omega) (by rw [QM.mat_length]; have := PM.s_le k k2; omega) hv hs (fun w v hv => (refMat_es k j v es w k1 k2 (by have := hs.lt; omega) hl hv).mono fun e w' ⟨hx, hy, _⟩ => by
    obtain ⟨u, he, hm⟩ := hy ha
    exact ⟨u, he, hx, mats_rows hm⟩) fun r hr => DC.eq_full hr
theorem renough_not (k j : Nat) (v : Value) (es : List Int) (w : World) (k1 : 1 ≤ k) (k2 : k ≤ 40) (hl : es.length ≤ 1000) (hv : Ints w v es) (hs : SM.SeedIs k j 0) (ha : ¬ AllOk es) :
    Calls Tryd.prog 16 #[.int .i64 k, v] w (Says False w) := by
  have HF : Hid (∀ w, Calls Tryd.prog 19 #[.int .i64 k] w fun e w' => e = .returned (.tuple #[.int .i64 j, .int .i64 (0 : Nat)]) ∧ w.Extends w') := fun w =>
    (refSeed_some k w k1 k2).mono fun e w' ⟨r', er', he, hr', hx⟩ => by
      obtain ⟨rfl, rfl⟩ := hs.uniq hr'
      exact ⟨he, hx⟩
  have HM : Hid (∀ w v, Ints w v es → Calls Tryd.prog 29 #[.int .i64 k, .int .i64 j, v] w fun e w' => e = .returned (.slice none 0 0) ∧ w.Extends w') := fun w v hv =>
    (refMat_es k j v es w k1 k2 (by have := hs.lt; omega) hl hv).mono fun e w' ⟨hx, _, hn⟩ => ⟨hn ha, hx⟩
  have HV := Lib.hid hv
  obtain ⟨a, cap, rfl, _⟩ := hv.slice
  clear hs hv ha hl
  generalize es.length = n at *
  go_enter Tryd.func16, Tryd.ntmps16
  go_wp2_with fail
  refine (HF.out w).mono ?_
  rintro e w1 ⟨rfl, hx1⟩
  have HX1 := Lib.hid hx1
  clear hx1 HF
  go_wp2_with fail
  refine (HM.out w1 _ (HV.out.ext HX1.out)).mono ?_
  rintro e w2 ⟨rfl, hx2⟩
  have HP : Hid (Says False w (.returned (.bool false)) w2) := Says.no id (Gr.ext_trans HX1.out hx2)
  clear hx2 HX1 HM
  go_wp2
  go_ret
  exact HP.out
/-- Whether any numbers are enough, in both programs. -/
theorem asked_e (k : Int) (es : List Int) (hl : es.length ≤ 1000) : ∃ b : Bool, (∀ v w, Ints w v es → Tab w → Calls Tryd.prog 15 #[.int .i64 k, v] w fun e w' => e = .returned (.bool b) ∧ w.Extends w') ∧
    ∀ v w, Ints w v es → Calls Tryd.prog 16 #[.int .i64 k, v] w fun e w' => e = .returned (.bool b) ∧ w.Extends w' := by
  have hno : ∀ {w e w'}, Says False w e w' → e = .returned (.bool false) ∧ w.Extends w' := fun {w e w'} ⟨⟨b, he, hb⟩, hx⟩ => by
    cases b with
    | false => exact ⟨he, hx⟩
    | true => exact (hb.1 rfl).elim
  by_cases hk : k < 1 ∨ 40 < k
  · exact ⟨false, fun v w _ _ => (enough_k k v w hk).mono fun _ _ => hno, fun v w _ => (renough_none k v 0 1 w (by omega) (fun w => refSeed_none k w hk)).mono fun _ _ => hno⟩
  · obtain ⟨n, rfl⟩ := Int.eq_ofNat_of_zero_le (show 0 ≤ k by omega)
    obtain ⟨r, er, hr⟩ := seed_exists n
    have k1 : 1 ≤ n := by omega
    have k2 : n ≤ 40 := by omega
    have hr0 := hr
    rcases hr with ⟨rfl, _⟩ | ⟨rfl, _⟩
    · by_cases ha : AllOk es
      · by_cases hf : DC.Full n r es
        · have hyes : ∀ {w e w'}, Says (DC.Full n r es) w e w' → e = .returned (.bool true) ∧ w.Extends w' := fun {w e w'} ⟨⟨b, he, hb⟩, hx⟩ => by
            obtain rfl := hb.2 hf
            exact ⟨he, hx⟩
          exact ⟨true, fun v w hv hT => (enough_yes n r v es w k1 k2 hl hv hT hr0 ha).mono fun _ _ => hyes, fun v w hv => (renough_yes n r v es w k1 k2 hl hv hr0 ha).mono fun _ _ => hyes⟩
        · have hnot : ∀ {w e w'}, Says (DC.Full n r es) w e w' → e = .returned (.bool false) ∧ w.Extends w' := fun {w e w'} ⟨⟨b, he, hb⟩, hx⟩ => by
            cases b with
            | false => exact ⟨he, hx⟩
            | true => exact (hf (hb.1 rfl)).elim
          exact ⟨false, fun v w hv hT => (enough_yes n r v es w k1 k2 hl hv hT hr0 ha).mono fun _ _ => hnot, fun v w hv => (renough_yes n r v es w k1 k2 hl hv hr0 ha).mono fun _ _ => hnot⟩
      · exact ⟨false, fun v w hv hT => (enough_not n r v es w k1 k2 hv hT hr0 ha).mono fun _ _ => hno, fun v w hv => (renough_not n r v es w k1 k2 hl hv hr0 ha).mono fun _ _ => hno⟩
    · exact ⟨false, fun v w hv hT => (enough_none n v w k1 k2 hT r hr0).mono fun _ _ => hno, fun v w hv => (renough_none n v r 5 w (by omega) fun w => (refSeed_some n w k1 k2).mono fun e w' ⟨r', er', he, hr', hx⟩ => by
        obtain ⟨rfl, rfl⟩ := hr0.uniq hr'
        exact ⟨he, hx⟩).mono fun _ _ => hno⟩
end Go.Proofs.YtpeegcncpcpbfaaDoor
/- Package block: New. -/
namespace Go.Proofs.YtpeegcncpcpbfaaDoor
set_option maxRecDepth 20000
open Go.RowKit Go.Deep
set_option linter.unusedVariables false
/-- A block laid at b; v: its parts. -/
def BAt (w : World) (b : Nat) (k s h j size : Int) (v : Value) : Prop :=
  w.cell? ⟨b, 0, none⟩ = some (.int .i64 k) ∧ w.cell? ⟨b, 1, none⟩ = some (.int .i64 s) ∧ w.cell? ⟨b, 2, none⟩ = some (.int .i64 h) ∧
  w.cell? ⟨b, 3, none⟩ = some (.int .i64 j) ∧ w.cell? ⟨b, 4, none⟩ = some (.int .i64 size) ∧ w.cell? ⟨b, 5, none⟩ = some v
theorem BAt.ext {w w' : World} {b : Nat} {k s h j size : Int} {v : Value} (hp : BAt w b k s h j size v) (hx : w.Extends w') : BAt w' b k s h j size v :=
  ⟨hx.cell_of hp.1, hx.cell_of hp.2.1, hx.cell_of hp.2.2.1, hx.cell_of hp.2.2.2.1, hx.cell_of hp.2.2.2.2.1, hx.cell_of hp.2.2.2.2.2⟩
theorem BAt.new (w : World) (T : TypeId) (k s h j size : Int) (v : Value) : BAt (w.alloc (.cells #[.int .i64 k, .int .i64 s, .int .i64 h, .int .i64 j, .int .i64 size, v] T)) w.heap.size k s h j size v := by
  have h0 := heap_alloc_new w (.cells #[.int .i64 k, .int .i64 s, .int .i64 h, .int .i64 j, .int .i64 size, v] T)
  exact ⟨by rw [cell_of_row _ _ _ _ _ _ h0]; rfl, by rw [cell_of_row _ _ _ _ _ _ h0]; rfl, by rw [cell_of_row _ _ _ _ _ _ h0]; rfl, by rw [cell_of_row _ _ _ _ _ _ h0]; rfl, by rw [cell_of_row _ _ _ _ _ _ h0]; rfl, by rw [cell_of_row _ _ _ _ _ _ h0]; rfl⟩
/-- No block, and why. -/
def NoBlock (w : World) (err : Int) (e : Ending) (w' : World) : Prop := e = .returned (.tuple #[.pointer none, .int .i64 err]) ∧ w.Extends w'
/-- A block of the call's own. -/
def BNew (w : World) (k j size : Nat) (c : List (List Nat)) (e : Ending) (w' : World) : Prop :=
  ∃ b v, e = .returned (.tuple #[.pointer (some ⟨b, 0, none⟩), .int .i64 0]) ∧ w.Extends w' ∧ BAt w' b k (PM.s k) 2 j size v ∧ Rws w' v c
theorem seed5 {k r er : Nat} (h : SM.SeedIs k r er) : er = 0 ∨ er = 5 := by
  rcases h with ⟨h, _⟩ | ⟨h, _⟩
  · exact .inl h
  · exact .inr h
end Go.Proofs.YtpeegcncpcpbfaaDoor
/- Package block: Symbol and Size; the reference's Symbol. -/
namespace Go.Proofs.YtpeegcncpcpbfaaDoor
set_option maxRecDepth 20000
open Go.RowKit Go.Deep
set_option linter.unusedVariables false
/-- A symbol and an error. -/
def SymOut (w : World) (row : List Nat) (err : Int) (e : Ending) (w' : World) : Prop := ∃ v, e = .returned (.tuple #[v, .int .i64 err]) ∧ w.Extends w' ∧ RowOk w' 0 v row
/-- The symbol of a number, nothing where there is none; and the error. -/
def symOf (k j size : Nat) (c : List (List Nat)) (esi : Int) : List Nat := if EsiOk esi then DM.drop k j size c esi.toNat else []
def symErr (esi : Int) : Int := if EsiOk esi then 0 else 1
/-- The reference's block. -/
def RAt (w : World) (b : Nat) (k j size : Int) (v : Value) : Prop :=
  w.cell? ⟨b, 0, none⟩ = some (.int .i64 k) ∧ w.cell? ⟨b, 1, none⟩ = some (.int .i64 j) ∧ w.cell? ⟨b, 2, none⟩ = some (.int .i64 size) ∧ w.cell? ⟨b, 3, none⟩ = some v
theorem RAt.ext {w w' : World} {b : Nat} {k j size : Int} {v : Value} (hp : RAt w b k j size v) (hx : w.Extends w') : RAt w' b k j size v :=
  ⟨hx.cell_of hp.1, hx.cell_of hp.2.1, hx.cell_of hp.2.2.1, hx.cell_of hp.2.2.2⟩
theorem RAt.new (w : World) (T : TypeId) (k j size : Int) (v : Value) : RAt (w.alloc (.cells #[.int .i64 k, .int .i64 j, .int .i64 size, v] T)) w.heap.size k j size v := by
  have h0 := heap_alloc_new w (.cells #[.int .i64 k, .int .i64 j, .int .i64 size, v] T)
  exact ⟨by rw [cell_of_row _ _ _ _ _ _ h0]; rfl, by rw [cell_of_row _ _ _ _ _ _ h0]; rfl, by rw [cell_of_row _ _ _ _ _ _ h0]; rfl, by rw [cell_of_row _ _ _ _ _ _ h0]; rfl⟩
set_option maxHeartbeats 1000000 in
set_option maxRecDepth 100000 in
theorem refSymbol_any (b k j size : Nat) (esi : Int) (v : Value) (c : List (List Nat)) (w : World) (k1 : 1 ≤ k) (k2 : k ≤ 40) (hj : j ≤ 255) (h1 : 1 ≤ size) (h2 : size ≤ 64) (hl : c.length = PM.l k) (hb : RAt w b k j size v) (hv : Rws w v c) :
    Calls Tryd.prog 18 #[.pointer (some ⟨b, 0, none⟩), .int .i64 esi] w (SymOut w (symOf k j size c esi) (symErr esi)) := by
  by_cases he : EsiOk esi
  · have he' := he
    obtain ⟨en, rfl⟩ := Int.eq_ofNat_of_zero_le he'.1
    have hen : en < 16777216 := by have := he'.2; omega
    unfold symOf symErr
    rw [if_pos he, if_pos he, Int.toNat_natCast]
    have HD : Hid (∀ w', w.Extends w' → Calls Tryd.prog 31 #[.int .i64 k, .int .i64 j, .int .i64 size, v, .int .i64 en] w' (RowNew w' (DM.drop k j size c en))) := fun w' hx =>
      (refDrop_some k j size en v c w' k1 k2 hj (by omega) h1 h2 hl (hv.ext hx)).mono fun _ _ h => new_made h
    generalize DM.drop k j size c en = row at *
    have HB := Lib.hid (hb.ext (Gr.ext_drew (Gr.ext_refl w)))
    clear hb hv he he' hl h1 h2 k1 k2 hj
    go_enter Tryd.func18, Tryd.ntmps18
    go_wp2_with fail
    have HX1 : Hid (w.Extends w.drew) := Gr.ext_drew (Gr.ext_refl w)
    refine Gr.region 18 [(false,0),(false,1),(false,2),(false,3),(false,4),(false,5),(false,6),(false,7),(false,8),(false,9),(false,10),(false,11),(false,12),(false,13),(false,14),(false,15),(false,16),(true,17)] (by kernel_rfl) (by kernel_rfl) (fun d _ _ _ _ h => by cases d <;> exact h) ?_
    simp only [Gr.pick, List.getElem?_cons_zero, List.getElem?_cons_succ, List.drop_succ_cons, List.drop_zero]
    generalize w.drew = w1 at *
    iterate 17
      refine Gr.walk_t ?_ (Or.inl ⟨by rfl, ?_⟩) ?_
      rotate_left
      · intro w' hw'
        obtain ⟨p0, p1, p2, p3⟩ := HB.out.ext hw'
        clear hw'
        go_simp
        try with_reducible rfl
      simp only [Act.put, List.setIfInBounds_toArray, List.set_cons_zero, List.set_cons_succ]
    refine Gr.walk_c (fun K hK => ?_)
    go_simp
    refine (HD.out w1 HX1.out).mono ?_
    rintro e w2 ⟨u, rfl, hx2, hu⟩
    have HP : Hid (SymOut w row 0 (.returned (.tuple #[u, .int .i64 0])) w2) := ⟨_, rfl, Gr.ext_trans HX1.out hx2, hu⟩
    try go_simp
    refine hK.out _ _ (hx2) ?_
    clear hK K
    clear hx2 hu HX1 HD HB
    refine Gr.walk_nil ?_
    go_wp2
    go_returns
    exact HP.out
  · have HP : Hid (SymOut w [] 1 (.returned (.tuple #[.slice none 0 0, .int .i64 1])) w) := ⟨_, rfl, Gr.ext_refl _, nil_ok _ _⟩
    unfold symOf symErr
    rw [if_neg he, if_neg he]
    clear hb hv
    unfold EsiOk at he
    by_cases c1 : esi < 0
    rotate_left
    have c2 : 16777216 ≤ esi := by omega
    all_goals
      clear he
      go_enter Tryd.func18, Tryd.ntmps18
      go_wp2
      go_returns
      exact HP.out
end Go.Proofs.YtpeegcncpcpbfaaDoor
