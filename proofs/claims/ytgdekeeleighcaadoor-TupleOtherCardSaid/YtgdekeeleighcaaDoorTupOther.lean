/- The third statement's function answers true. -/
import Derived.Test.YtgdekeeleighcaaDoorTupLaw
import Derived.Deep.DeepCutAuto
namespace Go.Proofs.YtgdekeeleighcaaDoor
open Go.RowKit Go.Deep
set_option linter.unusedVariables false
theorem other_far (k s h j esi : Int) (w : World) (hT : Tab w) (hb : k < -100 ∨ k > 100 ∨ s < -100 ∨ s > 100 ∨ h < -100 ∨ h > 100) :
    Calls Tryd.prog 5 #[.int .i64 k, .int .i64 s, .int .i64 h, .int .i64 j, .int .i64 esi] w fun e w' => e = .returned (.bool true) ∧ w.Extends w' := by
  have HA := Lib.hid (alive6_any w hT)
  have HB := Lib.hid hb
  clear hT hb
  by_cases c1 : k < -100
  rotate_left
  by_cases c2 : k > 100
  rotate_left
  by_cases c3 : s < -100
  rotate_left
  by_cases c4 : s > 100
  rotate_left
  by_cases c5 : h < -100
  rotate_left
  have c6 : h > 100 := by have := HB.out; omega
  all_goals
    clear HB
    go_enter Tryd.func5, Tryd.ntmps5
    go_wp2_with fail
    refine HA.out.mono ?_
    rintro e w1 ⟨rfl, hx1⟩
    have HX1 := Lib.hid hx1
    clear hx1
    go_wp2
    go_ret
    exact ⟨rfl, HX1.out⟩
/-- Whether there are parts, and why: what p == q, p != Params{} and the bounds say. -/
def OtherCase (k s h j esi k' s' h' : Int) (ok : Bool) : Prop :=
  (ok = true ∧ k = k' ∧ s = s' ∧ h = h' ∧ (k == 0) = false ∧ 0 ≤ j ∧ j ≤ 255 ∧ 0 ≤ esi ∧ esi < 16777216) ∨
  (ok = false ∧ ((k = 0 ∧ s = 0 ∧ h = 0 ∧ k' = 0 ∧ s' = 0 ∧ h' = 0) ∨ (k == k') = false ∨ (s == s') = false ∨ (h == h') = false ∨
    (k = k' ∧ s = s' ∧ h = h' ∧ (k == 0) = false ∧ (j < 0 ∨ (0 ≤ j ∧ j > 255) ∨ (0 ≤ j ∧ j ≤ 255 ∧ esi < 0) ∨ (0 ≤ j ∧ j ≤ 255 ∧ 0 ≤ esi ∧ esi ≥ 16777216)))))
set_option maxRecDepth 100000 in
set_option maxHeartbeats 2000000 in
theorem other_near (k s h j esi k' s' h' er : Int) (ok : Bool) (l : List Int) (xs : List Nat) (w : World) (hT : Tab w) (hb : ¬ (k < -100 ∨ k > 100 ∨ s < -100 ∨ s > 100 ∨ h < -100 ∨ h > 100))
    (ho : ∀ w, Calls Tryd.prog 9 #[.int .i64 k] w fun e w' => e = .returned (.tuple #[PV k' s' h', .int .i64 er]) ∧ w.Extends w')
    (hp : ∀ w, Tab w → Calls Tryd.prog 11 #[PV k s h, .int .i64 j, .int .i64 esi] w (IntsOut w l))
    (hr : ∀ w, Tab w → Calls Tryd.prog 13 #[PV k s h, .int .i64 j, .int .i64 esi] w (BytesOut w xs))
    (hl : decide ((0 : Int) < (l.length : Int)) = ok) (hx : decide ((0 : Int) < (xs.length : Int)) = ok) (hn : ok = false → xs = []) (hc : OtherCase k s h j esi k' s' h' ok) :
    Calls Tryd.prog 5 #[.int .i64 k, .int .i64 s, .int .i64 h, .int .i64 j, .int .i64 esi] w fun e w' => e = .returned (.bool true) ∧ w.Extends w' := by
  have HA := Lib.hid (alive6_any w hT)
  have HT := Lib.hid hT
  have HO := Lib.hid ho
  have HP := Lib.hid hp
  have HR := Lib.hid hr
  have HN := Lib.hid hn
  have HC := Lib.hid hc
  have HL := Lib.hid hl
  have HXS := Lib.hid hx
  clear hT ho hp hr hn hc hl hx
  obtain ⟨⟨⟨⟨⟨b1, b2⟩, b3⟩, b4⟩, b5⟩, b6⟩ : ((((¬ k < -100 ∧ ¬ k > 100) ∧ ¬ s < -100) ∧ ¬ s > 100) ∧ ¬ h < -100) ∧ ¬ h > 100 := by omega
  clear hb
  go_enter Tryd.func5, Tryd.ntmps5
  go_wp2_with fail
  refine HA.out.mono ?_
  rintro e w1 ⟨rfl, hx1⟩
  have HX1 := Lib.hid hx1
  clear hx1 HA
  go_upto_region 5 with fail
  generalize hw2 : World.alloc w1 _ = w2
  have hx2 : w1.Extends w2 := by subst hw2; exact prm_ext_alloc _ _
  have hp2 : PAt w2 w1.heap.size k s h := by subst hw2; exact PAt.new w1 24 k s h
  generalize w1.heap.size = b at hp2 ⊢
  clear hw2
  have HX2 := Lib.hid (Gr.ext_trans HX1.out hx2)
  have HP2 := Lib.hid hp2
  clear hx2 hp2 HX1
  go_wp2_with fail
  refine (HO.out w2).mono ?_
  rintro e w3 ⟨rfl, hx3⟩
  have HX3 := Lib.hid (Gr.ext_trans HX2.out hx3)
  have HP3 := Lib.hid (HP2.out.ext hx3)
  clear hx3 HX2 HP2
  go_upto_region 6 with fail
  generalize hw4 : World.alloc w3 _ = w4
  have hx4 : w3.Extends w4 := by subst hw4; exact prm_ext_alloc _ _
  have hq4 : PAt w4 w3.heap.size k' s' h' := by subst hw4; exact PAt.new w3 24 k' s' h'
  generalize w3.heap.size = q at hq4 ⊢
  clear hw4
  have HX4 := Lib.hid (Gr.ext_trans HX3.out hx4)
  have HP4 := Lib.hid (HP3.out.ext hx4)
  have HQ4 := Lib.hid hq4
  clear hx4 hq4 HX3 HP3
  go_cut [15] (fun s15 wx => s15 = .bool ok ∧ w4 = wx)
  case first =>
    obtain ⟨p0, p1, p2⟩ := HP4.out
    obtain ⟨q0, q1, q2⟩ := HQ4.out
    clear HL HXS HN HO HP HR
    rcases HC.out with ⟨rfl, rfl, rfl, rfl, hk0, j0, j1, e0, e1⟩ | ⟨rfl, ⟨rfl, rfl, rfl, rfl, rfl, rfl⟩ | hd | hd | hd | ⟨rfl, rfl, rfl, hk0, hj | ⟨j0, hj⟩ | ⟨j0, j1, hj⟩ | ⟨j0, j1, e0, hj⟩⟩⟩
    all_goals
      clear HC
      go_wp2_with fail
      go_meet
      refine ⟨?_, rfl⟩
      first | rfl | (congr 1; simp; omega) | (congr 1; simp [*]; done) | trace_state
  case rest =>
    obtain ⟨rfl, rfl⟩ := hcut
    have HCV := Lib.hid (conv_row (nil_u8s w4 none 0))
    clear HC HQ4
    obtain ⟨p0, p1, p2⟩ := HP4.out
    go_wp2_with fail
    refine (HR.out w4 (HT.out.ext HX4.out)).mono ?_
    rintro e w5 ⟨v1, rfl, hx5, hu⟩
    have HX5 := Lib.hid (Gr.ext_trans HX4.out hx5)
    have HP5 := Lib.hid (HP4.out.ext hx5)
    have HU := Lib.hid hu
    obtain ⟨a1, c1, rfl, hc1, hc2⟩ := hu.slice
    clear hx5 HX4 HP4 p0 p1 p2 hu hc1 hc2
    obtain ⟨p0, p1, p2⟩ := HP5.out
    go_wp2_with fail
    refine (HP.out w5 (HT.out.ext HX5.out)).mono ?_
    rintro e w6 ⟨v2, rfl, hx6, hi⟩
    have HX6 := Lib.hid (Gr.ext_trans HX5.out hx6)
    have hcv := conv_row (HU.out.ext hx6)
    have hcn := conv_row (nil_u8s w6 none 0)
    obtain ⟨a2, c2, rfl, hc1, hc2⟩ := hi.slice
    clear hx6 HX5 HP5 p0 p1 p2 hi hc1 hc2
    cases ok with
    | true =>
      have hl : 0 < l.length := by have := of_decide_eq_true HL.out; omega
      have hxs : 0 < xs.length := by have := of_decide_eq_true HXS.out; omega
      clear HCV hcv hcn HL HXS
      generalize l.length = nl at *
      generalize xs.length = nx at *
      go_wp2
      go_ret
      exact ⟨rfl, HX6.out⟩
    | false =>
      have hl : ¬ 0 < l.length := by have := of_decide_eq_false HL.out; omega
      obtain rfl := HN.out rfl
      simp only [List.length_nil] at hcv
      clear HCV HL HXS
      generalize l.length = nl at *
      obtain rfl : nl = 0 := by omega
      go_wp2
      go_ret
      exact ⟨by simp, HX6.out⟩
theorem TupleOther_walk (k s h j esi : Int) (w : World) (_ : -9223372036854775808 ≤ k ∧ k ≤ 9223372036854775807) (_ : -9223372036854775808 ≤ s ∧ s ≤ 9223372036854775807) (_ : -9223372036854775808 ≤ h ∧ h ≤ 9223372036854775807)
    (_ : -9223372036854775808 ≤ j ∧ j ≤ 9223372036854775807) (_ : -9223372036854775808 ≤ esi ∧ esi ≤ 9223372036854775807) (hT : Tab w) :
    Calls Tryd.prog 5 #[.int .i64 k, .int .i64 s, .int .i64 h, .int .i64 j, .int .i64 esi] w fun e w' => e = .returned (.bool true) ∧ Below w.heap.size w w' := by
  suffices H : Calls Tryd.prog 5 #[.int .i64 k, .int .i64 s, .int .i64 h, .int .i64 j, .int .i64 esi] w fun e w' => e = .returned (.bool true) ∧ w.Extends w' from H.mono fun e w' h => ⟨h.1, Gr.below_of h.2⟩
  by_cases hb : k < -100 ∨ k > 100 ∨ s < -100 ∨ s > 100 ∨ h < -100 ∨ h > 100
  · exact other_far k s h j esi w hT hb
  by_cases hf : Fits k s h j esi
  · obtain ⟨⟨n, rfl, n1, n2, rfl, rfl⟩, j0, j1, e0, e1⟩ := hf
    obtain ⟨jn, rfl⟩ := Int.eq_ofNat_of_zero_le j0
    obtain ⟨en, rfl⟩ := Int.eq_ofNat_of_zero_le e0
    have hl := parts_two n jn en
    have hx : 0 < (TM.row n jn en).length := by unfold TM.row; rw [TM.marks_length]; unfold PM.l; omega
    refine other_near n (PM.s n) 2 jn en n (PM.s n) 2 0 true (nats (TM.parts n jn en)) (TM.row n jn en) w hT hb (fun w => prmOf_good n w n1 n2) (fun w hT => ?_) (fun w hT => ?_) (decide_eq_true (by omega)) (decide_eq_true (by omega)) (fun h => by cases h) (.inl ⟨rfl, rfl, rfl, rfl, by rw [beq_eq_false_iff_ne]; omega, j0, j1, e0, e1⟩)
    · exact (parts_some n jn en w n1 n2 (by omega) (by omega) hT).mono fun _ _ h => ints_of (l := TM.parts n jn en) h
    · exact (row_some n jn en w n1 n2 (by omega) (by omega) hT).mono fun _ _ h => bytes_of h
  · have hp := fun w (_ : Tab w) => (parts_none k s h j esi w hf).mono fun _ _ h => ints_nil h.1 h.2
    have hr := fun w (_ : Tab w) => (row_none k s h j esi w hf).mono fun _ _ h => bytes_nil h.1 h.2
    by_cases hk : k < 1 ∨ 40 < k
    · refine other_near k s h j esi 0 0 0 1 false [] [] w hT hb (fun w => prmOf_bad k w hk) hp hr rfl rfl (fun _ => rfl) (.inr ⟨rfl, ?_⟩)
      by_cases h1 : k = 0
      · by_cases h2 : s = 0
        · by_cases h3 : h = 0
          · exact .inl ⟨h1, h2, h3, rfl, rfl, rfl⟩
          · exact .inr (.inr (.inr (.inl (by simpa using h3))))
        · exact .inr (.inr (.inl (by simpa using h2)))
      · exact .inr (.inl (by simpa using h1))
    · obtain ⟨n, rfl⟩ := Int.eq_ofNat_of_zero_le (show 0 ≤ k by omega)
      refine other_near n s h j esi n (PM.s n) 2 0 false [] [] w hT hb (fun w => prmOf_good n w (by omega) (by omega)) hp hr rfl rfl (fun _ => rfl) (.inr ⟨rfl, ?_⟩)
      by_cases h2 : s = (PM.s n : Int)
      · by_cases h3 : h = 2
        · refine .inr (.inr (.inr (.inr ⟨rfl, h2, h3, by rw [beq_eq_false_iff_ne]; omega, ?_⟩)))
          have hnf : ¬ (0 ≤ j ∧ j ≤ 255 ∧ 0 ≤ esi ∧ esi < 16777216) := fun hh => hf ⟨⟨n, rfl, by omega, by omega, h2, h3⟩, hh⟩
          omega
        · exact .inr (.inr (.inr (.inl (by simpa using h3))))
      · exact .inr (.inr (.inl (by simpa using h2)))
end Go.Proofs.YtgdekeeleighcaaDoor
