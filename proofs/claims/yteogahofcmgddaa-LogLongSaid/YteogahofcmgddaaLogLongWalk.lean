/- The walk of LogLong. -/
import Derived.Test.YteogahofcmgddaaLogLaw
namespace Go.Proofs.Yteogahofcmgddaa
set_option maxRecDepth 20000
open Go.RowKit Go.Deep
set_option linter.unusedVariables false
set_option maxHeartbeats 1000000 in
theorem LogLong_walk (n : Int) (w : World) (hn : (Lit.int .i64 n).wf = true) :
    Calls Try.prog 5 #[.int .i64 n] w fun e w' => e = .returned (.bool true) ∧ Below w.heap.size w w' := by
  have hb := bounds_i64 hn
  clear hn
  by_cases h1 : n < 65000
  · go_enter Try.func5, Try.ntmps5
    go_wp2_with fail
    refine (alive15_any w).mono ?_
    rintro e w1 ⟨rfl, hx1⟩
    have HX1 := Lib.hid hx1
    clear hx1
    go_wp2
    go_ret
    exact ⟨rfl, Gr.below_of HX1.out⟩
  · by_cases h2 : 66000 < n
    · go_enter Try.func5, Try.ntmps5
      go_wp2_with fail
      refine (alive15_any w).mono ?_
      rintro e w1 ⟨rfl, hx1⟩
      have HX1 := Lib.hid hx1
      clear hx1
      go_wp2
      go_ret
      exact ⟨rfl, Gr.below_of HX1.out⟩
    · obtain ⟨m, rfl⟩ := Int.eq_ofNat_of_zero_le (show 0 ≤ n by omega)
      have h3 : 65000 ≤ m := by omega
      have h4 : m ≤ 66000 := by omega
      have hd1 : decide ((m : Int) < 65000) = false := by simp; omega
      have hd2 : decide (66000 < (m : Int)) = false := by simp; omega
      clear h1 h2 hb
      have hmk := fun w => mkBytes m (by omega) w
      go_enter Try.func5, Try.ntmps5
      go_wp2_with fail
      refine (alive15_any w).mono ?_
      rintro e w1 ⟨rfl, hx1⟩
      have HX1 := Lib.hid hx1
      clear hx1
      go_wp2_with fail
      generalize hw2 : World.alloc w1 _ = w2
      generalize hw3 : World.alloc w2 _ = w3
      obtain ⟨t, ht⟩ : ∃ t, t = w1.heap.size := ⟨_, rfl⟩
      have hsz : w2.heap.size = t + 1 := by subst hw2; simp [ht]
      have hl2 : LAt w2 t [] 0 := by subst hw2; rw [ht]; exact LAt.new w1
      have hx2 : w1.Extends w2 := by subst hw2; exact ext_alloc _ _
      have hx3 : w2.Extends w3 := by subst hw3; exact ext_alloc _ _
      have hu3 : U8s w3 (.slice (some ⟨t + 1, 0, none⟩) m m) (List.replicate m 0) := by
        have h := (Own.made w2 m 5 (by unfold maxLen; omega)).u8s
        rw [hw3, hsz, List.length_replicate] at h
        exact h
      rw [← ht]
      have HL3 := Lib.hid (hl2.ext hx3)
      have HU3 := Lib.hid hu3
      have HX3 := Lib.hid (Gr.ext_trans HX1.out (Gr.ext_trans hx2 hx3))
      have HT : Hid (w.heap.size ≤ t) := by rw [ht]; exact HX1.out.size
      clear hw2 hw3 hsz hl2 hx2 hx3 hu3 ht hmk hd1 hd2
      have hlen : (List.replicate m 0).length = m := List.length_replicate
      generalize List.replicate m 0 = r at *
      have HLEN := Lib.hid hlen
      clear hlen
      by_cases h5 : 65535 < m
      · refine (append15_long t 0 [] _ r w3 HL3.out HU3.out (by rw [HLEN.out]; exact h5)).mono ?_
        rintro e w4 ⟨rfl, rfl⟩
        clear HU3
        go_wp2_with fail
        refine (num15_any 3 w3).mono ?_
        rintro e w4 ⟨rfl, rfl⟩
        go_wp2_with fail
        refine (len15_any t 0 [] w3 HL3.out).mono ?_
        rintro e w4 ⟨rfl, rfl⟩
        rw [show LM.size [] = 0 from rfl]
        go_wp2
        go_ret
        exact ⟨rfl, Gr.below_of HX3.out⟩
      · refine (append15_ok t 0 [] _ r w3 HL3.out HU3.out (by rw [HLEN.out]; omega) (by decide)).mono ?_
        rintro e w4 ⟨rfl, hl4, hg4⟩
        have HL4 := Lib.hid hl4
        have HX4 : Hid (w.Extends w4) := ext_own HX3.out hg4 (fun x hx => by have := Option.some.inj hx; have := HT.out; omega)
        clear hl4 hg4 HU3 HL3 HX3
        go_wp2_with fail
        refine (all15_any t 0 _ w4 HL4.out (by simp)).mono ?_
        rintro e w5 ⟨v, rfl, hx5, hr5⟩
        obtain ⟨a, c, rfl, _⟩ := hr5.slice
        obtain ⟨b, off, rfl, hb, hcell⟩ := hr5.at.2 (by simp)
        obtain ⟨ra, rc, hc0, hu0⟩ := hcell 0 (by simp)
        have hc1 : w5.cell? ⟨b, off, none⟩ = some (.slice ra m rc) := by
          have h : w5.cell? ⟨b, off, none⟩ = some (.slice ra r.length rc) := hc0
          rwa [HLEN.out] at h
        have HL5 := Lib.hid (HL4.out.ext hx5)
        have HX5 := Lib.hid (Gr.ext_trans HX4.out hx5)
        clear hcell hc0 hu0 hr5 hx5 HL4 HX4
        go_wp2_with fail
        refine (num15_any 0 w5).mono ?_
        rintro e w6 ⟨rfl, rfl⟩
        go_wp2_with fail
        refine (len15_any t 0 _ w5 HL5.out).mono ?_
        rintro e w6 ⟨rfl, rfl⟩
        rw [show LM.size ([] ++ [r]) = m + 2 by rw [LM.size_snoc, HLEN.out]; simp only [LM.size]; omega]
        go_wp2
        go_ret
        exact ⟨rfl, Gr.below_of HX5.out⟩
end Go.Proofs.Yteogahofcmgddaa
