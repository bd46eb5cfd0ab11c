/- In one text: LetLimits. -/
import Derived.Deep.DeepCutAuto
import Derived.Test.YtdbdnfjgmdkneaaMD12
import Derived.Test.YtdbdnfjgmdkneaaMD14
namespace Go.Proofs.Ytdbdnfjgmdkneaa
set_option maxRecDepth 20000
open Go.RowKit Go.Deep
set_option linter.unusedVariables false
theorem lask (l : Lt) (hd : ∀ r ∈ l.rs, ∀ x ∈ r.d, x < 256) (ok : Bool) (h : ok = true ↔ LQ.Right l) (vp vr : Value) (w : World) (hv : LetV w vp vr l) :
    Calls Try.prog 49 #[l.val vp vr] w fun e w' => ∃ (a : Option Addr) (n c : Nat), e = .returned (.slice a n c) ∧ decide ((n : Int) > 0) = ok ∧ w.Extends w' := by
  obtain ⟨X, hask⟩ := asked22_let l hd
  refine (hask.bp vp vr w hv).mono ?_
  rintro e w' ⟨v, rfl, hu, hx⟩
  obtain ⟨a, c, rfl, _, _⟩ := hu.slice
  refine ⟨a, X.length, c, rfl, ?_, hx⟩
  rcases hask.right with ⟨h1, h2⟩ | ⟨h1, h2⟩
  · have := LQ.bytes_pos l
    rw [← h2] at this
    rw [h.2 h1, decide_eq_true_iff]; omega
  · cases ok with
    | true => exact absurd (h.1 rfl) h1
    | false => rw [h2]; rfl
theorem Ints.grown {w w' : World} {b : Nat} {v : Value} {xs : List Int} (h : Ints w v xs) (hg : w.grownBy w' (some b)) (hp : v.ownBlock ≠ some b) : Ints w' v xs := by
  rcases h with h1 | ⟨g, off, cap, rfl, h1, h2, h3, h4⟩
  · exact .inl h1
  · have hblk := hg.block g h3 hp
    refine .inr ⟨g, off, cap, rfl, h1, h2, Nat.lt_of_lt_of_le h3 hg.size, fun k hk => ?_⟩
    rw [World.cell?_of_block (w := w) (w' := w') (a := ⟨g, off + k, none⟩) hblk]
    exact h4 k hk
theorem lmkInts (k : Nat) (hk : k ≤ 1000) (w : World) : (Instr.makeSlice 76 (.int .i64 (k : Int)) (.int .i64 (k : Int))).run Try.prog w = .ok (.slice (some ⟨w.heap.size, 0, none⟩) k k) (w.alloc (.cells (madeCells #[.int .i64 0] k) 3)) :=
  run_make_row' (P := Try.prog) 76 3 (.int .i64 0) 8 Try.underlying76 owniinfo rfl .i64 .i64 k (by omega) (by omega) w
theorem ints_made (w : World) (k : Nat) (hk : k ≤ 1000) : Ints (w.alloc (.cells (madeCells #[.int .i64 0] k) 3)) (.slice (some ⟨w.heap.size, 0, none⟩) k k) (List.replicate k 0) := by
  have hr : ∀ i, i < k → (w.alloc (.cells (madeCells #[.int .i64 0] k) 3)).cell? ⟨w.heap.size, i, none⟩ = some (.int .i64 0) := fun i hi => (World.rowIs_made w (.int .i64 0) k 3).cell hi
  refine .inr ⟨w.heap.size, 0, k, by rw [List.length_replicate], by rw [List.length_replicate]; exact Nat.le_refl _, by unfold maxLen; omega, by simp, fun i hi => ?_⟩
  rw [List.length_replicate] at hi
  rw [Nat.zero_add, hr i hi]
  simp [hi]
/-- The letter whose numbers are tried. -/
def llim (k f t g : Int) (ps : List Int) (rs : List Rc) : Lt := ⟨k, f, t, g, 0, 0, ps, rs⟩
theorem llim_right (k f t g : Int) (ps : List Int) (rs : List Rc) (hr : ∀ r ∈ rs, r = stone) : LQ.Right (llim k f t g ps rs) ↔ (1 ≤ k ∧ k ≤ 3) ∧ (0 ≤ f ∧ f ≤ 2147483647) ∧ (0 ≤ t ∧ t ≤ 2147483647) ∧ (0 ≤ g ∧ g ≤ 2147483647) ∧ (ps.length ≤ 255 ∧ ∀ x ∈ ps, 0 ≤ x ∧ x ≤ 2147483647) ∧ rs.length ≤ 255 := by
  have hz : LQ.N31 0 := by unfold LQ.N31; decide
  constructor
  · rintro ⟨h1, ⟨h2, h3, h4, _, _⟩, h5, h6, _⟩
    exact ⟨h1, h2, h3, h4, h5, h6⟩
  · rintro ⟨h1, h2, h3, h4, h5, h6⟩
    exact ⟨h1, ⟨h2, h3, h4, hz, hz⟩, h5, h6, fun r h => by rw [hr r h]; exact stone_right⟩
set_option maxHeartbeats 8000000 in
theorem llimits_walk (which : Int) (over : Bool) (w : World) : Calls Try.prog 12 #[.int .i64 which, .bool over] w fun e w' => e = .returned (.bool true) ∧ w.Extends w' := by
  have HA := Lib.hid alive22_any
  have hc : which < 0 ∨ (¬ which < 0 ∧ 6 < which) ∨ which = 0 ∨ which = 1 ∨ which = 2 ∨ which = 3 ∨ which = 4 ∨ which = 5 ∨ which = 6 := by omega
  rcases hc with h1 | ⟨h1, h2⟩ | rfl | rfl | rfl | rfl | rfl | rfl | rfl
  iterate 2
    · go_enter Try.func12, Try.ntmps12
      go_wp2_with fail
      refine (HA.out w).mono ?_
      rintro e w1 ⟨rfl, hx⟩
      have HX1 := Lib.hid hx
      clear hx
      go_wp2
      go_ret
      exact ⟨rfl, HX1.out⟩
  · cases over
    · obtain ⟨ok, hok⟩ : ∃ ok : Bool, ok = true := ⟨_, rfl⟩
      go_enter Try.func12, Try.ntmps12
      go_wp2_with fail
      refine (HA.out w).mono ?_
      rintro e w1 ⟨rfl, hx⟩
      have HX1 := Lib.hid hx
      clear hx
      go_upto_region 14 with fail
      generalize hw : World.alloc w1 _ = w2
      have hx : w1.Extends w2 := by subst hw; exact ext_alloc _ _
      have hb : L8 w2 w1.heap.size [.int .i64 2, .int .i64 0, .int .i64 0, .int .i64 0, .int .i64 0, .int .i64 0, .slice none 0 0, .slice none 0 0] := by subst hw; exact heap_alloc_new _ _
      obtain ⟨b, hbn⟩ : ∃ b, b = w1.heap.size := ⟨_, rfl⟩
      rw [← hbn] at hb ⊢
      have HX2 := Lib.hid (Gr.ext_trans HX1.out hx)
      have HB2 := Lib.hid hb
      have HWB : Hid (w.heap.size ≤ b) := by show _ ≤ _; rw [hbn]; exact HX1.out.size
      clear hw hx hb hbn HX1
      have HOK : Hid (ok = true ↔ LQ.Right (llim 3 0 0 0 [] [])) := by show _ ↔ _; rw [hok, llim_right _ _ _ _ _ _ (fun r hr => by cases hr)]; decide
      have HDAT : ∀ r ∈ ((llim 3 0 0 0 [] []) : Lt).rs, ∀ x ∈ r.d, x < 256 := fun r hr => by cases hr
      have t0 := HB2.out.cell 0 _ rfl
      have f0 := HB2.out.frozen 0
      have hbl := HB2.out.lt
      go_upto_region 25 with fail
      clear t0 f0 hbl
      obtain ⟨w3, hw⟩ : ∃ w', w' = w2.setCell ⟨b, 0, none⟩ (.int .i64 3) := ⟨_, rfl⟩
      rw [← hw]
      have hg : w2.grownBy w3 (some b) := by subst hw; exact grown_set w2 b 0 _
      have HB3 : Hid (L8 w3 b [.int .i64 3, .int .i64 0, .int .i64 0, .int .i64 0, .int .i64 0, .int .i64 0, .slice none 0 0, .slice none 0 0]) := by subst hw; exact HB2.out.set 0 (.int .i64 3)
      have HX3 : Hid (w.Extends w3) := ext_own HX2.out hg (fun x hx => by have := Option.some.inj hx; have := HWB.out; omega)
      clear hw hg HX2 HB2
      obtain ⟨q0, q1, q2, q3, q4, q5, q6, q7⟩ := HB3.out.all
      have hlt := HB3.out.lt
      go_wp2_with fail
      clear q0 q1 q2 q3 q4 q5 q6 q7 hlt
      refine (lask (llim 3 0 0 0 [] []) HDAT ok HOK.out _ _ w3 ⟨nil_ints _ _ _, Recs.nil _ _ _⟩).mono ?_
      rintro e w4 ⟨xa, xn, xc, rfl, hxn, hx⟩
      have HX4 : Hid (w.Extends w4) := Gr.ext_trans HX3.out hx
      have HXO := Lib.hid hxn
      clear hx hxn
      cases ok
      all_goals
        have hxn := HXO.out
        go_wp2
        go_ret
        exact ⟨by first | rfl | (simp_all), HX4.out⟩
    · obtain ⟨ok, hok⟩ : ∃ ok : Bool, ok = false := ⟨_, rfl⟩
      go_enter Try.func12, Try.ntmps12
      go_wp2_with fail
      refine (HA.out w).mono ?_
      rintro e w1 ⟨rfl, hx⟩
      have HX1 := Lib.hid hx
      clear hx
      go_upto_region 14 with fail
      generalize hw : World.alloc w1 _ = w2
      have hx : w1.Extends w2 := by subst hw; exact ext_alloc _ _
      have hb : L8 w2 w1.heap.size [.int .i64 2, .int .i64 0, .int .i64 0, .int .i64 0, .int .i64 0, .int .i64 0, .slice none 0 0, .slice none 0 0] := by subst hw; exact heap_alloc_new _ _
      obtain ⟨b, hbn⟩ : ∃ b, b = w1.heap.size := ⟨_, rfl⟩
      rw [← hbn] at hb ⊢
      have HX2 := Lib.hid (Gr.ext_trans HX1.out hx)
      have HB2 := Lib.hid hb
      have HWB : Hid (w.heap.size ≤ b) := by show _ ≤ _; rw [hbn]; exact HX1.out.size
      clear hw hx hb hbn HX1
      have HOK : Hid (ok = true ↔ LQ.Right (llim 4 0 0 0 [] [])) := by show _ ↔ _; rw [hok, llim_right _ _ _ _ _ _ (fun r hr => by cases hr)]; decide
      have HDAT : ∀ r ∈ ((llim 4 0 0 0 [] []) : Lt).rs, ∀ x ∈ r.d, x < 256 := fun r hr => by cases hr
      have t0 := HB2.out.cell 0 _ rfl
      have f0 := HB2.out.frozen 0
      have hbl := HB2.out.lt
      go_upto_region 25 with fail
      clear t0 f0 hbl
      obtain ⟨w3, hw⟩ : ∃ w', w' = w2.setCell ⟨b, 0, none⟩ (.int .i64 4) := ⟨_, rfl⟩
      rw [← hw]
      have hg : w2.grownBy w3 (some b) := by subst hw; exact grown_set w2 b 0 _
      have HB3 : Hid (L8 w3 b [.int .i64 4, .int .i64 0, .int .i64 0, .int .i64 0, .int .i64 0, .int .i64 0, .slice none 0 0, .slice none 0 0]) := by subst hw; exact HB2.out.set 0 (.int .i64 4)
      have HX3 : Hid (w.Extends w3) := ext_own HX2.out hg (fun x hx => by have := Option.some.inj hx; have := HWB.out; omega)
      clear hw hg HX2 HB2
      obtain ⟨q0, q1, q2, q3, q4, q5, q6, q7⟩ := HB3.out.all
      have hlt := HB3.out.lt
      go_wp2_with fail
      clear q0 q1 q2 q3 q4 q5 q6 q7 hlt
      refine (lask (llim 4 0 0 0 [] []) HDAT ok HOK.out _ _ w3 ⟨nil_ints _ _ _, Recs.nil _ _ _⟩).mono ?_
      rintro e w4 ⟨xa, xn, xc, rfl, hxn, hx⟩
      have HX4 : Hid (w.Extends w4) := Gr.ext_trans HX3.out hx
      have HXO := Lib.hid hxn
      clear hx hxn
      cases ok
      all_goals
        have hxn := HXO.out
        go_wp2
        go_ret
        exact ⟨by first | rfl | (simp_all), HX4.out⟩
  · cases over
    · obtain ⟨ok, hok⟩ : ∃ ok : Bool, ok = true := ⟨_, rfl⟩
      go_enter Try.func12, Try.ntmps12
      go_wp2_with fail
      refine (HA.out w).mono ?_
      rintro e w1 ⟨rfl, hx⟩
      have HX1 := Lib.hid hx
      clear hx
      go_upto_region 16 with fail
      generalize hw : World.alloc w1 _ = w2
      have hx : w1.Extends w2 := by subst hw; exact ext_alloc _ _
      have hb : L8 w2 w1.heap.size [.int .i64 2, .int .i64 0, .int .i64 0, .int .i64 0, .int .i64 0, .int .i64 0, .slice none 0 0, .slice none 0 0] := by subst hw; exact heap_alloc_new _ _
      obtain ⟨b, hbn⟩ : ∃ b, b = w1.heap.size := ⟨_, rfl⟩
      rw [← hbn] at hb ⊢
      have HX2 := Lib.hid (Gr.ext_trans HX1.out hx)
      have HB2 := Lib.hid hb
      have HWB : Hid (w.heap.size ≤ b) := by show _ ≤ _; rw [hbn]; exact HX1.out.size
      clear hw hx hb hbn HX1
      have HOK : Hid (ok = true ↔ LQ.Right (llim 2 2147483647 0 0 [] [])) := by show _ ↔ _; rw [hok, llim_right _ _ _ _ _ _ (fun r hr => by cases hr)]; decide
      have HDAT : ∀ r ∈ ((llim 2 2147483647 0 0 [] []) : Lt).rs, ∀ x ∈ r.d, x < 256 := fun r hr => by cases hr
      have t0 := HB2.out.cell 1 _ rfl
      have f0 := HB2.out.frozen 1
      have hbl := HB2.out.lt
      go_upto_region 25 with fail
      clear t0 f0 hbl
      obtain ⟨w3, hw⟩ : ∃ w', w' = w2.setCell ⟨b, 1, none⟩ (.int .i64 2147483647) := ⟨_, rfl⟩
      rw [← hw]
      have hg : w2.grownBy w3 (some b) := by subst hw; exact grown_set w2 b 1 _
      have HB3 : Hid (L8 w3 b [.int .i64 2, .int .i64 2147483647, .int .i64 0, .int .i64 0, .int .i64 0, .int .i64 0, .slice none 0 0, .slice none 0 0]) := by subst hw; exact HB2.out.set 1 (.int .i64 2147483647)
      have HX3 : Hid (w.Extends w3) := ext_own HX2.out hg (fun x hx => by have := Option.some.inj hx; have := HWB.out; omega)
      clear hw hg HX2 HB2
      obtain ⟨q0, q1, q2, q3, q4, q5, q6, q7⟩ := HB3.out.all
      have hlt := HB3.out.lt
      go_wp2_with fail
      clear q0 q1 q2 q3 q4 q5 q6 q7 hlt
      refine (lask (llim 2 2147483647 0 0 [] []) HDAT ok HOK.out _ _ w3 ⟨nil_ints _ _ _, Recs.nil _ _ _⟩).mono ?_
      rintro e w4 ⟨xa, xn, xc, rfl, hxn, hx⟩
      have HX4 : Hid (w.Extends w4) := Gr.ext_trans HX3.out hx
      have HXO := Lib.hid hxn
      clear hx hxn
      cases ok
      all_goals
        have hxn := HXO.out
        go_wp2
        go_ret
        exact ⟨by first | rfl | (simp_all), HX4.out⟩
    · obtain ⟨ok, hok⟩ : ∃ ok : Bool, ok = false := ⟨_, rfl⟩
      go_enter Try.func12, Try.ntmps12
      go_wp2_with fail
      refine (HA.out w).mono ?_
      rintro e w1 ⟨rfl, hx⟩
      have HX1 := Lib.hid hx
      clear hx
      go_upto_region 16 with fail
      generalize hw : World.alloc w1 _ = w2
      have hx : w1.Extends w2 := by subst hw; exact ext_alloc _ _
      have hb : L8 w2 w1.heap.size [.int .i64 2, .int .i64 0, .int .i64 0, .int .i64 0, .int .i64 0, .int .i64 0, .slice none 0 0, .slice none 0 0] := by subst hw; exact heap_alloc_new _ _
      obtain ⟨b, hbn⟩ : ∃ b, b = w1.heap.size := ⟨_, rfl⟩
      rw [← hbn] at hb ⊢
      have HX2 := Lib.hid (Gr.ext_trans HX1.out hx)
      have HB2 := Lib.hid hb
      have HWB : Hid (w.heap.size ≤ b) := by show _ ≤ _; rw [hbn]; exact HX1.out.size
      clear hw hx hb hbn HX1
      have HOK : Hid (ok = true ↔ LQ.Right (llim 2 2147483648 0 0 [] [])) := by show _ ↔ _; rw [hok, llim_right _ _ _ _ _ _ (fun r hr => by cases hr)]; decide
      have HDAT : ∀ r ∈ ((llim 2 2147483648 0 0 [] []) : Lt).rs, ∀ x ∈ r.d, x < 256 := fun r hr => by cases hr
      have t0 := HB2.out.cell 1 _ rfl
      have f0 := HB2.out.frozen 1
      have hbl := HB2.out.lt
      go_upto_region 25 with fail
      clear t0 f0 hbl
      obtain ⟨w3, hw⟩ : ∃ w', w' = w2.setCell ⟨b, 1, none⟩ (.int .i64 2147483648) := ⟨_, rfl⟩
      rw [← hw]
      have hg : w2.grownBy w3 (some b) := by subst hw; exact grown_set w2 b 1 _
      have HB3 : Hid (L8 w3 b [.int .i64 2, .int .i64 2147483648, .int .i64 0, .int .i64 0, .int .i64 0, .int .i64 0, .slice none 0 0, .slice none 0 0]) := by subst hw; exact HB2.out.set 1 (.int .i64 2147483648)
      have HX3 : Hid (w.Extends w3) := ext_own HX2.out hg (fun x hx => by have := Option.some.inj hx; have := HWB.out; omega)
      clear hw hg HX2 HB2
      obtain ⟨q0, q1, q2, q3, q4, q5, q6, q7⟩ := HB3.out.all
      have hlt := HB3.out.lt
      go_wp2_with fail
      clear q0 q1 q2 q3 q4 q5 q6 q7 hlt
      refine (lask (llim 2 2147483648 0 0 [] []) HDAT ok HOK.out _ _ w3 ⟨nil_ints _ _ _, Recs.nil _ _ _⟩).mono ?_
      rintro e w4 ⟨xa, xn, xc, rfl, hxn, hx⟩
      have HX4 : Hid (w.Extends w4) := Gr.ext_trans HX3.out hx
      have HXO := Lib.hid hxn
      clear hx hxn
      cases ok
      all_goals
        have hxn := HXO.out
        go_wp2
        go_ret
        exact ⟨by first | rfl | (simp_all), HX4.out⟩
  · cases over
    · obtain ⟨ok, hok⟩ : ∃ ok : Bool, ok = true := ⟨_, rfl⟩
      go_enter Try.func12, Try.ntmps12
      go_wp2_with fail
      refine (HA.out w).mono ?_
      rintro e w1 ⟨rfl, hx⟩
      have HX1 := Lib.hid hx
      clear hx
      go_upto_region 18 with fail
      generalize hw : World.alloc w1 _ = w2
      have hx : w1.Extends w2 := by subst hw; exact ext_alloc _ _
      have hb : L8 w2 w1.heap.size [.int .i64 2, .int .i64 0, .int .i64 0, .int .i64 0, .int .i64 0, .int .i64 0, .slice none 0 0, .slice none 0 0] := by subst hw; exact heap_alloc_new _ _
      obtain ⟨b, hbn⟩ : ∃ b, b = w1.heap.size := ⟨_, rfl⟩
      rw [← hbn] at hb ⊢
      have HX2 := Lib.hid (Gr.ext_trans HX1.out hx)
      have HB2 := Lib.hid hb
      have HWB : Hid (w.heap.size ≤ b) := by show _ ≤ _; rw [hbn]; exact HX1.out.size
      clear hw hx hb hbn HX1
      have HOK : Hid (ok = true ↔ LQ.Right (llim 2 0 0 0 [] [])) := by show _ ↔ _; rw [hok, llim_right _ _ _ _ _ _ (fun r hr => by cases hr)]; decide
      have HDAT : ∀ r ∈ ((llim 2 0 0 0 [] []) : Lt).rs, ∀ x ∈ r.d, x < 256 := fun r hr => by cases hr
      have t0 := HB2.out.cell 2 _ rfl
      have f0 := HB2.out.frozen 2
      have hbl := HB2.out.lt
      go_upto_region 25 with fail
      clear t0 f0 hbl
      obtain ⟨w3, hw⟩ : ∃ w', w' = w2.setCell ⟨b, 2, none⟩ (.int .i64 0) := ⟨_, rfl⟩
      rw [← hw]
      have hg : w2.grownBy w3 (some b) := by subst hw; exact grown_set w2 b 2 _
      have HB3 : Hid (L8 w3 b [.int .i64 2, .int .i64 0, .int .i64 0, .int .i64 0, .int .i64 0, .int .i64 0, .slice none 0 0, .slice none 0 0]) := by subst hw; exact HB2.out.set 2 (.int .i64 0)
      have HX3 : Hid (w.Extends w3) := ext_own HX2.out hg (fun x hx => by have := Option.some.inj hx; have := HWB.out; omega)
      clear hw hg HX2 HB2
      obtain ⟨q0, q1, q2, q3, q4, q5, q6, q7⟩ := HB3.out.all
      have hlt := HB3.out.lt
      go_wp2_with fail
      clear q0 q1 q2 q3 q4 q5 q6 q7 hlt
      refine (lask (llim 2 0 0 0 [] []) HDAT ok HOK.out _ _ w3 ⟨nil_ints _ _ _, Recs.nil _ _ _⟩).mono ?_
      rintro e w4 ⟨xa, xn, xc, rfl, hxn, hx⟩
      have HX4 : Hid (w.Extends w4) := Gr.ext_trans HX3.out hx
      have HXO := Lib.hid hxn
      clear hx hxn
      cases ok
      all_goals
        have hxn := HXO.out
        go_wp2
        go_ret
        exact ⟨by first | rfl | (simp_all), HX4.out⟩
    · obtain ⟨ok, hok⟩ : ∃ ok : Bool, ok = false := ⟨_, rfl⟩
      go_enter Try.func12, Try.ntmps12
      go_wp2_with fail
      refine (HA.out w).mono ?_
      rintro e w1 ⟨rfl, hx⟩
      have HX1 := Lib.hid hx
      clear hx
      go_upto_region 18 with fail
      generalize hw : World.alloc w1 _ = w2
      have hx : w1.Extends w2 := by subst hw; exact ext_alloc _ _
      have hb : L8 w2 w1.heap.size [.int .i64 2, .int .i64 0, .int .i64 0, .int .i64 0, .int .i64 0, .int .i64 0, .slice none 0 0, .slice none 0 0] := by subst hw; exact heap_alloc_new _ _
      obtain ⟨b, hbn⟩ : ∃ b, b = w1.heap.size := ⟨_, rfl⟩
      rw [← hbn] at hb ⊢
      have HX2 := Lib.hid (Gr.ext_trans HX1.out hx)
      have HB2 := Lib.hid hb
      have HWB : Hid (w.heap.size ≤ b) := by show _ ≤ _; rw [hbn]; exact HX1.out.size
      clear hw hx hb hbn HX1
      have HOK : Hid (ok = true ↔ LQ.Right (llim 2 0 (-1) 0 [] [])) := by show _ ↔ _; rw [hok, llim_right _ _ _ _ _ _ (fun r hr => by cases hr)]; decide
      have HDAT : ∀ r ∈ ((llim 2 0 (-1) 0 [] []) : Lt).rs, ∀ x ∈ r.d, x < 256 := fun r hr => by cases hr
      have t0 := HB2.out.cell 2 _ rfl
      have f0 := HB2.out.frozen 2
      have hbl := HB2.out.lt
      go_upto_region 25 with fail
      clear t0 f0 hbl
      obtain ⟨w3, hw⟩ : ∃ w', w' = w2.setCell ⟨b, 2, none⟩ (.int .i64 (-1)) := ⟨_, rfl⟩
      rw [← hw]
      have hg : w2.grownBy w3 (some b) := by subst hw; exact grown_set w2 b 2 _
      have HB3 : Hid (L8 w3 b [.int .i64 2, .int .i64 0, .int .i64 (-1), .int .i64 0, .int .i64 0, .int .i64 0, .slice none 0 0, .slice none 0 0]) := by subst hw; exact HB2.out.set 2 (.int .i64 (-1))
      have HX3 : Hid (w.Extends w3) := ext_own HX2.out hg (fun x hx => by have := Option.some.inj hx; have := HWB.out; omega)
      clear hw hg HX2 HB2
      obtain ⟨q0, q1, q2, q3, q4, q5, q6, q7⟩ := HB3.out.all
      have hlt := HB3.out.lt
      go_wp2_with fail
      clear q0 q1 q2 q3 q4 q5 q6 q7 hlt
      refine (lask (llim 2 0 (-1) 0 [] []) HDAT ok HOK.out _ _ w3 ⟨nil_ints _ _ _, Recs.nil _ _ _⟩).mono ?_
      rintro e w4 ⟨xa, xn, xc, rfl, hxn, hx⟩
      have HX4 : Hid (w.Extends w4) := Gr.ext_trans HX3.out hx
      have HXO := Lib.hid hxn
      clear hx hxn
      cases ok
      all_goals
        have hxn := HXO.out
        go_wp2
        go_ret
        exact ⟨by first | rfl | (simp_all), HX4.out⟩
  · cases over
    · obtain ⟨ok, hok⟩ : ∃ ok : Bool, ok = true := ⟨_, rfl⟩
      go_enter Try.func12, Try.ntmps12
      go_wp2_with fail
      refine (HA.out w).mono ?_
      rintro e w1 ⟨rfl, hx⟩
      have HX1 := Lib.hid hx
      clear hx
      go_upto_region 20 with fail
      generalize hw : World.alloc w1 _ = w2
      have hx : w1.Extends w2 := by subst hw; exact ext_alloc _ _
      have hb : L8 w2 w1.heap.size [.int .i64 2, .int .i64 0, .int .i64 0, .int .i64 0, .int .i64 0, .int .i64 0, .slice none 0 0, .slice none 0 0] := by subst hw; exact heap_alloc_new _ _
      obtain ⟨b, hbn⟩ : ∃ b, b = w1.heap.size := ⟨_, rfl⟩
      rw [← hbn] at hb ⊢
      have HX2 := Lib.hid (Gr.ext_trans HX1.out hx)
      have HB2 := Lib.hid hb
      have HWB : Hid (w.heap.size ≤ b) := by show _ ≤ _; rw [hbn]; exact HX1.out.size
      clear hw hx hb hbn HX1
      have HOK : Hid (ok = true ↔ LQ.Right (llim 2 0 0 2147483647 [] [])) := by show _ ↔ _; rw [hok, llim_right _ _ _ _ _ _ (fun r hr => by cases hr)]; decide
      have HDAT : ∀ r ∈ ((llim 2 0 0 2147483647 [] []) : Lt).rs, ∀ x ∈ r.d, x < 256 := fun r hr => by cases hr
      have t0 := HB2.out.cell 3 _ rfl
      have f0 := HB2.out.frozen 3
      have hbl := HB2.out.lt
      go_upto_region 25 with fail
      clear t0 f0 hbl
      obtain ⟨w3, hw⟩ : ∃ w', w' = w2.setCell ⟨b, 3, none⟩ (.int .i64 2147483647) := ⟨_, rfl⟩
      rw [← hw]
      have hg : w2.grownBy w3 (some b) := by subst hw; exact grown_set w2 b 3 _
      have HB3 : Hid (L8 w3 b [.int .i64 2, .int .i64 0, .int .i64 0, .int .i64 2147483647, .int .i64 0, .int .i64 0, .slice none 0 0, .slice none 0 0]) := by subst hw; exact HB2.out.set 3 (.int .i64 2147483647)
      have HX3 : Hid (w.Extends w3) := ext_own HX2.out hg (fun x hx => by have := Option.some.inj hx; have := HWB.out; omega)
      clear hw hg HX2 HB2
      obtain ⟨q0, q1, q2, q3, q4, q5, q6, q7⟩ := HB3.out.all
      have hlt := HB3.out.lt
      go_wp2_with fail
      clear q0 q1 q2 q3 q4 q5 q6 q7 hlt
      refine (lask (llim 2 0 0 2147483647 [] []) HDAT ok HOK.out _ _ w3 ⟨nil_ints _ _ _, Recs.nil _ _ _⟩).mono ?_
      rintro e w4 ⟨xa, xn, xc, rfl, hxn, hx⟩
      have HX4 : Hid (w.Extends w4) := Gr.ext_trans HX3.out hx
      have HXO := Lib.hid hxn
      clear hx hxn
      cases ok
      all_goals
        have hxn := HXO.out
        go_wp2
        go_ret
        exact ⟨by first | rfl | (simp_all), HX4.out⟩
    · obtain ⟨ok, hok⟩ : ∃ ok : Bool, ok = false := ⟨_, rfl⟩
      go_enter Try.func12, Try.ntmps12
      go_wp2_with fail
      refine (HA.out w).mono ?_
      rintro e w1 ⟨rfl, hx⟩
      have HX1 := Lib.hid hx
      clear hx
      go_upto_region 20 with fail
      generalize hw : World.alloc w1 _ = w2
      have hx : w1.Extends w2 := by subst hw; exact ext_alloc _ _
      have hb : L8 w2 w1.heap.size [.int .i64 2, .int .i64 0, .int .i64 0, .int .i64 0, .int .i64 0, .int .i64 0, .slice none 0 0, .slice none 0 0] := by subst hw; exact heap_alloc_new _ _
      obtain ⟨b, hbn⟩ : ∃ b, b = w1.heap.size := ⟨_, rfl⟩
      rw [← hbn] at hb ⊢
      have HX2 := Lib.hid (Gr.ext_trans HX1.out hx)
      have HB2 := Lib.hid hb
      have HWB : Hid (w.heap.size ≤ b) := by show _ ≤ _; rw [hbn]; exact HX1.out.size
      clear hw hx hb hbn HX1
      have HOK : Hid (ok = true ↔ LQ.Right (llim 2 0 0 2147483648 [] [])) := by show _ ↔ _; rw [hok, llim_right _ _ _ _ _ _ (fun r hr => by cases hr)]; decide
      have HDAT : ∀ r ∈ ((llim 2 0 0 2147483648 [] []) : Lt).rs, ∀ x ∈ r.d, x < 256 := fun r hr => by cases hr
      have t0 := HB2.out.cell 3 _ rfl
      have f0 := HB2.out.frozen 3
      have hbl := HB2.out.lt
      go_upto_region 25 with fail
      clear t0 f0 hbl
      obtain ⟨w3, hw⟩ : ∃ w', w' = w2.setCell ⟨b, 3, none⟩ (.int .i64 2147483648) := ⟨_, rfl⟩
      rw [← hw]
      have hg : w2.grownBy w3 (some b) := by subst hw; exact grown_set w2 b 3 _
      have HB3 : Hid (L8 w3 b [.int .i64 2, .int .i64 0, .int .i64 0, .int .i64 2147483648, .int .i64 0, .int .i64 0, .slice none 0 0, .slice none 0 0]) := by subst hw; exact HB2.out.set 3 (.int .i64 2147483648)
      have HX3 : Hid (w.Extends w3) := ext_own HX2.out hg (fun x hx => by have := Option.some.inj hx; have := HWB.out; omega)
      clear hw hg HX2 HB2
      obtain ⟨q0, q1, q2, q3, q4, q5, q6, q7⟩ := HB3.out.all
      have hlt := HB3.out.lt
      go_wp2_with fail
      clear q0 q1 q2 q3 q4 q5 q6 q7 hlt
      refine (lask (llim 2 0 0 2147483648 [] []) HDAT ok HOK.out _ _ w3 ⟨nil_ints _ _ _, Recs.nil _ _ _⟩).mono ?_
      rintro e w4 ⟨xa, xn, xc, rfl, hxn, hx⟩
      have HX4 : Hid (w.Extends w4) := Gr.ext_trans HX3.out hx
      have HXO := Lib.hid hxn
      clear hx hxn
      cases ok
      all_goals
        have hxn := HXO.out
        go_wp2
        go_ret
        exact ⟨by first | rfl | (simp_all), HX4.out⟩
  · cases over
    · obtain ⟨ok, hok⟩ : ∃ ok : Bool, ok = true := ⟨_, rfl⟩
      go_enter Try.func12, Try.ntmps12
      go_wp2_with fail
      refine (HA.out w).mono ?_
      rintro e w1 ⟨rfl, hx⟩
      have HX1 := Lib.hid hx
      clear hx
      go_upto_region 22 with fail
      generalize hw : World.alloc w1 _ = w2
      have hx : w1.Extends w2 := by subst hw; exact ext_alloc _ _
      have hb : L8 w2 w1.heap.size [.int .i64 2, .int .i64 0, .int .i64 0, .int .i64 0, .int .i64 0, .int .i64 0, .slice none 0 0, .slice none 0 0] := by subst hw; exact heap_alloc_new _ _
      obtain ⟨b, hbn⟩ : ∃ b, b = w1.heap.size := ⟨_, rfl⟩
      rw [← hbn] at hb ⊢
      have HX2 := Lib.hid (Gr.ext_trans HX1.out hx)
      have HB2 := Lib.hid hb
      have HWB : Hid (w.heap.size ≤ b) := by show _ ≤ _; rw [hbn]; exact HX1.out.size
      clear hw hx hb hbn HX1
      have HOK : Hid (ok = true ↔ LQ.Right (llim 2 0 0 0 (List.replicate 255 0) [])) := by
        show _ ↔ _
        rw [hok, llim_right _ _ _ _ _ _ (fun r hr => by cases hr), List.length_replicate]
        constructor
        · intro h
          exact ⟨by decide, by decide, by decide, by decide, ⟨by decide, fun x hx => by rw [(List.mem_replicate.1 hx).2]; decide⟩, by decide⟩
        · intro h
          rfl
      have HDAT : ∀ r ∈ ((llim 2 0 0 0 (List.replicate 255 0) []) : Lt).rs, ∀ x ∈ r.d, x < 256 := fun r hr => by cases hr
      have t0 := (HB2.out.ext (ext_alloc w2 (.cells (madeCells #[.int .i64 0] 255) 3))).cell 6 _ rfl
      have f0 := (HB2.out.ext (ext_alloc w2 (.cells (madeCells #[.int .i64 0] 255) 3))).frozen 6
      have hbl := (HB2.out.ext (ext_alloc w2 (.cells (madeCells #[.int .i64 0] 255) 3))).lt
      have k1 := lmkInts 255 (by decide)
      simp only [Int.cast_ofNat_Int] at k1
      go_upto_region 25 with fail
      clear t0 f0 hbl
      obtain ⟨w3, hw⟩ : ∃ w', w' = (w2.alloc (.cells (madeCells #[.int .i64 0] 255) 3)).setCell ⟨b, 6, none⟩ (.slice (some ⟨w2.heap.size, 0, none⟩) 255 255) := ⟨_, rfl⟩
      rw [← hw]
      have hg : (w2.alloc (.cells (madeCells #[.int .i64 0] 255) 3)).grownBy w3 (some b) := by subst hw; exact grown_set _ b 6 _
      have HB3 : Hid (L8 w3 b [.int .i64 2, .int .i64 0, .int .i64 0, .int .i64 0, .int .i64 0, .int .i64 0, .slice (some ⟨w2.heap.size, 0, none⟩) 255 255, .slice none 0 0]) := by subst hw; exact (HB2.out.ext (ext_alloc _ _)).set 6 (.slice (some ⟨w2.heap.size, 0, none⟩) 255 255)
      have hi : Ints (w2.alloc (.cells (madeCells #[.int .i64 0] 255) 3)) (.slice (some ⟨w2.heap.size, 0, none⟩) 255 255) (List.replicate 255 0) := ints_made w2 255 (by decide)
      have HI3 : Hid (Ints w3 (.slice (some ⟨w2.heap.size, 0, none⟩) 255 255) (List.replicate 255 0)) := hi.grown hg (fun e => by have h1 := HB2.out.lt; have h2 : w2.heap.size = b := Option.some.inj e; omega)
      have HX3 : Hid (w.Extends w3) := ext_own (Gr.ext_trans HX2.out (ext_alloc _ _)) hg (fun x hx => by have := Option.some.inj hx; have := HWB.out; omega)
      obtain ⟨z, hz⟩ : ∃ z, z = w2.heap.size := ⟨_, rfl⟩
      rw [← hz] at HB3 HI3 ⊢
      clear hw hg hi hz HX2 HB2
      obtain ⟨q0, q1, q2, q3, q4, q5, q6, q7⟩ := HB3.out.all
      have hlt := HB3.out.lt
      go_wp2_with fail
      clear q0 q1 q2 q3 q4 q5 q6 q7 hlt
      refine (lask (llim 2 0 0 0 (List.replicate 255 0) []) HDAT ok HOK.out _ _ w3 ⟨HI3.out, Recs.nil _ _ _⟩).mono ?_
      rintro e w4 ⟨xa, xn, xc, rfl, hxn, hx⟩
      have HX4 : Hid (w.Extends w4) := Gr.ext_trans HX3.out hx
      have HXO := Lib.hid hxn
      clear hx hxn
      cases ok
      all_goals
        have hxn := HXO.out
        go_wp2
        go_ret
        exact ⟨by first | rfl | (simp_all), HX4.out⟩
    · obtain ⟨ok, hok⟩ : ∃ ok : Bool, ok = false := ⟨_, rfl⟩
      go_enter Try.func12, Try.ntmps12
      go_wp2_with fail
      refine (HA.out w).mono ?_
      rintro e w1 ⟨rfl, hx⟩
      have HX1 := Lib.hid hx
      clear hx
      go_upto_region 22 with fail
      generalize hw : World.alloc w1 _ = w2
      have hx : w1.Extends w2 := by subst hw; exact ext_alloc _ _
      have hb : L8 w2 w1.heap.size [.int .i64 2, .int .i64 0, .int .i64 0, .int .i64 0, .int .i64 0, .int .i64 0, .slice none 0 0, .slice none 0 0] := by subst hw; exact heap_alloc_new _ _
      obtain ⟨b, hbn⟩ : ∃ b, b = w1.heap.size := ⟨_, rfl⟩
      rw [← hbn] at hb ⊢
      have HX2 := Lib.hid (Gr.ext_trans HX1.out hx)
      have HB2 := Lib.hid hb
      have HWB : Hid (w.heap.size ≤ b) := by show _ ≤ _; rw [hbn]; exact HX1.out.size
      clear hw hx hb hbn HX1
      have HOK : Hid (ok = true ↔ LQ.Right (llim 2 0 0 0 (List.replicate 256 0) [])) := by
        show _ ↔ _
        rw [hok, llim_right _ _ _ _ _ _ (fun r hr => by cases hr), List.length_replicate]
        constructor
        · intro h
          cases h
        · intro h
          exact absurd h.2.2.2.2.1.1 (by decide)
      have HDAT : ∀ r ∈ ((llim 2 0 0 0 (List.replicate 256 0) []) : Lt).rs, ∀ x ∈ r.d, x < 256 := fun r hr => by cases hr
      have t0 := (HB2.out.ext (ext_alloc w2 (.cells (madeCells #[.int .i64 0] 256) 3))).cell 6 _ rfl
      have f0 := (HB2.out.ext (ext_alloc w2 (.cells (madeCells #[.int .i64 0] 256) 3))).frozen 6
      have hbl := (HB2.out.ext (ext_alloc w2 (.cells (madeCells #[.int .i64 0] 256) 3))).lt
      have k1 := lmkInts 256 (by decide)
      simp only [Int.cast_ofNat_Int] at k1
      go_upto_region 25 with fail
      clear t0 f0 hbl
      obtain ⟨w3, hw⟩ : ∃ w', w' = (w2.alloc (.cells (madeCells #[.int .i64 0] 256) 3)).setCell ⟨b, 6, none⟩ (.slice (some ⟨w2.heap.size, 0, none⟩) 256 256) := ⟨_, rfl⟩
      rw [← hw]
      have hg : (w2.alloc (.cells (madeCells #[.int .i64 0] 256) 3)).grownBy w3 (some b) := by subst hw; exact grown_set _ b 6 _
      have HB3 : Hid (L8 w3 b [.int .i64 2, .int .i64 0, .int .i64 0, .int .i64 0, .int .i64 0, .int .i64 0, .slice (some ⟨w2.heap.size, 0, none⟩) 256 256, .slice none 0 0]) := by subst hw; exact (HB2.out.ext (ext_alloc _ _)).set 6 (.slice (some ⟨w2.heap.size, 0, none⟩) 256 256)
      have hi : Ints (w2.alloc (.cells (madeCells #[.int .i64 0] 256) 3)) (.slice (some ⟨w2.heap.size, 0, none⟩) 256 256) (List.replicate 256 0) := ints_made w2 256 (by decide)
      have HI3 : Hid (Ints w3 (.slice (some ⟨w2.heap.size, 0, none⟩) 256 256) (List.replicate 256 0)) := hi.grown hg (fun e => by have h1 := HB2.out.lt; have h2 : w2.heap.size = b := Option.some.inj e; omega)
      have HX3 : Hid (w.Extends w3) := ext_own (Gr.ext_trans HX2.out (ext_alloc _ _)) hg (fun x hx => by have := Option.some.inj hx; have := HWB.out; omega)
      obtain ⟨z, hz⟩ : ∃ z, z = w2.heap.size := ⟨_, rfl⟩
      rw [← hz] at HB3 HI3 ⊢
      clear hw hg hi hz HX2 HB2
      obtain ⟨q0, q1, q2, q3, q4, q5, q6, q7⟩ := HB3.out.all
      have hlt := HB3.out.lt
      go_wp2_with fail
      clear q0 q1 q2 q3 q4 q5 q6 q7 hlt
      refine (lask (llim 2 0 0 0 (List.replicate 256 0) []) HDAT ok HOK.out _ _ w3 ⟨HI3.out, Recs.nil _ _ _⟩).mono ?_
      rintro e w4 ⟨xa, xn, xc, rfl, hxn, hx⟩
      have HX4 : Hid (w.Extends w4) := Gr.ext_trans HX3.out hx
      have HXO := Lib.hid hxn
      clear hx hxn
      cases ok
      all_goals
        have hxn := HXO.out
        go_wp2
        go_ret
        exact ⟨by first | rfl | (simp_all), HX4.out⟩
  · cases over
    · obtain ⟨ok, hok⟩ : ∃ ok : Bool, ok = true := ⟨_, rfl⟩
      go_enter Try.func12, Try.ntmps12
      go_wp2_with fail
      refine (HA.out w).mono ?_
      rintro e w1 ⟨rfl, hx⟩
      have HX1 := Lib.hid hx
      clear hx
      go_upto_region 24 with fail
      generalize hw : World.alloc w1 _ = w2
      have hx : w1.Extends w2 := by subst hw; exact ext_alloc _ _
      have hb : L8 w2 w1.heap.size [.int .i64 2, .int .i64 0, .int .i64 0, .int .i64 0, .int .i64 0, .int .i64 0, .slice none 0 0, .slice none 0 0] := by subst hw; exact heap_alloc_new _ _
      obtain ⟨b, hbn⟩ : ∃ b, b = w1.heap.size := ⟨_, rfl⟩
      rw [← hbn] at hb ⊢
      have HX2 := Lib.hid (Gr.ext_trans HX1.out hx)
      have HB2 := Lib.hid hb
      have HWB : Hid (w.heap.size ≤ b) := by show _ ≤ _; rw [hbn]; exact HX1.out.size
      clear hw hx hb hbn HX1
      have HOK : Hid (ok = true ↔ LQ.Right (llim 2 0 0 0 [2147483647] [])) := by
        show _ ↔ _
        rw [hok, llim_right _ _ _ _ _ _ (fun r hr => by cases hr)]; decide
      have HDAT : ∀ r ∈ ((llim 2 0 0 0 [2147483647] []) : Lt).rs, ∀ x ∈ r.d, x < 256 := fun r hr => by cases hr
      have t0 := (HB2.out.ext (ext_alloc w2 (.cells #[.int .i64 2147483647] 3))).cell 6 _ rfl
      have f0 := (HB2.out.ext (ext_alloc w2 (.cells #[.int .i64 2147483647] 3))).frozen 6
      have hbl := (HB2.out.ext (ext_alloc w2 (.cells #[.int .i64 2147483647] 3))).lt
      skip
      go_upto_region 25 with fail
      clear t0 f0 hbl
      obtain ⟨w3, hw⟩ : ∃ w', w' = (w2.alloc (.cells #[.int .i64 2147483647] 3)).setCell ⟨b, 6, none⟩ (.slice (some ⟨w2.heap.size, 0, none⟩) 1 1) := ⟨_, rfl⟩
      rw [← hw]
      have hg : (w2.alloc (.cells #[.int .i64 2147483647] 3)).grownBy w3 (some b) := by subst hw; exact grown_set _ b 6 _
      have HB3 : Hid (L8 w3 b [.int .i64 2, .int .i64 0, .int .i64 0, .int .i64 0, .int .i64 0, .int .i64 0, .slice (some ⟨w2.heap.size, 0, none⟩) 1 1, .slice none 0 0]) := by subst hw; exact (HB2.out.ext (ext_alloc _ _)).set 6 (.slice (some ⟨w2.heap.size, 0, none⟩) 1 1)
      have hi : Ints (w2.alloc (.cells #[.int .i64 2147483647] 3)) (.slice (some ⟨w2.heap.size, 0, none⟩) 1 1) [2147483647] := ints_lit w2 _ _ _ [2147483647] _ rfl rfl rfl rfl (by simp)
      have HI3 : Hid (Ints w3 (.slice (some ⟨w2.heap.size, 0, none⟩) 1 1) [2147483647]) := hi.grown hg (fun e => by have h1 := HB2.out.lt; have h2 : w2.heap.size = b := Option.some.inj e; omega)
      have HX3 : Hid (w.Extends w3) := ext_own (Gr.ext_trans HX2.out (ext_alloc _ _)) hg (fun x hx => by have := Option.some.inj hx; have := HWB.out; omega)
      obtain ⟨z, hz⟩ : ∃ z, z = w2.heap.size := ⟨_, rfl⟩
      rw [← hz] at HB3 HI3 ⊢
      clear hw hg hi hz HX2 HB2
      obtain ⟨q0, q1, q2, q3, q4, q5, q6, q7⟩ := HB3.out.all
      have hlt := HB3.out.lt
      go_wp2_with fail
      clear q0 q1 q2 q3 q4 q5 q6 q7 hlt
      refine (lask (llim 2 0 0 0 [2147483647] []) HDAT ok HOK.out _ _ w3 ⟨HI3.out, Recs.nil _ _ _⟩).mono ?_
      rintro e w4 ⟨xa, xn, xc, rfl, hxn, hx⟩
      have HX4 : Hid (w.Extends w4) := Gr.ext_trans HX3.out hx
      have HXO := Lib.hid hxn
      clear hx hxn
      cases ok
      all_goals
        have hxn := HXO.out
        go_wp2
        go_ret
        exact ⟨by first | rfl | (simp_all), HX4.out⟩
    · obtain ⟨ok, hok⟩ : ∃ ok : Bool, ok = false := ⟨_, rfl⟩
      go_enter Try.func12, Try.ntmps12
      go_wp2_with fail
      refine (HA.out w).mono ?_
      rintro e w1 ⟨rfl, hx⟩
      have HX1 := Lib.hid hx
      clear hx
      go_upto_region 24 with fail
      generalize hw : World.alloc w1 _ = w2
      have hx : w1.Extends w2 := by subst hw; exact ext_alloc _ _
      have hb : L8 w2 w1.heap.size [.int .i64 2, .int .i64 0, .int .i64 0, .int .i64 0, .int .i64 0, .int .i64 0, .slice none 0 0, .slice none 0 0] := by subst hw; exact heap_alloc_new _ _
      obtain ⟨b, hbn⟩ : ∃ b, b = w1.heap.size := ⟨_, rfl⟩
      rw [← hbn] at hb ⊢
      have HX2 := Lib.hid (Gr.ext_trans HX1.out hx)
      have HB2 := Lib.hid hb
      have HWB : Hid (w.heap.size ≤ b) := by show _ ≤ _; rw [hbn]; exact HX1.out.size
      clear hw hx hb hbn HX1
      have HOK : Hid (ok = true ↔ LQ.Right (llim 2 0 0 0 [2147483648] [])) := by
        show _ ↔ _
        rw [hok, llim_right _ _ _ _ _ _ (fun r hr => by cases hr)]; decide
      have HDAT : ∀ r ∈ ((llim 2 0 0 0 [2147483648] []) : Lt).rs, ∀ x ∈ r.d, x < 256 := fun r hr => by cases hr
      have t0 := (HB2.out.ext (ext_alloc w2 (.cells #[.int .i64 2147483648] 3))).cell 6 _ rfl
      have f0 := (HB2.out.ext (ext_alloc w2 (.cells #[.int .i64 2147483648] 3))).frozen 6
      have hbl := (HB2.out.ext (ext_alloc w2 (.cells #[.int .i64 2147483648] 3))).lt
      skip
      go_upto_region 25 with fail
      clear t0 f0 hbl
      obtain ⟨w3, hw⟩ : ∃ w', w' = (w2.alloc (.cells #[.int .i64 2147483648] 3)).setCell ⟨b, 6, none⟩ (.slice (some ⟨w2.heap.size, 0, none⟩) 1 1) := ⟨_, rfl⟩
      rw [← hw]
      have hg : (w2.alloc (.cells #[.int .i64 2147483648] 3)).grownBy w3 (some b) := by subst hw; exact grown_set _ b 6 _
      have HB3 : Hid (L8 w3 b [.int .i64 2, .int .i64 0, .int .i64 0, .int .i64 0, .int .i64 0, .int .i64 0, .slice (some ⟨w2.heap.size, 0, none⟩) 1 1, .slice none 0 0]) := by subst hw; exact (HB2.out.ext (ext_alloc _ _)).set 6 (.slice (some ⟨w2.heap.size, 0, none⟩) 1 1)
      have hi : Ints (w2.alloc (.cells #[.int .i64 2147483648] 3)) (.slice (some ⟨w2.heap.size, 0, none⟩) 1 1) [2147483648] := ints_lit w2 _ _ _ [2147483648] _ rfl rfl rfl rfl (by simp)
      have HI3 : Hid (Ints w3 (.slice (some ⟨w2.heap.size, 0, none⟩) 1 1) [2147483648]) := hi.grown hg (fun e => by have h1 := HB2.out.lt; have h2 : w2.heap.size = b := Option.some.inj e; omega)
      have HX3 : Hid (w.Extends w3) := ext_own (Gr.ext_trans HX2.out (ext_alloc _ _)) hg (fun x hx => by have := Option.some.inj hx; have := HWB.out; omega)
      obtain ⟨z, hz⟩ : ∃ z, z = w2.heap.size := ⟨_, rfl⟩
      rw [← hz] at HB3 HI3 ⊢
      clear hw hg hi hz HX2 HB2
      obtain ⟨q0, q1, q2, q3, q4, q5, q6, q7⟩ := HB3.out.all
      have hlt := HB3.out.lt
      go_wp2_with fail
      clear q0 q1 q2 q3 q4 q5 q6 q7 hlt
      refine (lask (llim 2 0 0 0 [2147483648] []) HDAT ok HOK.out _ _ w3 ⟨HI3.out, Recs.nil _ _ _⟩).mono ?_
      rintro e w4 ⟨xa, xn, xc, rfl, hxn, hx⟩
      have HX4 : Hid (w.Extends w4) := Gr.ext_trans HX3.out hx
      have HXO := Lib.hid hxn
      clear hx hxn
      cases ok
      all_goals
        have hxn := HXO.out
        go_wp2
        go_ret
        exact ⟨by first | rfl | (simp_all), HX4.out⟩
  · cases over
    · obtain ⟨ok, hok⟩ : ∃ ok : Bool, ok = true := ⟨_, rfl⟩
      go_enter Try.func12, Try.ntmps12
      go_wp2_with fail
      refine (HA.out w).mono ?_
      rintro e w1 ⟨rfl, hx⟩
      have HX1 := Lib.hid hx
      clear hx
      go_upto_region 9 with fail
      generalize hw : World.alloc w1 _ = w2
      have hx : w1.Extends w2 := by subst hw; exact ext_alloc _ _
      have hb : L8 w2 w1.heap.size [.int .i64 2, .int .i64 0, .int .i64 0, .int .i64 0, .int .i64 0, .int .i64 0, .slice none 0 0, .slice none 0 0] := by subst hw; exact heap_alloc_new _ _
      obtain ⟨b, hbn⟩ : ∃ b, b = w1.heap.size := ⟨_, rfl⟩
      rw [← hbn] at hb ⊢
      have HX2 := Lib.hid (Gr.ext_trans HX1.out hx)
      have HB2 := Lib.hid hb
      have HWB : Hid (w.heap.size ≤ b) := by show _ ≤ _; rw [hbn]; exact HX1.out.size
      clear hw hx hb hbn HX1
      have HOK : Hid (ok = true ↔ LQ.Right (llim 2 0 0 0 [] (List.replicate 255 stone))) := by
        show _ ↔ _
        rw [hok, llim_right _ _ _ _ _ _ (fun r hr => (List.mem_replicate.1 hr).2), List.length_replicate]
        decide
      have HDAT : ∀ r ∈ ((llim 2 0 0 0 [] (List.replicate 255 stone)) : Lt).rs, ∀ x ∈ r.d, x < 256 := fun r hr => by rw [(List.mem_replicate.1 hr).2]; intro x hx; cases hx
      obtain ⟨B, hB⟩ : ∃ B, B = w2.heap.size := ⟨_, rfl⟩
      have HBB : Hid (B ≤ w2.heap.size) := Nat.le_of_eq hB
      have HBL : Hid (b < B) := by show _ < _; rw [hB]; exact HB2.out.lt
      have HE : Hid (∀ w', Below w.heap.size w w' → w.Extends w') := fun w' h => ext_below h rfl
      have HW2 : Hid (Below w.heap.size w w2) := Gr.below_of HX2.out
      have HWZ : Hid (w.heap.size ≤ B) := by show _ ≤ _; rw [hB]; exact HX2.out.size
      clear hB HX2
      go_wp2_with fail
      go_loopw [8] (fun s8 wr => ∃ (q : Nat) (ra : Option Addr) (rc : Nat), q ≤ 255 ∧ s8 = .int .i64 (q : Nat) ∧ Hid (L8 wr b [.int .i64 2, .int .i64 0, .int .i64 0, .int .i64 0, .int .i64 0, .int .i64 0, .slice none 0 0, .slice ra q rc]) ∧ Hid (RS wr B (.slice ra q rc) (List.replicate q ((stone, Value.slice none 0 0) : Pr))) ∧ Hid (Below w.heap.size w wr) ∧ Hid (B ≤ wr.heap.size)) (fun s8 _ => 255 - (intOf s8).toNat)
      case atStart => exact ⟨0, none, 0, by omega, by rfl, HB2, RS.nil _ _, HW2, HBB⟩
      case round =>
        clear HB2 HW2 HBB
        obtain ⟨q, ra, rc, hq, rfl, HB, HS, HW, HZ⟩ := hrel
        by_cases h1 : q < 255
        · have q7 := HB.out.cell 7 _ rfl
          have hlt := HB.out.lt
          go_wp2_with (at_builtin; refine wpList_app_rs rfl (.tmp 31) (.tmp 34) rfl B _ (List.replicate q ((stone, Value.slice none 0 0) : Pr)) rfl (HS.out.ext (ext_alloc _ _)) _ ((stone, Value.slice none 0 0) : Pr) rfl (src_rec (r := stone) Try.underlying47 _ _ rfl rfl) ⟨none, 0, rfl⟩ (nil_u8s _ _ _) (by rw [List.length_replicate]; omega) (Nat.le_trans HZ.out (ext_alloc _ _).size) ?_)
          intro v9 w5 ho hg
          obtain ⟨a9, c9, hv9⟩ := ho.slice
          rw [List.length_append, List.length_replicate] at hv9
          obtain rfl : v9 = .slice a9 (q + 1) c9 := hv9
          have HS5 : Hid (RS w5 B (.slice a9 (q + 1) c9) (List.replicate (q + 1) ((stone, Value.slice none 0 0) : Pr))) := by
            show RS _ _ _ _
            rw [List.replicate_succ']
            exact ho
          have HB5 := Lib.hid ((HB.out.ext (ext_alloc _ _)).own (HS.out.ext (ext_alloc _ _)).own hg HBL.out)
          have HW5 : Hid (Below w.heap.size w w5) := (below_ext HW.out (ext_alloc _ _) (Nat.le_trans HWZ.out HZ.out)).grown hg (Nat.le_trans (Nat.le_trans HWZ.out HZ.out) (ext_alloc _ _).size) (fun i hi => Nat.le_trans HWZ.out (HS.out.own.lt i hi).1)
          have HZ5 : Hid (B ≤ w5.heap.size) := Nat.le_trans HZ.out (Nat.le_trans (ext_alloc _ _).size hg.size)
          clear ho hg q7 hlt HB HS HW HZ
          have t7 := HB5.out.cell 7 _ rfl
          have f7 := HB5.out.frozen 7
          have hbl := HB5.out.lt
          go_wp2_with fail
          clear t7 f7 hbl
          obtain ⟨w6, hw⟩ : ∃ w', w' = w5.setCell ⟨b, 7, none⟩ (.slice a9 (q + 1) c9) := ⟨_, rfl⟩
          have hg : w5.grownBy w6 (some b) := by subst hw; exact grown_set w5 b 7 _
          have HB6 : Hid (L8 w6 b [.int .i64 2, .int .i64 0, .int .i64 0, .int .i64 0, .int .i64 0, .int .i64 0, .slice none 0 0, .slice a9 (q + 1) c9]) := by subst hw; exact HB5.out.set 7 _
          have HS6 := Lib.hid (HS5.out.by8 HB5.out (by intro y hy n e; subst e; simp at hy) hg HBL.out)
          have HW6 : Hid (Below w.heap.size w w6) := HW5.out.grown hg (Nat.le_trans HWZ.out HZ5.out) (fun j hj => by have := Option.some.inj hj; have := HWB.out; omega)
          have HZ6 : Hid (B ≤ w6.heap.size) := Nat.le_trans HZ5.out hg.size
          try rw [← hw]
          clear hw hg HB5 HS5 HW5 HZ5
          go_wp2
          go_roundw
          case rel => exact ⟨q + 1, a9, c9, by omega, by go_num, HB6, HS6, HW6, HZ6⟩
          case measure => simp [intOf]; omega
        · obtain rfl : q = 255 := by omega
          obtain ⟨w3, hw3⟩ : ∃ w3, w3 = wr := ⟨_, rfl⟩
          have HB3 : Hid (L8 w3 b [.int .i64 2, .int .i64 0, .int .i64 0, .int .i64 0, .int .i64 0, .int .i64 0, .slice none 0 0, .slice ra 255 rc]) := by rw [hw3]; exact HB
          have HR3 : Hid (Recs w3 (.slice ra 255 rc) (List.replicate 255 stone)) := by
            have h := HS.out.recs
            rw [List.map_replicate] at h
            rw [hw3]; exact h
          have HX3 : Hid (w.Extends w3) := by rw [hw3]; exact HE.out _ HW.out
          rw [← hw3]
          clear hw3 HB HS HW HZ
          obtain ⟨q0, q1, q2, q3, q4, q5, q6, q7⟩ := HB3.out.all
          have hlt := HB3.out.lt
          go_wp2_with fail
          clear q0 q1 q2 q3 q4 q5 q6 q7 hlt
          refine (lask (llim 2 0 0 0 [] (List.replicate 255 stone)) HDAT ok HOK.out _ _ w3 ⟨nil_ints _ _ _, HR3.out⟩).mono ?_
          rintro e w4 ⟨xa, xn, xc, rfl, hxn, hx⟩
          have HX4 : Hid (w.Extends w4) := Gr.ext_trans HX3.out hx
          have HXO := Lib.hid hxn
          clear hx hxn
          cases ok
          all_goals
            have hxn := HXO.out
            go_wp2
            go_ret
            exact ⟨by first | rfl | (simp_all), HX4.out⟩
    · obtain ⟨ok, hok⟩ : ∃ ok : Bool, ok = false := ⟨_, rfl⟩
      go_enter Try.func12, Try.ntmps12
      go_wp2_with fail
      refine (HA.out w).mono ?_
      rintro e w1 ⟨rfl, hx⟩
      have HX1 := Lib.hid hx
      clear hx
      go_upto_region 9 with fail
      generalize hw : World.alloc w1 _ = w2
      have hx : w1.Extends w2 := by subst hw; exact ext_alloc _ _
      have hb : L8 w2 w1.heap.size [.int .i64 2, .int .i64 0, .int .i64 0, .int .i64 0, .int .i64 0, .int .i64 0, .slice none 0 0, .slice none 0 0] := by subst hw; exact heap_alloc_new _ _
      obtain ⟨b, hbn⟩ : ∃ b, b = w1.heap.size := ⟨_, rfl⟩
      rw [← hbn] at hb ⊢
      have HX2 := Lib.hid (Gr.ext_trans HX1.out hx)
      have HB2 := Lib.hid hb
      have HWB : Hid (w.heap.size ≤ b) := by show _ ≤ _; rw [hbn]; exact HX1.out.size
      clear hw hx hb hbn HX1
      have HOK : Hid (ok = true ↔ LQ.Right (llim 2 0 0 0 [] (List.replicate 256 stone))) := by
        show _ ↔ _
        rw [hok, llim_right _ _ _ _ _ _ (fun r hr => (List.mem_replicate.1 hr).2), List.length_replicate]
        decide
      have HDAT : ∀ r ∈ ((llim 2 0 0 0 [] (List.replicate 256 stone)) : Lt).rs, ∀ x ∈ r.d, x < 256 := fun r hr => by rw [(List.mem_replicate.1 hr).2]; intro x hx; cases hx
      obtain ⟨B, hB⟩ : ∃ B, B = w2.heap.size := ⟨_, rfl⟩
      have HBB : Hid (B ≤ w2.heap.size) := Nat.le_of_eq hB
      have HBL : Hid (b < B) := by show _ < _; rw [hB]; exact HB2.out.lt
      have HE : Hid (∀ w', Below w.heap.size w w' → w.Extends w') := fun w' h => ext_below h rfl
      have HW2 : Hid (Below w.heap.size w w2) := Gr.below_of HX2.out
      have HWZ : Hid (w.heap.size ≤ B) := by show _ ≤ _; rw [hB]; exact HX2.out.size
      clear hB HX2
      go_wp2_with fail
      go_loopw [8] (fun s8 wr => ∃ (q : Nat) (ra : Option Addr) (rc : Nat), q ≤ 256 ∧ s8 = .int .i64 (q : Nat) ∧ Hid (L8 wr b [.int .i64 2, .int .i64 0, .int .i64 0, .int .i64 0, .int .i64 0, .int .i64 0, .slice none 0 0, .slice ra q rc]) ∧ Hid (RS wr B (.slice ra q rc) (List.replicate q ((stone, Value.slice none 0 0) : Pr))) ∧ Hid (Below w.heap.size w wr) ∧ Hid (B ≤ wr.heap.size)) (fun s8 _ => 256 - (intOf s8).toNat)
      case atStart => exact ⟨0, none, 0, by omega, by rfl, HB2, RS.nil _ _, HW2, HBB⟩
      case round =>
        clear HB2 HW2 HBB
        obtain ⟨q, ra, rc, hq, rfl, HB, HS, HW, HZ⟩ := hrel
        by_cases h1 : q < 256
        · have q7 := HB.out.cell 7 _ rfl
          have hlt := HB.out.lt
          go_wp2_with (at_builtin; refine wpList_app_rs rfl (.tmp 31) (.tmp 34) rfl B _ (List.replicate q ((stone, Value.slice none 0 0) : Pr)) rfl (HS.out.ext (ext_alloc _ _)) _ ((stone, Value.slice none 0 0) : Pr) rfl (src_rec (r := stone) Try.underlying47 _ _ rfl rfl) ⟨none, 0, rfl⟩ (nil_u8s _ _ _) (by rw [List.length_replicate]; omega) (Nat.le_trans HZ.out (ext_alloc _ _).size) ?_)
          intro v9 w5 ho hg
          obtain ⟨a9, c9, hv9⟩ := ho.slice
          rw [List.length_append, List.length_replicate] at hv9
          obtain rfl : v9 = .slice a9 (q + 1) c9 := hv9
          have HS5 : Hid (RS w5 B (.slice a9 (q + 1) c9) (List.replicate (q + 1) ((stone, Value.slice none 0 0) : Pr))) := by
            show RS _ _ _ _
            rw [List.replicate_succ']
            exact ho
          have HB5 := Lib.hid ((HB.out.ext (ext_alloc _ _)).own (HS.out.ext (ext_alloc _ _)).own hg HBL.out)
          have HW5 : Hid (Below w.heap.size w w5) := (below_ext HW.out (ext_alloc _ _) (Nat.le_trans HWZ.out HZ.out)).grown hg (Nat.le_trans (Nat.le_trans HWZ.out HZ.out) (ext_alloc _ _).size) (fun i hi => Nat.le_trans HWZ.out (HS.out.own.lt i hi).1)
          have HZ5 : Hid (B ≤ w5.heap.size) := Nat.le_trans HZ.out (Nat.le_trans (ext_alloc _ _).size hg.size)
          clear ho hg q7 hlt HB HS HW HZ
          have t7 := HB5.out.cell 7 _ rfl
          have f7 := HB5.out.frozen 7
          have hbl := HB5.out.lt
          go_wp2_with fail
          clear t7 f7 hbl
          obtain ⟨w6, hw⟩ : ∃ w', w' = w5.setCell ⟨b, 7, none⟩ (.slice a9 (q + 1) c9) := ⟨_, rfl⟩
          have hg : w5.grownBy w6 (some b) := by subst hw; exact grown_set w5 b 7 _
          have HB6 : Hid (L8 w6 b [.int .i64 2, .int .i64 0, .int .i64 0, .int .i64 0, .int .i64 0, .int .i64 0, .slice none 0 0, .slice a9 (q + 1) c9]) := by subst hw; exact HB5.out.set 7 _
          have HS6 := Lib.hid (HS5.out.by8 HB5.out (by intro y hy n e; subst e; simp at hy) hg HBL.out)
          have HW6 : Hid (Below w.heap.size w w6) := HW5.out.grown hg (Nat.le_trans HWZ.out HZ5.out) (fun j hj => by have := Option.some.inj hj; have := HWB.out; omega)
          have HZ6 : Hid (B ≤ w6.heap.size) := Nat.le_trans HZ5.out hg.size
          try rw [← hw]
          clear hw hg HB5 HS5 HW5 HZ5
          go_wp2
          go_roundw
          case rel => exact ⟨q + 1, a9, c9, by omega, by go_num, HB6, HS6, HW6, HZ6⟩
          case measure => simp [intOf]; omega
        · obtain rfl : q = 256 := by omega
          obtain ⟨w3, hw3⟩ : ∃ w3, w3 = wr := ⟨_, rfl⟩
          have HB3 : Hid (L8 w3 b [.int .i64 2, .int .i64 0, .int .i64 0, .int .i64 0, .int .i64 0, .int .i64 0, .slice none 0 0, .slice ra 256 rc]) := by rw [hw3]; exact HB
          have HR3 : Hid (Recs w3 (.slice ra 256 rc) (List.replicate 256 stone)) := by
            have h := HS.out.recs
            rw [List.map_replicate] at h
            rw [hw3]; exact h
          have HX3 : Hid (w.Extends w3) := by rw [hw3]; exact HE.out _ HW.out
          rw [← hw3]
          clear hw3 HB HS HW HZ
          obtain ⟨q0, q1, q2, q3, q4, q5, q6, q7⟩ := HB3.out.all
          have hlt := HB3.out.lt
          go_wp2_with fail
          clear q0 q1 q2 q3 q4 q5 q6 q7 hlt
          refine (lask (llim 2 0 0 0 [] (List.replicate 256 stone)) HDAT ok HOK.out _ _ w3 ⟨nil_ints _ _ _, HR3.out⟩).mono ?_
          rintro e w4 ⟨xa, xn, xc, rfl, hxn, hx⟩
          have HX4 : Hid (w.Extends w4) := Gr.ext_trans HX3.out hx
          have HXO := Lib.hid hxn
          clear hx hxn
          cases ok
          all_goals
            have hxn := HXO.out
            go_wp2
            go_ret
            exact ⟨by first | rfl | (simp_all), HX4.out⟩
theorem LetterLimits_walk (which : Int) (over : Bool) (w : World) (_h : (Lit.int .i64 which).wf = true) :
    Calls Try.prog 12 #[.int .i64 which, .bool over] w fun e w' => e = .returned (.bool true) ∧ Below w.heap.size w w' :=
  (llimits_walk which over w).mono fun _ _ h => ⟨h.1, Gr.below_of h.2⟩
end Go.Proofs.Ytdbdnfjgmdkneaa
