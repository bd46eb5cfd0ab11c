/- The twelfth law: num, alive; what both programs answer of any shape, of any data, of any blocks. -/
import Derived.Test.YtomfgkgdlpajeaaSplCut
import Derived.Test.YtomfgkgdlpajeaaSplRefJoin
import Derived.Test.YtomfgkgdlpajeaaConv
import Derived.Lib.SlBytesConst
namespace Go.Proofs.Ytomfgkgdlpajeaa
open Go.RowKit Go.Deep
set_option linter.unusedVariables false
theorem num12_any (n : Int) (w : World) : Calls Try.prog 22 #[.int .i64 n] w fun e w' => e = .returned (.int .i64 n) ∧ w = w' := by
  go_enter Try.func22, Try.ntmps22
  go_wp2
  go_ret
  exact ⟨rfl, rfl⟩
set_option maxHeartbeats 1000000 in
theorem alive12_any (w : World) : Calls Try.prog 7 #[] w fun e w' => e = .returned (.bool true) ∧ w.Extends w' := by
  have HC : Hid (∀ v w, U8s w v [97, 98, 99] → Calls Try.prog 18 #[PV 3 2 1, v] w fun e w' => ∃ a c, e = .returned (.tuple #[.slice a 2 c, .int .i64 0]) ∧ w.Extends w') := fun v w hv => by
    refine (cut_some 3 2 1 v [97, 98, 99] w (by decide) rfl hv).mono ?_
    rintro e w' ⟨u, rfl, hx, hu⟩
    obtain ⟨a, c, rfl, _⟩ := hu.slice
    exact ⟨a, c, by rw [CM.cut_length]; rfl, hx⟩
  have HS : Hid (∀ w, Calls Try.prog 12 #[PV 5 2 2] w fun e w' => e = .returned (.int .i64 3) ∧ w.Extends w') := fun w => sym_yes 5 2 2 w (by decide)
  have kc := fun (w : World) (C : Array Value) (n c : Nat) => Lib.run_convert_bytes_const (P := Try.prog) w 24 5 C n c Try.underlying24 Try.underlying5
  go_enter Try.func7, Try.ntmps7
  go_wp2_with fail
  generalize hw2 : World.alloc w _ = w2
  have hu2 : U8s w2 (.slice (some ⟨w.heap.size, 0, none⟩) 3 3) [97, 98, 99] := by subst hw2; exact u8s_mark w _ 3 _ _ _ _ rfl rfl rfl (by decide) (by decide)
  have HX2 : Hid (w.Extends w2) := by subst hw2; exact ext_alloc _ _
  have HU2 := Lib.hid hu2
  clear hw2 hu2 kc
  refine (HC.out _ w2 HU2.out).mono ?_
  rintro e w3 ⟨a, c, rfl, hx⟩
  have HX3 := Lib.hid (Gr.ext_trans HX2.out hx)
  clear hx
  go_wp2_with fail
  refine (HS.out w3).mono ?_
  rintro e w4 ⟨rfl, hx⟩
  have HX4 := Lib.hid (Gr.ext_trans HX3.out hx)
  clear hx
  go_wp2_with fail
  refine (num12_any _ w4).mono ?_
  rintro e w5 ⟨rfl, rfl⟩
  go_wp2
  go_ret
  exact ⟨by rfl, HX4.out⟩
/-- What both programs answer of a shape. -/
structure Asked12 (b s m i : Int) (r : Bool) (y n k : Nat) : Prop where
  rp : ∀ w, Calls Try.prog 10 #[PV b s m] w fun e w' => e = .returned (.bool r) ∧ w.Extends w'
  rr : ∀ w, Calls Try.prog 11 #[PV b s m] w fun e w' => e = .returned (.bool r) ∧ w.Extends w'
  yp : ∀ w, Calls Try.prog 12 #[PV b s m] w fun e w' => e = .returned (.int .i64 (y : Nat)) ∧ w.Extends w'
  yr : ∀ w, Calls Try.prog 13 #[PV b s m] w fun e w' => e = .returned (.int .i64 (y : Nat)) ∧ w.Extends w'
  np : ∀ w, Calls Try.prog 14 #[PV b s m] w fun e w' => e = .returned (.int .i64 (n : Nat)) ∧ w.Extends w'
  nr : ∀ w, Calls Try.prog 15 #[PV b s m] w fun e w' => e = .returned (.int .i64 (n : Nat)) ∧ w.Extends w'
  kp : ∀ w, Calls Try.prog 16 #[PV b s m, .int .i64 i] w fun e w' => e = .returned (.int .i64 (k : Nat)) ∧ w.Extends w'
  kr : ∀ w, Calls Try.prog 17 #[PV b s m, .int .i64 i] w fun e w' => e = .returned (.int .i64 (k : Nat)) ∧ w.Extends w'
theorem right_nat {b s m : Int} (h : CM.Right b s m) : ∃ B S M : Nat, b = B ∧ s = S ∧ m = M := by
  obtain ⟨h1, h2, h3, h4, h5, h6⟩ := h
  exact ⟨b.toNat, s.toNat, m.toNat, by omega, by omega, by omega⟩
theorem asked12 (b s m i : Int) : ∃ r y n k, Asked12 b s m i r y n k := by
  by_cases h : CM.Right b s m
  · obtain ⟨B, S, M, rfl, rfl, rfl⟩ := right_nat h
    by_cases hi : 0 ≤ i ∧ i < CM.bl B S M
    · obtain ⟨I, rfl⟩ := Int.eq_ofNat_of_zero_le hi.1
      exact ⟨true, _, _, _, fun w => right_yes _ _ _ w h, fun w => rright_yes _ _ _ w h, fun w => sym_yes _ _ _ w h, fun w => rsym_yes _ _ _ w h, fun w => blocks_yes _ _ _ w h, fun w => rblocks_yes _ _ _ w h, fun w => k_in B S M I w h (by omega), fun w => rk_in B S M I w h (by omega)⟩
    · refine ⟨true, _, _, 0, fun w => right_yes _ _ _ w h, fun w => rright_yes _ _ _ w h, fun w => sym_yes _ _ _ w h, fun w => rsym_yes _ _ _ w h, fun w => blocks_yes _ _ _ w h, fun w => rblocks_yes _ _ _ w h, fun w => ?_, fun w => ?_⟩
      · by_cases h0 : i < 0
        · exact k_neg _ _ _ i w h0
        · exact k_over B S M i w h (by omega)
      · by_cases h0 : i < 0
        · exact rk_neg _ _ _ i w h0
        · exact rk_over B S M i w h (by omega)
  · refine ⟨false, 0, 0, 0, fun w => right_no _ _ _ w h, fun w => rright_no _ _ _ w h, fun w => sym_no _ _ _ w h, fun w => rsym_no _ _ _ w h, fun w => blocks_no _ _ _ w h, fun w => rblocks_no _ _ _ w h, fun w => ?_, fun w => ?_⟩
    · by_cases h0 : i < 0
      · exact k_neg _ _ _ i w h0
      · exact k_wrong _ _ _ i w h (by omega)
    · by_cases h0 : i < 0
      · exact rk_neg _ _ _ i w h0
      · exact rk_wrong _ _ _ i w h (by omega)
theorem asked12_cut (b s m : Int) (xs : List Nat) : ∃ er L, (∀ v w, U8s w v xs → Calls Try.prog 18 #[PV b s m, v] w (CutOut w er L)) ∧ (∀ v w, U8s w v xs → Calls Try.prog 19 #[PV b s m, v] w (CutOut w er L)) ∧
    L.length ≤ 4000 ∧ ∀ k, (L.getD k []).length ≤ 40 := by
  by_cases h : CM.Right b s m
  · obtain ⟨B, S, M, rfl, rfl, rfl⟩ := right_nat h
    obtain ⟨h1, h2, h3, h4, h5, h6⟩ := CM.right_of h
    by_cases hl : xs.length = B
    · refine ⟨0, _, fun v w hv => cut_some B S M v xs w h hl hv, fun v w hv => rcut_some B S M v xs w h hl hv, ?_, fun k => ?_⟩
      · rw [CM.cut_length]; have := CM.bl_le B S M; have := CM.sy_le B S h1; omega
      · by_cases hk : k < CM.bl B S M
        · rw [CM.cut_at _ _ _ _ _ hk, CM.blk_length]; exact Nat.le_trans (CM.kk_le B S M k h5) h6
        · rw [List.getD_eq_getElem?_getD, List.getElem?_eq_none (by rw [CM.cut_length]; omega)]; simp
    · exact ⟨10, [], fun v w hv => cut_other B S M v xs w h hl hv, fun v w hv => rcut_other B S M v xs w h hl hv, by simp, fun k => by simp⟩
  · exact ⟨1, [], fun v w hv => cut_wrong b s m v w h, fun v w hv => rcut_wrong b s m v w h, by simp, fun k => by simp⟩
theorem asked12_join (b s m : Int) (L : List (List (List Nat))) : ∃ er xs, (∀ v w, RwsL w v L → Calls Try.prog 20 #[PV b s m, v] w (JoinOut w er xs)) ∧ (∀ v w, RwsL w v L → Calls Try.prog 21 #[PV b s m, v] w (JoinOut w er xs)) := by
  by_cases h : CM.Right b s m
  · obtain ⟨B, S, M, rfl, rfl, rfl⟩ := right_nat h
    by_cases hf : CM.Fit B S M L
    · exact ⟨0, _, fun v w hv => (join_any B S M v L w h hv).mono fun e w' h => h.1 hf, fun v w hv => (rjoin_any B S M v L w h hv).mono fun e w' h => h.1 hf⟩
    · exact ⟨10, _, fun v w hv => (join_any B S M v L w h hv).mono fun e w' h => h.2 hf, fun v w hv => (rjoin_any B S M v L w h hv).mono fun e w' h => h.2 hf⟩
  · exact ⟨1, [], fun v w hv => join_wrong b s m v w h, fun v w hv => rjoin_wrong b s m v w h⟩
end Go.Proofs.Ytomfgkgdlpajeaa
