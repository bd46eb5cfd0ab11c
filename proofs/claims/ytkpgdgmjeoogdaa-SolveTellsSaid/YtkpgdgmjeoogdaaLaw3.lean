/- The third law's helpers: num, alive. -/
import Derived.Test.YtkpgdgmjeoogdaaSolve
import Derived.Test.YtkpgdgmjeoogdaaApp
namespace Go.Proofs.Ytkpgdgmjeoogdaa
open Go.RowKit
set_option linter.unusedVariables false
theorem num_any (n : Int) (w : World) : Calls Try.prog 26 #[.int .i64 n] w fun e w' => e = .returned (.int .i64 n) ∧ w = w' := by
  go_enter Try.func26, Try.ntmps26
  go_wp2
  go_ret
  exact ⟨rfl, rfl⟩
theorem example_res : SolveRes 1 1 (· < 1) (rowsF 1 1 [[2]] [[29]]) (some [[128]]) := by
  have hbd : ∀ j, LA.Bd (rowsF 1 1 [[2]] [[29]] j) := rowsF_bd 1 1 (by decide) (by decide)
  have h0 : rowsF 1 1 [[2]] [[29]] 0 0 = 2 := by decide
  have h1 : rowsF 1 1 [[2]] [[29]] 0 (1 + 0) = 29 := by decide
  refine ⟨rfl, fun i hi => by obtain rfl : i = 0 := by omega
                              rfl, fun c hc => ?_, fun k i => ?_, fun j hj k hk => ?_⟩
  · obtain rfl : c = 0 := by omega
    exact ⟨_, LA.Span.mem (fun j _ => hbd j) (j := 0) (by omega), by rw [h0]; decide, fun i hi => absurd hi (Nat.not_lt_zero _)⟩
  · unfold xOf
    refine getD_lt _ ?_ k
    match i with
    | 0 => decide
    | i + 1 => intro x hx; simp at hx
  · obtain rfl : j = 0 := by omega
    obtain rfl : k = 0 := by omega
    rw [h1, LA.dots_succ, h0]
    decide +kernel
theorem rws_at {w : World} {v : Value} {l : List (List Nat)} (h : Rws w v l) : ∃ a cap, v = .slice a l.length cap := by obtain ⟨a, c, h, _⟩ := h.slice; exact ⟨a, c, h⟩
theorem one_one (W : World) (x s t : Nat) (T T' : TypeId) (hx : x < 256) (hs : s = W.heap.size) (ht : t = W.heap.size + 1) : Rws ((W.alloc (.cells #[.int .u8 x] T)).alloc (.cells #[.slice (some ⟨s, 0, none⟩) 1 1] T')) (.slice (some ⟨t, 0, none⟩) 1 1) [[x]] := by
  subst hs; subst ht
  exact rws_one (W.alloc (.cells #[.int .u8 x] T)) (W.heap.size + 1) T' _ [x] (u8s_new W W.heap.size 1 1 T _ [x] rfl rfl rfl (by simp [maxLen]) (by simp [hx])) (by simp)
theorem rank_none (w : World) (f : Nat → LA.V) (W r : Nat) (h : LA.RankIs W (· < ([] : List (List Nat)).length) f r) : r = 0 := h.uniq (LA.RankIs.none fun j hj => absurd hj (Nat.not_lt_zero _))
set_option maxHeartbeats 1000000 in
theorem alive3_any (w : World) :
    Calls Try.prog 19 #[] w fun e w' => e = .returned (.bool true) ∧ Below w.heap.size w w' := by
  go_enter Try.func19, Try.ntmps19
  go_wp2_with fail
  refine (solve_good 1 1 _ _ [[2]] [[29]] _ (((one_one w 2 _ _ 5 26 (by omega) rfl rfl).ext (ext_alloc _ _)).ext (ext_alloc _ _)) (one_one _ 29 _ _ 5 26 (by omega) (by simp) (by simp)) (by omega) (by omega) (by omega) (by omega) rfl).mono ?_
  rintro _ w5 ⟨res, v, hres, rfl, hb, hr⟩
  obtain rfl : res = some [[128]] := SolveRes.uniq (fun j _ => rowsF_bd 1 1 (m := [[2]]) (d := [[29]]) (by decide) (by decide) j) hres example_res
  have HB5 : Hid (Below w.heap.size w w5) := ((((((Below.refl w.heap.size w).alloc (Nat.le_refl _) _).alloc (by simp) _).alloc (by simp; omega) _).alloc (by simp; omega) _)).trans (hb.mono (by simp; omega))
  have HR5 : Hid (Rws w5 v [[128]]) := hr
  clear hb hr hres
  obtain ⟨a, cap, rfl⟩ := rws_at HR5.out
  go_wp2_with fail
  refine (rank_any 3 _ [] _ (Rws.nil _ _ _)).mono ?_
  rintro _ w6 ⟨r, rfl, hr, hb⟩
  obtain rfl := rank_none w _ _ _ hr
  have HB6 := Lib.hid (HB5.out.trans (hb.mono HB5.out.size))
  have hr6 := HR5.out.below hb rfl
  clear hb hr
  obtain ⟨b, off, rfl, _, hat⟩ := hr6.at.2 (by simp)
  obtain ⟨a', c', hc, hu⟩ := hat 0 (by simp)
  obtain ⟨b', off', rfl, _, hc'⟩ := hu.cell.2 (by simp)
  have hc1 : w6.cell? ⟨b, off, none⟩ = some (.slice (some ⟨b', off', none⟩) 1 c') := hc
  have hc2 : w6.cell? ⟨b', off', none⟩ = some (.int .u8 128) := hc' 0 (by simp)
  clear hr6 hat hc hu hc'
  simp only [errOf]
  go_wp2_with fail
  refine (num_any _ _).mono ?_
  rintro _ w' ⟨rfl, rfl⟩
  go_wp2
  go_ret
  exact ⟨rfl, HB6.out⟩
end Go.Proofs.Ytkpgdgmjeoogdaa
