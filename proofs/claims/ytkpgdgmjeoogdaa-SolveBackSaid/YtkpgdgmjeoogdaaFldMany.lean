import Derived.Test.YtkpgdgmjeoogdaaFldTimes
import Derived.Test.YtkpgdgmjeoogdaaBytes
namespace Go.Proofs.Ytkpgdgmjeoogdaa
open Go.RowKit
/-- the sum of all -/
def FM.sum (xs : List Nat) : Nat := xs.foldl (fun s x => s ^^^ x) 0
def FM.prod (xs : List Nat) : Nat := xs.foldl FM.tm 1
theorem FM.sum_snoc (xs : List Nat) (k : Nat) (h : k < xs.length) : FM.sum (xs.take (k + 1)) = FM.sum (xs.take k) ^^^ xs.getD k 0 := by
  rw [List.take_succ_eq_append_getElem h, FM.sum, List.foldl_append]; simp [FM.sum, h]
theorem FM.prod_snoc (xs : List Nat) (k : Nat) (h : k < xs.length) : FM.prod (xs.take (k + 1)) = FM.tm (FM.prod (xs.take k)) (xs.getD k 0) := by
  rw [List.take_succ_eq_append_getElem h, FM.prod, List.foldl_append]; simp [FM.prod, h]
theorem FM.sum_lt (xs : List Nat) (h : ∀ x ∈ xs, x < 256) : FM.sum xs < 256 := by
  have : ∀ (xs : List Nat) (s : Nat), s < 256 → (∀ x ∈ xs, x < 256) → xs.foldl (fun s x => s ^^^ x) s < 256 := by
    intro xs
    induction xs with
    | nil => intro s hs _; exact hs
    | cons x xs ih => intro s hs h; exact ih _ (FM.xor_lt hs (h x (by simp))) (fun y hy => h y (by simp [hy]))
  exact this xs 0 (by omega) h
theorem FM.prod_lt (xs : List Nat) : FM.prod xs < 256 := by
  have : ∀ (xs : List Nat) (s : Nat), s < 256 → xs.foldl FM.tm s < 256 := by
    intro xs
    induction xs with
    | nil => intro s hs; exact hs
    | cons x xs ih => intro s hs; exact ih _ (FM.tm_lt _ _ hs)
  exact this xs 1 (by omega)
set_option maxHeartbeats 400000 in
theorem add_any (v : Value) (xs : List Nat) (w : World) (hv : U8s w v xs) :
    Calls Try.prog 33 #[v] w fun e w' => e = .returned (.int .u8 (FM.sum xs : Nat)) ∧ w = w' := by
  rcases hv with ⟨rfl, a, cap, rfl, _⟩ | ⟨b, off, cap, rfl, hm1, hm2, hb, hx, hl⟩
  · go_enter Try.func33, Try.ntmps33
    go_wp2
    refine wp_loop_rounds 1 ?_; rw [rounds_succ]
    go_wp2
    go_ret
    exact ⟨rfl, rfl⟩
  · have hm := Nat.le_trans hm1 hm2; unfold maxLen at hm; clear hm1 hm2
    go_enter Try.func33, Try.ntmps33
    go_wp2
    generalize hn : xs.length = n at *
    have HN := Lib.hid hn; clear hn
    have HX := Lib.hid hx; clear hx
    have HL := Lib.hid hl; clear hl
    go_loop [3, 8] (fun s i => ∃ k : Nat, k ≤ n ∧ i = .int .i64 k ∧ s = .int .u8 (FM.sum (xs.take k) : Nat)) (fun _ i => (n - intOf i).toNat)
    case atStart => exact ⟨0, by omega, rfl, rfl⟩
    case round =>
      obtain ⟨k, hk, rfl, rfl⟩ := hrel
      by_cases h0 : k < n
      · have hc := HX.out k h0
        have hs := Lib.hid (FM.sum_snoc xs k (by rw [HN.out]; exact h0))
        have he := Lib.hid (u8_xor_nat (FM.sum (xs.take k)) (xs.getD k 0) (FM.sum_lt _ (take_lt xs HL.out k)) (getD_lt xs HL.out k))
        go_wp2
        go_round
        case rel => exact ⟨k + 1, by omega, by go_num, by rw [hs.out, ← he.out]; simp⟩
        case measure => simp [intOf]; omega
      · obtain rfl : k = n := by omega
        go_wp2
        go_ret
        exact ⟨retu8 (by rw [← HN.out, List.take_length]), rfl⟩
set_option maxHeartbeats 400000 in
theorem mul_any (v : Value) (xs : List Nat) (w : World) (hv : U8s w v xs) :
    Calls Try.prog 34 #[v] w fun e w' => e = .returned (.int .u8 (FM.prod xs : Nat)) ∧ w = w' := by
  rcases hv with ⟨rfl, a, cap, rfl, _⟩ | ⟨b, off, cap, rfl, hm1, hm2, hb, hx, hl⟩
  · go_enter Try.func34, Try.ntmps34
    go_wp2
    refine wp_loop_rounds 1 ?_; rw [rounds_succ]
    go_wp2
    go_ret
    exact ⟨rfl, rfl⟩
  · have hm := Nat.le_trans hm1 hm2; unfold maxLen at hm; clear hm1 hm2
    go_enter Try.func34, Try.ntmps34
    go_wp2
    generalize hn : xs.length = n at *
    have HN := Lib.hid hn; clear hn
    have HX := Lib.hid hx; clear hx
    have HL := Lib.hid hl; clear hl
    go_loop [3, 8] (fun s i => ∃ k : Nat, k ≤ n ∧ i = .int .i64 k ∧ s = .int .u8 (FM.prod (xs.take k) : Nat)) (fun _ i => (n - intOf i).toNat)
    case atStart => exact ⟨0, by omega, rfl, rfl⟩
    case round =>
      obtain ⟨k, hk, rfl, rfl⟩ := hrel
      by_cases h0 : k < n
      · have hc := HX.out k h0
        have hs := Lib.hid (FM.prod_snoc xs k (by rw [HN.out]; exact h0))
        have hp := FM.prod_lt (xs.take k)
        have hy := getD_lt xs HL.out k
        go_wp2_with fail
        refine (times_any _ _ hp (by simpa using hy) _).mono ?_
        rintro e w' ⟨rfl, rfl⟩
        go_wp2
        go_round
        case rel => exact ⟨k + 1, by omega, by go_num, by rw [hs.out]; simp⟩
        case measure => simp [intOf]; omega
      · obtain rfl : k = n := by omega
        go_wp2
        go_ret
        exact ⟨retu8 (by rw [← HN.out, List.take_length]), rfl⟩
end Go.Proofs.Ytkpgdgmjeoogdaa
