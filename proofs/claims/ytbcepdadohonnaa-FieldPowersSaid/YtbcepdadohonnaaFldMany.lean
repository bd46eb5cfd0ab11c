import Derived.Test.YtbcepdadohonnaaFldWalks
namespace Go.Proofs.Ytbcepdadohonnaa
open Go.RowKit
/-- v is a slice of the bytes xs in w: empty; or its cells hold them. -/
def U8s (w : World) (v : Value) (xs : List Nat) : Prop :=
  (xs = [] ∧ ∃ a cap, v = .slice a 0 cap) ∨
  ∃ b off cap, v = .slice (some ⟨b, off, none⟩) xs.length cap ∧ xs.length ≤ maxLen ∧ b < w.heap.size ∧ (∀ k, k < xs.length → w.cell? ⟨b, off + k, none⟩ = some (.int .u8 (xs.getD k 0 : Nat))) ∧ ∀ x ∈ xs, x < 256
theorem U8s.below {w w' : World} {v : Value} {xs : List Nat} {B : Nat} (h : U8s w v xs) (hb : Below B w w') (hB : B = w.heap.size) : U8s w' v xs := by
  rcases h with h | ⟨b, off, cap, h1, h2, h3, h4, h5⟩
  · exact .inl h
  · refine .inr ⟨b, off, cap, h1, h2, Nat.lt_of_lt_of_le h3 hb.size, fun k hk => ?_, h5⟩
    rw [hb.cell (p := ⟨b, off + k, none⟩) (by show b < B; omega)]
    exact h4 k hk
/-- the sum of all -/
def FM.sum (xs : List Nat) : Nat := xs.foldl (fun s x => s ^^^ x) 0
def FM.prod (xs : List Nat) : Nat := xs.foldl FM.tm 1
theorem FM.sum_snoc (xs : List Nat) (k : Nat) (h : k < xs.length) : FM.sum (xs.take (k + 1)) = FM.sum (xs.take k) ^^^ xs.getD k 0 := by
  rw [List.take_succ_eq_append_getElem h, FM.sum, List.foldl_append]; simp [FM.sum, h]
theorem FM.prod_snoc (xs : List Nat) (k : Nat) (h : k < xs.length) : FM.prod (xs.take (k + 1)) = FM.tm (FM.prod (xs.take k)) (xs.getD k 0) := by
  rw [List.take_succ_eq_append_getElem h, FM.prod, List.foldl_append]; simp [FM.prod, h]
theorem FM.sum_lt (xs : List Nat) (h : ∀ x ∈ xs, x < 256) : FM.sum xs < 256 := by
  have : ∀ (xs : List Nat) (s : Nat), s < 256 → (∀ x ∈ xs, x < 256) → xs.foldl (fun s x => s ^^^ x) s < 256 := by
    intro xs
    induction xs with
    | nil => intro s hs _; exact hs
    | cons x xs ih => intro s hs h; exact ih _ (FM.xor_lt hs (h x (by simp))) (fun y hy => h y (by simp [hy]))
  exact this xs 0 (by omega) h
theorem FM.prod_lt (xs : List Nat) : FM.prod xs < 256 := by
  have : ∀ (xs : List Nat) (s : Nat), s < 256 → xs.foldl FM.tm s < 256 := by
    intro xs
    induction xs with
    | nil => intro s hs; exact hs
    | cons x xs ih => intro s hs; exact ih _ (FM.tm_lt _ _ hs)
  exact this xs 1 (by omega)
theorem getD_lt (xs : List Nat) (h : ∀ x ∈ xs, x < 256) (k : Nat) : xs.getD k 0 < 256 := by
  by_cases hk : k < xs.length
  · rw [List.getD_eq_getElem?_getD, List.getElem?_eq_getElem hk]; exact h _ (List.getElem_mem hk)
  · rw [List.getD_eq_getElem?_getD, List.getElem?_eq_none (by omega)]; decide
theorem take_lt (xs : List Nat) (h : ∀ x ∈ xs, x < 256) (k : Nat) : ∀ x ∈ xs.take k, x < 256 := fun x hx => h x (List.mem_of_mem_take hx)
set_option maxHeartbeats 400000 in
theorem add_any (v : Value) (xs : List Nat) (w : World) (hv : U8s w v xs) :
    Calls Try.prog 8 #[v] w fun e w' => e = .returned (.int .u8 (FM.sum xs : Nat)) ∧ w = w' := by
  rcases hv with ⟨rfl, a, cap, rfl⟩ | ⟨b, off, cap, rfl, hm, hb, hx, hl⟩
  · go_enter Try.func8, Try.ntmps8
    go_wp2
    refine wp_loop_rounds 1 ?_; rw [rounds_succ]
    go_wp2
    go_ret
    exact ⟨rfl, rfl⟩
  · unfold maxLen at hm
    go_enter Try.func8, Try.ntmps8
    go_wp2
    generalize hn : xs.length = n at *
    have HN := Lib.hid hn; clear hn
    have HX := Lib.hid hx; clear hx
    have HL := Lib.hid hl; clear hl
    go_loop [3, 8] (fun s i => ∃ k : Nat, k ≤ n ∧ i = .int .i64 k ∧ s = .int .u8 (FM.sum (xs.take k) : Nat)) (fun _ i => (n - intOf i).toNat)
    case atStart => exact ⟨0, by omega, rfl, rfl⟩
    case round =>
      obtain ⟨k, hk, rfl, rfl⟩ := hrel
      by_cases h0 : k < n
      · have hc := HX.out k h0
        have hs := Lib.hid (FM.sum_snoc xs k (by rw [HN.out]; exact h0))
        have he := Lib.hid (u8_xor_nat (FM.sum (xs.take k)) (xs.getD k 0) (FM.sum_lt _ (take_lt xs HL.out k)) (getD_lt xs HL.out k))
        go_wp2
        go_round
        case rel => exact ⟨k + 1, by omega, by go_num, by rw [hs.out, ← he.out]; simp⟩
        case measure => simp [intOf]; omega
      · obtain rfl : k = n := by omega
        go_wp2
        go_ret
        exact ⟨retu8 (by rw [← HN.out, List.take_length]), rfl⟩
set_option maxHeartbeats 400000 in
theorem mul_any (v : Value) (xs : List Nat) (w : World) (hv : U8s w v xs) :
    Calls Try.prog 9 #[v] w fun e w' => e = .returned (.int .u8 (FM.prod xs : Nat)) ∧ w = w' := by
  rcases hv with ⟨rfl, a, cap, rfl⟩ | ⟨b, off, cap, rfl, hm, hb, hx, hl⟩
  · go_enter Try.func9, Try.ntmps9
    go_wp2
    refine wp_loop_rounds 1 ?_; rw [rounds_succ]
    go_wp2
    go_ret
    exact ⟨rfl, rfl⟩
  · unfold maxLen at hm
    go_enter Try.func9, Try.ntmps9
    go_wp2
    generalize hn : xs.length = n at *
    have HN := Lib.hid hn; clear hn
    have HX := Lib.hid hx; clear hx
    have HL := Lib.hid hl; clear hl
    go_loop [3, 8] (fun s i => ∃ k : Nat, k ≤ n ∧ i = .int .i64 k ∧ s = .int .u8 (FM.prod (xs.take k) : Nat)) (fun _ i => (n - intOf i).toNat)
    case atStart => exact ⟨0, by omega, rfl, rfl⟩
    case round =>
      obtain ⟨k, hk, rfl, rfl⟩ := hrel
      by_cases h0 : k < n
      · have hc := HX.out k h0
        have hs := Lib.hid (FM.prod_snoc xs k (by rw [HN.out]; exact h0))
        have hp := FM.prod_lt (xs.take k)
        have hy := getD_lt xs HL.out k
        go_wp2_with fail
        refine (times_any _ _ hp (by simpa using hy) _).mono ?_
        rintro e w' ⟨rfl, rfl⟩
        go_wp2
        go_round
        case rel => exact ⟨k + 1, by omega, by go_num, by rw [hs.out]; simp⟩
        case measure => simp [intOf]; omega
      · obtain rfl : k = n := by omega
        go_wp2
        go_ret
        exact ⟨retu8 (by rw [← HN.out, List.take_length]), rfl⟩
end Go.Proofs.Ytbcepdadohonnaa
