/- slices.Index and slices.Contains over ints. -/
import Derived.Test.YtgdekeeleighcaaDoorRows
import Derived.Test.YtgdekeeleighcaaDoorInts
import Derived.WalkKit
import Derived.IntWalk
namespace Go.Proofs.YtgdekeeleighcaaDoor
open Go.RowKit
theorem intinfo : (Tryd.prog.info? 3).map (fun i => (i.zero, i.size, i.bytes)) = some (some (.int .i64 0), 1, 8) := by kernel_rfl
/-- Where x is met first, else -1: all that is wanted of it. -/
def Found (w : World) (x : Int) (xs : List Int) (e : Ending) (w' : World) : Prop := ∃ r : Int, e = .returned (.int .i64 r) ∧ -1 ≤ r ∧ r ≤ xs.length ∧ (0 ≤ r ↔ x ∈ xs) ∧ w = w'
theorem mem_take_succ (xs : List Int) (k : Nat) (hk : k < xs.length) (x : Int) (h : x ∉ xs.take k) (hne : x ≠ xs.getD k 0) : x ∉ xs.take (k + 1) := by
  intro hm
  rw [List.take_succ_eq_append_getElem hk] at hm
  rcases List.mem_append.1 hm with h' | h'
  · exact h h'
  · exact hne (by rw [List.mem_singleton.1 h']; simp [hk])
theorem mem_at (xs : List Int) (k : Nat) (hk : k < xs.length) : xs.getD k 0 ∈ xs := by simp [hk]
theorem index_any (v : Value) (xs : List Int) (x : Int) (w : World) (hv : Ints w v xs) :
    Calls Tryd.prog 47 #[v, .int .i64 x] w (Found w x xs) := by
  have hm := hv.len
  obtain ⟨a, cap, rfl, _⟩ := hv.slice
  have HV := Lib.hid hv.cell.2
  have HS := Lib.hid (fun k hk => mem_take_succ xs k hk x)
  have HA := Lib.hid (mem_at xs)
  have HT : Hid (xs.take xs.length = xs) := List.take_length
  have H0 : Hid (x ∉ xs.take 0) := fun h => by cases h
  have HF : Hid (∀ r : Int, -1 ≤ r → r ≤ xs.length → (0 ≤ r ↔ x ∈ xs) → Found w x xs (.returned (.int .i64 r)) w) := fun r h0 h1 h2 => ⟨r, rfl, h0, h1, h2, rfl⟩
  clear hv
  generalize hn : xs.length = n at *
  have HN := Lib.hid hn; clear hn
  unfold maxLen at hm
  go_enter Tryd.func47, Tryd.ntmps47
  go_wp2
  go_loop [8] (fun i => ∃ k : Nat, k ≤ n ∧ i = .int .i64 k ∧ Hid (x ∉ xs.take k)) (fun i => (n - intOf i).toNat)
  case atStart => exact ⟨0, by omega, rfl, H0⟩
  case round =>
    obtain ⟨k, hk, rfl, HK⟩ := hrel
    by_cases h1 : k < n
    · obtain ⟨b, off, rfl, hb, hc⟩ := HV.out (by omega)
      have hc1 := hc k h1
      have HS1 := Lib.hid (HS.out k h1)
      have HA1 := Lib.hid (HA.out k h1)
      clear hc
      generalize xs.getD k 0 = y at *
      by_cases hxy : x = y
      · subst hxy
        have HP := Lib.hid (HF.out k (by omega) (by omega) ⟨fun _ => HA1.out, fun _ => by omega⟩)
        go_wp2
        go_ret
        exact HP.out
      · have hd : (x == y) = false := by simpa using hxy
        have HP := Lib.hid (HS1.out HK.out hxy)
        go_wp2
        go_round
        case rel => exact ⟨k + 1, by omega, by go_num, HP⟩
        case measure => simp [intOf]; omega
    · obtain rfl : k = n := by omega
      have HP := Lib.hid (HF.out (-1) (by omega) (by omega) ⟨fun h => absurd h (by omega), fun h => absurd h (by have := HK.out; rw [HT.out] at this; exact this)⟩)
      go_wp2
      go_ret
      exact HP.out
theorem contains_any (v : Value) (xs : List Int) (x : Int) (w : World) (hv : Ints w v xs) (m : Bool) (hm : m = decide (x ∈ xs)) :
    Calls Tryd.prog 41 #[v, .int .i64 x] w fun e w' => e = .returned (.bool m) ∧ w = w' := by
  have hi := index_any v xs x w hv
  have hl := hv.len
  unfold maxLen at hl
  have HR : Hid (∀ r : Int, (0 ≤ r ↔ x ∈ xs) → m = decide (0 ≤ r)) := fun r h => by rw [hm]; simp only [h]
  clear hm hv
  go_enter Tryd.func41, Tryd.ntmps41
  go_wp2_with fail
  refine hi.mono ?_
  rintro e w' ⟨r, rfl, h0, h1, h2, rfl⟩
  have HM := Lib.hid (HR.out r h2)
  clear h2 HR hi
  go_wp2
  go_ret
  exact ⟨by rw [HM.out]; rfl, rfl⟩
end Go.Proofs.YtgdekeeleighcaaDoor
