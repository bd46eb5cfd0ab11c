/- A bucket that has seen peers 0, 1, .. one behind the other. -/
import Derived.Test.YtmbbhmmciidfnaaBkThree
namespace Go.Proofs.Ytmbbhmmciidfnaa
set_option maxRecDepth 20000
open Go.RowKit Go.Deep
set_option linter.unusedVariables false
/-- Who is there when i peers have been seen. -/
def st (i : Nat) : List Ct := (List.range (min i 3)).map fun j => Ct.of (j : Nat)
theorem st_len (i : Nat) : (st i).length = min i 3 := by simp [st]
theorem st_get {i j : Nat} (h : j < min i 3) : (st i).getD j z21 = Ct.of j := by
  unfold st
  rw [List.getD_eq_getElem?_getD, List.getElem?_map, List.getElem?_range h]; rfl
theorem st_dst_mem {i : Nat} {c : Ct} (h : c ∈ st i) : ∃ j : Nat, j < min i 3 ∧ c = Ct.of j := by
  unfold st at h
  obtain ⟨j, hj, rfl⟩ := List.mem_map.1 h
  exact ⟨j, List.mem_range.1 hj, rfl⟩
theorem st_far {i p : Nat} (h : min i 3 ≤ p) : dropC p (st i) = st i := dropC_none fun c hc => by
  obtain ⟨j, hj, rfl⟩ := st_dst_mem hc
  show ((j : Nat) : Int) ≠ p
  omega
theorem st_full {i : Nat} (h : 3 ≤ i) : st i = st 3 := by unfold st; rw [show min i 3 = 3 by omega]; rfl
/-- One more. -/
theorem st_next (i : Nat) : seeL (st i) (Ct.of i) = st (i + 1) ∧ (seeX (st i) (Ct.of i)).p = 0 ∧ seeB (st i) (Ct.of i) = decide (3 ≤ i) := by
  have hd : dropC (Ct.of i).p (st i) = st i := st_far (p := i) (by omega)
  unfold seeL seeX seeB
  rw [hd, st_len]
  by_cases h : 3 ≤ i
  · rw [if_pos (by omega), if_pos (by omega), decide_eq_true (by omega), decide_eq_true h, st_full h, st_full (show 3 ≤ i + 1 by omega)]
    exact ⟨rfl, rfl, rfl⟩
  · rw [if_neg (by omega), if_neg (by omega), decide_eq_false (by omega), decide_eq_false h]
    refine ⟨?_, rfl, rfl⟩
    unfold st
    rw [show min (i + 1) 3 = min i 3 + 1 by omega, List.range_succ, List.map_append, show min i 3 = i by omega]
    rfl
/-- One of them again. -/
theorem st_again {n a : Nat} (h : a < n) : (seeL (st n) (Ct.of a)).length = min n 3 ∧ (3 ≤ a → ((seeL (st n) (Ct.of a)).getD 0 z21).p = 0) ∧ (a < 3 → ((seeL (st n) (Ct.of a)).getD (min n 3 - 1) z21).p = a) := by
  by_cases h3 : 3 ≤ a
  · have e : seeL (st n) (Ct.of a) = st n := by
      unfold seeL
      rw [show dropC (Ct.of a).p (st n) = st n from st_far (p := a) (by omega), st_len, if_pos (by omega)]
    rw [e, st_len]
    refine ⟨rfl, fun _ => ?_, fun h => by omega⟩
    rw [st_get (by omega)]; rfl
  · obtain ⟨m, hm⟩ : ∃ m, min n 3 = m := ⟨_, rfl⟩
    have e : st n = st m := by unfold st; rw [hm, show min m 3 = m by omega]
    rw [hm, e]
    have hm1 : a < m := by omega
    have hm3 : m ≤ 3 := by omega
    refine ⟨?_, fun h => by omega, fun _ => ?_⟩
    all_goals
      obtain rfl | rfl | rfl : m = 1 ∨ m = 2 ∨ m = 3 := by omega
      · obtain rfl : a = 0 := by omega
        rfl
      · obtain rfl | rfl : a = 0 ∨ a = 1 := by omega
        all_goals rfl
      · obtain rfl | rfl | rfl : a = 0 ∨ a = 1 ∨ a = 2 := by omega
        all_goals rfl
/-- One of them is dropped, and another one seen. -/
theorem st_drop (g : Nat) : isIn g (st 3) = decide (g < 3) ∧ seeB (dropC g (st 3)) (Ct.of 100) = decide (3 ≤ g) ∧ (seeL (dropC g (st 3)) (Ct.of 100)).length = 3 ∧
    (g < 3 → ((seeL (dropC g (st 3)) (Ct.of 100)).getD 2 z21).p = 100 ∧ ((seeL (dropC g (st 3)) (Ct.of 100)).getD 0 z21).p ≠ g ∧ ((seeL (dropC g (st 3)) (Ct.of 100)).getD 1 z21).p ≠ g) ∧
    (3 ≤ g → ((seeL (dropC g (st 3)) (Ct.of 100)).getD 2 z21).p = 2) := by
  by_cases h3 : 3 ≤ g
  · have e : dropC g (st 3) = st 3 := st_far (by omega)
    unfold isIn
    rw [e, decide_eq_false (by omega), decide_eq_false (by omega), decide_eq_true h3]
    exact ⟨rfl, rfl, rfl, fun h => by omega, fun _ => rfl⟩
  · obtain rfl | rfl | rfl : g = 0 ∨ g = 1 ∨ g = 2 := by omega
    · exact ⟨rfl, rfl, rfl, fun _ => ⟨rfl, by decide, by decide⟩, fun h => by omega⟩
    · exact ⟨rfl, rfl, rfl, fun _ => ⟨rfl, by decide, by decide⟩, fun h => by omega⟩
    · exact ⟨rfl, rfl, rfl, fun _ => ⟨rfl, by decide, by decide⟩, fun h => by omega⟩
end Go.Proofs.Ytmbbhmmciidfnaa
