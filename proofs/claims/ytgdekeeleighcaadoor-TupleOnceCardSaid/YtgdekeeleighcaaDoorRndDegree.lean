/- Which degree the program and the reference find. -/
import Derived.Test.YtgdekeeleighcaaDoorRndRand
import Derived.WalkSpells
import Derived.WalkLawsBesides
namespace Go.Proofs.YtgdekeeleighcaaDoor
open Go.RowKit
/-- The variable of the bounds holds them. -/
def Tab (w : World) : Prop := ∀ i, i < 7 → w.cell? ⟨0, i, none⟩ = some (.int .i64 (RM.bounds.getD i 0))
theorem tab_index (n : Nat) (hn : n < 7) (w : World) : Sem.run Tryd.prog (Instr.index 66 (Value.agg #[Value.int IntKind.i64 5243, Value.int IntKind.i64 529531, Value.int IntKind.i64 704294, Value.int IntKind.i64 791675, Value.int IntKind.i64 844104, Value.int IntKind.i64 879057, Value.int IntKind.i64 904023]) (.int .i64 n)) w = .ok (.int .i64 (RM.bounds.getD n 0)) w := by
  match n, hn with
  | 0, _ | 1, _ | 2, _ | 3, _ | 4, _ | 5, _ | 6, _ => rfl
theorem degree_any (v : Int) (w : World) (hT : Tab w) :
    Calls Tryd.prog 40 #[.int .i64 v] w fun e w' => e = .returned (.int .i64 (RM.degree v)) ∧ w = w' := by
  have t0 : w.cell? ⟨0, 0, none⟩ = some (.int .i64 5243) := hT 0 (by decide)
  have t1 : w.cell? ⟨0, 1, none⟩ = some (.int .i64 529531) := hT 1 (by decide)
  have t2 : w.cell? ⟨0, 2, none⟩ = some (.int .i64 704294) := hT 2 (by decide)
  have t3 : w.cell? ⟨0, 3, none⟩ = some (.int .i64 791675) := hT 3 (by decide)
  have t4 : w.cell? ⟨0, 4, none⟩ = some (.int .i64 844104) := hT 4 (by decide)
  have t5 : w.cell? ⟨0, 5, none⟩ = some (.int .i64 879057) := hT 5 (by decide)
  have t6 : w.cell? ⟨0, 6, none⟩ = some (.int .i64 904023) := hT 6 (by decide)
  go_enter Tryd.func40, Tryd.ntmps40
  go_wp2
  go_loop [3, 7] (fun x y => ∃ n : Nat, n ≤ 7 ∧ x = .int .i64 (1 + RM.passed v n : Nat) ∧ y = .int .i64 n) (fun _ y => 7 - (intOf y).toNat)
  case atStart => exact ⟨0, by omega, rfl, rfl⟩
  case round =>
    obtain ⟨n, hn, rfl, rfl⟩ := hrel
    by_cases h7 : n = 7
    · subst h7
      go_wp2
      go_ret
      exact ⟨rfl, rfl⟩
    · have hp := RM.passed_le v n
      have ix := tab_index n (by omega) w
      have yes := RM.passed_yes v n
      have no := RM.passed_no v n
      generalize RM.bounds.getD n 0 = b at ix yes no
      by_cases h : b ≤ v
      · have hs := Lib.hid (yes h)
        clear yes no
        go_wp2
        go_round
        case rel => exact ⟨n + 1, by omega, by rw [hs.out]; go_num, by go_num⟩
        case measure => simp [intOf] <;> omega
      · have hs := Lib.hid (no h)
        clear yes no
        go_wp2
        go_round
        case rel => exact ⟨n + 1, by omega, by rw [hs.out], by go_num⟩
        case measure => simp [intOf] <;> omega
theorem cut_any (n low high : Int) (w : World) :
    Calls Tryd.prog 30 #[.int .i64 n, .int .i64 low, .int .i64 high] w fun e w' => e = .returned (.int .i64 (RM.cut n low high)) ∧ w = w' := by
  by_cases h1 : n < low
  · have e : RM.cut n low high = low := if_pos h1
    rw [e]
    go_enter Tryd.func30, Tryd.ntmps30
    go_wp2
    go_ret
    exact ⟨rfl, rfl⟩
  · by_cases h2 : n > high
    · have e : RM.cut n low high = high := by unfold RM.cut; rw [if_neg h1, if_pos h2]
      rw [e]
      go_enter Tryd.func30, Tryd.ntmps30
      go_wp2
      go_ret
      exact ⟨rfl, rfl⟩
    · have e : RM.cut n low high = n := by unfold RM.cut; rw [if_neg h1, if_neg h2]
      rw [e]
      go_enter Tryd.func30, Tryd.ntmps30
      go_wp2
      go_ret
      exact ⟨rfl, rfl⟩
end Go.Proofs.YtgdekeeleighcaaDoor
