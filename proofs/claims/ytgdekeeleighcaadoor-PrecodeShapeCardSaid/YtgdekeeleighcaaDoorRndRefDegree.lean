/- Which degree the reference finds: the same; it makes a slice of its own. -/
import Derived.Test.YtgdekeeleighcaaDoorRndDegree
import Derived.RowKit3
namespace Go.Proofs.YtgdekeeleighcaaDoor
open Go.RowKit
def boundCells : Array Value := #[Value.int IntKind.i64 5243, Value.int IntKind.i64 529531, Value.int IntKind.i64 704294, Value.int IntKind.i64 791675, Value.int IntKind.i64 844104, Value.int IntKind.i64 879057, Value.int IntKind.i64 904023]
theorem cells_new (w : World) (n : Nat) (hn : n < 7) : (w.alloc (Obj.cells boundCells 3)).cell? ⟨w.heap.size, n, none⟩ = some (.int .i64 (RM.bounds.getD n 0)) := by
  match n, hn with
  | 0, _ | 1, _ | 2, _ | 3, _ | 4, _ | 5, _ | 6, _ => rw [World.cell?_alloc_new]; rfl
theorem refDegree_any (v : Int) (w : World) :
    Calls Tryd.prog 31 #[.int .i64 v] w fun e w' => e = .returned (.int .i64 (RM.degree v)) ∧ Grown w w' := by
  rw [← RM.degree_cut v]
  generalize hc : RM.cut v 0 1048575 = c
  go_enter Tryd.func31, Tryd.ntmps31
  go_wp2_with fail
  refine (cut_any _ _ _ _).mono ?_
  rintro e w' ⟨rfl, rfl⟩
  rw [hc]
  clear hc
  go_wp2
  have g : Grown w (w.alloc (Obj.cells boundCells 3)) := (Grown.refl w).alloc _ _
  have al := cells_new w
  have ex : ∃ wa : World, wa = w.alloc (Obj.cells boundCells 3) := ⟨_, rfl⟩
  obtain ⟨wa, hwa⟩ := ex
  rw [← hwa] at g al
  rw [show w.alloc (Obj.cells #[Value.int IntKind.i64 5243, Value.int IntKind.i64 529531, Value.int IntKind.i64 704294, Value.int IntKind.i64 791675, Value.int IntKind.i64 844104, Value.int IntKind.i64 879057, Value.int IntKind.i64 904023] 3) = wa from hwa.symm]
  generalize w.heap.size = b at al ⊢
  clear hwa
  go_loop [4, 5] (fun x y => ∃ n : Nat, n ≤ 7 ∧ x = .int .i64 (1 + RM.passed c n : Nat) ∧ y = .int .i64 n) (fun _ y => 7 - (intOf y).toNat)
  case atStart => exact ⟨0, by omega, rfl, rfl⟩
  case round =>
    obtain ⟨n, hn, rfl, rfl⟩ := hrel
    by_cases h7 : n = 7
    · subst h7
      go_wp2
      go_ret
      exact ⟨rfl, g⟩
    · have hp := RM.passed_le c n
      have yes := RM.passed_yes c n
      have no := RM.passed_no c n
      have ce := al n (by omega)
      generalize RM.bounds.getD n 0 = z at ce yes no
      by_cases h : z ≤ c
      · have hs := Lib.hid (yes h)
        clear yes no al
        go_wp2
        go_round
        case rel => exact ⟨n + 1, by omega, by rw [hs.out]; go_num, by go_num⟩
        case measure => simp [intOf] <;> omega
      · have hs := Lib.hid (no h)
        clear yes no al
        go_wp2
        go_round
        case rel => exact ⟨n + 1, by omega, by rw [hs.out], by go_num⟩
        case measure => simp [intOf] <;> omega
theorem refDegree_ext (v : Int) (w : World) :
    Calls Tryd.prog 31 #[.int .i64 v] w fun e w' => e = .returned (.int .i64 (RM.degree v)) ∧ w.Extends w' := by
  rw [← RM.degree_cut v]
  generalize hc : RM.cut v 0 1048575 = c
  go_enter Tryd.func31, Tryd.ntmps31
  go_wp2_with fail
  refine (cut_any _ _ _ _).mono ?_
  rintro e w' ⟨rfl, rfl⟩
  rw [hc]
  clear hc
  go_wp2
  have g : w.Extends (w.alloc (Obj.cells boundCells 3)) := (World.Extends.refl w).alloc _
  have al := cells_new w
  have ex : ∃ wa : World, wa = w.alloc (Obj.cells boundCells 3) := ⟨_, rfl⟩
  obtain ⟨wa, hwa⟩ := ex
  rw [← hwa] at g al
  rw [show w.alloc (Obj.cells #[Value.int IntKind.i64 5243, Value.int IntKind.i64 529531, Value.int IntKind.i64 704294, Value.int IntKind.i64 791675, Value.int IntKind.i64 844104, Value.int IntKind.i64 879057, Value.int IntKind.i64 904023] 3) = wa from hwa.symm]
  generalize w.heap.size = b at al ⊢
  clear hwa
  go_loop [4, 5] (fun x y => ∃ n : Nat, n ≤ 7 ∧ x = .int .i64 (1 + RM.passed c n : Nat) ∧ y = .int .i64 n) (fun _ y => 7 - (intOf y).toNat)
  case atStart => exact ⟨0, by omega, rfl, rfl⟩
  case round =>
    obtain ⟨n, hn, rfl, rfl⟩ := hrel
    by_cases h7 : n = 7
    · subst h7
      go_wp2
      go_ret
      exact ⟨rfl, g⟩
    · have hp := RM.passed_le c n
      have yes := RM.passed_yes c n
      have no := RM.passed_no c n
      have ce := al n (by omega)
      generalize RM.bounds.getD n 0 = z at ce yes no
      by_cases h : z ≤ c
      · have hs := Lib.hid (yes h)
        clear yes no al
        go_wp2
        go_round
        case rel => exact ⟨n + 1, by omega, by rw [hs.out]; go_num, by go_num⟩
        case measure => simp [intOf] <;> omega
      · have hs := Lib.hid (no h)
        clear yes no al
        go_wp2
        go_round
        case rel => exact ⟨n + 1, by omega, by rw [hs.out], by go_num⟩
        case measure => simp [intOf] <;> omega
end Go.Proofs.YtgdekeeleighcaaDoor
