/- The reference's Parts. -/
import Derived.Test.YtgdekeeleighcaaDoorTupRow
namespace Go.Proofs.YtgdekeeleighcaaDoor
open Go.RowKit Go.Deep
set_option linter.unusedVariables false
def FitsK (k j esi : Int) : Prop := 1 ≤ k ∧ k ≤ 40 ∧ 0 ≤ j ∧ j ≤ 255 ∧ 0 ≤ esi ∧ esi < 16777216
theorem refParts_none (k j esi : Int) (w : World) (hf : ¬ FitsK k j esi) :
    Calls Tryd.prog 12 #[.int .i64 k, .int .i64 j, .int .i64 esi] w fun e w' => e = .returned (.slice none 0 0) ∧ w = w' := by
  have HF : Hid (k < 1 ∨ k > 40 ∨ j < 0 ∨ j > 255 ∨ esi < 0 ∨ esi ≥ 16777216) := by
    show _ ∨ _
    unfold FitsK at hf; omega
  clear hf
  by_cases c1 : k < 1
  rotate_left
  by_cases c2 : k > 40
  rotate_left
  by_cases c3 : j < 0
  rotate_left
  by_cases c4 : j > 255
  rotate_left
  by_cases c5 : esi < 0
  rotate_left
  have c6 : esi ≥ 16777216 := by have := HF.out; omega
  all_goals
    clear HF
    go_enter Tryd.func12, Tryd.ntmps12
    go_wp2
    go_ret
    exact ⟨rfl, rfl⟩
theorem refDraws_any (y : Nat) (hy : y < 4294967296) (w : World) (m r : Int) (i : Nat) (hr : RM.rand y i m = r) (h0 : -9223372036854775808 ≤ m) (h1 : m ≤ 9223372036854775807) :
    Calls Tryd.prog 32 #[.int .u32 y, .int .u32 i, .int .i64 m] w fun e w' => e = .returned (.int .i64 r) ∧ w = w' := by
  subst hr; exact refRand_any y i m hy h0 h1 w
theorem boolinfo : (Tryd.prog.info? 4).map (fun i => (i.zero, i.size, i.bytes)) = some (some (.bool false), 1, 1) := by kernel_rfl
theorem mkBools (k : Nat) (hk : k ≤ 1000) (w : World) : (Instr.makeSlice 56 (.int .i64 (k : Int)) (.int .i64 (k : Int))).run Tryd.prog w = .ok (.slice (some ⟨w.heap.size, 0, none⟩) k k) (w.alloc (.cells (madeCells #[.bool false] k) 4)) :=
  run_make_row' (P := Tryd.prog) 56 4 (.bool false) 1 Tryd.underlying56 boolinfo rfl .i64 .i64 k (by omega) (by omega) w
theorem u64_low (x : Nat) (hx : x < 18446744073709551616) : bits BinOp.and IntKind.u64 (x : Int) 4294967295 = ((x % 4294967296 : Nat) : Int) := by
  have h := u64_and_nat x 4294967295 hx (by decide)
  have e : x &&& 4294967295 = x % 4294967296 := Nat.and_two_pow_sub_one_eq_mod x 32
  rw [e] at h
  exact h
theorem cut_min (g W : Nat) : RM.cut (g : Int) 0 (W : Int) = ((min g W : Nat) : Int) := by unfold RM.cut; split <;> (try split) <;> omega
/-- Which places the reference has met. -/
def Had (w : World) (b W : Nat) (l : List Nat) : Prop := w.rowIs b 4 W (fun i => .bool (decide (i ∈ l)))
theorem Had.made (w : World) (W : Nat) : Had (w.alloc (.cells (madeCells #[.bool false] W) 4)) w.heap.size W [] :=
  (World.rowIs_made w (.bool false) W 4).congr fun i hi => by simp
theorem Had.ext {w w' : World} {b W : Nat} {l : List Nat} (h : Had w b W l) (hx : w.Extends w') : Had w' b W l := h.of_block (hx.block b h.lt)
theorem Had.grown {w w' : World} {b W : Nat} {l : List Nat} (h : Had w b W l) {r : Option Nat} (hg : w.grownBy w' r) (hr : some b ≠ r) : Had w' b W l := h.of_block (hg.block b h.lt hr)
theorem Had.set {w : World} {b W : Nat} {l : List Nat} (h : Had w b W l) (m : Nat) : Had (w.setCell ⟨b, m, none⟩ (.bool true)) b W (l ++ [m]) :=
  (World.rowIs.set h m (.bool true)).congr fun i hi => by
    by_cases e : i = m
    · subst e; simp
    · simp [e]
theorem owns_other {w : World} {B g : Nat} {e : TypeId} {s : Nat} {v : Value} {n : Nat} {xs : List Value} (h : w.ownsRow B e s v n xs) (i : Nat) (u : Value) (hg : g < B) : (w.setCell ⟨g, i, none⟩ u).ownsRow B e s v n xs :=
  h.kept (row := some g) (grown_setCell (grown_refl w (some g)) i u) (by
    cases hv : v.ownBlock with
    | none => exact .inl rfl
    | some k => refine .inr fun e => ?_
                have := (h.lt k hv).1
                have := Option.some.inj e
                omega)
end Go.Proofs.YtgdekeeleighcaaDoor
