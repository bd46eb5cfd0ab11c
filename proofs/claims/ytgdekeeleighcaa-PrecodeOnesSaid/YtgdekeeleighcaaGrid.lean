/- A slice of rows that a call has made whole: the outer block, and behind it a block for each row. -/
import Derived.Test.YtgdekeeleighcaaMats
import Derived.Test.YtgdekeeleighcaaMarks
import Derived.Test.YtgdekeeleighcaaPreMath
namespace Go.Proofs.Ytgdekeeleighcaa
open Go.RowKit Go.Deep
set_option linter.unusedVariables false
/-- Block g holds n slices, of the blocks behind it, and these are rows of L bytes. -/
def Grid (w : World) (g n L : Nat) (f : Nat → Nat → Nat) : Prop :=
  w.rowIs g 35 n (fun i => .slice (some ⟨g + 1 + i, 0, none⟩) L L) ∧ L ≤ maxLen ∧ ∀ i, i < n → w.rowIs (g + 1 + i) 5 L (fun x => .int .u8 (f i x : Nat)) ∧ ∀ x, x < L → f i x < 256
/-- .. of which the first k are made. -/
def GridTo (w : World) (g n L k : Nat) : Prop :=
  w.rowIs g 35 n (fun i => if i < k then .slice (some ⟨g + 1 + i, 0, none⟩) L L else .slice none 0 0) ∧ w.heap.size = g + 1 + k ∧ ∀ i, i < k → w.rowIs (g + 1 + i) 5 L (fun _ => .int .u8 0)
theorem mkRows (k : Nat) (hk : k ≤ 1000) (w : World) : (Instr.makeSlice 32 (.int .i64 (k : Int)) (.int .i64 (k : Int))).run Try.prog w = .ok (.slice (some ⟨w.heap.size, 0, none⟩) k k) (w.alloc (.cells (madeCells #[.slice none 0 0] k) 35)) :=
  run_make_row' (P := Try.prog) 32 35 (.slice none 0 0) 24 Try.underlying32 rowinfo rfl .i64 .i64 k (by omega) (by omega) w
theorem GridTo.made (w : World) (n L : Nat) : GridTo (w.alloc (.cells (madeCells #[.slice none 0 0] n) 35)) w.heap.size n L 0 :=
  ⟨(World.rowIs_made w (.slice none 0 0) n 35).congr fun i hi => by simp, by simp, fun i hi => absurd hi (Nat.not_lt_zero _)⟩
theorem GridTo.step {w : World} {g n L k : Nat} (h : GridTo w g n L k) : GridTo ((w.setCell ⟨g, k, none⟩ (.slice (some ⟨w.heap.size, 0, none⟩) L L)).alloc (.cells (madeCells #[.int .u8 0] L) 5)) g n L (k + 1) := by
  obtain ⟨h1, h2, h3⟩ := h
  refine ⟨((h1.set k _).alloc _).congr fun i hi => ?_, by simp; omega, fun i hi => ?_⟩
  · by_cases e : i = k
    · subst e; rw [if_pos rfl, if_pos (by omega), h2]
    · rw [if_neg e]
      by_cases e' : i < k
      · rw [if_pos e', if_pos (by omega)]
      · rw [if_neg e', if_neg (by omega)]
  · by_cases e : i = k
    · subst e
      have := World.rowIs_made (w.setCell ⟨g, i, none⟩ (.slice (some ⟨w.heap.size, 0, none⟩) L L)) (.int .u8 0) L 5
      rw [show (w.setCell ⟨g, i, none⟩ (.slice (some ⟨w.heap.size, 0, none⟩) L L)).heap.size = g + 1 + i by simp; omega] at this
      exact this
    · exact ((h3 i (by omega)).setOther (by show g + 1 + i ≠ g; omega) _).alloc _
theorem GridTo.full {w : World} {g n L : Nat} (h : GridTo w g n L n) (hL : L ≤ maxLen) : Grid w g n L (fun _ _ => 0) :=
  ⟨h.1.congr fun i hi => if_pos hi, hL, fun i hi => ⟨h.2.2 i hi, fun x hx => Nat.zero_lt_succ _⟩⟩
theorem GridTo.cell {w : World} {g n L k : Nat} (h : GridTo w g n L k) (hk : k < n) : w.cell? ⟨g, k, none⟩ = some (.slice none 0 0) := by
  have := h.1.cell hk
  rwa [if_neg (Nat.lt_irrefl k)] at this
theorem GridTo.frozen {w : World} {g n L k : Nat} (h : GridTo w g n L k) (i : Nat) : w.frozen? ⟨g, i, none⟩ = false := h.1.frozen i
theorem GridTo.lt {w : World} {g n L k : Nat} (h : GridTo w g n L k) : g < w.heap.size := h.1.lt
theorem Grid.head {w : World} {g n L : Nat} {f : Nat → Nat → Nat} (h : Grid w g n L f) {i : Nat} (hi : i < n) : w.cell? ⟨g, i, none⟩ = some (.slice (some ⟨g + 1 + i, 0, none⟩) L L) := h.1.cell hi
theorem Grid.cell {w : World} {g n L : Nat} {f : Nat → Nat → Nat} (h : Grid w g n L f) {i x : Nat} (hi : i < n) (hx : x < L) : w.cell? ⟨g + 1 + i, x, none⟩ = some (.int .u8 (f i x : Nat)) := (h.2.2 i hi).1.cell hx
theorem Grid.frozen {w : World} {g n L : Nat} {f : Nat → Nat → Nat} (h : Grid w g n L f) {i : Nat} (hi : i < n) (x : Nat) : w.frozen? ⟨g + 1 + i, x, none⟩ = false := (h.2.2 i hi).1.frozen x
theorem Grid.lt {w : World} {g n L : Nat} {f : Nat → Nat → Nat} (h : Grid w g n L f) : g < w.heap.size := h.1.lt
theorem Grid.congr {w : World} {g n L : Nat} {f f' : Nat → Nat → Nat} (h : Grid w g n L f) (e : ∀ i x, i < n → x < L → f i x = f' i x) : Grid w g n L f' :=
  ⟨h.1, h.2.1, fun i hi => ⟨(h.2.2 i hi).1.congr fun x hx => by rw [e i x hi hx], fun x hx => by rw [← e i x hi hx]; exact (h.2.2 i hi).2 x hx⟩⟩
theorem Grid.ext {w w' : World} {g n L : Nat} {f : Nat → Nat → Nat} (h : Grid w g n L f) (hx : w.Extends w') : Grid w' g n L f :=
  ⟨h.1.of_block (hx.block g h.1.lt), h.2.1, fun i hi => ⟨(h.2.2 i hi).1.of_block (hx.block _ (h.2.2 i hi).1.lt), (h.2.2 i hi).2⟩⟩
theorem Grid.set {w : World} {g n L : Nat} {f : Nat → Nat → Nat} (h : Grid w g n L f) (i c v : Nat) (hv : v < 256) : Grid (w.setCell ⟨g + 1 + i, c, none⟩ (.int .u8 (v : Nat))) g n L (fun j x => if j = i ∧ x = c then v else f j x) := by
  refine ⟨h.1.setOther (by show g ≠ g + 1 + i; omega) _, h.2.1, fun j hj => ⟨?_, fun x hx => ?_⟩⟩
  · by_cases e : j = i
    · subst e
      refine ((h.2.2 j hj).1.set c _).congr fun x hx => ?_
      show _ = Value.int .u8 ((if j = j ∧ x = c then v else f j x : Nat) : Int)
      by_cases e' : x = c
      · rw [if_pos e', if_pos ⟨rfl, e'⟩]
      · rw [if_neg e', if_neg (fun h => e' h.2)]
    · refine ((h.2.2 j hj).1.setOther (by show g + 1 + j ≠ g + 1 + i; omega) _).congr fun x hx => ?_
      show _ = Value.int .u8 ((if j = i ∧ x = c then v else f j x : Nat) : Int)
      rw [if_neg (fun h => e h.1)]
  · show (if j = i ∧ x = c then v else f j x) < 256
    split
    · exact hv
    · exact (h.2.2 j hj).2 x hx
theorem Grid.own {w : World} {g n L : Nat} {f : Nat → Nat → Nat} (h : Grid w g n L f) {i : Nat} (hi : i < n) : Own w (g + 1 + i) 5 (QM.tab L (f i)) := by
  refine ⟨?_, by rw [QM.tab_length]; exact h.2.1, QM.tab_lt (h.2.2 i hi).2⟩
  rw [QM.tab_length]
  exact (h.2.2 i hi).1.congr fun x hx => by rw [QM.tab_at L _ x hx]
theorem Grid.rws {w : World} {g n L : Nat} {f : Nat → Nat → Nat} (h : Grid w g n L f) (hn : n ≤ maxLen) : Rws w (.slice (some ⟨g, 0, none⟩) n n) (QM.grid n L f) := by
  refine .inr ⟨g, 0, n, by rw [QM.grid_length], by rw [QM.grid_length]; exact Nat.le_refl _, hn, h.lt, fun k hk => ?_⟩
  rw [QM.grid_length] at hk
  refine ⟨_, by rw [Nat.zero_add]; exact h.head hk, ?_⟩
  rw [QM.grid_at n L f k hk]
  have := (h.own hk).u8s
  rw [QM.tab_length] at this
  exact this
/-- Such a slice as a source of append. -/
theorem Grid.srcs {P : Program} {w : World} {g n L : Nat} {f : Nat → Nat → Nat} (h : Grid w g n L f) {tx e' : TypeId} (hk : P.underlying tx = some (.slice e')) :
    ∃ vs, Src P 1 tx (.slice (some ⟨g, 0, none⟩) n n) n vs w ∧ ∀ j, j < n → ∃ u, vs[j]? = some u ∧ RowOk w 0 u ((QM.grid n L f).getD j []) := by
  have hl : ((List.range n).map fun i => Value.slice (some ⟨g + 1 + i, 0, none⟩) L L).length = n := by simp
  have hat : ∀ j, j < n → ((List.range n).map fun i => Value.slice (some ⟨g + 1 + i, 0, none⟩) L L)[j]? = some (.slice (some ⟨g + 1 + j, 0, none⟩) L L) := fun j hj => by simp [hj]
  refine ⟨(List.range n).map fun i => .slice (some ⟨g + 1 + i, 0, none⟩) L L, Src.ofSlice w hk ⟨g, 0, none⟩ n n _ (by rw [hl, Nat.mul_one]) (fun j u hu => ?_) (fun u hu => ?_), fun j hj => ⟨_, hat j hj, ?_⟩⟩
  · have hj : j < n := by
      rcases Nat.lt_or_ge j n with h' | h'
      · exact h'
      · rw [List.getElem?_eq_none (by rw [hl]; exact h')] at hu; cases hu
    rw [hat j hj] at hu
    rw [← Option.some.inj hu, Addr.add_mid, Nat.zero_add]
    exact h.head hj
  · obtain ⟨i, _, rfl⟩ := List.mem_map.1 hu
    rfl
  · rw [QM.grid_at n L f j hj]
    exact RowOk.own (h.own hj) 0 (QM.tab_length _ _).symm (QM.tab_length _ _).symm
/-- The answer is a slice of rows that the call has made whole. -/
def MadeGrid (w : World) (n L : Nat) (f : Nat → Nat → Nat) (e : Ending) (w' : World) : Prop := ∃ g, e = .returned (.slice (some ⟨g, 0, none⟩) n n) ∧ w.Extends w' ∧ w.heap.size ≤ g ∧ Grid w' g n L f
end Go.Proofs.Ytgdekeeleighcaa
