/- Keys in memory and in slots. -/
import Derived.Test.YtmbbhmmciidfnaaRows
import Derived.Test.YtmbbhmmciidfnaaGrow
import Derived.Test.YtmbbhmmciidfnaaKeyMath
import Derived.Test.YtmbbhmmciidfnaaRws
import Derived.WalkKit
import Derived.Handy
import Derived.Lib.Hide
import Derived.IntWalk
import Derived.Laws.Rows
import Derived.Laws.Tables
import Derived.ChangeKeysEq
import Derived.Deep.OwnRows
namespace Go.Proofs.Ytmbbhmmciidfnaa
set_option maxRecDepth 20000
open Go.RowKit
set_option linter.unusedVariables false
/-- The cells of a key. -/
def KC (k : List Nat) : Array Value := (k.map fun x => Value.int .u8 (x : Nat)).toArray
/-- A key as a value. -/
abbrev KV (k : List Nat) : Value := .agg (KC k)
theorem KC_size (k : List Nat) : (KC k).size = k.length := by simp [KC]
theorem KC_get {k : List Nat} (h : k.length = 20) (i : Nat) (hi : i < 20) : (KC k)[i]? = some (.int .u8 (k.getD i 0 : Nat)) := by
  rw [KY.get_in _ _ (by omega)]
  simp [KC, List.getElem?_eq_getElem (show i < k.length by omega)]
theorem KC_of {cs : Array Value} {k : List Nat} (h : k.length = 20) (hs : cs.size = 20) (hc : ∀ i, i < 20 → cs[i]? = some (.int .u8 (k.getD i 0 : Nat))) : cs = KC k := by
  apply Array.ext_getElem?
  intro i
  by_cases hi : i < 20
  · rw [hc i hi, KC_get h i hi]
  · rw [Array.getElem?_eq_none (by omega), Array.getElem?_eq_none (by rw [KC_size]; omega)]
theorem KC_one {k : List Nat} : (KC k).all (·.oneCell') = true := by
  rw [Array.all_eq_true]
  intro i hi
  simp [KC, Value.oneCell']
theorem KC_inj {a b : List Nat} (ha : a.length = 20) (hb : b.length = 20) (h : KC a = KC b) : a = b := by
  refine KY.ext ha hb fun i hi => ?_
  have := KC_get ha i hi
  rw [h, KC_get hb i hi] at this
  simp only [Option.some.injEq, Value.int.injEq, true_and] at this
  omega
/-- Block b holds the key k. -/
abbrev KAt (w : World) (b : Nat) (k : List Nat) : Prop := w.rowIs b 26 20 (fun i => .int .u8 (k.getD i 0 : Nat))
theorem KAt.new (w : World) {k : List Nat} (h : k.length = 20) : KAt (w.alloc (.cells (KC k) 26)) w.heap.size k := by
  have := World.rowIs_alloc w (KC k) 26 (fun i => .int .u8 (k.getD i 0 : Nat)) (fun i hi => by rw [KC_size, h] at hi; exact KC_get h i hi)
  rwa [KC_size, h] at this
theorem KC_zero : KC KY.zero = #[.int .u8 0, .int .u8 0, .int .u8 0, .int .u8 0, .int .u8 0, .int .u8 0, .int .u8 0, .int .u8 0, .int .u8 0, .int .u8 0, .int .u8 0, .int .u8 0, .int .u8 0, .int .u8 0, .int .u8 0, .int .u8 0, .int .u8 0, .int .u8 0, .int .u8 0, .int .u8 0] := by
  rfl
theorem KAt.block {w : World} {b : Nat} {k : List Nat} (h : KAt w b k) (hl : k.length = 20) : w.heap[b]? = some (.cells (KC k) 26 (0, 0)) := by
  obtain ⟨c, h1, h2, h3⟩ := h
  rw [h1, KC_of hl h2 h3]
theorem KAt.ext {w w' : World} {b : Nat} {k : List Nat} (h : KAt w b k) (hx : w.Extends w') : KAt w' b k := World.rowIs.of_block h (hx.block b h.lt)
/-- Two keys are held against each other. -/
theorem run_key_items (w : World) (d : Nat) (a b : List Nat) (ha : a.length = 20) (hb : b.length = 20) : ∀ (is : List Nat), (∀ i ∈ is, i < 20) →
    (Op.eqItems (d + 1) 5 1 (KC a) (KC b) is).run Try.prog w = .ok (is.all fun i => a.getD i 0 == b.getD i 0) w
  | [], _ => by simp [Op.eqItems]
  | i :: is, h => by
    have hi := h i (by simp)
    have p1 := run_part_plain w (P := Try.prog) (e := 5) (by kernel_rfl) (KC_get ha i hi)
    have p2 := run_part_plain w (P := Try.prog) (e := 5) (by kernel_rfl) (KC_get hb i hi)
    have p3 := run_equalIn_int w (P := Try.prog) d 5 .u8 .u8 (a.getD i 0 : Nat) (b.getD i 0 : Nat) Try.underlying5
    have ih := run_key_items w d a b ha hb is (fun j hj => h j (by simp [hj]))
    have e : (((a.getD i 0 : Nat) : Int) == ((b.getD i 0 : Nat) : Int)) = (a.getD i 0 == b.getD i 0) := by
      rw [Bool.eq_iff_iff, beq_iff_eq, beq_iff_eq]; omega
    simp only [Op.eqItems, Sem.run_bind, Nat.mul_one, p1, p2, p3, Result.andThen_ok, List.all_cons, e]
    cases (a.getD i 0 == b.getD i 0)
    · simp
    · simpa using ih
theorem run_key_eq {a b : List Nat} (ha : a.length = 20) (hb : b.length = 20) (w : World) : (Op.equalIn 10000 26 (KV a) (KV b)).run Try.prog w = .ok (decide (a = b)) w := by
  obtain ⟨i, hi⟩ : ∃ i, Try.prog.info? 5 = some i := info_of_underlying Try.underlying5
  rw [run_equalIn_array w 9999 (KC a) (KC b) Try.underlying26 hi, show Try.prog.cellsOf 5 = 1 by kernel_rfl, run_key_items w 9998 a b ha hb (List.range 20) (fun j hj => List.mem_range.1 hj)]
  congr 1
  rw [Bool.eq_iff_iff]
  simp only [List.all_eq_true, List.mem_range, beq_iff_eq, decide_eq_true_eq]
  exact ⟨fun h => KY.ext ha hb h, fun h i _ => by rw [h]⟩
/-- A byte of a key by value. -/
theorem run_key_index {k : List Nat} (h : k.length = 20) (i : Nat) (hi : i < 20) (w : World) : (Instr.index 26 (KV k) (.int .i64 i)).run Try.prog w = .ok (.int .u8 (k.getD i 0 : Nat)) w := by
  have p := run_part_plain w (P := Try.prog) (e := 5) (by kernel_rfl) (KC_get h i hi)
  have hn : 0 ≤ (i : Int) ∧ (i : Int) < 20 := by omega
  simp [Instr.index, run_underlying Try.underlying26, asIntOf, hi, Try.sizeOf5]
  simpa using p
/-- The operation that reads a key out of its block. -/
theorem KAt.yields {w : World} {b : Nat} {k : List Nat} (h : KAt w b k) (hl : k.length = 20) {a : Act} {o : Oper} {x : Operand} (ho : o.op = .load 26 x) (hx : a.eval x = .pointer (some ⟨b, 0, none⟩)) :
    (execOp a.eval o).run Try.prog w = .ok (.value (KV k)) w := by
  unfold execOp
  simp only [ho, hx, Instr.loadAt, Instr.sureAddr, Sem.run_bind, Sem.run_pure, Result.andThen_ok, run_loadVar_row w b 26 26 (KC k) (0, 0) _ (h.block hl) Try.underlying26 rfl (by rw [KC_size, hl]; kernel_rfl)]
/-- A row of twenty zeros, as 'var k api.Key' lays it. -/
abbrev Z20 : Array Value := #[.int .u8 0, .int .u8 0, .int .u8 0, .int .u8 0, .int .u8 0, .int .u8 0, .int .u8 0, .int .u8 0, .int .u8 0, .int .u8 0, .int .u8 0, .int .u8 0, .int .u8 0, .int .u8 0, .int .u8 0, .int .u8 0, .int .u8 0, .int .u8 0, .int .u8 0, .int .u8 0]
theorem KAt.zeros (w : World) : KAt (w.alloc (.cells Z20 26)) w.heap.size KY.zero := by
  have := KAt.new w (k := KY.zero) rfl
  rwa [KC_zero] at this
/-- A key of which the first i bytes are there. -/
def KTo (k : List Nat) (i j : Nat) : Value := .int .u8 ((if j < i then k.getD j 0 else 0 : Nat))
theorem KTo.start {w : World} {b : Nat} (k : List Nat) (h : KAt w b KY.zero) : w.rowIs b 26 20 (KTo k 0) :=
  h.congr fun j _ => by show Value.int .u8 ((KY.zero.getD j 0 : Nat) : Int) = _; rw [KY.zero_get]; rfl
theorem KTo.next {w : World} {b : Nat} {k : List Nat} {i : Nat} (h : w.rowIs b 26 20 (KTo k i)) {v : Value} (hv : v = .int .u8 (k.getD i 0 : Nat)) : (w.setCell ⟨b, i, none⟩ v).rowIs b 26 20 (KTo k (i + 1)) :=
  (h.set i v).congr fun j _ => by
    subst hv
    unfold KTo
    by_cases e : j = i
    · subst e; rw [if_pos rfl, if_pos (by omega)]
    · rw [if_neg e]
      by_cases e2 : j < i
      · rw [if_pos e2, if_pos (by omega)]
      · rw [if_neg e2, if_neg (by omega)]
theorem KTo.done {w : World} {b : Nat} {k : List Nat} (h : w.rowIs b 26 20 (KTo k 20)) : KAt w b k := h.congr fun j hj => by unfold KTo; rw [if_pos hj]
theorem key_info {k : List Nat} (h : k.length = 20) : (Try.prog.info? 26).map (·.size) = some (KC k).size := by rw [KC_size, h]; kernel_rfl
/-- What a call that answers a key of a variable of its own leaves. -/
theorem key_left {w wr : World} {r : Nat} {k : List Nat} (hr : w.heap.size ≤ r) (hb : Below w.heap.size w wr) (h0 : ∃ z, wr.heap[r]? = some (.cells z 26 (0, 0)) ∧ z.size = 20) : Below w.heap.size w (wr.setRow r (KC k)) ∧ (wr.setRow r (KC k)).heap[r]? = some (.cells (KC k) 26 (0, 0)) := by
  obtain ⟨z, hz, _⟩ := h0
  exact ⟨hb.trans ⟨rfl, rfl, rfl, by simp, fun i hi => setRow_other wr r i (KC k) (by omega)⟩, setRow_heap wr r z (KC k) _ _ hz⟩
theorem key_block {w : World} {b : Nat} {f : Nat → Value} (h : w.rowIs b 26 20 f) : ∃ z, w.heap[b]? = some (.cells z 26 (0, 0)) ∧ z.size = 20 := by
  obtain ⟨c, h1, h2, _⟩ := h
  exact ⟨c, h1, h2⟩
/-- A key is read out of its block, as the walk spells it. -/
theorem KAt.load {w : World} {b : Nat} {k : List Nat} (h : KAt w b k) (hl : k.length = 20) : (loadCellsFrom ⟨b, 0, none⟩ 0 20 #[]).run Try.prog w = .ok (KC k) w := by
  have := run_loadCells_list (P := Try.prog) w ⟨b, 0, none⟩ (KC k).toList (fun j v hv => by
    have hadd : (⟨b, 0, none⟩ : Addr).add j = ⟨b, j, none⟩ := by unfold Addr.add; split <;> simp_all
    rw [hadd, cell_of_row _ _ j (KC k) 26 (0, 0) (h.block hl)]
    simpa using hv)
  rw [Array.length_toList, KC_size, hl] at this
  simpa [loadCells] using this
end Go.Proofs.Ytmbbhmmciidfnaa
