/- A log of the program in memory: a block, and a chain of pieces; it stays where no piece and not that block is written. -/
import Derived.Test.YteogahofcmgddaaLogMath
import Derived.Test.YteogahofcmgddaaFrom
import Derived.Test.YteogahofcmgddaaRecCur
import Derived.Laws.IdiomStrings
namespace Go.Proofs.Yteogahofcmgddaa
set_option maxRecDepth 20000
open Go.RowKit Go.Deep
set_option linter.unusedVariables false
/-- The pieces that a pointer reaches, the last one first. -/
def Chain (w : World) : Option Addr → List (List Nat) → Prop
  | p, [] => p = none
  | p, x :: r => ∃ k q, p = some ⟨k, 0, none⟩ ∧ w.heap[k]? = some (.cells #[.pointer q, .string (strOf x), .int .i64 ((LM.size (x :: r) : Nat) : Int)] 47 (0, 0)) ∧ Chain w q r
theorem Chain.keep {w w' : World} (h : ∀ (k : Nat) (cs : Array Value), w.heap[k]? = some (.cells cs 47 (0, 0)) → w'.heap[k]? = w.heap[k]?) : ∀ {l : List (List Nat)} {p : Option Addr}, Chain w p l → Chain w' p l
  | [], p, hc => hc
  | x :: r, p, ⟨k, q, h1, h2, h3⟩ => ⟨k, q, h1, (h k _ h2).trans h2, Chain.keep h h3⟩
/-- A log of the program lies at block t: its pieces, and how many bytes are sure. -/
def LAt (w : World) (t : Nat) (l : List (List Nat)) (s : Nat) : Prop := ∃ p, w.heap[t]? = some (.cells #[.pointer p, .int .i64 ((s : Nat) : Int)] 27 (0, 0)) ∧ Chain w p l.reverse ∧ LM.Fine l
theorem LAt.lt {w : World} {t s : Nat} {l : List (List Nat)} (h : LAt w t l s) : t < w.heap.size := by
  obtain ⟨p, h1, _⟩ := h
  exact (Array.getElem?_eq_some_iff.1 h1).1
theorem LAt.keep {w w' : World} {t s : Nat} {l : List (List Nat)} (h : LAt w t l s) (hk : ∀ (k : Nat) (cs : Array Value), w.heap[k]? = some (.cells cs 47 (0, 0)) → w'.heap[k]? = w.heap[k]?) (ht : w'.heap[t]? = w.heap[t]?) : LAt w' t l s := by
  obtain ⟨p, h1, h2, h3⟩ := h
  exact ⟨p, ht.trans h1, h2.keep hk, h3⟩
theorem LAt.ext {w w' : World} {t s : Nat} {l : List (List Nat)} (h : LAt w t l s) (hx : w.Extends w') : LAt w' t l s :=
  h.keep (fun k cs hk => hx.block k (Array.getElem?_eq_some_iff.1 hk).1) (hx.block t h.lt)
/-- It stays where another block, which is no piece, may be written. -/
theorem LAt.grown {w w' : World} {t s g : Nat} {l : List (List Nat)} {cs : Array Value} {T : TypeId} {f : Nat × Nat} (h : LAt w t l s) (hg : w.grownBy w' (some g)) (hb : w.heap[g]? = some (.cells cs T f)) (hT : T ≠ 47) (hn : t ≠ g) : LAt w' t l s :=
  h.keep (fun k ck hk => hg.block k (Array.getElem?_eq_some_iff.1 hk).1 (fun e => by
    have e' := Option.some.inj e
    subst e'
    rw [hk] at hb
    simp only [Option.some.injEq, Obj.cells.injEq] at hb
    exact hT hb.2.1.symm)) (hg.block t h.lt (by simpa using hn))
/-- Its own block, written. -/
theorem Chain.own {w w' : World} {t : Nat} {p : Option Addr} {r : List (List Nat)} {cs : Array Value} (h : Chain w p r) (hb : w.heap[t]? = some (.cells cs 27 (0, 0))) (hg : w.grownBy w' (some t)) : Chain w' p r :=
  h.keep fun k ck hk => hg.block k (Array.getElem?_eq_some_iff.1 hk).1 (fun e => by
    have e' := Option.some.inj e
    subst e'
    rw [hk] at hb
    simp only [Option.some.injEq, Obj.cells.injEq] at hb
    exact absurd hb.2.1 (by decide))
theorem LAt.cells {w : World} {t s : Nat} {l : List (List Nat)} (h : LAt w t l s) : ∃ p, w.cell? ⟨t, 0, none⟩ = some (.pointer p) ∧ w.cell? ⟨t, 1, none⟩ = some (.int .i64 ((s : Nat) : Int)) ∧ w.frozen? ⟨t, 0, none⟩ = false ∧ w.frozen? ⟨t, 1, none⟩ = false ∧ Chain w p l.reverse ∧ LM.Fine l ∧
    w.heap[t]? = some (.cells #[.pointer p, .int .i64 ((s : Nat) : Int)] 27 (0, 0)) := by
  obtain ⟨p, h1, h2, h3⟩ := h
  exact ⟨p, by rw [cell_of_row _ _ _ _ _ _ h1]; rfl, by rw [cell_of_row _ _ _ _ _ _ h1]; rfl, frozen_of_row _ _ _ _ _ h1, frozen_of_row _ _ _ _ _ h1, h2, h3, h1⟩
/-- The last piece's cells. -/
theorem Chain.cells {w : World} {p : Option Addr} {x : List Nat} {r : List (List Nat)} (h : Chain w p (x :: r)) : ∃ k q, p = some ⟨k, 0, none⟩ ∧ w.cell? ⟨k, 0, none⟩ = some (.pointer q) ∧ w.cell? ⟨k, 1, none⟩ = some (.string (strOf x)) ∧ w.cell? ⟨k, 2, none⟩ = some (.int .i64 ((LM.size (x :: r) : Nat) : Int)) ∧ Chain w q r := by
  obtain ⟨k, q, h1, h2, h3⟩ := h
  exact ⟨k, q, h1, by rw [cell_of_row _ _ _ _ _ _ h2]; rfl, by rw [cell_of_row _ _ _ _ _ _ h2]; rfl, by rw [cell_of_row _ _ _ _ _ _ h2]; rfl, h3⟩
theorem LAt.new (w : World) : LAt (w.alloc (.cells #[.pointer none, .int .i64 0] 27)) w.heap.size [] 0 :=
  ⟨none, heap_alloc_new _ _, rfl, LM.Fine.nil⟩
/-- A piece more. -/
theorem LAt.snoc {w w1 w2 : World} {t s k : Nat} {l : List (List Nat)} {p : Option Addr} {x : List Nat} (h1 : w.heap[t]? = some (.cells #[.pointer p, .int .i64 ((s : Nat) : Int)] 27 (0, 0))) (h2 : Chain w p l.reverse) (h3 : LM.Fine l) (hx : x.length ≤ 65535) (hy : ∀ y ∈ x, y < 256)
    (hw1 : w1 = w.alloc (.cells #[.pointer p, .string (strOf x), .int .i64 ((LM.size l + 2 + x.length : Nat) : Int)] 47)) (hk : k = w.heap.size) (hw2 : w2 = w1.setCell ⟨t, 0, none⟩ (.pointer (some ⟨k, 0, none⟩))) : LAt w2 t (l ++ [x]) s ∧ w.grownBy w2 (some t) := by
  have hlt : t < w.heap.size := (Array.getElem?_eq_some_iff.1 h1).1
  have hX : w.Extends w1 := by subst hw1; exact ext_alloc _ _
  have h1' : w1.heap[t]? = some (.cells #[.pointer p, .int .i64 ((s : Nat) : Int)] 27 (0, 0)) := by rw [hX.block t hlt]; exact h1
  have hg1 : w1.grownBy w2 (some t) := by subst hw2; exact grown_set _ _ _ _
  have hk1 : w1.heap[k]? = some (.cells #[.pointer p, .string (strOf x), .int .i64 ((LM.size l + 2 + x.length : Nat) : Int)] 47 (0, 0)) := by subst hw1 hk; exact heap_alloc_new _ _
  have hc1 : Chain w1 p l.reverse := h2.keep fun k cs hk => hX.block k (Array.getElem?_eq_some_iff.1 hk).1
  refine ⟨⟨some ⟨k, 0, none⟩, ?_, ?_, h3.snoc hx hy⟩, ?_⟩
  · subst hw2; rw [heap_setCell_same _ _ _ _ _ _ h1']; rfl
  · rw [List.reverse_append]
    refine Chain.own ?_ h1' hg1
    refine ⟨k, p, rfl, ?_, hc1⟩
    rw [hk1]
    have : LM.size (x :: l.reverse) = LM.size l + 2 + x.length := by simp only [LM.size, LM.size_reverse]; omega
    show _ = some (Obj.cells #[.pointer p, .string (strOf x), .int .i64 ((LM.size (x :: l.reverse) : Nat) : Int)] _ _)
    rw [this]
  · exact grown_trans (grown_below (Gr.below_of hX) (Nat.le_refl _)) hg1
/-- The last piece gone. -/
theorem LAt.pop {w w2 : World} {t s : Nat} {l : List (List Nat)} {p q : Option Addr} (h1 : w.heap[t]? = some (.cells #[.pointer p, .int .i64 ((s : Nat) : Int)] 27 (0, 0))) (h2 : Chain w q l.reverse) (h3 : LM.Fine l) (hw2 : w2 = w.setCell ⟨t, 0, none⟩ (.pointer q)) : LAt w2 t l s ∧ w.grownBy w2 (some t) := by
  have hg1 : w.grownBy w2 (some t) := by subst hw2; exact grown_set _ _ _ _
  refine ⟨⟨q, ?_, h2.own h1 hg1, h3⟩, hg1⟩
  subst hw2; rw [heap_setCell_same _ _ _ _ _ _ h1]; rfl
/-- So many bytes are sure. -/
theorem LAt.surely {w w2 : World} {t s s' : Nat} {l : List (List Nat)} {p : Option Addr} (h1 : w.heap[t]? = some (.cells #[.pointer p, .int .i64 ((s : Nat) : Int)] 27 (0, 0))) (h2 : Chain w p l.reverse) (h3 : LM.Fine l) (hw2 : w2 = w.setCell ⟨t, 1, none⟩ (.int .i64 ((s' : Nat) : Int))) : LAt w2 t l s' ∧ w.grownBy w2 (some t) := by
  have hg1 : w.grownBy w2 (some t) := by subst hw2; exact grown_set _ _ _ _
  refine ⟨⟨p, ?_, h2.own h1 hg1, h3⟩, hg1⟩
  subst hw2; rw [heap_setCell_same _ _ _ _ _ _ h1]; rfl
/-! Rows of bytes that a call has made of strings, and a slice of them. -/
/-- u reads as xs, and lies in a block of bytes. -/
def RowB (w : World) (u : Value) (xs : List Nat) : Prop := U8s w u xs ∧ (xs = [] ∨ ∀ g, u.ownBlock = some g → ∃ cs f, w.heap[g]? = some (.cells cs 5 f))
theorem RowB.ext {w w' : World} {u : Value} {xs : List Nat} (h : RowB w u xs) (hx : w.Extends w') : RowB w' u xs := by
  refine ⟨h.1.ext hx, ?_⟩
  rcases h.2 with h0 | h0
  · exact .inl h0
  · refine .inr fun g hg => ?_
    obtain ⟨cs, f, hc⟩ := h0 g hg
    exact ⟨cs, f, (hx.block g (Array.getElem?_eq_some_iff.1 hc).1).trans hc⟩
theorem RowB.grown {w w' : World} {B n : Nat} {u v : Value} {xs : List Nat} {vs : List Value} {T : TypeId} (h : RowB w u xs) (ho : w.ownsRow B T 1 v n vs) (hT : T ≠ 5) (hg : w.grownBy w' v.ownBlock) : RowB w' u xs := by
  rcases h.2 with h0 | h0
  · subst h0
    refine ⟨?_, .inl rfl⟩
    obtain ⟨a, c, rfl, _, hc⟩ := h.1.slice
    exact .inl ⟨rfl, a, c, rfl, hc⟩
  · have hne : ∀ g, u.ownBlock = some g → v.ownBlock ≠ some g := fun g hgu e => by
      obtain ⟨cs, f, hc⟩ := h0 g hgu
      rcases ho.2 with ⟨rfl, _⟩ | ⟨g', cap, cur, rfl, hbg, hg', _⟩
      · cases e
      · simp only [Value.ownBlock, Option.some.injEq] at e
        subst e
        rw [hg'] at hc
        simp only [Option.some.injEq, Obj.cells.injEq] at hc
        exact hT hc.2.1
    refine ⟨h.1.grown hg ?_, .inr fun g hgu => ?_⟩
    · rcases h.1 with h1 | ⟨b, off, cap, rfl, _⟩
      · exact .inl h1.1
      · exact .inr (Ne.symm (hne b rfl))
    · obtain ⟨cs, f, hc⟩ := h0 g hgu
      exact ⟨cs, f, (hg.block g (Array.getElem?_eq_some_iff.1 hc).1 (fun e => hne g hgu e.symm)).trans hc⟩
/-- v is the call's own slice of rows that read as l, in blocks of bytes. -/
def LRows (w : World) (B : Nat) (v : Value) (l : List (List Nat)) : Prop := ∃ vs, w.ownsRow B 29 1 v l.length vs ∧ ∀ j, j < l.length → ∃ u, vs[j]? = some u ∧ RowB w u (l.getD j [])
theorem LRows.nil (w : World) (B : Nat) : LRows w B (.slice none 0 0) [] := ⟨[], World.ownsRow_nil _ _ _ _, fun j hj => absurd hj (Nat.not_lt_zero _)⟩
theorem LRows.ext {w w' : World} {B : Nat} {v : Value} {l : List (List Nat)} (h : LRows w B v l) (hx : w.Extends w') : LRows w' B v l := by
  obtain ⟨vs, ho, hr⟩ := h
  have hg : w.grownBy w' none := ⟨hx.os, hx.tape, hx.output, hx.size, fun i hi _ => hx.block i hi⟩
  refine ⟨vs, ho.kept hg (by cases v.ownBlock <;> simp), fun j hj => ?_⟩
  obtain ⟨u, h1, h2⟩ := hr j hj
  exact ⟨u, h1, h2.ext hx⟩
theorem LRows.snoc {w w' : World} {B : Nat} {v v' u : Value} {l : List (List Nat)} {vs : List Value} {r : List Nat} (hown : w.ownsRow B 29 1 v l.length vs) (hr : ∀ j, j < l.length → ∃ u, vs[j]? = some u ∧ RowB w u (l.getD j [])) (hu : RowB w u r)
    (hg : w.grownBy w' v.ownBlock) (ho : w'.ownsRow B 29 1 v' (l.length + 1) (vs ++ [u])) : LRows w' B v' (l ++ [r]) := by
  have hl : vs.length = l.length := by have := hown.1; omega
  refine ⟨vs ++ [u], by rw [List.length_append]; exact ho, fun j hj => ?_⟩
  rw [List.length_append, List.length_singleton] at hj
  by_cases hjk : j < l.length
  · obtain ⟨u', h1, h2⟩ := hr j hjk
    refine ⟨u', by rw [List.getElem?_append_left (by omega)]; exact h1, ?_⟩
    rw [show (l ++ [r]).getD j [] = l.getD j [] by simp [List.getD_eq_getElem?_getD, List.getElem?_append_left hjk]]
    exact h2.grown hown (by decide) hg
  · obtain rfl : j = l.length := by omega
    refine ⟨u, by rw [← hl]; simp, ?_⟩
    rw [show (l ++ [r]).getD l.length [] = r by simp [List.getD_eq_getElem?_getD]]
    exact hu.grown hown (by decide) hg
/-- '[]byte(s)': the world behind it, and what is answered. -/
theorem bytes_of_string (xs : List Nat) (w : World) (hm : xs.length ≤ maxLen) (hl : ∀ x ∈ xs, x < 256) : ∃ v w', (convert 9 29 (.string (strOf xs))).run Try.prog w = .ok v w' ∧ w.Extends w' ∧ RowB w' v xs := by
  have hr := run_bytes_of_string (P := Try.prog) w 9 29 5 (strOf xs) Try.underlying9 Try.underlying29 Try.underlying5
  have hsz : (strOf xs).size = xs.length := by simp [strOf, strOfNums, ByteArray.size]
  rw [hsz] at hr
  have hge := grownCap_ge w xs.length 0 5
  have hcm : grownCap w xs.length 0 5 ≤ maxLen := grownCap_le_maxLen w _ 0 5 hm
  refine ⟨_, _, hr, Gr.ext_trans (Gr.ext_drew (Gr.ext_refl w)) (ext_alloc _ _), ?_, .inr fun g hg => ?_⟩
  · generalize hG : grownCap w xs.length 0 5 = G at *
    refine .inr ⟨w.heap.size, 0, G, rfl, hge, hcm, by simp, fun k hk => ?_, hl⟩
    have := cell_of_row _ w.heap.size k _ _ _ (heap_alloc_new w.drew (.cells (bytesRow (strOf xs) G) 5 ((bytesRow (strOf xs) G).size, (bytesRow (strOf xs) G).size + 1)))
    rw [Nat.zero_add, this]
    have hb : xs[k] % 256 = xs[k] := Nat.mod_eq_of_lt (hl _ (List.getElem_mem hk))
    simp [bytesRow, strOf, strOfNums, Array.getElem?_append, hk, hb]
  · simp only [Value.ownBlock, Option.some.injEq] at hg
    subst hg
    exact ⟨_, _, heap_alloc_new w.drew _⟩
end Go.Proofs.Yteogahofcmgddaa
