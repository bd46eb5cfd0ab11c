/- In one text: LogAt, LogReal, LogCrash, Fr, StoAt, StoRoom. -/
import Derived.Laws.IdiomStrings
import Derived.WalkKit
import Derived.IntWalk
import Derived.Deep.DeepCutAuto
import Derived.Handy
import Derived.Test.YtdbdnfjgmdkneaaMC1
import Derived.Test.YtdbdnfjgmdkneaaMC3
import Derived.Test.YtdbdnfjgmdkneaaMC4
import Derived.Test.YtdbdnfjgmdkneaaMC5
namespace Go.Proofs.Ytdbdnfjgmdkneaa
set_option maxRecDepth 20000
open Go.RowKit Go.Deep
set_option linter.unusedVariables false
/-- The pieces that a pointer reaches, the last one first. -/
def Chain (w : World) : Option Addr → List (List Nat) → Prop
  | p, [] => p = none
  | p, x :: r => ∃ k q, p = some ⟨k, 0, none⟩ ∧ w.heap[k]? = some (.cells #[.pointer q, .string (strOf x), .int .i64 ((LM.size (x :: r) : Nat) : Int)] 116 (0, 0)) ∧ Chain w q r
theorem Chain.keep {w w' : World} (h : ∀ (k : Nat) (cs : Array Value), w.heap[k]? = some (.cells cs 116 (0, 0)) → w'.heap[k]? = w.heap[k]?) : ∀ {l : List (List Nat)} {p : Option Addr}, Chain w p l → Chain w' p l
  | [], p, hc => hc
  | x :: r, p, ⟨k, q, h1, h2, h3⟩ => ⟨k, q, h1, (h k _ h2).trans h2, Chain.keep h h3⟩
/-- A log of the program lies at block t of type T: its pieces, and how many bytes are sure; R: what else lies in the block. -/
def LAt (w : World) (t : Nat) (R : List Value) (T : TypeId) (l : List (List Nat)) (s : Nat) : Prop := ∃ p, w.heap[t]? = some (.cells (Value.pointer p :: Value.int .i64 ((s : Nat) : Int) :: R).toArray T (0, 0)) ∧ Chain w p l.reverse ∧ LM.Fine l ∧ T ≠ 116
section
variable {w w' : World} {t s : Nat} {R : List Value} {T : TypeId} {l : List (List Nat)}
theorem LAt.lt (h : LAt w t R T l s) : t < w.heap.size := by
  obtain ⟨p, h1, _⟩ := h
  exact (Array.getElem?_eq_some_iff.1 h1).1
theorem LAt.keep (h : LAt w t R T l s) (hk : ∀ (k : Nat) (cs : Array Value), w.heap[k]? = some (.cells cs 116 (0, 0)) → w'.heap[k]? = w.heap[k]?) (ht : w'.heap[t]? = w.heap[t]?) : LAt w' t R T l s := by
  obtain ⟨p, h1, h2, h3⟩ := h
  exact ⟨p, ht.trans h1, h2.keep hk, h3⟩
theorem LAt.ext (h : LAt w t R T l s) (hx : w.Extends w') : LAt w' t R T l s :=
  h.keep (fun k cs hk => hx.block k (Array.getElem?_eq_some_iff.1 hk).1) (hx.block t h.lt)
/-- It stays where another block, which is no piece, may be written. -/
theorem LAt.grown {g : Nat} {cs : Array Value} {T' : TypeId} {f : Nat × Nat} (h : LAt w t R T l s) (hg : w.grownBy w' (some g)) (hb : w.heap[g]? = some (.cells cs T' f)) (hT : T' ≠ 116) (hn : t ≠ g) : LAt w' t R T l s :=
  h.keep (fun k ck hk => hg.block k (Array.getElem?_eq_some_iff.1 hk).1 (fun e => by
    have e' := Option.some.inj e
    subst e'
    rw [hk] at hb
    simp only [Option.some.injEq, Obj.cells.injEq] at hb
    exact hT hb.2.1.symm)) (hg.block t h.lt (by simpa using hn))
/-- Its own block, written. -/
theorem Chain.own {p : Option Addr} {r : List (List Nat)} {cs : Array Value} (h : Chain w p r) (hb : w.heap[t]? = some (.cells cs T (0, 0))) (hT : T ≠ 116) (hg : w.grownBy w' (some t)) : Chain w' p r :=
  h.keep fun k ck hk => hg.block k (Array.getElem?_eq_some_iff.1 hk).1 (fun e => by
    have e' := Option.some.inj e
    subst e'
    rw [hk] at hb
    simp only [Option.some.injEq, Obj.cells.injEq] at hb
    exact absurd hb.2.1.symm hT)
theorem two_first (a b : Value) (R : List Value) : (a :: b :: R).toArray[0]? = some a ∧ (a :: b :: R).toArray[1]? = some b := ⟨by simp, by simp⟩
theorem two_set0 (a b v : Value) (R : List Value) : (a :: b :: R).toArray.setIfInBounds 0 v = (v :: b :: R).toArray := by simp
theorem two_set1 (a b v : Value) (R : List Value) : (a :: b :: R).toArray.setIfInBounds 1 v = (a :: v :: R).toArray := by simp
theorem LAt.cells (h : LAt w t R T l s) : ∃ p, w.cell? ⟨t, 0, none⟩ = some (.pointer p) ∧ w.cell? ⟨t, 1, none⟩ = some (.int .i64 ((s : Nat) : Int)) ∧ w.frozen? ⟨t, 0, none⟩ = false ∧ w.frozen? ⟨t, 1, none⟩ = false ∧ Chain w p l.reverse ∧ LM.Fine l ∧
    w.heap[t]? = some (.cells (Value.pointer p :: Value.int .i64 ((s : Nat) : Int) :: R).toArray T (0, 0)) ∧ T ≠ 116 := by
  obtain ⟨p, h1, h2, h3, h4⟩ := h
  exact ⟨p, by rw [cell_of_row _ _ _ _ _ _ h1]; exact (two_first _ _ _).1, by rw [cell_of_row _ _ _ _ _ _ h1]; exact (two_first _ _ _).2, frozen_of_row _ _ _ _ _ h1, frozen_of_row _ _ _ _ _ h1, h2, h3, h1, h4⟩
/-- The last piece's cells. -/
theorem Chain.cells {p : Option Addr} {x : List Nat} {r : List (List Nat)} (h : Chain w p (x :: r)) : ∃ k q, p = some ⟨k, 0, none⟩ ∧ w.cell? ⟨k, 0, none⟩ = some (.pointer q) ∧ w.cell? ⟨k, 1, none⟩ = some (.string (strOf x)) ∧ w.cell? ⟨k, 2, none⟩ = some (.int .i64 ((LM.size (x :: r) : Nat) : Int)) ∧ Chain w q r := by
  obtain ⟨k, q, h1, h2, h3⟩ := h
  exact ⟨k, q, h1, by rw [cell_of_row _ _ _ _ _ _ h2]; rfl, by rw [cell_of_row _ _ _ _ _ _ h2]; rfl, by rw [cell_of_row _ _ _ _ _ _ h2]; rfl, h3⟩
theorem LAt.new (w : World) : LAt (w.alloc (.cells #[.pointer none, .int .i64 0] 57)) w.heap.size [] 57 [] 0 :=
  ⟨none, heap_alloc_new _ _, rfl, LM.Fine.nil, by decide⟩
/-- A piece more. -/
theorem LAt.snoc {w1 w2 : World} {k : Nat} {p : Option Addr} {x : List Nat} (h1 : w.heap[t]? = some (.cells (Value.pointer p :: Value.int .i64 ((s : Nat) : Int) :: R).toArray T (0, 0))) (hT : T ≠ 116) (h2 : Chain w p l.reverse) (h3 : LM.Fine l) (hx : x.length ≤ 65535) (hy : ∀ y ∈ x, y < 256)
    (hw1 : w1 = w.alloc (.cells #[.pointer p, .string (strOf x), .int .i64 ((LM.size l + 2 + x.length : Nat) : Int)] 116)) (hk : k = w.heap.size) (hw2 : w2 = w1.setCell ⟨t, 0, none⟩ (.pointer (some ⟨k, 0, none⟩))) : LAt w2 t R T (l ++ [x]) s ∧ w.grownBy w2 (some t) := by
  have hlt : t < w.heap.size := (Array.getElem?_eq_some_iff.1 h1).1
  have hX : w.Extends w1 := by subst hw1; exact ext_alloc _ _
  have h1' : w1.heap[t]? = some (.cells (Value.pointer p :: Value.int .i64 ((s : Nat) : Int) :: R).toArray T (0, 0)) := by rw [hX.block t hlt]; exact h1
  have hg1 : w1.grownBy w2 (some t) := by subst hw2; exact grown_set _ _ _ _
  have hk1 : w1.heap[k]? = some (.cells #[.pointer p, .string (strOf x), .int .i64 ((LM.size l + 2 + x.length : Nat) : Int)] 116 (0, 0)) := by subst hw1 hk; exact heap_alloc_new _ _
  have hc1 : Chain w1 p l.reverse := h2.keep fun k cs hk => hX.block k (Array.getElem?_eq_some_iff.1 hk).1
  refine ⟨⟨some ⟨k, 0, none⟩, ?_, ?_, h3.snoc hx hy, hT⟩, ?_⟩
  · subst hw2; rw [heap_setCell_same _ _ _ _ _ _ h1', two_set0]
  · rw [List.reverse_append]
    refine Chain.own ?_ h1' hT hg1
    refine ⟨k, p, rfl, ?_, hc1⟩
    rw [hk1]
    have : LM.size (x :: l.reverse) = LM.size l + 2 + x.length := by simp only [LM.size, LM.size_reverse]; omega
    show _ = some (Obj.cells #[.pointer p, .string (strOf x), .int .i64 ((LM.size (x :: l.reverse) : Nat) : Int)] _ _)
    rw [this]
  · exact grown_trans (grown_below (Gr.below_of hX) (Nat.le_refl _)) hg1
/-- The last piece gone. -/
theorem LAt.pop {w2 : World} {p q : Option Addr} (h1 : w.heap[t]? = some (.cells (Value.pointer p :: Value.int .i64 ((s : Nat) : Int) :: R).toArray T (0, 0))) (hT : T ≠ 116) (h2 : Chain w q l.reverse) (h3 : LM.Fine l) (hw2 : w2 = w.setCell ⟨t, 0, none⟩ (.pointer q)) : LAt w2 t R T l s ∧ w.grownBy w2 (some t) := by
  have hg1 : w.grownBy w2 (some t) := by subst hw2; exact grown_set _ _ _ _
  refine ⟨⟨q, ?_, h2.own h1 hT hg1, h3, hT⟩, hg1⟩
  subst hw2; rw [heap_setCell_same _ _ _ _ _ _ h1, two_set0]
/-- So many bytes are sure. -/
theorem LAt.surely {w2 : World} {s' : Nat} {p : Option Addr} (h1 : w.heap[t]? = some (.cells (Value.pointer p :: Value.int .i64 ((s : Nat) : Int) :: R).toArray T (0, 0))) (hT : T ≠ 116) (h2 : Chain w p l.reverse) (h3 : LM.Fine l) (hw2 : w2 = w.setCell ⟨t, 1, none⟩ (.int .i64 ((s' : Nat) : Int))) : LAt w2 t R T l s' ∧ w.grownBy w2 (some t) := by
  have hg1 : w.grownBy w2 (some t) := by subst hw2; exact grown_set _ _ _ _
  refine ⟨⟨p, ?_, h2.own h1 hT hg1, h3, hT⟩, hg1⟩
  subst hw2; rw [heap_setCell_same _ _ _ _ _ _ h1, two_set1]
end
/-! Rows of bytes that a call has made of strings, and a slice of them. -/
/-- u reads as xs, and lies in a block of bytes. -/
def RowB (w : World) (u : Value) (xs : List Nat) : Prop := U8s w u xs ∧ (xs = [] ∨ ∀ g, u.ownBlock = some g → ∃ cs f, w.heap[g]? = some (.cells cs 5 f))
theorem RowB.ext {w w' : World} {u : Value} {xs : List Nat} (h : RowB w u xs) (hx : w.Extends w') : RowB w' u xs := by
  refine ⟨h.1.ext hx, ?_⟩
  rcases h.2 with h0 | h0
  · exact .inl h0
  · refine .inr fun g hg => ?_
    obtain ⟨cs, f, hc⟩ := h0 g hg
    exact ⟨cs, f, (hx.block g (Array.getElem?_eq_some_iff.1 hc).1).trans hc⟩
theorem RowB.grown {w w' : World} {B n : Nat} {u v : Value} {xs : List Nat} {vs : List Value} {T : TypeId} (h : RowB w u xs) (ho : w.ownsRow B T 1 v n vs) (hT : T ≠ 5) (hg : w.grownBy w' v.ownBlock) : RowB w' u xs := by
  rcases h.2 with h0 | h0
  · subst h0
    refine ⟨?_, .inl rfl⟩
    obtain ⟨a, c, rfl, _, hc⟩ := h.1.slice
    exact .inl ⟨rfl, a, c, rfl, hc⟩
  · have hne : ∀ g, u.ownBlock = some g → v.ownBlock ≠ some g := fun g hgu e => by
      obtain ⟨cs, f, hc⟩ := h0 g hgu
      rcases ho.2 with ⟨rfl, _⟩ | ⟨g', cap, cur, rfl, hbg, hg', _⟩
      · cases e
      · simp only [Value.ownBlock, Option.some.injEq] at e
        subst e
        rw [hg'] at hc
        simp only [Option.some.injEq, Obj.cells.injEq] at hc
        exact hT hc.2.1
    refine ⟨h.1.grown hg ?_, .inr fun g hgu => ?_⟩
    · rcases h.1 with h1 | ⟨b, off, cap, rfl, _⟩
      · exact .inl h1.1
      · exact .inr (Ne.symm (hne b rfl))
    · obtain ⟨cs, f, hc⟩ := h0 g hgu
      exact ⟨cs, f, (hg.block g (Array.getElem?_eq_some_iff.1 hc).1 (fun e => hne g hgu e.symm)).trans hc⟩
/-- v is the call's own slice of rows that read as l, in blocks of bytes. -/
def LRows (w : World) (B : Nat) (v : Value) (l : List (List Nat)) : Prop := ∃ vs, w.ownsRow B 26 1 v l.length vs ∧ ∀ j, j < l.length → ∃ u, vs[j]? = some u ∧ RowB w u (l.getD j [])
theorem LRows.nil (w : World) (B : Nat) : LRows w B (.slice none 0 0) [] := ⟨[], World.ownsRow_nil _ _ _ _, fun j hj => absurd hj (Nat.not_lt_zero _)⟩
theorem LRows.ext {w w' : World} {B : Nat} {v : Value} {l : List (List Nat)} (h : LRows w B v l) (hx : w.Extends w') : LRows w' B v l := by
  obtain ⟨vs, ho, hr⟩ := h
  have hg : w.grownBy w' none := ⟨hx.os, hx.tape, hx.output, hx.size, fun i hi _ => hx.block i hi⟩
  refine ⟨vs, ho.kept hg (by cases v.ownBlock <;> simp), fun j hj => ?_⟩
  obtain ⟨u, h1, h2⟩ := hr j hj
  exact ⟨u, h1, h2.ext hx⟩
theorem LRows.snoc {w w' : World} {B : Nat} {v v' u : Value} {l : List (List Nat)} {vs : List Value} {r : List Nat} (hown : w.ownsRow B 26 1 v l.length vs) (hr : ∀ j, j < l.length → ∃ u, vs[j]? = some u ∧ RowB w u (l.getD j [])) (hu : RowB w u r)
    (hg : w.grownBy w' v.ownBlock) (ho : w'.ownsRow B 26 1 v' (l.length + 1) (vs ++ [u])) : LRows w' B v' (l ++ [r]) := by
  have hl : vs.length = l.length := by have := hown.1; omega
  refine ⟨vs ++ [u], by rw [List.length_append]; exact ho, fun j hj => ?_⟩
  rw [List.length_append, List.length_singleton] at hj
  by_cases hjk : j < l.length
  · obtain ⟨u', h1, h2⟩ := hr j hjk
    refine ⟨u', by rw [List.getElem?_append_left (by omega)]; exact h1, ?_⟩
    rw [show (l ++ [r]).getD j [] = l.getD j [] by simp [List.getD_eq_getElem?_getD, List.getElem?_append_left hjk]]
    exact h2.grown hown (by decide) hg
  · obtain rfl : j = l.length := by omega
    refine ⟨u, by rw [← hl]; simp, ?_⟩
    rw [show (l ++ [r]).getD l.length [] = r by simp [List.getD_eq_getElem?_getD]]
    exact hu.grown hown (by decide) hg
/-- '[]byte(s)': the world behind it, and what is answered. -/
theorem bytes_of_string (xs : List Nat) (w : World) (hm : xs.length ≤ maxLen) (hl : ∀ x ∈ xs, x < 256) : ∃ v w', (convert 9 26 (.string (strOf xs))).run Try.prog w = .ok v w' ∧ w.Extends w' ∧ RowB w' v xs := by
  have hr := run_bytes_of_string (P := Try.prog) w 9 26 5 (strOf xs) Try.underlying9 Try.underlying26 Try.underlying5
  have hsz : (strOf xs).size = xs.length := by simp [strOf, strOfNums, ByteArray.size]
  rw [hsz] at hr
  have hge := grownCap_ge w xs.length 0 5
  have hcm : grownCap w xs.length 0 5 ≤ maxLen := grownCap_le_maxLen w _ 0 5 hm
  refine ⟨_, _, hr, Gr.ext_trans (Gr.ext_drew (Gr.ext_refl w)) (ext_alloc _ _), ?_, .inr fun g hg => ?_⟩
  · generalize hG : grownCap w xs.length 0 5 = G at *
    refine .inr ⟨w.heap.size, 0, G, rfl, hge, hcm, by simp, fun k hk => ?_, hl⟩
    have := cell_of_row _ w.heap.size k _ _ _ (heap_alloc_new w.drew (.cells (bytesRow (strOf xs) G) 5 ((bytesRow (strOf xs) G).size, (bytesRow (strOf xs) G).size + 1)))
    rw [Nat.zero_add, this]
    have hb : xs[k] % 256 = xs[k] := Nat.mod_eq_of_lt (hl _ (List.getElem_mem hk))
    simp [bytesRow, strOf, strOfNums, Array.getElem?_append, hk, hb]
  · simp only [Value.ownBlock, Option.some.injEq] at hg
    subst hg
    exact ⟨_, _, heap_alloc_new w.drew _⟩
end Go.Proofs.Ytdbdnfjgmdkneaa
namespace Go.Proofs.Ytdbdnfjgmdkneaa
set_option maxRecDepth 20000
open Go.RowKit Go.Deep
set_option linter.unusedVariables false
theorem len15_any (t s : Nat) {R : List Value} {T : TypeId} (l : List (List Nat)) (w : World) (h : LAt w t R T l s) :
    Calls Try.prog 37 #[.pointer (some ⟨t, 0, none⟩)] w fun e w' => e = .returned (.int .i64 ((LM.size l : Nat) : Int)) ∧ w = w' := by
  obtain ⟨p, h0, h1, f0, f1, hc, hf, hb, hT⟩ := h.cells
  have hz := LM.size_reverse l
  cases hr : l.reverse with
  | nil =>
    rw [hr] at hc hz
    have hp : p = none := hc
    subst hp
    rw [show LM.size l = 0 from hz.symm]
    clear hc hf hb hz h hr
    go_enter Try.func37, Try.ntmps37
    go_wp2
    go_ret
    exact ⟨rfl, rfl⟩
  | cons x r =>
    rw [hr] at hc hz
    obtain ⟨k, q, hp, c0, c1, c2, hc2⟩ := hc.cells
    subst hp
    rw [hz] at c2
    clear hc hf hb hz h hr hc2
    generalize LM.size l = z at *
    go_enter Try.func37, Try.ntmps37
    go_wp2
    go_ret
    exact ⟨rfl, rfl⟩
theorem sure15_any (t s : Nat) {R : List Value} {T : TypeId} (l : List (List Nat)) (w : World) (h : LAt w t R T l s) :
    Calls Try.prog 32 #[.pointer (some ⟨t, 0, none⟩)] w fun e w' => e = .returned (.tuple #[]) ∧ LAt w' t R T l (LM.size l) ∧ w.grownBy w' (some t) := by
  obtain ⟨p, h0, h1, f0, f1, hc, hf, hb, hT⟩ := h.cells
  have HLEN := Lib.hid (len15_any t s l w h)
  have HP := Lib.hid (fun w2 => LAt.surely (w2 := w2) (s' := LM.size l) hb hT hc hf)
  clear hc hf hb h
  generalize LM.size l = z at *
  go_enter Try.func32, Try.ntmps32
  go_wp2_with fail
  refine HLEN.out.mono ?_
  rintro e w2 ⟨rfl, rfl⟩
  clear HLEN
  go_wp2
  go_end0
  exact ⟨rfl, HP.out _ rfl⟩
theorem append15_ok (t s : Nat) {R : List Value} {T : TypeId} (l : List (List Nat)) (v : Value) (x : List Nat) (w : World) (h : LAt w t R T l s) (hu : U8s w v x) (hx : x.length ≤ 65535) (hz : LM.size l ≤ 1000000000) :
    Calls Try.prog 68 #[.pointer (some ⟨t, 0, none⟩), v] w fun e w' => e = .returned (.int .i64 0) ∧ LAt w' t R T (l ++ [x]) s ∧ w.grownBy w' (some t) := by
  obtain ⟨a, c, rfl, _, _⟩ := hu.slice
  obtain ⟨p, h0, h1, f0, f1, hc, hf, hb, hT⟩ := h.cells
  have HLEN := Lib.hid (len15_any t s l w.drew (h.ext (Gr.ext_drew (Gr.ext_refl w))))
  have HU := Lib.hid hu
  have hlt : t < w.drew.heap.size := h.lt
  have HP : Hid (∀ w1 w2, w1 = w.drew.alloc (.cells #[.pointer p, .string (strOf x), .int .i64 (IntKind.i64.wrap (IntKind.i64.wrap (((LM.size l : Nat) : Int) + 2) + ((x.length : Nat) : Int)))] 116) → w2 = w1.setCell ⟨t, 0, none⟩ (.pointer (some ⟨w.drew.heap.size, 0, none⟩)) → LAt w2 t R T (l ++ [x]) s ∧ w.grownBy w2 (some t)) := fun w1 w2 e1 e2 => by
    have hcd : Chain w.drew p l.reverse := Chain.keep (w := w) (w' := w.drew) (fun _ _ _ => rfl) hc
    have := LAt.snoc (w := w.drew) (w1 := w1) (w2 := w2) (x := x) (k := w.drew.heap.size) hb hT hcd hf hx hu.lt (by rw [e1, show IntKind.i64.wrap (IntKind.i64.wrap (((LM.size l : Nat) : Int) + 2) + ((x.length : Nat) : Int)) = ((LM.size l + 2 + x.length : Nat) : Int) by rw [IntKind.wrap_i64, IntKind.wrap_i64]; omega]) rfl e2
    exact ⟨this.1, ⟨this.2.os, this.2.tape, this.2.output, this.2.size, this.2.block⟩⟩
  have hL0 : Hid (∀ w', w.drew.Extends w' → w'.cell? ⟨t, 0, none⟩ = some (.pointer p)) := fun w' hw' => (Gr.of_drew hw').cell_of h0
  have HV : Hid (∀ w', w.drew.Extends w' → (convert 26 9 (.slice a x.length c)).run Try.prog w' = .ok (.string (strOf x)) w') := fun w' hw' => conv_b (HU.out.ext (Gr.of_drew hw'))
  have f0' : w.drew.frozen? ⟨t, 0, none⟩ = false := f0
  clear hc hf hb hu h h0 h1 f1 HU f0
  generalize LM.size l = z at *
  generalize strOf x = sx at *
  generalize x.length = n at *
  go_enter Try.func68, Try.ntmps68
  go_wp2_with fail
  refine Gr.region 15 [(false,0),(false,1),(false,2),(false,3),(false,4),(false,5),(false,6),(false,7),(false,10),(false,11),(true,8),(false,9),(false,12),(false,13),(true,14)] (by kernel_rfl) (by kernel_rfl) (fun d _ _ _ _ h => by cases d <;> exact h) ?_
  simp only [Gr.pick, List.getElem?_cons_zero, List.getElem?_cons_succ, List.drop_succ_cons, List.drop_zero]
  generalize w.drew = wd at *
  iterate 4
    refine Gr.walk_t ?_ (Or.inl ⟨by rfl, ?_⟩) ?_
    rotate_left
    · intro w' hw'
      clear hw'
      go_simp
      try with_reducible rfl
    simp only [Act.put, List.setIfInBounds_toArray, List.set_cons_zero, List.set_cons_succ]
  refine Gr.walk_t ?_ (Or.inl ⟨by rfl, ?_⟩) ?_
  rotate_left
  · intro w' hw'
    have hc0 := hL0.out w' hw'
    clear hw'
    go_simp
    try with_reducible rfl
  simp only [Act.put, List.setIfInBounds_toArray, List.set_cons_zero, List.set_cons_succ]
  refine Gr.walk_t ?_ (Or.inl ⟨by rfl, ?_⟩) ?_
  rotate_left
  · intro w' hw'
    clear hw'
    go_simp
    try with_reducible rfl
  simp only [Act.put, List.setIfInBounds_toArray, List.set_cons_zero, List.set_cons_succ]
  refine Gr.walk_t ?_ (Or.inl ⟨by rfl, ?_⟩) ?_
  rotate_left
  · intro w' hw'
    have hc0 := HV.out w' hw'
    clear hw'
    go_simp
    try with_reducible rfl
  simp only [Act.put, List.setIfInBounds_toArray, List.set_cons_zero, List.set_cons_succ]
  iterate 3
    refine Gr.walk_t ?_ (Or.inl ⟨by rfl, ?_⟩) ?_
    rotate_left
    · intro w' hw'
      clear hw'
      go_simp
      try with_reducible rfl
    simp only [Act.put, List.setIfInBounds_toArray, List.set_cons_zero, List.set_cons_succ]
  refine Gr.walk_c (fun K hK => ?_)
  go_simp
  refine (HLEN.out).mono ?_
  rintro e w2 ⟨rfl, rfl⟩
  try go_simp
  refine hK.out _ _ ((Gr.ext_refl _)) ?_
  clear hK K
  iterate 3
    refine Gr.walk_t ?_ (Or.inl ⟨by rfl, ?_⟩) ?_
    rotate_left
    · intro w' hw'
      clear hw'
      go_simp
      try with_reducible rfl
    simp only [Act.put, List.setIfInBounds_toArray, List.set_cons_zero, List.set_cons_succ]
  refine Gr.walk_c (fun K hK => ?_)
  go_simp
  generalize hw : World.alloc _ _ = w1
  have hx1 : wd.Extends w1 := by subst hw; exact ext_alloc _ _
  have HP1 := Lib.hid (fun w2 => HP.out w1 w2 hw.symm)
  have f1 : w1.frozen? ⟨t, 0, none⟩ = false := by rw [hx1.frozen ⟨t, 0, none⟩ hlt]; exact f0'
  have f2 := hx1.cell_of (hL0.out _ (Gr.ext_refl _))
  refine hK.out _ _ hx1 ?_
  clear hK K hw HP hx1 HLEN HV hL0 f0' hlt
  generalize wd.heap.size = y at *
  refine Gr.walk_nil ?_
  go_wp2
  go_ret
  exact ⟨rfl, HP1.out _ rfl⟩
end Go.Proofs.Ytdbdnfjgmdkneaa
namespace Go.Proofs.Ytdbdnfjgmdkneaa
set_option maxRecDepth 20000
open Go.RowKit Go.Deep
set_option linter.unusedVariables false
/-- How many bytes the log at block t says that it has. -/
def logLen (w : World) (t : Nat) : Nat :=
  match w.cell? ⟨t, 0, none⟩ with
  | some (.pointer (some ⟨k, _, _⟩)) => match w.cell? ⟨k, 2, none⟩ with
    | some (.int _ n) => n.toNat
    | _ => 0
  | _ => 0
theorem LAt.logLen {w : World} {t s : Nat} {R : List Value} {T : TypeId} {l : List (List Nat)} (h : LAt w t R T l s) : logLen w t = LM.size l := by
  obtain ⟨p, h0, h1, f0, f1, hc, hf, hb, hT⟩ := h.cells
  have hz := LM.size_reverse l
  unfold Go.Proofs.Ytdbdnfjgmdkneaa.logLen
  rw [h0]
  cases hr : l.reverse with
  | nil =>
    rw [hr] at hc hz
    have hp : p = none := hc
    subst hp
    exact hz
  | cons x r =>
    rw [hr] at hc hz
    obtain ⟨k, q, hp, c0, c1, c2, hc2⟩ := hc.cells
    subst hp
    simp only [c2]
    rw [hz]; rfl
theorem crash15_any (t s : Nat) {R : List Value} {T : TypeId} (l : List (List Nat)) (keep : Int) (w : World) (h : LAt w t R T l s) (hs : s ≤ LM.size l) (hz : LM.size l ≤ 1000000000) (hk : -9223372036854775808 ≤ keep ∧ keep ≤ 9223372036854775807) :
    Calls Try.prog 73 #[.pointer (some ⟨t, 0, none⟩), .int .i64 keep] w fun e w' => e = .returned (.tuple #[]) ∧ LAt w' t R T (LM.upto (LM.keep s keep (LM.size l)) l) (LM.size (LM.upto (LM.keep s keep (LM.size l)) l)) ∧ w.grownBy w' (some t) := by
  obtain ⟨p, h0, h1, f0, f1, hc, hf, hb, hT⟩ := h.cells
  have HA : Hid (LAt w.drew t R T l s) := h.ext (Gr.ext_drew (Gr.ext_refl w))
  have HC : Hid (∀ w', w.drew.Extends w' → w'.cell? ⟨t, 1, none⟩ = some (.int .i64 ((s : Nat) : Int))) := fun w' hw' => (Gr.of_drew hw').cell_of h1
  have HG : Hid (w.grownBy w.drew (some t)) := grown_drew (grown_refl _ _)
  obtain ⟨m, hm⟩ : ∃ m, m = LM.keep s keep (LM.size l) := ⟨_, rfl⟩
  rw [← hm]
  have HM : Hid (m = s + min keep.toNat (LM.size l - s)) := hm
  obtain ⟨z, hzz⟩ : ∃ z, z = LM.size l := ⟨_, rfl⟩
  have HLEN : Hid (∀ w', LAt w' t R T l s → Calls Try.prog 37 #[.pointer (some ⟨t, 0, none⟩)] w' fun e w2 => e = .returned (.int .i64 ((z : Nat) : Int)) ∧ w' = w2) := fun w' h' => by rw [hzz]; exact len15_any t s l w' h'
  rw [← hzz] at HM hs hz
  have HZ := Lib.hid hzz
  clear h0 h1 f0 f1 hc hf hb h hm hzz
  have HNEXT : Hid (∀ (wr : World) (c : List (List Nat)) (x : List Nat), LAt wr t R T (c ++ [x]) s → ∃ k q, wr.cell? ⟨t, 0, none⟩ = some (.pointer (some ⟨k, 0, none⟩)) ∧ wr.cell? ⟨k, 0, none⟩ = some (.pointer q) ∧ wr.frozen? ⟨t, 0, none⟩ = false ∧ ∀ w2, w2 = wr.setCell ⟨t, 0, none⟩ (.pointer q) → LAt w2 t R T c s ∧ wr.grownBy w2 (some t)) := fun wr c x hw => by
    obtain ⟨p, h0, h1, f0, f1, hc, hf, hb, hT⟩ := hw.cells
    rw [List.reverse_append] at hc
    obtain ⟨k, q, hp, c0, c1, c2, hc2⟩ := Chain.cells (x := x) (r := c.reverse) hc
    subst hp
    exact ⟨k, q, h0, c0, f0, fun w2 e => LAt.pop hb hT hc2 hf.left e⟩
  go_enter Try.func73, Try.ntmps73
  go_upto_region 1 with fail
  obtain ⟨wd, hwd⟩ : ∃ x, x = w.drew := ⟨_, rfl⟩
  rw [← hwd] at HA HC HG
  go_cut [4] (fun s4 wx => s4 = .int .i64 ((m : Nat) : Int) ∧ wd = wx)
  case first =>
    refine Gr.region 15 [(false,0),(false,1),(false,2),(false,3),(false,4),(false,5),(false,6),(false,8),(false,9),(false,10),(false,11),(true,7),(false,12),(false,13),(false,14)] (by kernel_rfl) (by kernel_rfl) (fun d _ _ _ _ h => by cases d <;> exact h) ?_
    simp only [Gr.pick, List.getElem?_cons_zero, List.getElem?_cons_succ, List.drop_succ_cons, List.drop_zero]
    rw [← hwd]
    clear hwd
    iterate 11
      refine Gr.walk_t ?_ (Or.inl ⟨by rfl, ?_⟩) ?_
      rotate_left
      · intro w' hw'
        have hc0 := HC.out w' hw'
        clear hw'
        go_simp
        try with_reducible rfl
      simp only [Act.put, List.setIfInBounds_toArray, List.set_cons_zero, List.set_cons_succ]
    refine Gr.walk_c (fun K hK => ?_)
    go_simp
    refine (HLEN.out wd HA.out).mono ?_
    rintro e w2 ⟨rfl, rfl⟩
    try go_simp
    refine hK.out _ _ ((Gr.ext_refl _)) ?_
    clear hK K
    iterate 3
      refine Gr.walk_t ?_ (Or.inl ⟨by rfl, ?_⟩) ?_
      rotate_left
      · intro w' hw'
        clear hw'
        go_simp
        try with_reducible rfl
      simp only [Act.put, List.setIfInBounds_toArray, List.set_cons_zero, List.set_cons_succ]
    refine Gr.walk_nil ?_
    go_wp2_with fail
    all_goals
      go_meet
      refine ⟨?_, rfl⟩
      have hm := HM.out
      rw [hm]
      refine congrArg (Value.int .i64) ?_
      have hzs : IntKind.i64.wrap ((z : Int) - (s : Int)) = (z : Int) - (s : Int) := by rw [IntKind.wrap_i64]; omega
      generalize IntKind.i64.wrap ((z : Int) - (s : Int)) = q at *
      rw [IntKind.wrap_i64]
      omega
  obtain ⟨rfl, rfl⟩ := hcut
  clear hwd HC
  have hm0 := HM.out
  have hmz : m ≤ z := by omega
  clear hm0 HM HLEN
  go_wp2_with fail
  go_loopw [] (fun wr => ∃ cur, Hid (LAt wr t R T cur s) ∧ Hid (LM.upto m cur = LM.upto m l) ∧ Hid (w.grownBy wr (some t)) ∧ LM.size cur ≤ z) (fun wr => logLen wr t)
  case atStart => exact ⟨l, HA, Lib.hid rfl, HG, Nat.le_of_eq HZ.out.symm⟩
  case round =>
    obtain ⟨cur, HA1, HU, HG1, hcz⟩ := hrel
    have hlog := HA1.out.logLen
    obtain ⟨y, hy⟩ : ∃ y, y = LM.size cur := ⟨_, rfl⟩
    have HLEN : Hid (Calls Try.prog 37 #[.pointer (some ⟨t, 0, none⟩)] wr fun e w2 => e = .returned (.int .i64 ((y : Nat) : Int)) ∧ wr = w2) := by rw [hy]; exact len15_any t s cur wr HA1.out
    rw [← hy] at hlog hcz
    have HY := Lib.hid hy
    have HLOG := Lib.hid hlog
    clear hy hlog HA HG
    go_wp2_with fail
    refine HLEN.out.mono ?_
    rintro e w2 ⟨rfl, rfl⟩
    clear HLEN
    by_cases h : m < y
    · obtain ⟨c, x, hcx⟩ : ∃ c x, cur = c ++ [x] := by
        rcases List.eq_nil_or_concat cur with e | ⟨c, x, e⟩
        · rw [e] at HY
          have := HY.out
          simp only [LM.size] at this
          omega
        · exact ⟨c, x, by simpa using e⟩
      subst hcx
      obtain ⟨k, q, c0, c1, f0, hpop⟩ := HNEXT.out wr c x HA1.out
      have HPOP := Lib.hid hpop
      have HUN : Hid (LM.upto m c = LM.upto m l) := by
        have h1 := HU.out
        rwa [LM.upto_snoc (by rw [← HY.out]; exact h)] at h1
      have HCY : Hid (LM.size c < y) := by
        have h1 := HY.out
        rw [LM.size_snoc] at h1
        show _ < _; omega
      clear hpop HA1 HU
      go_wp2
      go_roundw
      case rel => exact ⟨c, Lib.hid (HPOP.out _ rfl).1, HUN, Lib.hid (grown_trans HG1.out (HPOP.out _ rfl).2), by have := HCY.out; omega⟩
      case measure =>
        rw [HLOG.out, (HPOP.out _ rfl).1.logLen]
        exact HCY.out
    · have HE : Hid (cur = LM.upto m l) := by
        have h1 := HU.out
        rwa [LM.upto_all (by have := HY.out; omega)] at h1
      go_wp2_with fail
      refine (sure15_any t s cur wr HA1.out).mono ?_
      rintro e w2 ⟨rfl, hl2, hg2⟩
      have HP : Hid (LAt w2 t R T (LM.upto m l) (LM.size (LM.upto m l)) ∧ w.grownBy w2 (some t)) := by
        rw [← HE.out]
        exact ⟨hl2, grown_trans HG1.out hg2⟩
      clear hl2 hg2
      go_wp2
      go_end0
      exact ⟨rfl, HP.out⟩
end Go.Proofs.Ytdbdnfjgmdkneaa
namespace Go.Proofs.Ytdbdnfjgmdkneaa
set_option maxRecDepth 20000
open Go.RowKit
set_option linter.unusedVariables false
/-- Nothing is written but blocks of D, and new ones. -/
structure Fr (D : Nat → Prop) (w w' : World) : Prop where
  os : w'.os = w.os
  tape : w'.tape = w.tape
  output : w'.output = w.output
  size : w.heap.size ≤ w'.heap.size
  away : ∀ i, i < w.heap.size → ¬ D i → w'.heap[i]? = w.heap[i]?
theorem Fr.refl (D : Nat → Prop) (w : World) : Fr D w w := ⟨rfl, rfl, rfl, Nat.le_refl _, fun _ _ _ => rfl⟩
theorem Fr.ext {D : Nat → Prop} {w w' : World} (h : w.Extends w') : Fr D w w' := ⟨h.os, h.tape, h.output, h.size, fun i hi _ => h.block i hi⟩
theorem Fr.grown {D : Nat → Prop} {w w' : World} {r : Option Nat} (h : w.grownBy w' r) (hr : ∀ g, r = some g → D g) : Fr D w w' := ⟨h.os, h.tape, h.output, h.size, fun i hi hD => h.block i hi (fun e => hD (hr i e.symm))⟩
theorem Fr.mono {D D' : Nat → Prop} {w w' : World} (h : Fr D w w') (hD : ∀ i, D i → D' i) : Fr D' w w' := ⟨h.os, h.tape, h.output, h.size, fun i hi hn => h.away i hi (fun e => hn (hD i e))⟩
/-- D, and the blocks made since. -/
def Nx (D : Nat → Prop) (w w' : World) : Nat → Prop := fun i => D i ∨ (w.heap.size ≤ i ∧ i < w'.heap.size)
theorem Fr.trans {D D' : Nat → Prop} {a b c : World} (h : Fr D a b) (k : Fr D' b c) (hD : ∀ i, i < a.heap.size → D' i → D i) : Fr D a c :=
  ⟨k.os.trans h.os, k.tape.trans h.tape, k.output.trans h.output, Nat.le_trans h.size k.size, fun i hi hn => (k.away i (Nat.lt_of_lt_of_le hi h.size) (fun hd => hn (hD i hi hd))).trans (h.away i hi hn)⟩
theorem Fr.next {D : Nat → Prop} {a b c : World} (h : Fr D a b) (k : Fr (Nx D a b) b c) : Fr D a c := h.trans k fun i hi hd => by
  rcases hd with hd | hd
  · exact hd
  · omega
theorem Nx.next {D : Nat → Prop} {a b c : World} (h : a.heap.size ≤ b.heap.size) (k : b.heap.size ≤ c.heap.size) {i : Nat} (hd : Nx (Nx D a b) b c i) : Nx D a c i := by
  rcases hd with (hd | hd) | hd
  · exact .inl hd
  · exact .inr (by omega)
  · exact .inr (by omega)
theorem Fr.below {D : Nat → Prop} {w w' : World} {B : Nat} (h : Fr D w w') (hs : B ≤ w.heap.size) (hD : ∀ i, D i → B ≤ i) : Below B w w' :=
  ⟨h.os, h.tape, h.output, h.size, fun k hk => h.away k (by omega) (fun hd => by have := hD k hd; omega)⟩
/-- All blocks of type T stay. -/
def Still (T : TypeId) (w w' : World) : Prop := ∀ (i : Nat) (cs : Array Value) (f : Nat × Nat), w.heap[i]? = some (.cells cs T f) → w'.heap[i]? = w.heap[i]?
theorem Still.refl (T : TypeId) (w : World) : Still T w w := fun _ _ _ _ => rfl
theorem Still.ext {T : TypeId} {w w' : World} (h : w.Extends w') : Still T w w' := fun i cs f hi => h.block i (Array.getElem?_eq_some_iff.1 hi).1
theorem Still.trans {T : TypeId} {a b c : World} (h : Still T a b) (k : Still T b c) : Still T a c := fun i cs f hi => (k i cs f ((h i cs f hi).trans hi)).trans (h i cs f hi)
theorem Still.grown {T T' : TypeId} {w w' : World} {g : Nat} {cs : Array Value} {f : Nat × Nat} (h : w.grownBy w' (some g)) (hg : w.heap[g]? = some (.cells cs T' f)) (hT : T' ≠ T) : Still T w w' := fun i ci fi hi => h.block i (Array.getElem?_eq_some_iff.1 hi).1 (fun e => by
  have e' := Option.some.inj e
  subst e'
  rw [hi] at hg
  simp only [Option.some.injEq, Obj.cells.injEq] at hg
  exact hT hg.2.1.symm)
theorem Still.map {T : TypeId} {w w' : World} {g : Nat} {es : Array MapEntry} {c : Nat} (h : w.grownBy w' (some g)) (hg : w.heap[g]? = some (.map es c)) : Still T w w' := fun i ci fi hi => h.block i (Array.getElem?_eq_some_iff.1 hi).1 (fun e => by
  have e' := Option.some.inj e
  subst e'
  rw [hi] at hg
  cases hg)
end Go.Proofs.Ytdbdnfjgmdkneaa
namespace Go.Proofs.Ytdbdnfjgmdkneaa
set_option maxRecDepth 20000
open Go.RowKit Go.Deep Go.Maps
set_option linter.unusedVariables false
/-- u reads as xs, and lies in a block of bytes of D. -/
def RowIn (w : World) (D : Nat → Prop) (u : Value) (xs : List Nat) : Prop := U8s w u xs ∧ (xs = [] ∨ ∀ g, u.ownBlock = some g → D g ∧ ∃ cs f, w.heap[g]? = some (.cells cs 5 f))
theorem U8s.same {w w' : World} {u : Value} {xs : List Nat} (h : U8s w u xs) (hs : w.heap.size ≤ w'.heap.size) (hb : xs = [] ∨ ∀ g, u.ownBlock = some g → w'.heap[g]? = w.heap[g]?) : U8s w' u xs := by
  rcases h with h | ⟨b, off, cap, rfl, h1, h2, h3, h4, h5⟩
  · exact .inl h
  · rcases hb with rfl | hb
    · exact .inl ⟨rfl, _, _, rfl, by simpa using h2⟩
    · refine .inr ⟨b, off, cap, rfl, h1, h2, Nat.lt_of_lt_of_le h3 hs, fun k hk => ?_, h5⟩
      rw [World.cell?_of_block (w := w) (w' := w') (a := ⟨b, off + k, none⟩) (hb b rfl)]
      exact h4 k hk
theorem RowIn.same {w w' : World} {D : Nat → Prop} {u : Value} {xs : List Nat} (h : RowIn w D u xs) (hs : w.heap.size ≤ w'.heap.size) (hb : ∀ g cs f, D g → w.heap[g]? = some (.cells cs 5 f) → w'.heap[g]? = w.heap[g]?) : RowIn w' D u xs := by
  obtain ⟨h1, h2⟩ := h
  rcases h2 with h2 | h2
  · exact ⟨h1.same hs (.inl h2), .inl h2⟩
  · refine ⟨h1.same hs (.inr fun g hg => ?_), .inr fun g hg => ?_⟩
    · obtain ⟨h3, cs, f, h4⟩ := h2 g hg
      exact hb g cs f h3 h4
    · obtain ⟨h3, cs, f, h4⟩ := h2 g hg
      exact ⟨h3, cs, f, (hb g cs f h3 h4).trans h4⟩
theorem RowIn.mono {w : World} {D D' : Nat → Prop} {u : Value} {xs : List Nat} (h : RowIn w D u xs) (hD : ∀ i, D i → D' i) : RowIn w D' u xs := ⟨h.1, h.2.imp id fun h2 g hg => ⟨hD g (h2 g hg).1, (h2 g hg).2⟩⟩
theorem RowIn.still {w w' : World} {D : Nat → Prop} {u : Value} {xs : List Nat} (h : RowIn w D u xs) (hs : w.heap.size ≤ w'.heap.size) (hb : Still 5 w w') : RowIn w' D u xs := h.same hs fun g cs f _ hg => hb g cs f hg
/-- All data read, in blocks of D. -/
def Reads (w : World) (D : Nat → Prop) (ps : List Pr) : Prop := ∀ p ∈ ps, RowIn w D p.2 p.1.d
theorem Reads.still {w w' : World} {D : Nat → Prop} {ps : List Pr} (h : Reads w D ps) (hs : w.heap.size ≤ w'.heap.size) (hb : Still 5 w w') : Reads w' D ps := fun p hp => (h p hp).still hs hb
theorem Reads.mono {w : World} {D D' : Nat → Prop} {ps : List Pr} (h : Reads w D ps) (hD : ∀ i, D i → D' i) : Reads w D' ps := fun p hp => (h p hp).mono hD
/-- The tombstones' map. -/
def MapAt (w : World) (D : Nat → Prop) (m : Option Nat) (t : List Rc) : Prop := (m = none ∧ t = []) ∨ ∃ b E, m = some b ∧ D b ∧ w.ownsMap Try.prog 23 (plainElem Try.prog 3) b t.length E ∧ Ties E t
theorem tight {w : World} {b n : Nat} {E : DataW Unit} (h : w.ownsMap Try.prog 23 (plainElem Try.prog 3) b n E) : w.ownsMap Try.prog 23 (plainElem Try.prog 3) b (Maps.size E) E := by
  obtain ⟨es, clock, hb, F, hs, rfl⟩ := h
  refine ⟨es, clock, hb, F, ?_, rfl⟩
  rw [size_eq, length_sorted]; simp
theorem MapAt.same {w w' : World} {D : Nat → Prop} {m : Option Nat} {t : List Rc} (h : MapAt w D m t) (hb : ∀ b, m = some b → w'.heap[b]? = w.heap[b]?) : MapAt w' D m t := by
  rcases h with h | ⟨b, E, h1, h2, h3, h4⟩
  · exact .inl h
  · obtain ⟨es, clock, hh, h5⟩ := h3
    exact .inr ⟨b, E, h1, h2, ⟨es, clock, (hb b h1).trans hh, h5⟩, h4⟩
theorem MapAt.mono {w : World} {D D' : Nat → Prop} {m : Option Nat} {t : List Rc} (h : MapAt w D m t) (hD : ∀ i, D i → D' i) : MapAt w D' m t := by
  rcases h with h | ⟨b, E, h1, h2, h3, h4⟩
  · exact .inl h
  · exact .inr ⟨b, E, h1, hD b h2, h3, h4⟩
theorem MapAt.block {w : World} {D : Nat → Prop} {b : Nat} {t : List Rc} (h : MapAt w D (some b) t) : D b ∧ ∃ es c, w.heap[b]? = some (.map es c) := by
  rcases h with ⟨h, _⟩ | ⟨b', E, h1, h2, ⟨es, clock, hh, _⟩, h4⟩
  · cases h
  · cases h1; exact ⟨h2, es, clock, hh⟩
/-- A store of the program lies at block t, in blocks of D; v: its symbols' slice; mp: its map; ps: the symbols and their data. -/
structure SAtX (w : World) (t : Nat) (D : Nat → Prop) (st : Sto) (v : Value) (mp : Option Nat) (ps : List Pr) : Prop where
  log : LAt w t [.int .i64 ((st.m : Nat) : Int), v, .map mp] 60 st.lg st.s
  here : D t
  own : OwnR w v ps
  recs : recs ps = st.l
  inD : ∀ g, v.ownBlock = some g → D g
  data : Reads w D ps
  tombs : MapAt w D mp st.t
def SAt (w : World) (t : Nat) (D : Nat → Prop) (st : Sto) : Prop := ∃ v mp ps, SAtX w t D st v mp ps
section
variable {w w' : World} {t : Nat} {D D' : Nat → Prop} {st : Sto} {v : Value} {mp : Option Nat} {ps : List Pr}
theorem SAtX.mono (h : SAtX w t D st v mp ps) (hD : ∀ i, D i → D' i) : SAtX w t D' st v mp ps :=
  ⟨h.log, hD _ h.here, h.own, h.recs, fun g hg => hD g (h.inD g hg), h.data.mono hD, h.tombs.mono hD⟩
theorem SAt.mono (h : SAt w t D st) (hD : ∀ i, D i → D' i) : SAt w t D' st := by
  obtain ⟨v, mp, ps, h⟩ := h
  exact ⟨v, mp, ps, h.mono hD⟩
/-- It stays where none of its blocks, and no piece of a log, is written. -/
theorem SAtX.away (h : SAtX w t D st v mp ps) (hf : Fr D' w w') (hn : ∀ i, D i → ¬ D' i) (hp : Still 116 w w') : SAtX w' t D st v mp ps := by
  have hb : ∀ g, D g → g < w.heap.size → w'.heap[g]? = w.heap[g]? := fun g hg hl => hf.away g hl (hn g hg)
  refine ⟨h.log.keep (fun k cs hk => hp k cs _ hk) (hb t h.here h.log.lt), h.here, ?_, h.recs, h.inD, fun p hp' => (h.data p hp').same hf.size fun g cs f hg hc => hb g hg (Array.getElem?_eq_some_iff.1 hc).1, h.tombs.same fun b e => ?_⟩
  · refine ⟨?_, h.own.2⟩
    refine ⟨h.own.1.1, ?_⟩
    rcases h.own.1.2 with h4 | ⟨g, cap, cur, hv, h1, hh, hrest⟩
    · exact .inl h4
    · exact .inr ⟨g, cap, cur, hv, h1, (hb g (h.inD g (by rw [hv]; rfl)) (Array.getElem?_eq_some_iff.1 hh).1).trans hh, hrest⟩
  · subst e
    obtain ⟨h1, es, c, h2⟩ := h.tombs.block
    exact hb b h1 (Array.getElem?_eq_some_iff.1 h2).1
theorem SAt.away (h : SAt w t D st) (hf : Fr D' w w') (hn : ∀ i, D i → ¬ D' i) (hp : Still 116 w w') : SAt w' t D st := by
  obtain ⟨v, mp, ps, h⟩ := h
  exact ⟨v, mp, ps, h.away hf hn hp⟩
theorem SAtX.ext (h : SAtX w t D st v mp ps) (hx : w.Extends w') : SAtX w' t D st v mp ps := h.away (D' := fun _ => False) (Fr.ext hx) (fun _ _ h => h) (Still.ext hx)
theorem SAt.ext (h : SAt w t D st) (hx : w.Extends w') : SAt w' t D st := by
  obtain ⟨v, mp, ps, h⟩ := h
  exact ⟨v, mp, ps, h.ext hx⟩
theorem SAtX.cells (h : SAtX w t D st v mp ps) : ∃ p, w.heap[t]? = some (.cells #[.pointer p, .int .i64 ((st.s : Nat) : Int), .int .i64 ((st.m : Nat) : Int), v, .map mp] 60 (0, 0)) ∧ w.cell? ⟨t, 2, none⟩ = some (.int .i64 ((st.m : Nat) : Int)) ∧ w.cell? ⟨t, 3, none⟩ = some v ∧ w.cell? ⟨t, 4, none⟩ = some (.map mp) ∧ w.frozen? ⟨t, 3, none⟩ = false ∧ w.frozen? ⟨t, 4, none⟩ = false := by
  obtain ⟨p, h1, _⟩ := h.log
  exact ⟨p, h1, by rw [cell_of_row _ _ _ _ _ _ h1]; rfl, by rw [cell_of_row _ _ _ _ _ _ h1]; rfl, by rw [cell_of_row _ _ _ _ _ _ h1]; rfl, frozen_of_row _ _ _ _ _ h1, frozen_of_row _ _ _ _ _ h1⟩
theorem SAtX.lt (h : SAtX w t D st v mp ps) : t < w.heap.size := h.log.lt
theorem SAtX.len (h : SAtX w t D st v mp ps) : ps.length = st.l.length := by rw [← h.recs, recs_length]
/-- The slice's array, and the map, are not the store's own block, nor each other. -/
theorem SAtX.apart (h : SAtX w t D st v mp ps) : (∀ g, v.ownBlock = some g → g ≠ t ∧ ∃ cs, w.heap[g]? = some (.cells cs 28 (0, 0))) ∧ ∀ b, mp = some b → b ≠ t ∧ v.ownBlock ≠ some b := by
  obtain ⟨p, h1, _⟩ := h.cells
  have hv : ∀ g, v.ownBlock = some g → ∃ cs, w.heap[g]? = some (.cells cs 28 (0, 0)) := fun g hg => by
    rcases h.own.1.2 with ⟨rfl, _⟩ | ⟨g', cap, cur, rfl, _, hh, _⟩
    · cases hg
    · simp only [Value.ownBlock, Option.some.injEq] at hg
      subst hg
      exact ⟨cur, hh⟩
  refine ⟨fun g hg => ⟨fun e => ?_, hv g hg⟩, fun b hb => ⟨fun e => ?_, fun e => ?_⟩⟩
  · subst e
    obtain ⟨cs, hc⟩ := hv g hg
    rw [h1] at hc
    simp only [Option.some.injEq, Obj.cells.injEq] at hc
    exact absurd hc.2.1 (by decide)
  · subst hb; subst e
    obtain ⟨_, es, c, h2⟩ := h.tombs.block
    rw [h1] at h2; cases h2
  · subst hb
    obtain ⟨_, es, c, h2⟩ := h.tombs.block
    obtain ⟨cs, hc⟩ := hv b e
    rw [h2] at hc; cases hc
end
namespace SM
def cut (x : Int) : Nat := if x < 0 then 0 else if 1000 < x then 1000 else x.toNat
def new (x : Int) : Sto := ⟨cut x, [], [], [], 0⟩
theorem inv_new (x : Int) : Inv (new x) := ⟨List.Pairwise.nil, fun r hr => (nomatch hr), fun r hr => (nomatch hr), List.Pairwise.nil, fun r hr => (nomatch hr), by show cut x ≤ 1000; unfold cut; split <;> (try split) <;> omega, Nat.zero_le _, LM.Fine.nil, Nat.zero_le _⟩
end SM
theorem new16_any (x : Int) (w : World) (hx : -9223372036854775808 ≤ x ∧ x ≤ 9223372036854775807) :
    Calls Try.prog 23 #[.int .i64 x] w fun e w' => e = .returned (.pointer (some ⟨w.heap.size, 0, none⟩)) ∧ w.Extends w' ∧ SAt w' w.heap.size (fun i => i = w.heap.size) (SM.new x) ∧ w'.heap.size = w.heap.size + 1 := by
  have HP : Hid (∀ w', w' = w.alloc (.cells #[.pointer none, .int .i64 0, .int .i64 ((SM.cut x : Nat) : Int), .slice none 0 0, .map none] 60) → w.Extends w' ∧ SAt w' w.heap.size (fun i => i = w.heap.size) (SM.new x) ∧ w'.heap.size = w.heap.size + 1) := fun w' e => by
    subst e
    refine ⟨ext_alloc _ _, ⟨.slice none 0 0, none, [], ⟨none, heap_alloc_new _ _, rfl, LM.Fine.nil, by decide⟩, rfl, OwnR.nil _, rfl, fun g hg => (nomatch hg), fun p hp => (nomatch hp), .inl ⟨rfl, rfl⟩⟩, by simp⟩
  unfold SM.cut at HP
  rcases Int.lt_or_le x 0 with h1 | h1
  · rw [if_pos h1] at HP
    have e1 : max x 0 = 0 := by omega
    go_enter Try.func23, Try.ntmps23
    go_wp2
    go_ret
    exact ⟨rfl, HP.out _ rfl⟩
  · rcases Int.lt_or_le 1000 x with h2 | h2
    · rw [if_neg (by omega), if_pos h2] at HP
      go_enter Try.func23, Try.ntmps23
      go_wp2
      go_ret
      exact ⟨rfl, HP.out _ rfl⟩
    · rw [if_neg (by omega), if_neg (by omega), Int.toNat_of_nonneg h1] at HP
      go_enter Try.func23, Try.ntmps23
      go_wp2
      go_ret
      exact ⟨rfl, HP.out _ rfl⟩
theorem count_any (t : Nat) (D : Nat → Prop) (st : Sto) (w : World) (h : SAt w t D st) :
    Calls Try.prog 36 #[.pointer (some ⟨t, 0, none⟩)] w fun e w' => e = .returned (.int .i64 ((st.l.length : Nat) : Int)) ∧ w = w' := by
  obtain ⟨v, mp, ps, h⟩ := h
  obtain ⟨p, hb, c2, c3, c4, f3, f4⟩ := h.cells
  rw [← h.len]
  obtain ⟨a, cap, rfl⟩ := h.own.slice
  clear h hb c2 c4
  generalize ps.length = n at *
  go_enter Try.func36, Try.ntmps36
  go_wp2
  go_ret
  exact ⟨rfl, rfl⟩
end Go.Proofs.Ytdbdnfjgmdkneaa
namespace Go.Proofs.Ytdbdnfjgmdkneaa
set_option maxRecDepth 20000
open Go.RowKit Go.Deep Go.Maps
set_option linter.unusedVariables false
theorem intZero (w : World) : (zeroValue 3).run Try.prog w = .ok (.int .i64 0) w := by kernel_rfl
/-- The Until of an id's tombstone; 0: there is none. -/
def goneU (t : List Rc) (r : Rc) : Int := if SM.Has t r then (t.getD (SM.tat r t) Rc.zero).u else 0
/-- Looked up: the tombstone of an id. -/
theorem MapAt.look {w : World} {D : Nat → Prop} {m : Option Nat} {t : List Rc} (h : MapAt w D m t) (r : Rc) (hr : IdOk r) : (Instr.lookup 58 (.map m) (.agg #[.int .i64 r.p, .int .i64 r.n]) true).run Try.prog w = .ok (.tuple #[.int .i64 (goneU t r), .bool (decide (SM.Has t r))]) w := by
  show (Instr.lookup 58 (.map m) (idVal r.p r.n) true).run Try.prog w = _
  rcases h with ⟨rfl, rfl⟩ | ⟨b, E, rfl, _, h3, h4⟩
  · have hf : decide (SM.Has [] r) = false := by simp [SM.Has]
    have hg : goneU [] r = 0 := by simp [goneU, SM.Has]
    rw [hf, hg]
    have hck := idKeyed.check w true (key_of hr.1 hr.2)
    have hfk : (Instr.findKey 23 (idVal r.p r.n) []).run Try.prog w = .ok none w := by
      rcases idKeyed.find w (key_of hr.1 hr.2) [] (fun e he => nomatch he) with ⟨h, _⟩ | ⟨j, e, _, he, _⟩
      · exact h
      · simp at he
    simp [Instr.lookup, run_underlying Try.underlying58, hck, hfk]
  · obtain ⟨v, ps, hrun, hv⟩ := h3.look_ok idKeyed Try.underlying58 (intZero w) (plainElem_int Try.underlying3 (wf_i64 (by omega))) (key_of hr.1 hr.2)
    obtain ⟨c, rfl, hc, _⟩ := plainElem_int_inv Try.underlying3 hv
    simp only [Prod.mk.injEq] at hc
    rw [show idKey r.p r.n = idLit r from rfl] at hc
    have hcc : c = goneU t r := by
      unfold goneU
      by_cases hh : SM.Has t r
      · rw [if_pos hh]
        rw [h4.until hh] at hc
        simpa using hc.1.symm
      · rw [if_neg hh]
        rw [atKey_of_not_has (by rw [h4.has_iff hr]; simpa using hh)] at hc
        simpa using hc.1.symm
    rw [hrun, show idKey r.p r.n = idLit r from rfl, h4.has_iff hr, hcc]
theorem box_id (w : World) (T : TypeId) (p n : Int) : (w.alloc (.cells #[.int .i64 p, .int .i64 n] T)).cell? ⟨w.heap.size, 0, none⟩ = some (.int .i64 p) ∧ (w.alloc (.cells #[.int .i64 p, .int .i64 n] T)).cell? ⟨w.heap.size, 1, none⟩ = some (.int .i64 n) := by
  have h := heap_alloc_new w (.cells #[.int .i64 p, .int .i64 n] T)
  exact ⟨by rw [cell_of_row _ _ _ _ _ _ h]; rfl, by rw [cell_of_row _ _ _ _ _ _ h]; rfl⟩
theorem gone_any (t : Nat) (D : Nat → Prop) (st : Sto) (r : Rc) (w : World) (h : SAt w t D st) (hr : IdOk r) :
    Calls Try.prog 45 #[.pointer (some ⟨t, 0, none⟩), .agg #[.int .i64 r.p, .int .i64 r.n]] w fun e w' => e = .returned (.bool (decide (SM.Has st.t r))) ∧ w.Extends w' := by
  obtain ⟨v, mp, ps, h⟩ := h
  have HL : Hid (∀ w', w.Extends w' → (Instr.lookup 58 (.map mp) (.agg #[.int .i64 r.p, .int .i64 r.n]) true).run Try.prog w' = .ok (.tuple #[.int .i64 (goneU st.t r), .bool (decide (SM.Has st.t r))]) w') := fun w' hx => (h.ext hx).tombs.look r hr
  obtain ⟨p, hb, c2, c3, c4, f3, f4⟩ := h.cells
  have HC := Lib.hid c4
  clear h hb c2 c3 c4 f3 f4 hr
  generalize decide (SM.Has st.t r) = x at *
  generalize goneU st.t r = c at *
  generalize r.p = rp at *
  generalize r.n = rn at *
  go_enter Try.func45, Try.ntmps45
  go_wp2_with fail
  generalize hw1 : World.alloc w _ = w1
  have hx1 : w.Extends w1 := by subst hw1; exact ext_alloc _ _
  have hid1 : w1.cell? ⟨w.heap.size, 0, none⟩ = some (.int .i64 rp) ∧ w1.cell? ⟨w.heap.size, 1, none⟩ = some (.int .i64 rn) := by subst hw1; exact box_id w 23 rp rn
  have HX1 := Lib.hid (Gr.ext_drew hx1)
  obtain ⟨d0, d1⟩ := hid1
  have HD : Hid (∀ w', w1.drew.Extends w' → w'.cell? ⟨w.heap.size, 0, none⟩ = some (.int .i64 rp) ∧ w'.cell? ⟨w.heap.size, 1, none⟩ = some (.int .i64 rn) ∧ w'.cell? ⟨t, 4, none⟩ = some (.map mp) ∧ w.Extends w') := fun w' hw' =>
    ⟨(Gr.of_drew hw').cell_of d0, (Gr.of_drew hw').cell_of d1, (Gr.ext_trans HX1.out hw').cell_of HC.out, Gr.ext_trans HX1.out hw'⟩
  clear hw1 hx1 d0 d1 HC
  generalize w.heap.size = y at *
  refine Gr.region 10 [(false,0),(false,1),(false,2),(false,3),(false,4),(false,5),(false,6),(false,7),(false,8),(false,9)] (by kernel_rfl) (by kernel_rfl) (fun d _ _ _ _ h => by cases d <;> exact h) ?_
  simp only [Gr.pick, List.getElem?_cons_zero, List.getElem?_cons_succ, List.drop_succ_cons, List.drop_zero]
  generalize w1.drew = wd at *
  iterate 5
    refine Gr.walk_t ?_ (Or.inl ⟨by rfl, ?_⟩) ?_
    rotate_left
    · intro w' hw'
      obtain ⟨e0, e1, e2, _⟩ := HD.out w' hw'
      clear hw'
      go_simp
      try with_reducible rfl
    simp only [Act.put, List.setIfInBounds_toArray, List.set_cons_zero, List.set_cons_succ]
  refine Gr.walk_t ?_ (Or.inl ⟨by rfl, ?_⟩) ?_
  rotate_left
  · intro w' hw'
    have hl := HL.out w' (HD.out w' hw').2.2.2
    clear hw'
    go_simp
    try with_reducible rfl
  simp only [Act.put, List.setIfInBounds_toArray, List.set_cons_zero, List.set_cons_succ]
  iterate 4
    refine Gr.walk_t ?_ (Or.inl ⟨by rfl, ?_⟩) ?_
    rotate_left
    · intro w' hw'
      clear hw'
      go_simp
      try with_reducible rfl
    simp only [Act.put, List.setIfInBounds_toArray, List.set_cons_zero, List.set_cons_succ]
  refine Gr.walk_nil ?_
  go_wp2
  go_ret
  exact ⟨rfl, HX1.out⟩
/-- Where the one stands that would be forgotten first. -/
theorem SAtX.range {w : World} {t : Nat} {D : Nat → Prop} {st : Sto} {v : Value} {mp : Option Nat} {ps : List Pr} (h : SAtX w t D st v mp ps) : ∀ k, k < ps.length → ∃ g, (∃ cap, v = .slice (some ⟨g, 0, none⟩) ps.length cap) ∧ w.rangeAt g (k * 10) ((ps.getD k zp).1.cells (ps.getD k zp).2) := fun k hk => by
  rcases h.own.kinds with ⟨rfl, rfl⟩ | ⟨g, cap, rfl⟩
  · simp at hk
  · exact ⟨g, ⟨cap, rfl⟩, h.own.arr.1.range hk⟩
set_option maxHeartbeats 1000000 in
theorem least_any (t : Nat) (D : Nat → Prop) (st : Sto) (w : World) (h : SAt w t D st) (hl : st.l.length ≤ 1000) :
    Calls Try.prog 110 #[.pointer (some ⟨t, 0, none⟩)] w fun e w' => e = .returned (.int .i64 (SM.least st.l)) ∧ w.Extends w' := by
  obtain ⟨v, mp, ps, h⟩ := h
  obtain ⟨p, hb, c2, c3, c4, f3, f4⟩ := h.cells
  have HAT := Lib.hid h.range
  have HSL : Hid (∀ k, k < ps.length → Slc (ps.getD k zp)) := fun k hk => h.own.2 _ (getD_mem hk)
  have HC := Lib.hid c3
  have HB : Hid (∀ k, -1 ≤ SM.leastTo st.l k ∧ SM.leastTo st.l k < (k : Int)) := fun k => ⟨(SM.leastTo_bounds st.l k).1, (SM.leastTo_bounds st.l k).2.1⟩
  have HN : Hid (∀ k, SM.leastTo st.l (k + 1) = if SM.leastTo st.l k < 0 ∨ (ps.getD k zp).1.u < (ps.getD (SM.leastTo st.l k).toNat zp).1.u then (k : Int) else SM.leastTo st.l k) := fun k => by
    rw [← recs_at ps k, ← recs_at ps (SM.leastTo st.l k).toNat, h.recs]; rfl
  have HE : Hid (SM.leastTo st.l ps.length = SM.least st.l) := by rw [h.len]; rfl
  have HZ : Hid (SM.leastTo st.l 0 = -1) := rfl
  rw [← h.len] at hl
  obtain ⟨a, cap, rfl⟩ := h.own.slice
  clear h hb c2 c4 f3 f4
  generalize SM.leastTo st.l = lt at *
  generalize SM.least st.l = L at *
  generalize ps.length = n at *
  go_enter Try.func110, Try.ntmps110
  go_wp2_with fail
  go_loopw [3, 11] (fun s3 s11 wr => ∃ k : Nat, k ≤ n ∧ s3 = .int .i64 (lt k) ∧ s11 = .int .i64 k ∧ Hid (w.Extends wr)) (fun _ s11 _ => n - (intOf s11).toNat)
  case atStart => exact ⟨0, by omega, by rw [HZ.out], rfl, Gr.ext_refl _⟩
  case round =>
    obtain ⟨k, hk, rfl, rfl, HX⟩ := hrel
    by_cases h1 : k < n
    · obtain ⟨g, ⟨cap', e⟩, hr⟩ := HAT.out k h1
      cases e
      have hr := rangeAt_ext hr HX.out
      obtain ⟨c0, c1, c2, c3, c4, c5, c6, c7, c8, c9⟩ := RCell.ten hr
      have HSK := Lib.hid (HSL.out k h1)
      have hbd := HB.out k
      have hnx := Lib.hid (HN.out k)
      -- the one that is the least so far
      have HL : Hid (∀ m : Nat, lt k = (m : Int) → m < n ∧ w.rangeAt g (m * 10) ((ps.getD m zp).1.cells (ps.getD m zp).2)) := fun m hm => by
        have hmn : m < n := by omega
        obtain ⟨g', ⟨cap', e⟩, hr⟩ := HAT.out m hmn
        cases e
        exact ⟨hmn, hr⟩
      clear hr
      generalize hp : ps.getD k zp = p at *
      clear hp
      obtain ⟨⟨xp, xn, xb, xs, xm, xk, xe, xg, xu, xd⟩, u⟩ := p
      obtain ⟨ua, uc, hu⟩ := HSK.out
      simp only at hu
      subst hu
      simp only at c0 c1 c2 c3 c4 c5 c6 c7 c8 c9 hnx
      go_wp2_with fail
      generalize hwb : World.alloc wr _ = wb
      have hxb : wr.Extends wb := by subst hwb; exact ext_alloc _ _
      have hbx : wb.rangeAt wr.heap.size 0 (Rc.cells ⟨xp, xn, xb, xs, xm, xk, xe, xg, xu, xd⟩ (.slice ua xd.length uc)) := by subst hwb; exact box_rec wr 28 ⟨xp, xn, xb, xs, xm, xk, xe, xg, xu, xd⟩ _
      clear hwb c0 c1 c2 c3 c4 c5 c6 c7 c8 c9
      generalize wr.heap.size = y at *
      have HXW := Lib.hid (Gr.ext_trans HX.out (Gr.ext_drew hxb))
      have HBX : Hid (wb.drew.rangeAt y 0 (Rc.cells ⟨xp, xn, xb, xs, xm, xk, xe, xg, xu, xd⟩ (.slice ua xd.length uc))) := hbx
      clear hxb hbx HX
      by_cases h2 : lt k < 0
      · have hd : decide (lt k < 0) = true := decide_eq_true h2
        have hnk : lt (k + 1) = (k : Int) := by rw [hnx.out, if_pos (.inl h2)]
        have HNK := Lib.hid hnk
        clear hnx hnk
        generalize lt k = q at *
        refine Gr.region 14 [(false,0),(false,1),(false,2),(false,3),(false,4),(false,5),(false,6),(false,7),(false,8),(false,9),(false,10),(false,11),(false,12),(false,13)] (by kernel_rfl) (by kernel_rfl) (fun d _ _ _ _ h => by cases d <;> exact h) ?_
        simp only [Gr.pick, List.getElem?_cons_zero, List.getElem?_cons_succ, List.drop_succ_cons, List.drop_zero]
        generalize wb.drew = wd at *
        iterate 3
          refine Gr.walk_t ?_ (Or.inl ⟨by rfl, ?_⟩) ?_
          rotate_left
          · intro w' hw'
            clear hw'
            go_simp
            try with_reducible rfl
          simp only [Act.put, List.setIfInBounds_toArray, List.set_cons_zero, List.set_cons_succ]
        refine Gr.walk_t _ (Or.inr ⟨by rfl, rfl⟩) ?_
        simp only [Act.put, List.setIfInBounds_toArray, List.set_cons_zero, List.set_cons_succ]
        refine Gr.walk_t _ (Or.inr ⟨by rfl, rfl⟩) ?_
        simp only [Act.put, List.setIfInBounds_toArray, List.set_cons_zero, List.set_cons_succ]
        refine Gr.walk_t _ (Or.inr ⟨by rfl, rfl⟩) ?_
        simp only [Act.put, List.setIfInBounds_toArray, List.set_cons_zero, List.set_cons_succ]
        refine Gr.walk_t _ (Or.inr ⟨by rfl, rfl⟩) ?_
        simp only [Act.put, List.setIfInBounds_toArray, List.set_cons_zero, List.set_cons_succ]
        refine Gr.walk_t _ (Or.inr ⟨by rfl, rfl⟩) ?_
        simp only [Act.put, List.setIfInBounds_toArray, List.set_cons_zero, List.set_cons_succ]
        refine Gr.walk_t _ (Or.inr ⟨by rfl, rfl⟩) ?_
        simp only [Act.put, List.setIfInBounds_toArray, List.set_cons_zero, List.set_cons_succ]
        refine Gr.walk_t _ (Or.inr ⟨by rfl, rfl⟩) ?_
        simp only [Act.put, List.setIfInBounds_toArray, List.set_cons_zero, List.set_cons_succ]
        refine Gr.walk_t _ (Or.inr ⟨by rfl, rfl⟩) ?_
        simp only [Act.put, List.setIfInBounds_toArray, List.set_cons_zero, List.set_cons_succ]
        refine Gr.walk_t _ (Or.inr ⟨by rfl, rfl⟩) ?_
        simp only [Act.put, List.setIfInBounds_toArray, List.set_cons_zero, List.set_cons_succ]
        refine Gr.walk_t _ (Or.inr ⟨by rfl, rfl⟩) ?_
        simp only [Act.put, List.setIfInBounds_toArray, List.set_cons_zero, List.set_cons_succ]
        refine Gr.walk_t _ (Or.inr ⟨by rfl, rfl⟩) ?_
        simp only [Act.put, List.setIfInBounds_toArray, List.set_cons_zero, List.set_cons_succ]
        refine Gr.walk_nil ?_
        go_wp2
        go_roundw
        case rel => exact ⟨k + 1, by omega, by rw [HNK.out], by go_num, HXW⟩
        case measure => simp [intOf]; omega
      · obtain ⟨m, hm⟩ : ∃ m : Nat, lt k = (m : Int) := ⟨(lt k).toNat, by omega⟩
        obtain ⟨hmn, hrm⟩ := HL.out m hm
        have hnk := hnx.out
        rw [hm, Int.toNat_natCast] at hnk
        rw [hm] at h2
        have hd : decide (((m : Nat) : Int) < 0) = false := decide_eq_false h2
        have HNK := Lib.hid hnk
        have HRM : Hid (∀ w', wb.drew.Extends w' → w'.cell? ⟨g, m * 10 + 8, none⟩ = some (.int .i64 (ps.getD m zp).1.u) ∧ w'.cell? ⟨y, 8, none⟩ = some (.int .i64 xu) ∧ w'.cell? ⟨t, 3, none⟩ = some (.slice (some ⟨g, 0, none⟩) n cap)) := fun w' hw' => by
          have h1 := rangeAt_ext (rangeAt_ext hrm HXW.out) hw'
          have h2 := rangeAt_ext HBX.out hw'
          exact ⟨h1 8 _ rfl, by simpa using h2 8 _ rfl, (Gr.ext_trans HXW.out hw').cell_of HC.out⟩
        clear hnx hnk HL HBX hrm
        rw [hm]
        clear hm hbd
        generalize (ps.getD m zp).1.u = mu at *
        refine Gr.region 14 [(false,0),(false,1),(false,2),(false,3),(false,4),(false,5),(false,6),(false,7),(false,8),(false,9),(false,10),(false,11),(false,12),(false,13)] (by kernel_rfl) (by kernel_rfl) (fun d _ _ _ _ h => by cases d <;> exact h) ?_
        simp only [Gr.pick, List.getElem?_cons_zero, List.getElem?_cons_succ, List.drop_succ_cons, List.drop_zero]
        generalize wb.drew = wd at *
        iterate 14
          refine Gr.walk_t ?_ (Or.inl ⟨by rfl, ?_⟩) ?_
          rotate_left
          · intro w' hw'
            obtain ⟨e0, e1, e2⟩ := HRM.out w' hw'
            clear hw'
            go_simp
            try with_reducible rfl
          simp only [Act.put, List.setIfInBounds_toArray, List.set_cons_zero, List.set_cons_succ]
        refine Gr.walk_nil ?_
        by_cases h3 : xu < mu
        · have hnk : lt (k + 1) = (k : Int) := by rw [HNK.out, if_pos (.inr h3)]
          have HNK2 := Lib.hid hnk
          clear hnk HNK
          go_wp2
          go_roundw
          case rel => exact ⟨k + 1, by omega, by rw [HNK2.out], by go_num, HXW⟩
          case measure => simp [intOf]; omega
        · have hnk : lt (k + 1) = (m : Int) := by rw [HNK.out, if_neg (by omega)]
          have HNK2 := Lib.hid hnk
          clear hnk HNK
          go_wp2
          go_roundw
          case rel => exact ⟨k + 1, by omega, by rw [HNK2.out], by go_num, HXW⟩
          case measure => simp [intOf]; omega
    · obtain rfl : k = n := by omega
      rw [HE.out]
      go_wp2
      go_ret
      exact ⟨rfl, HX.out⟩
end Go.Proofs.Ytdbdnfjgmdkneaa
