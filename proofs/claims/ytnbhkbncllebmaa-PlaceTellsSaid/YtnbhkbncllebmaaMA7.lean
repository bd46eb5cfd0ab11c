/- In one text: StoRem, StoIns, LogMath, StoMath, StoMap, StoFind, LogAt, StoAt, StoClone, PlcClone, Has. -/
import Derived.Lib.Overlaps
import Derived.Laws.Externs
import Derived.Maps.OwnSet
import Derived.Maps.RangeWalk
import Derived.DeepKeys4
import Derived.WalkKit
import Derived.IntWalk
import Derived.Handy
import Derived.Deep.DeepCutAuto
import Derived.Lib.Hide
import Derived.Laws.IdiomStrings
import Derived.Test.YtnbhkbncllebmaaMA1
import Derived.Test.YtnbhkbncllebmaaMA2
import Derived.Test.YtnbhkbncllebmaaMA3
import Derived.Test.YtnbhkbncllebmaaMA4
import Derived.Test.YtnbhkbncllebmaaMA6
namespace Go.Proofs.Ytnbhkbncllebmaa
set_option maxRecDepth 20000
open Go.RowKit Go.Deep
set_option linter.unusedVariables false
theorem recInfo10 : ∃ i, Try.prog.info? 46 = some i ∧ i.zero = some (Rc.zero.val (.slice none 0 0)) ∧ i.size = 10 ∧ i.bytes = 96 := by
  obtain ⟨i, h1, h2, h3, h4⟩ := info_parts recinfo
  exact ⟨i, h1, h2, h3, h4⟩
/-- The cells of f's records from a on, k of them. -/
def seg (f : Nat → Pr) (a k : Nat) : List Pr := (List.range k).map fun j => f (a + j)
theorem seg_length (f : Nat → Pr) (a k : Nat) : (seg f a k).length = k := by simp [seg]
theorem seg_at (f : Nat → Pr) (a k j : Nat) (h : j < k) : (seg f a k).getD j zp = f (a + j) := by simp [seg, h]
theorem Arr.src {w : World} {g cap n : Nat} {f : Nat → Pr} (h : Arr w g cap n f) (hs : ∀ k, k < n → Slc (f k)) (a k c : Nat) (ha : a + k ≤ n) : Src Try.prog 10 27 (.slice (some ⟨g, a * 10, none⟩) k c) k (flat (seg f a k)) w := by
  refine Src.ofSlice w recUnder ⟨g, a * 10, none⟩ k c (flat (seg f a k)) (by rw [flat_length, seg_length]) (fun j v hv => ?_) (fun v hv => ?_)
  · rw [Addr.add_mid]
    have hj : j < k * 10 := by
      have := (List.getElem?_eq_some_iff.1 hv).1
      rwa [flat_length, seg_length] at this
    have e : j = j / 10 * 10 + j % 10 := by omega
    rw [e, flat_at _ _ _ (by rw [seg_length]; omega) (by omega), seg_at _ _ _ _ (by omega)] at hv
    have := h.range (k := a + j / 10) (by omega) (j % 10) v hv
    rw [show a * 10 + j = (a + j / 10) * 10 + j % 10 by omega]
    exact this
  · refine slc_flat (fun p hp => ?_) v hv
    obtain ⟨j, hj, rfl⟩ := List.mem_map.1 hp
    rw [List.mem_range] at hj
    exact hs _ (by omega)
/-- Records laid over an array from a on. -/
theorem Arr.over {w : World} {g cap n a : Nat} {f : Nat → Pr} (h : Arr w g cap n f) (ps : List Pr) (n' : Nat) (h1 : a + ps.length ≤ cap) (h2 : n' ≤ cap) (h3 : ∀ k, k < n' → k < n ∨ (a ≤ k ∧ k < a + ps.length)) {cur : List Value} (hc : w.heap[g]? = some (.cells cur.toArray 46 (0, 0))) :
    Arr (w.setRow g (cur.take (a * 10) ++ flat ps ++ cur.drop (a * 10 + (flat ps).length)).toArray) g cap n' (fun k => if a ≤ k ∧ k < a + ps.length then ps.getD (k - a) zp else f k) := by
  obtain ⟨cur', hc', h5, h6, h7, h8⟩ := h
  rw [hc] at hc'
  simp only [Option.some.injEq, Obj.cells.injEq, and_true] at hc'
  have e : cur = cur' := by simpa using hc'
  subst e
  have hfl := flat_length ps
  refine ⟨_, setRow_heap w g _ _ _ _ hc, ?_, h2, h7, fun k hk j hj => ?_⟩
  · simp only [List.length_append, List.length_take, List.length_drop, hfl]; omega
  · dsimp only
    by_cases hin : a ≤ k ∧ k < a + ps.length
    · rw [if_pos hin, List.append_assoc, List.getElem?_append_right (by rw [List.length_take]; omega), List.getElem?_append_left (by rw [List.length_take, hfl]; omega), List.length_take, ← flat_at ps (k - a) j (by omega) hj]
      congr 1; omega
    · rw [if_neg hin, ← h8 k (by have := h3 k hk; omega) j hj]
      rcases Nat.lt_or_ge k a with hka | hka
      · rw [List.append_assoc, List.getElem?_append_left (by rw [List.length_take]; omega), List.getElem?_take, if_pos (by omega)]
      · rw [List.getElem?_append_right (by rw [List.length_append, List.length_take, hfl]; omega), List.getElem?_drop]
        congr 1
        rw [List.length_append, List.length_take, hfl]; omega
end Go.Proofs.Ytnbhkbncllebmaa
namespace Go.Proofs.Ytnbhkbncllebmaa
set_option maxRecDepth 20000
open Go.RowKit Go.Deep
set_option linter.unusedVariables false
theorem Arr.fresh {w : World} {g cap n i q : Nat} {f : Nat → Pr} (h : Arr w g cap n f) (hs : ∀ k, k < n → Slc (f k)) (hi : i ≤ n) (hq : 0 < q) (hc : cap < i + q) (hm : i + q ≤ 2000) :
    ∃ w1 cap', (∀ ty, (Builtin.append_ #[27, 3] ty #[.slice (some ⟨g, 0, none⟩) i cap, .int .i64 (q : Nat)]).run Try.prog w = .ok (.slice (some ⟨w.heap.size, 0, none⟩) (i + q) cap') w1) ∧ Arr w1 w.heap.size cap' i f ∧ w.Extends w1 ∧ i + q ≤ cap' ∧ cap' ≤ 9223372036854775807 ∧ w.heap.size < w1.heap.size := by
  obtain ⟨ti, hti, htz, hts, htb⟩ := recInfo10
  have hS := h.src hs 0 i cap (by omega)
  have hge := grownCap_ge w (i + q) cap 46
  have hcm : grownCap w (i + q) cap 46 ≤ maxLen := grownCap_le_maxLen w (i + q) cap 46 (by unfold maxLen; omega)
  have hz10 : (Rc.zero.val (.slice none 0 0)).cells.size = 10 := rfl
  have hfl : (flat (seg f 0 i)).length = i * 10 := by rw [flat_length, seg_length]
  refine ⟨_, grownCap w (i + q) cap 46, fun ty => run_append_zeros (P := Try.prog) w 27 3 ty 46 ti (Rc.zero.val (.slice none 0 0)) .i64 .i64 recUnder Try.underlying3 hti htz (some ⟨g, 0, none⟩) i cap q (flat (seg f 0 i)) (by rw [hts]; exact hS.cellsD) hq (by omega) hc (by omega) (growslice_fits (by omega) (by rw [htb]; omega)) (by rw [htb]; omega), ?_, Gr.ext_trans (Gr.ext_drew (Gr.ext_refl w)) (ext_alloc _ _), hge, by unfold maxLen at hcm; omega, by simp⟩
  refine ⟨(flat (seg f 0 i)) ++ ((Builtin.zeroCells (Rc.zero.val (.slice none 0 0)).cells q).toList ++ (Builtin.zeroCells (Rc.zero.val (.slice none 0 0)).cells (grownCap w (i + q) cap 46 - (i + q))).toList), ?_, ?_, by omega, hcm, fun k hk j hj => ?_⟩
  · have := heap_alloc_new w.drew (.cells ((flat (seg f 0 i)).toArray ++ (Builtin.zeroCells (Rc.zero.val (.slice none 0 0)).cells q ++ Builtin.zeroCells (Rc.zero.val (.slice none 0 0)).cells (grownCap w (i + q) cap 46 - (i + q)))) 46)
    refine this.trans ?_
    congr 2
    apply Array.ext'
    simp
  · simp only [List.length_append, Array.length_toList, size_zeroCells, hz10, hfl]; omega
  · rw [List.getElem?_append_left (by omega), flat_at _ _ _ (by rw [seg_length]; exact hk) hj, seg_at _ _ _ _ hk, Nat.zero_add]
end Go.Proofs.Ytnbhkbncllebmaa
namespace Go.Proofs.Ytnbhkbncllebmaa
set_option maxRecDepth 20000
set_option linter.unusedVariables false
namespace LM
/-- How many bytes pieces have in a log. -/
def size : List (List Nat) → Nat
  | [] => 0
  | p :: l => 2 + p.length + size l
theorem size_append : ∀ (a b : List (List Nat)), size (a ++ b) = size a + size b
  | [], b => by simp [size]
  | p :: a, b => by simp only [List.cons_append, size, size_append a b]; omega
/-- A piece's bytes: its length, then it. -/
def enc (p : List Nat) : List Nat := KM.nb 2 p.length ++ p
/-- Pieces that may be: no longer than 65535, of bytes. -/
def Fine (l : List (List Nat)) : Prop := ∀ p ∈ l, p.length ≤ 65535 ∧ ∀ y ∈ p, y < 256
theorem Fine.nil : Fine [] := fun p h => by cases h
end LM
end Go.Proofs.Ytnbhkbncllebmaa
namespace Go.Proofs.Ytnbhkbncllebmaa
set_option maxRecDepth 20000
set_option linter.unusedVariables false
namespace SM
/-- Symbols' order: by id, block, number. -/
def Lt (a b : Rc) : Prop := a.p < b.p ∨ (a.p = b.p ∧ (a.n < b.n ∨ (a.n = b.n ∧ (a.k < b.k ∨ (a.k = b.k ∧ a.e < b.e)))))
instance (a b : Rc) : Decidable (Lt a b) := by unfold Lt; infer_instance
def Same (a b : Rc) : Prop := a.p = b.p ∧ a.n = b.n ∧ a.k = b.k ∧ a.e = b.e
instance (a b : Rc) : Decidable (Same a b) := by unfold Same; infer_instance
theorem Lt.trans {a b c : Rc} (h : Lt a b) (k : Lt b c) : Lt a c := by unfold Lt at *; omega
/-- Of one id. -/
def Of (x r : Rc) : Prop := x.p = r.p ∧ x.n = r.n
instance (a b : Rc) : Decidable (Of a b) := by unfold Of; infer_instance
/-- How many are ahead of r. -/
def pos (r : Rc) : List Rc → Nat
  | [] => 0
  | x :: l => if Lt x r then pos r l + 1 else 0
def Sorted (l : List Rc) : Prop := l.Pairwise Lt
theorem Sorted.lt {l : List Rc} (h : Sorted l) {i j : Nat} (hij : i < j) (hj : j < l.length) : Lt (l.getD i Rc.zero) (l.getD j Rc.zero) := by
  have := List.pairwise_iff_getElem.1 h i j (by omega) hj hij
  simpa [List.getD_eq_getElem?_getD, List.getElem?_eq_getElem hj, List.getElem?_eq_getElem (Nat.lt_trans hij hj)] using this
theorem Sorted.filter {l : List Rc} (h : Sorted l) (p : Rc → Bool) : Sorted (l.filter p) := h.sublist List.filter_sublist
/-- Where the first one of r's id stands. -/
def tat (r : Rc) : List Rc → Nat
  | [] => 0
  | x :: l => if Of x r then 0 else tat r l + 1
/-- Is one of r's id there? -/
def Has (t : List Rc) (r : Rc) : Prop := tat r t < t.length
instance (t : List Rc) (r : Rc) : Decidable (Has t r) := by unfold Has; infer_instance
/-- Tombstones are of unlike ids. -/
def Apart (t : List Rc) : Prop := t.Pairwise (fun a b => ¬ Of a b)
end SM
/-- What a store has: how many at most, symbols, tombstones, the log's pieces, how many bytes of it are sure. -/
structure Sto where
  m : Nat
  l : List Rc
  t : List Rc
  lg : List (List Nat)
  s : Nat
namespace SM
end SM
end Go.Proofs.Ytnbhkbncllebmaa
namespace Go.Proofs.Ytnbhkbncllebmaa
set_option maxRecDepth 20000
open Go.RowKit Go.Deep Go.Maps
set_option linter.unusedVariables false
def idKey (p n : Int) : Lit := .string (keyBytes [.int .i64 p, .int .i64 n])
def idLit (r : Rc) : Lit := idKey r.p r.n
/-- Its id is one of ints. -/
def IdOk (r : Rc) : Prop := (-9223372036854775808 ≤ r.p ∧ r.p ≤ 9223372036854775807) ∧ (-9223372036854775808 ≤ r.n ∧ r.n ≤ 9223372036854775807)
/-- The map's reading holds just these tombstones' ids and Untils. -/
structure Ties (D : DataW Unit) (t : List Rc) : Prop where
  tidy : Tidy D
  has : ∀ k, has D k = t.any (fun r => (idLit r).sameKey k)
  at_ : ∀ r ∈ t, ∀ z, D.atKey (idLit r) z = .lit (.int .i64 r.u)
  size : Maps.size D = t.length
  ok : ∀ r ∈ t, IdOk r
  apart : SM.Apart t
theorem Ties.nil : Ties (.map []) [] := ⟨tidy_empty, fun k => rfl, fun r hr => (nomatch hr), rfl, fun r hr => (nomatch hr), List.Pairwise.nil⟩
end Go.Proofs.Ytnbhkbncllebmaa
namespace Go.Proofs.Ytnbhkbncllebmaa
set_option maxRecDepth 20000
open Go.RowKit Go.Deep
set_option linter.unusedVariables false
def recs (ps : List Pr) : List Rc := ps.map (·.1)
namespace SM
/-- Is r's place taken? -/
def Taken (r : Rc) (l : List Rc) : Prop := pos r l < l.length ∧ Same (l.getD (pos r l) Rc.zero) r
instance (r : Rc) (l : List Rc) : Decidable (Taken r l) := by unfold Taken; infer_instance
end SM
end Go.Proofs.Ytnbhkbncllebmaa
namespace Go.Proofs.Ytnbhkbncllebmaa
set_option maxRecDepth 20000
open Go.RowKit Go.Deep
set_option linter.unusedVariables false
section
variable {w w' : World} {t s : Nat} {R : List Value} {T : TypeId} {l : List (List Nat)}
end
/-! Rows of bytes that a call has made of strings, and a slice of them. -/
/-- u reads as xs, and lies in a block of bytes. -/
def RowB (w : World) (u : Value) (xs : List Nat) : Prop := U8s w u xs ∧ (xs = [] ∨ ∀ g, u.ownBlock = some g → ∃ cs f, w.heap[g]? = some (.cells cs 5 f))
theorem RowB.ext {w w' : World} {u : Value} {xs : List Nat} (h : RowB w u xs) (hx : w.Extends w') : RowB w' u xs := by
  refine ⟨h.1.ext hx, ?_⟩
  rcases h.2 with h0 | h0
  · exact .inl h0
  · refine .inr fun g hg => ?_
    obtain ⟨cs, f, hc⟩ := h0 g hg
    exact ⟨cs, f, (hx.block g (Array.getElem?_eq_some_iff.1 hc).1).trans hc⟩
theorem RowB.grown {w w' : World} {B n : Nat} {u v : Value} {xs : List Nat} {vs : List Value} {T : TypeId} (h : RowB w u xs) (ho : w.ownsRow B T 1 v n vs) (hT : T ≠ 5) (hg : w.grownBy w' v.ownBlock) : RowB w' u xs := by
  rcases h.2 with h0 | h0
  · subst h0
    refine ⟨?_, .inl rfl⟩
    obtain ⟨a, c, rfl, _, hc⟩ := h.1.slice
    exact .inl ⟨rfl, a, c, rfl, hc⟩
  · have hne : ∀ g, u.ownBlock = some g → v.ownBlock ≠ some g := fun g hgu e => by
      obtain ⟨cs, f, hc⟩ := h0 g hgu
      rcases ho.2 with ⟨rfl, _⟩ | ⟨g', cap, cur, rfl, hbg, hg', _⟩
      · cases e
      · simp only [Value.ownBlock, Option.some.injEq] at e
        subst e
        rw [hg'] at hc
        simp only [Option.some.injEq, Obj.cells.injEq] at hc
        exact hT hc.2.1
    refine ⟨h.1.grown hg ?_, .inr fun g hgu => ?_⟩
    · rcases h.1 with h1 | ⟨b, off, cap, rfl, _⟩
      · exact .inl h1.1
      · exact .inr (Ne.symm (hne b rfl))
    · obtain ⟨cs, f, hc⟩ := h0 g hgu
      exact ⟨cs, f, (hg.block g (Array.getElem?_eq_some_iff.1 hc).1 (fun e => hne g hgu e.symm)).trans hc⟩
/-- v is the call's own slice of rows that read as l, in blocks of bytes. -/
def LRows (w : World) (B : Nat) (v : Value) (l : List (List Nat)) : Prop := ∃ vs, w.ownsRow B 44 1 v l.length vs ∧ ∀ j, j < l.length → ∃ u, vs[j]? = some u ∧ RowB w u (l.getD j [])
theorem LRows.nil (w : World) (B : Nat) : LRows w B (.slice none 0 0) [] := ⟨[], World.ownsRow_nil _ _ _ _, fun j hj => absurd hj (Nat.not_lt_zero _)⟩
theorem LRows.ext {w w' : World} {B : Nat} {v : Value} {l : List (List Nat)} (h : LRows w B v l) (hx : w.Extends w') : LRows w' B v l := by
  obtain ⟨vs, ho, hr⟩ := h
  have hg : w.grownBy w' none := ⟨hx.os, hx.tape, hx.output, hx.size, fun i hi _ => hx.block i hi⟩
  refine ⟨vs, ho.kept hg (by cases v.ownBlock <;> simp), fun j hj => ?_⟩
  obtain ⟨u, h1, h2⟩ := hr j hj
  exact ⟨u, h1, h2.ext hx⟩
end Go.Proofs.Ytnbhkbncllebmaa
namespace Go.Proofs.Ytnbhkbncllebmaa
set_option maxRecDepth 20000
open Go.RowKit Go.Deep Go.Maps
set_option linter.unusedVariables false
/-- u reads as xs, and lies in a block of bytes of D. -/
def RowIn (w : World) (D : Nat → Prop) (u : Value) (xs : List Nat) : Prop := U8s w u xs ∧ (xs = [] ∨ ∀ g, u.ownBlock = some g → D g ∧ ∃ cs f, w.heap[g]? = some (.cells cs 5 f))
theorem U8s.same {w w' : World} {u : Value} {xs : List Nat} (h : U8s w u xs) (hs : w.heap.size ≤ w'.heap.size) (hb : xs = [] ∨ ∀ g, u.ownBlock = some g → w'.heap[g]? = w.heap[g]?) : U8s w' u xs := by
  rcases h with h | ⟨b, off, cap, rfl, h1, h2, h3, h4, h5⟩
  · exact .inl h
  · rcases hb with rfl | hb
    · exact .inl ⟨rfl, _, _, rfl, by simpa using h2⟩
    · refine .inr ⟨b, off, cap, rfl, h1, h2, Nat.lt_of_lt_of_le h3 hs, fun k hk => ?_, h5⟩
      rw [World.cell?_of_block (w := w) (w' := w') (a := ⟨b, off + k, none⟩) (hb b rfl)]
      exact h4 k hk
theorem RowIn.same {w w' : World} {D : Nat → Prop} {u : Value} {xs : List Nat} (h : RowIn w D u xs) (hs : w.heap.size ≤ w'.heap.size) (hb : ∀ g cs f, D g → w.heap[g]? = some (.cells cs 5 f) → w'.heap[g]? = w.heap[g]?) : RowIn w' D u xs := by
  obtain ⟨h1, h2⟩ := h
  rcases h2 with h2 | h2
  · exact ⟨h1.same hs (.inl h2), .inl h2⟩
  · refine ⟨h1.same hs (.inr fun g hg => ?_), .inr fun g hg => ?_⟩
    · obtain ⟨h3, cs, f, h4⟩ := h2 g hg
      exact hb g cs f h3 h4
    · obtain ⟨h3, cs, f, h4⟩ := h2 g hg
      exact ⟨h3, cs, f, (hb g cs f h3 h4).trans h4⟩
theorem RowIn.mono {w : World} {D D' : Nat → Prop} {u : Value} {xs : List Nat} (h : RowIn w D u xs) (hD : ∀ i, D i → D' i) : RowIn w D' u xs := ⟨h.1, h.2.imp id fun h2 g hg => ⟨hD g (h2 g hg).1, (h2 g hg).2⟩⟩
/-- All data read, in blocks of D. -/
def Reads (w : World) (D : Nat → Prop) (ps : List Pr) : Prop := ∀ p ∈ ps, RowIn w D p.2 p.1.d
theorem Reads.mono {w : World} {D D' : Nat → Prop} {ps : List Pr} (h : Reads w D ps) (hD : ∀ i, D i → D' i) : Reads w D' ps := fun p hp => (h p hp).mono hD
/-- The tombstones' map. -/
def MapAt (w : World) (D : Nat → Prop) (m : Option Nat) (t : List Rc) : Prop := (m = none ∧ t = []) ∨ ∃ b E, m = some b ∧ D b ∧ w.ownsMap Try.prog 23 (plainElem Try.prog 3) b t.length E ∧ Ties E t
theorem MapAt.same {w w' : World} {D : Nat → Prop} {m : Option Nat} {t : List Rc} (h : MapAt w D m t) (hb : ∀ b, m = some b → w'.heap[b]? = w.heap[b]?) : MapAt w' D m t := by
  rcases h with h | ⟨b, E, h1, h2, h3, h4⟩
  · exact .inl h
  · obtain ⟨es, clock, hh, h5⟩ := h3
    exact .inr ⟨b, E, h1, h2, ⟨es, clock, (hb b h1).trans hh, h5⟩, h4⟩
theorem MapAt.mono {w : World} {D D' : Nat → Prop} {m : Option Nat} {t : List Rc} (h : MapAt w D m t) (hD : ∀ i, D i → D' i) : MapAt w D' m t := by
  rcases h with h | ⟨b, E, h1, h2, h3, h4⟩
  · exact .inl h
  · exact .inr ⟨b, E, h1, hD b h2, h3, h4⟩
theorem MapAt.block {w : World} {D : Nat → Prop} {b : Nat} {t : List Rc} (h : MapAt w D (some b) t) : D b ∧ ∃ es c, w.heap[b]? = some (.map es c) := by
  rcases h with ⟨h, _⟩ | ⟨b', E, h1, h2, ⟨es, clock, hh, _⟩, h4⟩
  · cases h
  · cases h1; exact ⟨h2, es, clock, hh⟩
section
variable {w w' : World} {t : Nat} {D D' : Nat → Prop} {st : Sto} {v : Value} {mp : Option Nat} {ps : List Pr}
end
namespace SM
def cut (x : Int) : Nat := if x < 0 then 0 else if 1000 < x then 1000 else x.toNat
def new (x : Int) : Sto := ⟨cut x, [], [], [], 0⟩
end SM
end Go.Proofs.Ytnbhkbncllebmaa
namespace Go.Proofs.Ytnbhkbncllebmaa
set_option maxRecDepth 20000
open Go.RowKit Go.Deep
set_option linter.unusedVariables false
/-- A copy in a block of bytes of its own. -/
def CopyOut (w : World) (xs : List Nat) (e : Ending) (w' : World) : Prop := ∃ a c, e = .returned (.slice a xs.length c) ∧ w.Extends w' ∧ U8s w' (.slice a xs.length c) xs ∧ ∀ g, (Value.slice a xs.length c).ownBlock = some g → (w.heap.size ≤ g ∧ g < w'.heap.size) ∧ ∃ cs, w'.heap[g]? = some (.cells cs 5 (0, 0))
theorem copy_of {w w' : World} {v : Value} {xs : List Nat} (hx : w.Extends w') (ho : w'.ownsRow w.heap.size 5 1 v xs.length (u8vs xs)) (hlt : ∀ x ∈ xs, x < 256) : ∃ a c, v = .slice a xs.length c ∧ CopyOut w xs (.returned v) w' := by
  obtain ⟨a, c, rfl⟩ := owns_slice ho
  refine ⟨a, c, rfl, a, c, rfl, hx, owns_u8s ho hlt, fun g hg => ⟨ho.lt g hg, ?_⟩⟩
  rcases ho.2 with ⟨e, _⟩ | ⟨g', cap, cur, e, _, hh, _⟩
  · rw [e] at hg; cases hg
  · rw [e] at hg
    simp only [Value.ownBlock, Option.some.injEq] at hg
    subst hg
    exact ⟨_, hh⟩
theorem eql_bytes_nil (a : Option Addr) (n c : Nat) (w : World) : (binOp .eql 44 (.slice a n c) (.slice none 0 0)).run Try.prog w = .ok (.bool a.isNone) w := by
  have h : ∀ d, (Op.equalIn (d + 1) 44 (.slice a n c) (.slice none 0 0)).run Try.prog w = .ok a.isNone w := fun d => by
    cases a <;> simp [Op.equalIn, run_underlying Try.underlying44]
  simp only [binOp]
  simp [Op.equal, Op.maxDepth, h 9999]
theorem clone_any (v : Value) (xs : List Nat) (w : World) (hv : U8s w v xs) (hx : xs ≠ []) (hl : xs.length ≤ 1000000) : Calls Try.prog 22 #[v] w (CopyOut w xs) := by
  obtain ⟨iu, hiu, hz0, hz1, hz2⟩ := info_parts byteinfo
  have HI := Lib.hid hiu
  have HZ0 := Lib.hid hz0
  have HZ1 := Lib.hid hz1
  have HZ2 := Lib.hid hz2
  have hlt := hv.lt
  have HSRC : Hid (∀ w', w.Extends w' → Src Try.prog 1 44 v xs.length (u8vs xs) w') := fun w' hx => (hv.ext hx).src Try.underlying44
  have HEND : Hid (∀ v' w1 w', w.Extends w1 → w1.heap.size = w.heap.size + 1 → w1.heap[w.heap.size]? = some (.cells #[] 5 (0, 0)) → w'.ownsRow w.heap.size 5 1 v' xs.length (u8vs xs) → w1.grownBy w' (some w.heap.size) → ∃ a c, v' = .slice a xs.length c ∧ CopyOut w xs (.returned v') w') := fun v' w1 w' h1 h2 h3 ho hg => by
    exact copy_of (h1.grown hg (fun k hk => by have := Option.some.inj hk; omega)) ho hlt
  rcases hv with ⟨e, _⟩ | ⟨b, off, cap, rfl, h1, h2, h3, h4, h5⟩
  · exact absurd e hx
  · clear h1 h2 h3 h4 h5 hx hlt hiu hz0 hz1 hz2
    unfold CopyOut at *
    generalize hn : xs.length = n at *
    clear hn
    go_enter Try.func22, Try.ntmps22
    have hnil := fun w => eql_bytes_nil (some ⟨b, off, none⟩) n cap w
    rw [show (some (⟨b, off, none⟩ : Addr)).isNone = false from rfl] at hnil
    have hmk : (w.alloc (.cells #[] 5)).ownsRow w.heap.size 5 1 (.slice (some ⟨w.heap.size, 0, none⟩) 0 0) 0 [] := World.ownsRow_made w #[] 0 (Nat.le_refl _) (by decide) rfl
    have HMK := Lib.hid hmk
    have HSR := Lib.hid (HSRC.out _ (ext_alloc w (.cells #[] 5)))
    have HX1 := Lib.hid (ext_alloc w (.cells #[] 5))
    have HA1 : Hid ((w.alloc (.cells #[] 5)).heap[w.heap.size]? = some (.cells #[] 5 (0, 0))) := heap_alloc_new w _
    clear hmk
    go_wp2_with (at_builtin; refine wpList_append_own_src _ rfl _ _ 44 44 rfl w.heap.size 5 iu (.int .u8 0) 1 1 Try.underlying44 HI.out HZ0.out HZ1.out HZ2.out rfl _ _ _ rfl HMK.out _ n (u8vs xs) rfl HSR.out (by unfold maxLen; omega) (by omega) (by simp) ?_)
    intro v' w' ho hg _
    obtain ⟨a, c, rfl, HP⟩ := HEND.out v' _ w' HX1.out (by simp) HA1.out ho hg
    have HP := Lib.hid HP
    clear ho hg HEND HSRC HMK HSR HX1 HA1
    go_wp2
    go_ret
    exact HP.out
/-- A record alone in a block. -/
theorem Arr.box (w : World) (r : Rc) (u : Value) : Arr (w.alloc (.cells (r.cells u).toArray 46)) w.heap.size 1 1 (fun _ => (r, u)) :=
  ⟨r.cells u, heap_alloc_new w _, rfl, Nat.le_refl _, by decide, fun k hk i hi => by
    obtain rfl : k = 0 := by omega
    rw [Nat.zero_mul, Nat.zero_add]⟩
theorem Arr.datum {w w' : World} {g cap n i : Nat} {f : Nat → Pr} (h : Arr w g cap n f) (hi : i < n) (u : Value) (hw : w' = w.setCell ⟨g, i * 10 + 9, none⟩ u) : Arr w' g cap n (upd f i ((f i).1, u)) ∧ w.grownBy w' (some g) := by
  subst hw
  refine ⟨?_, grown_set _ _ _ _⟩
  obtain ⟨cur, h1, h2, h3, h4, h5⟩ := h
  refine ⟨cur.set (i * 10 + 9) u, ?_, by rw [List.length_set]; exact h2, h3, h4, fun k hk j hj => ?_⟩
  · rw [heap_setCell_same _ _ _ _ _ _ h1]; simp
  · unfold upd
    rw [List.getElem?_set]
    by_cases hki : k = i
    · subst hki
      rw [if_pos rfl]
      by_cases hj9 : j = 9
      · subst hj9
        rw [if_pos rfl, if_pos (by omega)]; rfl
      · rw [if_neg (by omega), h5 k hk j hj]
        obtain rfl | rfl | rfl | rfl | rfl | rfl | rfl | rfl | rfl : j = 0 ∨ j = 1 ∨ j = 2 ∨ j = 3 ∨ j = 4 ∨ j = 5 ∨ j = 6 ∨ j = 7 ∨ j = 8 := by omega
        all_goals rfl
    · rw [if_neg hki, if_neg (by omega)]
      exact h5 k hk j hj
theorem Arr.one {w : World} {g : Nat} {f : Nat → Pr} {p : Pr} (h : Arr w g 1 1 f) (hp : f 0 = p) : w.rangeAt g 0 (p.1.cells p.2) := by
  have := h.range (k := 0) (by omega)
  rw [hp, Nat.zero_mul] at this
  exact this
theorem copyrec_any (r : Rc) (ua : Option Addr) (uc : Nat) (w : World) (hu : U8s w (.slice ua r.d.length uc) r.d) (hl : r.d.length ≤ 1000000) :
    Calls Try.prog 23 #[r.val (.slice ua r.d.length uc)] w fun e w' => ∃ a c, e = .returned (r.val (.slice a r.d.length c)) ∧ CopyOut w r.d (.returned (.slice a r.d.length c)) w' := by
  obtain ⟨iu, hiu, hz0, hz1, hz2⟩ := info_parts byteinfo
  have HI := Lib.hid hiu
  have HZ0 := Lib.hid hz0
  have HZ1 := Lib.hid hz1
  have HZ2 := Lib.hid hz2
  have hlt := hu.lt
  have HSRC : Hid (∀ w', w.Extends w' → Src Try.prog 1 44 (.slice ua r.d.length uc) r.d.length (u8vs r.d) w') := fun w' hx => (hu.ext hx).src Try.underlying44
  obtain ⟨p, n, b, s, m, k, e, g, u, d⟩ := r
  simp only at HSRC hl hlt
  have HLT := Lib.hid hlt
  show Calls Try.prog 23 #[.agg #[.int .i64 p, .int .i64 n, .int .i64 b, .int .i64 s, .int .i64 m, .int .i64 k, .int .i64 e, .bool g, .int .i64 u, .slice ua d.length uc]] w _
  clear hu hiu hz0 hz1 hz2 hlt
  go_enter Try.func23, Try.ntmps23
  go_upto_region 1 with fail
  generalize hw1 : World.alloc w _ = w1
  generalize hw2 : World.alloc w1 _ = w2
  have hs1 : w1.heap.size = w.heap.size + 1 := by subst hw1; simp
  have hs2 : w2.heap.size = w.heap.size + 2 := by subst hw2; simp [hs1]
  have hx1 : w.Extends w1 := by subst hw1; exact ext_alloc _ _
  have hx2 : w1.Extends w2 := by subst hw2; exact ext_alloc _ _
  have ha1 : Arr w1 w.heap.size 1 1 (fun _ => (⟨p, n, b, s, m, k, e, g, u, d⟩, .slice ua d.length uc)) := by subst hw1; exact Arr.box w ⟨p, n, b, s, m, k, e, g, u, d⟩ _
  have ha2 : Arr w2 w1.heap.size 1 1 (fun _ => (Rc.zero, .slice none 0 0)) := by subst hw2; exact Arr.box w1 Rc.zero _
  rw [hs1] at ha2
  have ha1 := ha1.ext hx2
  have HX2 := Lib.hid (Gr.ext_trans hx1 hx2)
  have HSR := Lib.hid (HSRC.out w2 HX2.out)
  obtain ⟨c0, c1, c2, c3, c4, c5, c6, c7, c8, c9⟩ := RCell.ten (ha1.one rfl)
  simp only [Nat.zero_add] at c0 c1 c2 c3 c4 c5 c6 c7 c8 c9
  have f9 := ha1.frozen 9
  obtain ⟨y, hy⟩ : ∃ y, y = w.heap.size := ⟨_, rfl⟩
  rw [← hy] at ha1 ha2 hs2 c0 c1 c2 c3 c4 c5 c6 c7 c8 c9 f9 ⊢
  have HYW := Lib.hid hy
  have HA1 := Lib.hid ha1
  have HA2 := Lib.hid ha2
  have HS2 := Lib.hid hs2
  clear hw1 hw2 hs1 hx1 hx2 hy hs2 ha1 ha2 HSRC
  generalize hdl : d.length = dl at *
  have HDL := Lib.hid hdl
  clear hdl
  go_wp2_with (at_builtin; refine wpList_append_own_src _ rfl _ _ 44 44 rfl w2.heap.size 5 iu (.int .u8 0) 1 1 Try.underlying44 HI.out HZ0.out HZ1.out HZ2.out rfl _ _ _ rfl (World.ownsRow_nil _ _ _ _) _ dl (u8vs d) rfl HSR.out (by unfold maxLen; omega) (by omega) (Nat.le_refl _) ?_)
  intro v' w3 ho hg _
  have hx3 : w2.Extends w3 := ext_below ⟨hg.os, hg.tape, hg.output, hg.size, fun i hi => hg.block i hi (by intro h; cases h)⟩ rfl
  obtain ⟨a, c, rfl⟩ := owns_slice (by simpa using ho)
  have ho3 : w3.ownsRow w2.heap.size 5 1 (.slice a dl c) dl (u8vs d) := by simpa using ho
  have HA13 := Lib.hid (HA1.out.ext hx3)
  have HA23 := Lib.hid (HA2.out.ext hx3)
  obtain ⟨c0, c1, c2, c3, c4, c5, c6, c7, c8, c9⟩ := RCell.ten (HA13.out.one rfl)
  simp only [Nat.zero_add] at c0 c1 c2 c3 c4 c5 c6 c7 c8 c9
  have f9' := HA13.out.frozen 9
  have hy3 : y + 1 < w3.heap.size := HA23.out.lt
  have HOB : Hid (∀ g, (Value.slice a dl c).ownBlock = some g → y + 2 ≤ g ∧ g < w3.heap.size) := fun g hg => by
    have := ho3.lt g hg
    rw [HS2.out] at this
    exact this
  have HBK : Hid (∀ g, (Value.slice a dl c).ownBlock = some g → ∃ cs, w3.heap[g]? = some (.cells cs 5 (0, 0))) := fun g hg => by
    rcases ho3.2 with ⟨e, _⟩ | ⟨g', cap, cur, e, _, hh, _⟩
    · rw [e] at hg; cases hg
    · rw [e] at hg
      simp only [Value.ownBlock, Option.some.injEq] at hg
      subst hg
      exact ⟨_, hh⟩
  have HU3 : Hid (U8s w3 (.slice a dl c) d) := owns_u8s ho3 HLT.out
  have HX3 := Lib.hid (Gr.ext_trans HX2.out hx3)
  clear ho hg ho3 hx3 f9 HA1 HA2 HS2
  go_upto_region 2 with fail
  generalize hw4 : World.setCell w3 _ _ = w4
  obtain ⟨ha4, hg4⟩ := HA13.out.datum (i := 0) (w' := w4) (by omega) (.slice a dl c) hw4.symm
  have ha24 : Arr w4 (y + 1) 1 1 _ := HA23.out.kept (hg4.block (y + 1) HA23.out.lt (by simp))
  have hys : Hid (∀ w5, w4.grownBy w5 (some (y + 1)) → CopyOut w d (.returned (.slice a dl c)) w5) := fun w5 hg5 => by
    have hyw := HYW.out
    have hx : w.Extends w5 := (HX3.out.grown hg4 (fun k hk => by have := Option.some.inj hk; omega)).grown hg5 (fun k hk => by have := Option.some.inj hk; omega)
    have hbl : ∀ g, (Value.slice a dl c).ownBlock = some g → w5.heap[g]? = w3.heap[g]? := fun g hg => by
      obtain ⟨h1, h2⟩ := HOB.out g hg
      exact (hg5.block g (Nat.lt_of_lt_of_le h2 hg4.size) (by simp; omega)).trans (hg4.block g h2 (by simp; omega))
    refine ⟨a, c, by rw [HDL.out], hx, ?_, fun g hg => ?_⟩
    · rw [HDL.out]
      exact HU3.out.same (Nat.le_trans hg4.size hg5.size) (.inr hbl)
    · rw [HDL.out] at hg
      obtain ⟨h1, h2⟩ := HOB.out g hg
      obtain ⟨cs, hc⟩ := HBK.out g hg
      exact ⟨⟨by omega, Nat.lt_of_lt_of_le h2 (Nat.le_trans hg4.size hg5.size)⟩, cs, (hbl g hg).trans hc⟩
  clear hw4 hg4 c0 c1 c2 c3 c4 c5 c6 c7 c8 c9 f9' hy3 HOB HU3 HX3 HA13 HA23 HBK HLT
  obtain ⟨c0, c1, c2, c3, c4, c5, c6, c7, c8, c9⟩ := RCell.ten (ha4.one (p := (⟨p, n, b, s, m, k, e, g, u, d⟩, .slice a dl c)) rfl)
  simp only [Nat.zero_add] at c0 c1 c2 c3 c4 c5 c6 c7 c8 c9
  have HA24 := Lib.hid ha24
  have HSLC : Hid (Slc ((⟨p, n, b, s, m, k, e, g, u, d⟩, .slice a dl c) : Pr)) := ⟨a, c, by rw [HDL.out]⟩
  clear ha4 ha24
  go_wp2_with (refine wpList_store_rec rfl 46 recsize _ _ rfl (y + 1) 0 0 1 1 _ (⟨p, n, b, s, m, k, e, g, u, d⟩, .slice a dl c) rfl rfl rfl HA24.out (by omega) HSLC.out ?_)
  intro w5 ha5 hg5
  have HP := Lib.hid (hys.out w5 hg5)
  clear c0 c1 c2 c3 c4 c5 c6 c7 c8 c9
  obtain ⟨c0, c1, c2, c3, c4, c5, c6, c7, c8, c9⟩ := RCell.ten (ha5.one (p := (⟨p, n, b, s, m, k, e, g, u, d⟩, .slice a dl c)) rfl)
  simp only [Nat.zero_add] at c0 c1 c2 c3 c4 c5 c6 c7 c8 c9
  clear ha5 hg5 hys HA24 HSLC
  go_wp2
  refine bodyPost_ret (v := (⟨p, n, b, s, m, k, e, g, u, d⟩ : Rc).val (.slice a dl c)) (by simp [results, Try.results23, go_sem, c0, c1, c2, c3, c4, c5, c6, c7, c8, c9]; try rfl) rfl ?_
  exact ⟨a, c, by rw [HDL.out], by rw [HDL.out]; exact HP.out⟩
end Go.Proofs.Ytnbhkbncllebmaa
namespace Go.Proofs.Ytnbhkbncllebmaa
set_option maxRecDepth 20000
open Go.RowKit Go.Deep
set_option linter.unusedVariables false
/-- A copy: it reads as what was copied. -/
def CopyIs (w : World) (xs : List Nat) (e : Ending) (w' : World) : Prop := ∃ a c, e = .returned (.slice a xs.length c) ∧ w.Extends w' ∧ U8s w' (.slice a xs.length c) xs
theorem clone_nil (a : Option Addr) (c : Nat) (w : World) (hv : U8s w (.slice a 0 c) []) : Calls Try.prog 22 #[.slice a 0 c] w (CopyIs w []) := by
  obtain ⟨iu, hiu, hz0, hz1, hz2⟩ := info_parts byteinfo
  have HI := Lib.hid hiu
  have HZ0 := Lib.hid hz0
  have HZ1 := Lib.hid hz1
  have HZ2 := Lib.hid hz2
  have HSRC : Hid (∀ w', w.Extends w' → Src Try.prog 1 44 (.slice a 0 c) 0 [] w') := fun w' hx => (hv.ext hx).src Try.underlying44
  have HEND : Hid (∀ v' w1 w', w.Extends w1 → w'.ownsRow w.heap.size 5 1 v' 0 [] → w1.grownBy w' (some w.heap.size) → ∃ a c, v' = .slice a 0 c ∧ CopyIs w [] (.returned v') w') := fun v' w1 w' h1 ho hg => by
    obtain ⟨a, c, rfl, a', c', h1, h2, h3, _⟩ := copy_of (xs := []) (h1.grown hg (fun k hk => by have := Option.some.inj hk; omega)) ho (fun x hx => by cases hx)
    exact ⟨a, c, rfl, a', c', h1, h2, h3⟩
  have HNIL : Hid (CopyIs w [] (.returned (.slice none 0 0)) w) := ⟨none, 0, rfl, Gr.ext_refl _, nil_u8s _ _ _⟩
  generalize CopyIs w [] = POST at *
  clear hiu hz0 hz1 hz2 hv
  cases a with
  | none =>
    go_enter Try.func22, Try.ntmps22
    have hnil := fun w => eql_bytes_nil none 0 c w
    rw [show (none : Option Addr).isNone = true from rfl] at hnil
    go_wp2
    exact HNIL.out
  | some q =>
    go_enter Try.func22, Try.ntmps22
    have hnil := fun w => eql_bytes_nil (some q) 0 c w
    rw [show (some q).isNone = false from rfl] at hnil
    have hmk : (w.alloc (.cells #[] 5)).ownsRow w.heap.size 5 1 (.slice (some ⟨w.heap.size, 0, none⟩) 0 0) 0 [] := World.ownsRow_made w #[] 0 (Nat.le_refl _) (by decide) rfl
    have HMK := Lib.hid hmk
    have HSR := Lib.hid (HSRC.out _ (ext_alloc w (.cells #[] 5)))
    have HX1 := Lib.hid (ext_alloc w (.cells #[] 5))
    clear hmk
    go_wp2_with (at_builtin; refine wpList_append_own_src _ rfl _ _ 44 44 rfl w.heap.size 5 iu (.int .u8 0) 1 1 Try.underlying44 HI.out HZ0.out HZ1.out HZ2.out rfl _ _ _ rfl HMK.out _ 0 [] rfl HSR.out (by unfold maxLen; omega) (by omega) (by simp) ?_)
    intro v' w' ho hg _
    obtain ⟨a', c', rfl, HP⟩ := HEND.out v' _ w' HX1.out ho hg
    have HP := Lib.hid HP
    clear ho hg HEND HSRC HMK HSR HX1
    go_wp2
    exact HP.out
theorem clone_is (a : Option Addr) (c : Nat) (xs : List Nat) (w : World) (hv : U8s w (.slice a xs.length c) xs) (hl : xs.length ≤ 1000000) : Calls Try.prog 22 #[.slice a xs.length c] w (CopyIs w xs) := by
  by_cases h : xs = []
  · subst h; exact clone_nil a c w hv
  · refine (clone_any _ xs w hv h hl).mono ?_
    rintro e w' ⟨a', c', h1, h2, h3, _⟩
    exact ⟨a', c', h1, h2, h3⟩
end Go.Proofs.Ytnbhkbncllebmaa
namespace Go.Proofs.Ytnbhkbncllebmaa
set_option maxRecDepth 20000
open Go.RowKit Go.Deep
set_option linter.unusedVariables false
theorem has_next {l : List Int} {x : Int} {k : Nat} (hk : k < l.length) (h : x ∉ l.take k) (hne : ¬ l.getD k 0 = x) : x ∉ l.take (k + 1) := by
  rw [List.take_add_one]
  simp only [List.mem_append, not_or]
  refine ⟨h, ?_⟩
  have e : l[k]?.toList = [l.getD k 0] := by simp [hk]
  rw [e]
  simpa using fun e => hne e.symm
theorem has_any (v : Value) (l : List Int) (x : Int) (w : World) (hv : Ints w v l) :
    Calls Try.prog 17 #[v, .int .i64 x] w fun e w' => e = .returned (.bool (decide (x ∈ l))) ∧ w' = w := by
  have hm := hv.len
  obtain ⟨n, hn⟩ : ∃ n, l.length = n := ⟨_, rfl⟩
  obtain ⟨a, cap, rfl, _⟩ := hv.slice
  rw [hn] at hv hm ⊢
  have HN := Lib.hid hn
  have HV := Lib.hid hv.cell.2
  obtain ⟨r, hr⟩ : ∃ r, r = decide (x ∈ l) := ⟨_, rfl⟩
  have HR := Lib.hid hr
  rw [← hr]
  unfold maxLen at hm
  clear hv hn hr
  go_enter Try.func17, Try.ntmps17
  go_wp2_with fail
  go_loopw [5] (fun i wr => ∃ k : Nat, k ≤ n ∧ i = .int .i64 k ∧ wr = w ∧ Hid (x ∉ l.take k)) (fun i _ => (n - intOf i).toNat)
  case atStart => exact ⟨0, by omega, rfl, rfl, by simp [Hid]⟩
  case round =>
    obtain ⟨k, hk, rfl, rfl, HB⟩ := hrel
    by_cases h1 : k < n
    · obtain ⟨b1, o1, rfl, hb1, hc1⟩ := HV.out (by omega)
      have hc := hc1 k h1
      obtain ⟨y, hy⟩ : ∃ y, l.getD k 0 = y := ⟨_, rfl⟩
      rw [hy] at hc
      have HY := Lib.hid hy
      clear hc1 hy hb1
      by_cases h2 : y = x
      · have HP : Hid (r = true) := by
          rw [HR.out]
          show decide _ = true
          rw [decide_eq_true_eq, ← h2, ← HY.out]
          have : k < l.length := by rw [HN.out]; exact h1
          simp [this]
        have h3 : (y == x) = true := by simp [h2]
        clear h2
        go_wp2
        go_ret
        exact ⟨by rw [HP.out]; rfl, rfl⟩
      · have HP : Hid (x ∉ l.take (k + 1)) := has_next (by rw [HN.out]; exact h1) HB.out (by rw [HY.out]; exact h2)
        have h3 : (y == x) = false := by simp [h2]
        clear h2
        go_wp2
        go_roundw
        case rel => exact ⟨k + 1, by omega, by go_num, trivial, HP⟩
        case measure => simp [intOf]; omega
    · obtain rfl : k = n := by omega
      have HP : Hid (r = false) := by
        rw [HR.out]
        show decide _ = false
        rw [decide_eq_false_iff_not]
        have := HB.out
        rwa [List.take_of_length_le (by rw [HN.out]; omega)] at this
      go_wp2
      go_ret
      exact ⟨by rw [HP.out]; rfl, rfl⟩
end Go.Proofs.Ytnbhkbncllebmaa
