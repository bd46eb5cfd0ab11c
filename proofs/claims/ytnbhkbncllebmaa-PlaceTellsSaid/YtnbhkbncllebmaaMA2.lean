/- In one text: OpenR, Mats, FldMath, RowMath, ToFew, Recs, OpenRs, RndMath, KeyMath, KeyAt, OpenK, SplMath, RecMath, Marks. -/
import Derived.Lib.SmallJoins
import Derived.Test.YtnbhkbncllebmaaRows
import Derived.Laws.OwnMore
import Derived.WalkKit
import Derived.Laws.BitsAllLaws
import Derived.Lib.Hide
import Derived.IntWalk
import Derived.WalkLawsBesides
import Derived.Outline
import Derived.Laws.MathBits
import Derived.Lib.Bytealg
import Derived.Handy
import Derived.Laws.Rows
import Derived.Laws.Tables
import Derived.ChangeKeysEq
import Derived.Deep.OwnRows
import Derived.OpenShut
import Derived.WideShapes
import Derived.ProofKit
import Derived.Test.YtnbhkbncllebmaaMA1
namespace Go.Proofs.Ytnbhkbncllebmaa
set_option maxRecDepth 20000
open Go.RowKit Go.Deep Go.ChangeShapes Go.WideShapes
set_option linter.unusedVariables false
instance : Inhabited Rc := ⟨Rc.zero⟩
theorem list10 {α : Type} {l : List α} (h : l.length = 10) : ∃ c0 c1 c2 c3 c4 c5 c6 c7 c8 c9, l = [c0, c1, c2, c3, c4, c5, c6, c7, c8, c9] := by
  match l, h with
  | [c0, c1, c2, c3, c4, c5, c6, c7, c8, c9], _ => exact ⟨c0, c1, c2, c3, c4, c5, c6, c7, c8, c9, rfl⟩
theorem list7 {α : Type} {l : List α} (h : l.length = 7) : ∃ c0 c1 c2 c3 c4 c5 c6, l = [c0, c1, c2, c3, c4, c5, c6] := by
  match l, h with
  | [c0, c1, c2, c3, c4, c5, c6], _ => exact ⟨c0, c1, c2, c3, c4, c5, c6, rfl⟩
section
variable {H : Type} {enc : TypeId × Value → H} {P : Program} {w : World} {base : Nat} {held : Bool}
/-- Fields at these offsets, of so many cells. -/
def layB (P : Program) (fs : Array Field) (l : List (Nat × Nat)) : Bool := fs.size == l.length && (List.range l.length).all fun i => match fs[i]?, l[i]? with
  | some f, some p => f.offset == p.1 && P.cellsOf f.type == p.2
  | _, _ => false
theorem lay_of {fs : Array Field} {l : List (Nat × Nat)} (h : layB P fs l = true) {i : Nat} {f : Field} {p : Nat × Nat} (hf : fs[i]? = some f) (hp : l[i]? = some p) : f.offset = p.1 ∧ P.cellsOf f.type = p.2 := by
  unfold layB at h
  rw [Bool.and_eq_true] at h
  have hlt : i < l.length := (List.getElem?_eq_some_iff.1 hp).1
  have := List.all_eq_true.1 h.2 i (List.mem_range.2 hlt)
  simp only [hf, hp, Bool.and_eq_true, beq_iff_eq] at this
  exact this
theorem lay_at {fs : Array Field} {l : List (Nat × Nat)} (h : layB P fs l = true) (i : Nat) (f : Field) (o n : Nat) (hf : fs[i]? = some f) (hp : l[i]? = some (o, n)) : f.offset = o ∧ P.cellsOf f.type = n := lay_of h hf hp
theorem ints3 {t : TypeId} {a0 a1 a2 : Field} {fuel : Nat} {c0 c1 c2 : Value} {x : DataW H × List MemPlace} {spare : Nat → Bool} (hs : P.underlying t = some (.struct #[a0, a1, a2])) (hl : layB P #[a0, a1, a2] [(0, 1), (1, 1), (2, 1)] = true) (k0 : P.underlying a0.type = some (.int .i64)) (k1 : P.underlying a1.type = some (.int .i64)) (k2 : P.underlying a2.type = some (.int .i64))
    (h : DataW.trod enc P w base spare held fuel t [c0, c1, c2] = some x) : ∃ p n m : Int, c0 = .int .i64 p ∧ c1 = .int .i64 n ∧ c2 = .int .i64 m := by
  obtain ⟨y0, y1, y2, n, _, _, h0, h1, h2⟩ := trod_struct3 hs h
  obtain ⟨o0, n0⟩ := lay_at hl 0 a0 0 1 rfl rfl
  obtain ⟨o1, n1⟩ := lay_at hl 1 a1 1 1 rfl rfl
  obtain ⟨o2, n2⟩ := lay_at hl 2 a2 2 1 rfl rfl
  rw [o0, n0] at h0
  rw [o1, n1] at h1
  rw [o2, n2] at h2
  obtain ⟨p, e0, _, _⟩ := DataW.trod_int k0 h0
  obtain ⟨q, e1, _, _⟩ := DataW.trod_int k1 h1
  obtain ⟨r, e2, _, _⟩ := DataW.trod_int k2 h2
  simp at e0 e1 e2
  exact ⟨p, q, r, e0, e1, e2⟩
end
end Go.Proofs.Ytnbhkbncllebmaa
namespace Go.Proofs.Ytnbhkbncllebmaa
set_option maxRecDepth 20000
open Go.RowKit Go.Deep
set_option linter.unusedVariables false
/-- u reads as xs, and lies in memory from before B, or in a row of bytes. -/
def RowOk (w : World) (B : Nat) (u : Value) (xs : List Nat) : Prop := U8s w u xs ∧ (xs = [] ∨ ∀ g, u.ownBlock = some g → g < w.heap.size ∧ (g < B ∨ ∃ cs, w.heap[g]? = some (.cells cs 5 (0, 0))))
theorem RowOk.old {w : World} {u : Value} {xs : List Nat} (h : U8s w u xs) {B : Nat} (hB : w.heap.size ≤ B) : RowOk w B u xs := by
  refine ⟨h, ?_⟩
  rcases h with h | ⟨b, off, cap, rfl, h1, h2, h3, h4, h5⟩
  · exact .inl h.1
  · refine .inr fun g hg => ?_
    simp only [Value.ownBlock, Option.some.injEq] at hg
    subst hg
    exact ⟨h3, .inl (by omega)⟩
theorem RowOk.own {w : World} {b n c : Nat} {xs : List Nat} (h : Own w b 5 xs) (B : Nat) (hn : n = xs.length) (hc : c = xs.length) : RowOk w B (.slice (some ⟨b, 0, none⟩) n c) xs := by
  subst hn; subst hc
  refine ⟨h.u8s, .inr fun g hg => ?_⟩
  simp only [Value.ownBlock, Option.some.injEq] at hg
  subst hg
  obtain ⟨cs, hcs, _⟩ := h.1
  exact ⟨h.lt, .inr ⟨cs, hcs⟩⟩
theorem RowOk.apart {w : World} {B B' : Nat} {u v : Value} {xs : List Nat} {n : Nat} {vs : List Value} {T : TypeId} (h : RowOk w B u xs) (ho : w.ownsRow B T 1 v n vs) (hT : T ≠ 5) (hne : v.ownBlock ≠ none) : xs = [] ∨ u.ownBlock ≠ v.ownBlock := by
  rcases h.2 with h0 | h0
  · exact .inl h0
  · refine .inr fun e => ?_
    cases hv : v.ownBlock with
    | none => exact hne hv
    | some g =>
      rw [hv] at e
      obtain ⟨_, h1⟩ := h0 g e
      have hb := (ho.lt g hv).1
      rcases h1 with h1 | ⟨cs, hcs⟩
      · omega
      · rcases ho.2 with ⟨rfl, _⟩ | ⟨g', cap, cur, rfl, hbg, hg, _⟩
        · cases hv
        · simp only [Value.ownBlock, Option.some.injEq] at hv
          subst hv
          rw [hg] at hcs
          simp only [Option.some.injEq, Obj.cells.injEq] at hcs
          exact hT hcs.2.1
theorem RowOk.grown {w w' : World} {B : Nat} {u : Value} {xs : List Nat} {r : Option Nat} (h : RowOk w B u xs) (hg : w.grownBy w' r) (hr : xs = [] ∨ u.ownBlock ≠ r) : RowOk w' B u xs := by
  refine ⟨h.1.grown hg hr, ?_⟩
  rcases h.2 with h0 | h0
  · exact .inl h0
  · rcases hr with hr | hr
    · exact .inl hr
    · refine .inr fun g hgu => ?_
      obtain ⟨h1, h2⟩ := h0 g hgu
      have he : w'.heap[g]? = w.heap[g]? := hg.block g h1 (by rw [← hgu]; exact hr)
      exact ⟨Nat.lt_of_lt_of_le h1 hg.size, (by rcases h2 with h2 | ⟨cs, hcs⟩; exact .inl h2; exact .inr ⟨cs, he.trans hcs⟩)⟩
theorem RowOk.ext {w w' : World} {B : Nat} {u : Value} {xs : List Nat} (h : RowOk w B u xs) (hx : w.Extends w') : RowOk w' B u xs := by
  refine ⟨h.1.ext hx, ?_⟩
  rcases h.2 with h0 | h0
  · exact .inl h0
  refine .inr fun g hgu => ?_
  obtain ⟨h1, h2⟩ := h0 g hgu
  refine ⟨Nat.lt_of_lt_of_le h1 hx.size, ?_⟩
  rcases h2 with h2 | ⟨cs, hcs⟩
  · exact .inl h2
  · exact .inr ⟨cs, (hx.block g h1).trans hcs⟩
theorem RowOk.mono {w : World} {B B' : Nat} {u : Value} {xs : List Nat} (h : RowOk w B u xs) (hB : B ≤ B') : RowOk w B' u xs := by
  refine ⟨h.1, ?_⟩
  rcases h.2 with h0 | h0
  · exact .inl h0
  · exact .inr fun g hg => ⟨(h0 g hg).1, (h0 g hg).2.imp (fun h => Nat.lt_of_lt_of_le h hB) id⟩
/-- v is the call's own slice (of elements of type T, in memory from B on) of values that read as the first k of l, and lie in memory from before R or in blocks of bytes. -/
def Mats (w : World) (B R : Nat) (T : TypeId) (v : Value) (k : Nat) (l : List (List Nat)) : Prop := ∃ vs, w.ownsRow B T 1 v k vs ∧ ∀ j, j < k → ∃ u, vs[j]? = some u ∧ RowOk w R u (l.getD j [])
theorem Mats.nil (w : World) (B R : Nat) (T : TypeId) (l : List (List Nat)) : Mats w B R T (.slice none 0 0) 0 l := ⟨[], World.ownsRow_nil _ _ _ _, fun j hj => absurd hj (Nat.not_lt_zero _)⟩
theorem Mats.ext {w w' : World} {B R : Nat} {T : TypeId} {v : Value} {k : Nat} {l : List (List Nat)} (h : Mats w B R T v k l) (hx : w.Extends w') : Mats w' B R T v k l := by
  obtain ⟨vs, ho, hr⟩ := h
  have hg : w.grownBy w' none := ⟨hx.os, hx.tape, hx.output, hx.size, fun i hi _ => hx.block i hi⟩
  refine ⟨vs, ho.kept hg (by cases v.ownBlock <;> simp), fun j hj => ?_⟩
  obtain ⟨u, h1, h2⟩ := hr j hj
  exact ⟨u, h1, h2.ext hx⟩
theorem Mats.base {w : World} {B B' R : Nat} {T : TypeId} {v : Value} {k : Nat} {l : List (List Nat)} (h : Mats w B R T v k l) (hB : B' ≤ B) : Mats w B' R T v k l := by
  obtain ⟨vs, ho, hr⟩ := h
  refine ⟨vs, ⟨ho.1, ?_⟩, hr⟩
  rcases ho.2 with h' | ⟨g, cap, cur, h1, h2, h3⟩
  · exact .inl h'
  · exact .inr ⟨g, cap, cur, h1, Nat.le_trans hB h2, h3⟩
theorem Mats.slice {w : World} {B R : Nat} {T : TypeId} {v : Value} {k : Nat} {l : List (List Nat)} (h : Mats w B R T v k l) : ∃ a cap, v = .slice a k cap := by
  obtain ⟨vs, ho, hr⟩ := h
  rcases ho.2 with ⟨rfl, rfl⟩ | ⟨g, cap, cur, rfl, _⟩
  · exact ⟨_, _, rfl⟩
  · exact ⟨_, _, rfl⟩
end Go.Proofs.Ytnbhkbncllebmaa
namespace Go.Proofs.Ytnbhkbncllebmaa
set_option maxRecDepth 20000
namespace FM
def dbl (a : Nat) : Nat := if a < 128 then a * 2 else (a * 2 % 256) ^^^ 29
def tloop : Nat → Nat → Nat → Nat → Nat
  | 0, p, _, _ => p
  | f+1, p, a, b => tloop f (if b % 2 = 1 then p ^^^ a else p) (dbl a) (b / 2)
def tm (a b : Nat) : Nat := tloop 8 0 a b
theorem xor_lt {a b : Nat} (ha : a < 256) (hb : b < 256) : a ^^^ b < 256 := Nat.xor_lt_two_pow (n := 8) ha hb
/-! ### what is linear -/
def Lin (f : Nat → Nat) : Prop := ∀ x y, x < 256 → y < 256 → f (x ^^^ y) = f x ^^^ f y

theorem Lin.zero {f : Nat → Nat} (h : Lin f) : f 0 = 0 := by
  have := h 0 0 (by omega) (by omega)
  rw [Nat.xor_self] at this
  rw [this, Nat.xor_self]

theorem split_bit : ∀ n, n < 8 → ∀ x, x < 256 → 2 ^ n ≤ x → x < 2 ^ (n + 1) → x = 2 ^ n ^^^ (x - 2 ^ n) := by decide +kernel

theorem Lin.ext {f g : Nat → Nat} (hf : Lin f) (hg : Lin g) (h : ∀ i, i < 8 → f (2 ^ i) = g (2 ^ i)) : ∀ x, x < 256 → f x = g x := by
  have key : ∀ n, n ≤ 8 → ∀ x, x < 2 ^ n → f x = g x := by
    intro n
    induction n with
    | zero =>
      intro _ x hx
      obtain rfl : x = 0 := by simpa using hx
      rw [hf.zero, hg.zero]
    | succ n ih =>
      intro hn x hx
      by_cases hlt : x < 2 ^ n
      · exact ih (by omega) x hlt
      · have h8 : 2 ^ (n + 1) ≤ 2 ^ 8 := Nat.pow_le_pow_right (by omega) hn
        have hp : 2 ^ (n + 1) = 2 ^ n * 2 := Nat.pow_succ 2 n
        have h1 : 2 ^ n < 256 := by omega
        have e := split_bit n (by omega) x (by omega) (by omega) hx
        rw [e, hf _ _ h1 (by omega), hg _ _ h1 (by omega), h n (by omega), ih (by omega) _ (by omega)]
  exact fun x hx => key 8 (by omega) x hx

/-! ### the document's own way: all bits first, then the remainder -/
/-! ### powers -/
def pw (a : Nat) : Nat → Nat
  | 0 => 1
  | n+1 => tm (pw a n) a
def inv (a : Nat) : Nat := pw a 254
/-- 2 to the n -/
def ex (n : Nat) : Nat := pw 2 n
end FM
end Go.Proofs.Ytnbhkbncllebmaa
namespace Go.Proofs.Ytnbhkbncllebmaa
set_option maxRecDepth 20000
namespace RM
def cut (n : Int) : Nat := min n.toNat 1000
def zeros (n : Nat) : List Nat := List.replicate n 0
end RM
end Go.Proofs.Ytnbhkbncllebmaa
namespace Go.Proofs.Ytnbhkbncllebmaa
set_option maxRecDepth 20000
open Go.RowKit
/-- v is the call's own slice of the first k rows of l, each the call's own. -/
def ToInv (B : Nat) (TR : TypeId) (w : World) (v : Value) (k : Nat) (l : List (List Nat)) : Prop :=
  ∃ vs : List Value, w.ownsRow B TR 1 v k vs ∧ ∀ j, j < k → ∃ u, vs[j]? = some u ∧ w.ownsRow B 5 1 u (l.getD j []).length (u8vs (l.getD j []))
theorem ToInv.kept {B : Nat} {TR : TypeId} {w w' : World} {v : Value} {k : Nat} {l : List (List Nat)} (h : ToInv B TR w v k l) (hx : w.Extends w') : ToInv B TR w' v k l := by
  obtain ⟨vs, ho, hr⟩ := h
  have hg : w.grownBy w' none := ⟨hx.os, hx.tape, hx.output, hx.size, fun i hi _ => hx.block i hi⟩
  have hne : ∀ u : Value, u.ownBlock = none ∨ u.ownBlock ≠ none := fun u => by cases u.ownBlock <;> simp
  refine ⟨vs, ho.kept hg (hne v), fun j hj => ?_⟩
  obtain ⟨u, hu, hou⟩ := hr j hj
  exact ⟨u, hu, hou.kept hg (hne u)⟩
/-- How many rows and bytes: below the bound? -/
def fewTo (l : List (List Nat)) : Nat → Nat
  | 0 => 0
  | k + 1 => if fewTo l k ≤ 4000 then fewTo l k + 1 + (l.getD k []).length else fewTo l k
def few (l : List (List Nat)) : Bool := decide (fewTo l l.length ≤ 4000)
end Go.Proofs.Ytnbhkbncllebmaa
namespace Go.Proofs.Ytnbhkbncllebmaa
set_option maxRecDepth 20000
open Go.RowKit Go.Deep
set_option linter.unusedVariables false
/-- v is a slice of the records l in w. -/
def Recs (w : World) (v : Value) (l : List Rc) : Prop :=
  (l = [] ∧ ∃ a cap, v = .slice a 0 cap) ∨
  ∃ b off cap, v = .slice (some ⟨b, off, none⟩) l.length cap ∧ l.length ≤ cap ∧ l.length ≤ maxLen ∧ b < w.heap.size ∧ ∀ k, k < l.length → RCell w b (off + k * 10) (l.getD k Rc.zero)
theorem Recs.ext {w w' : World} {v : Value} {l : List Rc} (h : Recs w v l) (hx : w.Extends w') : Recs w' v l := by
  rcases h with h | ⟨b, off, cap, h1, h2, h3, h4, h5⟩
  · exact .inl h
  · exact .inr ⟨b, off, cap, h1, h2, h3, Nat.lt_of_lt_of_le h4 hx.size, fun k hk => (h5 k hk).ext hx⟩
theorem Recs.slice {w : World} {v : Value} {l : List Rc} (h : Recs w v l) : ∃ a cap, v = .slice a l.length cap := by
  rcases h with ⟨rfl, a, cap, rfl⟩ | ⟨b, off, cap, rfl, _⟩
  · exact ⟨a, cap, rfl⟩
  · exact ⟨_, cap, rfl⟩
theorem Recs.len {w : World} {v : Value} {l : List Rc} (h : Recs w v l) : l.length ≤ maxLen := by
  rcases h with ⟨rfl, _⟩ | ⟨b, off, cap, _, _, h, _⟩
  · exact Nat.zero_le _
  · exact h
theorem Recs.at {w : World} {a : Option Addr} {n cap : Nat} {l : List Rc} (h : Recs w (.slice a n cap) l) : n = l.length ∧ (0 < n → ∃ b off, a = some ⟨b, off, none⟩ ∧ b < w.heap.size ∧ ∀ k, k < n → RCell w b (off + k * 10) (l.getD k Rc.zero)) := by
  rcases h with ⟨rfl, a', cap', hv⟩ | ⟨b, off, cap', hv, h2, h3, h4, h5⟩
  · cases hv; exact ⟨rfl, fun h => absurd h (Nat.lt_irrefl _)⟩
  · cases hv; exact ⟨rfl, fun _ => ⟨b, off, rfl, h4, h5⟩⟩
theorem Recs.nil (w : World) (a : Option Addr) (cap : Nat) : Recs w (.slice a 0 cap) [] := .inl ⟨rfl, a, cap, rfl⟩
/-- v is the call's own slice (in memory from B on) of the first k records of l, their data in memory from before R or in blocks of bytes. -/
def RMats (w : World) (B R : Nat) (v : Value) (k : Nat) (l : List Rc) : Prop := ∃ vs, w.ownsRow B 46 10 v k vs ∧ ∀ j, j < k → ∃ u, (∀ i, i < 10 → vs[j * 10 + i]? = ((l.getD j Rc.zero).cells u)[i]?) ∧ RowOk w R u (l.getD j Rc.zero).d
theorem RMats.nil (w : World) (B R : Nat) (l : List Rc) : RMats w B R (.slice none 0 0) 0 l := ⟨[], World.ownsRow_nil _ _ _ _, fun j hj => absurd hj (Nat.not_lt_zero _)⟩
theorem RMats.slice {w : World} {B R : Nat} {v : Value} {k : Nat} {l : List Rc} (h : RMats w B R v k l) : ∃ a cap, v = .slice a k cap := by
  obtain ⟨vs, ho, hr⟩ := h
  rcases ho.2 with ⟨rfl, rfl⟩ | ⟨g, cap, cur, rfl, _⟩
  · exact ⟨_, _, rfl⟩
  · exact ⟨_, _, rfl⟩
theorem RMats.ext {w w' : World} {B R : Nat} {v : Value} {k : Nat} {l : List Rc} (h : RMats w B R v k l) (hx : w.Extends w') : RMats w' B R v k l := by
  obtain ⟨vs, ho, hr⟩ := h
  have hg : w.grownBy w' none := ⟨hx.os, hx.tape, hx.output, hx.size, fun i hi _ => hx.block i hi⟩
  refine ⟨vs, ho.kept hg (by cases v.ownBlock <;> simp), fun j hj => ?_⟩
  obtain ⟨u, h1, h2⟩ := hr j hj
  exact ⟨u, h1, h2.ext hx⟩
theorem RMats.recs {w : World} {B R : Nat} {v : Value} {k : Nat} {l : List Rc} (h : RMats w B R v k l) (hk : k = l.length) : Recs w v l := by
  subst hk
  obtain ⟨vs, hown, hrow⟩ := h
  rcases hown.2 with ⟨rfl, h0⟩ | ⟨g, cap, cur, rfl, hbg, hg, hnc, hcm, hcs, htake⟩
  · exact .inl ⟨List.eq_nil_of_length_eq_zero h0, none, 0, rfl⟩
  · refine .inr ⟨g, 0, cap, rfl, hnc, Nat.le_trans hnc hcm, (Array.getElem?_eq_some_iff.1 hg).1, fun j hj => ?_⟩
    obtain ⟨u, hu, ho⟩ := hrow j hj
    obtain ⟨a, c, rfl, _⟩ := ho.1.slice
    refine ⟨a, c, fun i v hv => ?_, ho.1⟩
    have e := hown.cells (g := g) rfl (j * 10 + i) v (by rw [hu i (Rc.cells_lt _ _ hv)]; exact hv)
    rw [Addr.add_mid] at e
    rw [Nat.add_assoc]; exact e
/-- The literal of one record that append(s, x) makes. -/
theorem src_rec {P : Program} {W : World} {T tx e' : TypeId} {r : Rc} {u : Value} (hk : P.underlying tx = some (.slice e')) (s c : Nat) (hs : s = W.heap.size) (h1 : u.oneCell' = true) :
    Src P 10 tx (.slice (some ⟨s, 0, none⟩) 1 c) 1 (r.cells u) (W.alloc (.cells (r.cells u).toArray T)) := by
  subst hs
  refine Src.ofSlice _ hk ⟨W.heap.size, 0, none⟩ 1 c (r.cells u) rfl (fun j v hv => ?_) (fun v hv => ?_)
  · have h0 := heap_alloc_new W (.cells (r.cells u).toArray T)
    rw [Addr.add_mid, cell_of_row _ _ _ _ _ _ h0, List.getElem?_toArray, Nat.zero_add]
    exact hv
  · simp only [Rc.cells, List.mem_cons, List.not_mem_nil, or_false] at hv
    rcases hv with rfl | rfl | rfl | rfl | rfl | rfl | rfl | rfl | rfl | rfl
    all_goals first | exact h1 | rfl
/-- The record appended to nothing: a slice of one. -/
theorem recs_one (w : World) (T : TypeId) (r : Rc) (a : Option Addr) (c : Nat) (hu : U8s w (.slice a r.d.length c) r.d) : Recs (w.alloc (.cells (r.cells (.slice a r.d.length c)).toArray T)) (.slice (some ⟨w.heap.size, 0, none⟩) 1 1) [r] :=
  .inr ⟨w.heap.size, 0, 1, rfl, Nat.le_refl _, by show 1 ≤ maxLen; decide, by simp, fun k hk => by
    obtain rfl : k = 0 := by simp at hk; omega
    exact ⟨a, c, box_rec w T r _, hu.ext (ext_alloc _ _)⟩⟩
end Go.Proofs.Ytnbhkbncllebmaa
namespace Go.Proofs.Ytnbhkbncllebmaa
set_option maxRecDepth 20000
open Go.RowKit Go.Deep Go.ChangeShapes Go.WideShapes
set_option linter.unusedVariables false
/-- Its object's numbers are ints. -/
def NumOk (r : Rc) : Prop := (Lit.int .i64 r.p).wf = true ∧ (Lit.int .i64 r.n).wf = true
section
variable {H : Type} {enc : TypeId × Value → H} {P : Program} {w : World} {base : Nat} {held : Bool}
theorem ints2_ok {t : TypeId} {a0 a1 : Field} {fuel : Nat} {c0 c1 : Value} {x : DataW H × List MemPlace} {spare : Nat → Bool} (hs : P.underlying t = some (.struct #[a0, a1])) (hl : layB P #[a0, a1] [(0, 1), (1, 1)] = true) (k0 : P.underlying a0.type = some (.int .i64)) (k1 : P.underlying a1.type = some (.int .i64))
    (h : DataW.trod enc P w base spare held fuel t [c0, c1] = some x) : ∃ p n : Int, c0 = .int .i64 p ∧ c1 = .int .i64 n ∧ (Lit.int .i64 p).wf = true ∧ (Lit.int .i64 n).wf = true := by
  obtain ⟨y0, y1, n, _, _, h0, h1⟩ := trod_struct2 hs h
  obtain ⟨o0, n0⟩ := lay_at hl 0 a0 0 1 rfl rfl
  obtain ⟨o1, n1⟩ := lay_at hl 1 a1 1 1 rfl rfl
  rw [o0, n0] at h0
  rw [o1, n1] at h1
  obtain ⟨p, e0, _, w0⟩ := DataW.trod_int k0 h0
  obtain ⟨q, e1, _, w1⟩ := DataW.trod_int k1 h1
  simp at e0 e1
  exact ⟨p, q, e0, e1, w0, w1⟩
theorem open_recs_ok {t e : TypeId} {f0 f1 f2 f3 f4 f5 f6 a0 a1 b0 b1 b2 : Field} {q : TypeId} {fuel : Nat} {v : Value} {x : DataW H × List MemPlace} (ht : P.underlying t = some (.slice e)) (he : P.underlying e = some (.struct #[f0, f1, f2, f3, f4, f5, f6])) (hC : P.cellsOf e = 10)
    (hl : layB P #[f0, f1, f2, f3, f4, f5, f6] [(0, 2), (2, 3), (5, 1), (6, 1), (7, 1), (8, 1), (9, 1)] = true)
    (s0 : P.underlying f0.type = some (.struct #[a0, a1])) (l0 : layB P #[a0, a1] [(0, 1), (1, 1)] = true) (ka0 : P.underlying a0.type = some (.int .i64)) (ka1 : P.underlying a1.type = some (.int .i64))
    (s1 : P.underlying f1.type = some (.struct #[b0, b1, b2])) (l1 : layB P #[b0, b1, b2] [(0, 1), (1, 1), (2, 1)] = true) (kb0 : P.underlying b0.type = some (.int .i64)) (kb1 : P.underlying b1.type = some (.int .i64)) (kb2 : P.underlying b2.type = some (.int .i64))
    (k2 : P.underlying f2.type = some (.int .i64)) (k3 : P.underlying f3.type = some (.int .i64)) (k4 : P.underlying f4.type = some .bool) (k5 : P.underlying f5.type = some (.int .i64)) (k6 : P.underlying f6.type = some (.slice q)) (kq : P.underlying q = some (.int .u8)) (cq : P.cellsOf q = 1)
    (hv : ∃ a len cap, v = .slice a len cap) (h : DataW.trod enc P w base (fun _ => true) held fuel t v.cells.toList = some x) : ∃ l, Recs w v l ∧ ∀ r ∈ l, NumOk r := by
  obtain ⟨a, len, cap, rfl⟩ := hv
  rcases open_slice ht h with ⟨hcs, _⟩ | ⟨a', len', cap', m, n, D, Pl, hcs, _, hlc, hm, hmm, _, hx⟩
  · simp [Value.cells] at hcs
    obtain ⟨rfl, rfl, rfl⟩ := hcs
    exact ⟨[], .inl ⟨rfl, none, 0, rfl⟩, fun r hr => by cases hr⟩
  · simp [Value.cells] at hcs
    obtain ⟨rfl, rfl, rfl⟩ := hcs
    simp only [if_true] at hmm
    subst hmm
    rw [hC] at hx
    by_cases h0 : len = 0
    · subst h0; exact ⟨[], .inl ⟨rfl, _, _, rfl⟩, fun r hr => by cases hr⟩
    obtain ⟨b, off, spot⟩ := a'
    have hspot : spot = none := by
      obtain ⟨cs', hc, _⟩ := hx 0 (by omega)
      obtain ⟨_, hcl, hat⟩ := World.cells?_some hc
      have h1 := hat 0 (by omega)
      rw [List.getElem?_eq_getElem (by omega)] at h1
      simpa [Addr.add] using World.cell?_spot h1
    subst hspot
    have each : ∀ i, i < len → ∃ r : Rc, RCell w b (off + i * 10) r ∧ NumOk r := fun i hi => by
      obtain ⟨cs', hc, hd⟩ := hx i (by omega)
      obtain ⟨_, hcl, hat⟩ := World.cells?_some hc
      obtain ⟨c0, c1, c2, c3, c4, c5, c6, c7, c8, c9, rfl⟩ := list10 hcl
      obtain ⟨xs, n', _, _, _, hxl, hf⟩ := DataW.trod_struct he hd
      obtain ⟨y0, y1, y2, y3, y4, y5, y6, rfl⟩ := list7 hxl
      have g0 := hf 0 f0 rfl
      have g1 := hf 1 f1 rfl
      have g2 := hf 2 f2 rfl
      have g3 := hf 3 f3 rfl
      have g4 := hf 4 f4 rfl
      have g5 := hf 5 f5 rfl
      have g6 := hf 6 f6 rfl
      rw [(lay_at hl 0 f0 0 2 rfl rfl).1, (lay_at hl 0 f0 0 2 rfl rfl).2] at g0
      rw [(lay_at hl 1 f1 2 3 rfl rfl).1, (lay_at hl 1 f1 2 3 rfl rfl).2] at g1
      rw [(lay_at hl 2 f2 5 1 rfl rfl).1, (lay_at hl 2 f2 5 1 rfl rfl).2] at g2
      rw [(lay_at hl 3 f3 6 1 rfl rfl).1, (lay_at hl 3 f3 6 1 rfl rfl).2] at g3
      rw [(lay_at hl 4 f4 7 1 rfl rfl).1, (lay_at hl 4 f4 7 1 rfl rfl).2] at g4
      rw [(lay_at hl 5 f5 8 1 rfl rfl).1, (lay_at hl 5 f5 8 1 rfl rfl).2] at g5
      rw [(lay_at hl 6 f6 9 1 rfl rfl).1, (lay_at hl 6 f6 9 1 rfl rfl).2] at g6
      obtain ⟨p, nn, rfl, rfl, wp0, wn0⟩ := ints2_ok s0 l0 ka0 ka1 (show DataW.trod enc P w base (fun _ => true) held n' f0.type [c0, c1] = some y0 from g0)
      obtain ⟨bb, ss, mm, rfl, rfl, rfl⟩ := ints3 s1 l1 kb0 kb1 kb2 (show DataW.trod enc P w base (fun _ => true) held n' f1.type [c2, c3, c4] = some y1 from g1)
      obtain ⟨kk, e5, _, _⟩ := DataW.trod_int k2 (show DataW.trod enc P w base (fun _ => true) held n' f2.type [c5] = some y2 from g2)
      obtain ⟨ee, e6, _, _⟩ := DataW.trod_int k3 (show DataW.trod enc P w base (fun _ => true) held n' f3.type [c6] = some y3 from g3)
      obtain ⟨gg, e7, _⟩ := DataW.trod_bool k4 (show DataW.trod enc P w base (fun _ => true) held n' f4.type [c7] = some y4 from g4)
      obtain ⟨uu, e8, _, _⟩ := DataW.trod_int k5 (show DataW.trod enc P w base (fun _ => true) held n' f5.type [c8] = some y5 from g5)
      have g6' := show DataW.trod enc P w base (fun _ => true) held n' f6.type [c9] = some y6 from g6
      obtain ⟨da, dl, dc, e9⟩ := Joins.slice_form k6 g6'
      simp only [List.cons.injEq, and_true] at e5 e6 e7 e8 e9
      subst e5; subst e6; subst e7; subst e8; subst e9
      obtain ⟨ds, hu⟩ := open_u8s (v := .slice da dl dc) k6 kq cq ⟨_, _, _, rfl⟩ (by simpa [Value.cells] using g6')
      obtain ⟨da', dc', e, _, _⟩ := hu.slice
      simp only [Value.slice.injEq] at e
      obtain ⟨rfl, rfl, rfl⟩ := e
      refine ⟨⟨p, nn, bb, ss, mm, kk, ee, gg, uu, ds⟩, ⟨da, dc, fun j v hj => ?_, hu⟩, wp0, wn0⟩
      have hj10 : j < 10 := Rc.cells_lt _ _ hj
      have h1 := hat j hj10
      rw [Addr.add_mid, Addr.add_mid] at h1
      rw [h1]; exact hj
    obtain ⟨f, hf⟩ := choose_lt each
    have hat : ∀ k, k < len → ((List.range len).map f).getD k Rc.zero = f k := fun k hk => by simp [List.getD_eq_getElem?_getD, hk]
    refine ⟨(List.range len).map f, .inr ⟨b, off, m, by simp, by simpa using hlc, by simp; omega, ?_, fun k hk => ?_⟩, fun r hr => ?_⟩
    · obtain ⟨_, ⟨_, _, hr, _⟩, _⟩ := each 0 (by omega)
      exact World.block_lt_of_cell? w _ (hr 0 _ rfl)
    · have hk' : k < len := by simpa using hk
      rw [hat k hk']
      exact (hf k hk').1
    · obtain ⟨k, hk, rfl⟩ := List.mem_map.1 hr
      exact (hf k (List.mem_range.1 hk)).2
theorem open_recs {t e : TypeId} {f0 f1 f2 f3 f4 f5 f6 a0 a1 b0 b1 b2 : Field} {q : TypeId} {fuel : Nat} {v : Value} {x : DataW H × List MemPlace} (ht : P.underlying t = some (.slice e)) (he : P.underlying e = some (.struct #[f0, f1, f2, f3, f4, f5, f6])) (hC : P.cellsOf e = 10)
    (hl : layB P #[f0, f1, f2, f3, f4, f5, f6] [(0, 2), (2, 3), (5, 1), (6, 1), (7, 1), (8, 1), (9, 1)] = true)
    (s0 : P.underlying f0.type = some (.struct #[a0, a1])) (l0 : layB P #[a0, a1] [(0, 1), (1, 1)] = true) (ka0 : P.underlying a0.type = some (.int .i64)) (ka1 : P.underlying a1.type = some (.int .i64))
    (s1 : P.underlying f1.type = some (.struct #[b0, b1, b2])) (l1 : layB P #[b0, b1, b2] [(0, 1), (1, 1), (2, 1)] = true) (kb0 : P.underlying b0.type = some (.int .i64)) (kb1 : P.underlying b1.type = some (.int .i64)) (kb2 : P.underlying b2.type = some (.int .i64))
    (k2 : P.underlying f2.type = some (.int .i64)) (k3 : P.underlying f3.type = some (.int .i64)) (k4 : P.underlying f4.type = some .bool) (k5 : P.underlying f5.type = some (.int .i64)) (k6 : P.underlying f6.type = some (.slice q)) (kq : P.underlying q = some (.int .u8)) (cq : P.cellsOf q = 1)
    (hv : ∃ a len cap, v = .slice a len cap) (h : DataW.trod enc P w base (fun _ => true) held fuel t v.cells.toList = some x) : ∃ l, Recs w v l := by
  obtain ⟨l, h, _⟩ := open_recs_ok ht he hC hl s0 l0 ka0 ka1 s1 l1 kb0 kb1 kb2 k2 k3 k4 k5 k6 kq cq hv h
  exact ⟨l, h⟩
end
/-- Two ints and records. -/
structure As where
  way : Int
  n : Int
  l : List Rc
def As.zero : As := ⟨0, 0, []⟩
instance : Inhabited As := ⟨As.zero⟩
/-- Such a struct, whose cells begin at b, off. -/
def AsCell (w : World) (b off : Nat) (r : As) : Prop := ∃ a c, w.cell? ⟨b, off, none⟩ = some (.int .i64 r.way) ∧ w.cell? ⟨b, off + 1, none⟩ = some (.int .i64 r.n) ∧ w.cell? ⟨b, off + 2, none⟩ = some (.slice a r.l.length c) ∧ Recs w (.slice a r.l.length c) r.l ∧ (∀ x ∈ r.l, NumOk x) ∧ (Lit.int .i64 r.way).wf = true ∧ (Lit.int .i64 r.n).wf = true
/-- v is a slice of these structs in w. -/
def ActsR (w : World) (v : Value) (l : List As) : Prop :=
  (l = [] ∧ ∃ a cap, v = .slice a 0 cap) ∨
  ∃ b off cap, v = .slice (some ⟨b, off, none⟩) l.length cap ∧ l.length ≤ cap ∧ l.length ≤ maxLen ∧ b < w.heap.size ∧ ∀ k, k < l.length → AsCell w b (off + k * 3) (l.getD k As.zero)
theorem ActsR.slice {w : World} {v : Value} {l : List As} (h : ActsR w v l) : ∃ a cap, v = .slice a l.length cap := by
  rcases h with ⟨rfl, a, cap, rfl⟩ | ⟨b, off, cap, rfl, _⟩
  · exact ⟨a, cap, rfl⟩
  · exact ⟨_, cap, rfl⟩
theorem ActsR.len {w : World} {v : Value} {l : List As} (h : ActsR w v l) : l.length ≤ maxLen := by
  rcases h with ⟨rfl, _⟩ | ⟨b, off, cap, _, _, h, _⟩
  · exact Nat.zero_le _
  · exact h
theorem ActsR.at {w : World} {a : Option Addr} {n cap : Nat} {l : List As} (h : ActsR w (.slice a n cap) l) : n = l.length ∧ (0 < n → ∃ b off, a = some ⟨b, off, none⟩ ∧ b < w.heap.size ∧ ∀ k, k < n → AsCell w b (off + k * 3) (l.getD k As.zero)) := by
  rcases h with ⟨rfl, a', cap', hv⟩ | ⟨b, off, cap', hv, h2, h3, h4, h5⟩
  · cases hv; exact ⟨rfl, fun h => absurd h (Nat.lt_irrefl _)⟩
  · cases hv; exact ⟨rfl, fun _ => ⟨b, off, rfl, h4, h5⟩⟩
section
variable {H : Type} {enc : TypeId × Value → H} {P : Program} {w : World} {base : Nat} {held : Bool}
end
end Go.Proofs.Ytnbhkbncllebmaa
namespace Go.Proofs.Ytnbhkbncllebmaa.RM
/-- A number stirred. -/
def mixed (k x : Nat) : Nat := x ^^^ (x / 2 ^ k)
def stir (x : Nat) : Nat := mixed 16 (mixed 15 (mixed 16 x * 2146121005 % 4294967296) * 2221713035 % 4294967296)
theorem mixed_lt (k x : Nat) (hx : x < 4294967296) : mixed k x < 4294967296 := by
  have e : (4294967296 : Nat) = 2 ^ 32 := by decide +kernel
  rw [e] at hx ⊢
  exact Nat.xor_lt_two_pow hx (Nat.lt_of_le_of_lt (Nat.div_le_self _ _) hx)
theorem stir_lt (x : Nat) : stir x < 4294967296 :=
  mixed_lt _ _ (Nat.mod_lt _ (by decide))
/-- Number i of those that are drawn for y. -/
def drawn (y i : Nat) : Nat := stir ((stir y + i * 2654435769) % 4294967296)
def rand (y i : Nat) (m : Int) : Int := if m < 1 then 0 else (drawn y i : Int) % m
theorem rand_below (y i : Nat) (m : Int) (h : ¬ m < 1) : 0 ≤ rand y i m ∧ rand y i m < m := by
  unfold rand; rw [if_neg h]
  exact ⟨Int.emod_nonneg _ (by omega), Int.emod_lt_of_pos _ (by omega)⟩
end Go.Proofs.Ytnbhkbncllebmaa.RM
namespace Go.Proofs.Ytnbhkbncllebmaa.KY
theorem get_in (k : List Nat) (i : Nat) (h : i < k.length) : k.getD i 0 = k[i] := by simp [List.getD, List.getElem?_eq_getElem h]
theorem get_out (k : List Nat) (i : Nat) (h : k.length ≤ i) : k.getD i 0 = 0 := by simp [List.getD, List.getElem?_eq_none h]
/-- A key. -/
def Ok (k : List Nat) : Prop := k.length = 20 ∧ ∀ x ∈ k, x < 256
def zero : List Nat := List.replicate 20 0
theorem zero_ok : Ok zero := by unfold Ok zero; decide
theorem Ok.lt {k : List Nat} (h : Ok k) (i : Nat) : k.getD i 0 < 256 := by
  by_cases hi : i < k.length
  · rw [get_in _ _ hi]; exact h.2 _ (List.getElem_mem hi)
  · rw [get_out _ _ (by omega)]; decide
/-- Two keys that are the same byte by byte. -/
theorem ext {a b : List Nat} (ha : a.length = 20) (hb : b.length = 20) (h : ∀ i, i < 20 → a.getD i 0 = b.getD i 0) : a = b := by
  apply List.ext_getElem (by rw [ha, hb])
  intro i h1 h2
  have := h i (by omega)
  rwa [get_in _ _ h1, get_in _ _ h2] at this
/-- How far two are from each other. -/
def dist (a b : List Nat) : List Nat := List.zipWith (· ^^^ ·) a b
theorem dist_len {a b : List Nat} (ha : a.length = 20) (hb : b.length = 20) : (dist a b).length = 20 := by simp [dist, ha, hb]
theorem dist_get {a b : List Nat} (ha : a.length = 20) (hb : b.length = 20) (i : Nat) : (dist a b).getD i 0 = a.getD i 0 ^^^ b.getD i 0 := by
  by_cases hi : i < 20
  · rw [get_in _ _ (by rw [dist_len ha hb]; exact hi), get_in _ _ (by omega), get_in _ _ (by omega)]
    simp [dist]
  · rw [get_out _ _ (by rw [dist_len ha hb]; omega), get_out _ _ (by omega), get_out _ _ (by omega)]
    rfl
theorem xor_lt {x y : Nat} (hx : x < 256) (hy : y < 256) : x ^^^ y < 256 := Nat.xor_lt_two_pow (n := 8) hx hy
theorem dist_ok {a b : List Nat} (ha : Ok a) (hb : Ok b) : Ok (dist a b) := by
  refine ⟨dist_len ha.1 hb.1, fun x hx => ?_⟩
  obtain ⟨i, hi, rfl⟩ := List.mem_iff_getElem.1 hx
  rw [← get_in _ _ hi, dist_get ha.1 hb.1]
  exact xor_lt (ha.lt i) (hb.lt i)
theorem zero_get (i : Nat) : zero.getD i 0 = 0 := by
  by_cases hi : i < 20
  · rw [get_in _ _ (by show i < (List.replicate 20 0).length; rw [List.length_replicate]; exact hi)]; exact List.getElem_replicate ..
  · rw [get_out _ _ (by simp [zero]; omega)]
/-- Whether one is ahead of the other. -/
def lt : List Nat → List Nat → Bool
  | x :: a, y :: b => if x < y then true else if y < x then false else lt a b
  | _, _ => false
theorem lt_self : ∀ a, lt a a = false
  | [] => rfl
  | x :: a => by simp [lt, lt_self a]
theorem lt_other : ∀ (a b : List Nat), a.length = b.length → a ≠ b → lt a b = !lt b a
  | [], [], _, h => absurd rfl h
  | [], _ :: _, h, _ => by cases h
  | _ :: _, [], h, _ => by cases h
  | x :: a, y :: b, h, hn => by
    unfold lt
    by_cases h1 : x < y
    · simp [h1, show ¬ y < x by omega]
    · by_cases h2 : y < x
      · simp [h1, h2]
      · obtain rfl : x = y := by omega
        simp [lt_other a b (by simpa using h) (fun e => hn (by rw [e]))]
theorem lt_trans : ∀ (a b c : List Nat), lt a b = true → lt b c = true → lt a c = true
  | [], _, _, h, _ => by simp [lt] at h
  | _ :: _, [], _, h, _ => by simp [lt] at h
  | _ :: _, _ :: _, [], _, h => by simp [lt] at h
  | x :: a, y :: b, z :: c, h1, h2 => by
    unfold lt at h1 h2 ⊢
    by_cases p1 : x < y
    · by_cases p2 : y < z
      · simp [show x < z by omega]
      · by_cases p3 : z < y
        · simp [p2, p3] at h2
        · simp [show x < z by omega]
    · by_cases p2 : y < x
      · simp [p1, p2] at h1
      · obtain rfl : x = y := by omega
        simp only [p1, if_false] at h1
        by_cases p3 : x < z
        · simp [p3]
        · by_cases p4 : z < x
          · simp [p3, p4] at h2
          · simp only [p3, p4, if_false] at h2 ⊢
            exact lt_trans a b c h1 h2
theorem lt_drop {a b : List Nat} {k : Nat} (ha : k < a.length) (hb : k < b.length) : lt (a.drop k) (b.drop k) = if a.getD k 0 < b.getD k 0 then true else if b.getD k 0 < a.getD k 0 then false else lt (a.drop (k + 1)) (b.drop (k + 1)) := by
  rw [List.drop_eq_getElem_cons ha, List.drop_eq_getElem_cons hb, get_in _ _ ha, get_in _ _ hb]
  rfl
/-- The comparison of bytes, which package bytes makes. -/
theorem compare_lt : ∀ (a b : List Nat), a.length = b.length → (∀ x ∈ a, x < 256) → (∀ x ∈ b, x < 256) →
    decide (Lib.compareBytes (a.map fun x => UInt8.ofNat x) (b.map fun x => UInt8.ofNat x) < 0) = lt a b
  | [], [], _, _, _ => rfl
  | [], _ :: _, h, _, _ => by cases h
  | _ :: _, [], h, _, _ => by cases h
  | x :: a, y :: b, h, ha, hb => by
    have hx : x < 256 := ha x (by simp)
    have hy : y < 256 := hb y (by simp)
    have e : ∀ u v, u < 256 → v < 256 → ((UInt8.ofNat u < UInt8.ofNat v) ↔ u < v) := by
      intro u v hu hv
      rw [UInt8.lt_iff_toNat_lt, UInt8.toNat_ofNat', UInt8.toNat_ofNat']
      omega
    simp only [List.map_cons, Lib.compareBytes, lt, e x y hx hy, e y x hy hx]
    by_cases p1 : x < y
    · simp [p1]
    · by_cases p2 : y < x
      · simp [p1, p2]
      · simp only [p1, p2, if_false]
        exact compare_lt a b (by simpa using h) (fun z hz => ha z (by simp [hz])) (fun z hz => hb z (by simp [hz]))
/-- What one more number makes of those before. -/
def step (y : Nat) (x : Int) : Nat := RM.stir ((y + (x % 4294967296).toNat) % 4294967296)
def stirred (xs : List Int) : Nat := xs.foldl step 0
/-- The key of numbers. -/
def byteOf (y i : Nat) : Nat := RM.drawn y i % 256
def keyOf (y : Nat) : List Nat := (List.range 20).map (byteOf y)
def of (xs : List Int) : List Nat := keyOf (stirred xs)
theorem keyOf_len (y : Nat) : (keyOf y).length = 20 := by simp [keyOf]
theorem keyOf_get (y i : Nat) (hi : i < 20) : (keyOf y).getD i 0 = byteOf y i := by
  rw [get_in _ _ (by rw [keyOf_len]; exact hi)]; simp [keyOf]
theorem keyOf_ok (y : Nat) : Ok (keyOf y) := by
  refine ⟨keyOf_len y, fun x hx => ?_⟩
  simp only [keyOf, List.mem_map] at hx
  obtain ⟨i, _, rfl⟩ := hx
  exact Nat.mod_lt _ (by decide)
theorem of_ok (xs : List Int) : Ok (of xs) := keyOf_ok _
theorem mod256 (d : Nat) : (d : Int) % 256 = ((d % 256 : Nat) : Int) := by omega
theorem rand_mod (y i : Nat) (m : Int) (h : ¬ m < 1) : RM.rand y i m = (RM.drawn y i : Int) % m := if_neg h
theorem rand256 (y i : Nat) : RM.rand y i 256 = (byteOf y i : Nat) := by
  have h := rand_mod y i 256 (by decide)
  rw [h]
  unfold byteOf
  generalize RM.drawn y i = d
  exact mod256 d
theorem fold_snoc (f : Nat → Int → Nat) (y : Nat) (xs : List Int) (x : Int) : (xs ++ [x]).foldl f y = f (xs.foldl f y) x := by simp
theorem stirred_snoc (xs : List Int) (x : Int) : stirred (xs ++ [x]) = step (stirred xs) x := fold_snoc step 0 xs x
theorem step_lt (y : Nat) (x : Int) : step y x < 4294967296 := RM.stir_lt _
theorem foldl_lt : ∀ (xs : List Int) (y : Nat), y < 4294967296 → xs.foldl step y < 4294967296
  | [], _, h => h
  | x :: xs, y, _ => foldl_lt xs _ (step_lt y x)
theorem stirred_lt (xs : List Int) : stirred xs < 4294967296 := foldl_lt xs 0 (by decide)
end Go.Proofs.Ytnbhkbncllebmaa.KY
namespace Go.Proofs.Ytnbhkbncllebmaa
set_option maxRecDepth 20000
open Go.RowKit
set_option linter.unusedVariables false
/-- The cells of a key. -/
def KC (k : List Nat) : Array Value := (k.map fun x => Value.int .u8 (x : Nat)).toArray
/-- A key as a value. -/
abbrev KV (k : List Nat) : Value := .agg (KC k)
theorem KC_size (k : List Nat) : (KC k).size = k.length := by simp [KC]
theorem KC_get {k : List Nat} (h : k.length = 20) (i : Nat) (hi : i < 20) : (KC k)[i]? = some (.int .u8 (k.getD i 0 : Nat)) := by
  rw [KY.get_in _ _ (by omega)]
  simp [KC, List.getElem?_eq_getElem (show i < k.length by omega)]
theorem KC_of {cs : Array Value} {k : List Nat} (h : k.length = 20) (hs : cs.size = 20) (hc : ∀ i, i < 20 → cs[i]? = some (.int .u8 (k.getD i 0 : Nat))) : cs = KC k := by
  apply Array.ext_getElem?
  intro i
  by_cases hi : i < 20
  · rw [hc i hi, KC_get h i hi]
  · rw [Array.getElem?_eq_none (by omega), Array.getElem?_eq_none (by rw [KC_size]; omega)]
theorem KC_one {k : List Nat} : (KC k).all (·.oneCell') = true := by
  rw [Array.all_eq_true]
  intro i hi
  simp [KC, Value.oneCell']
/-- Block b holds the key k. -/
abbrev KAt (w : World) (b : Nat) (k : List Nat) : Prop := w.rowIs b 25 20 (fun i => .int .u8 (k.getD i 0 : Nat))
theorem KAt.new (w : World) {k : List Nat} (h : k.length = 20) : KAt (w.alloc (.cells (KC k) 25)) w.heap.size k := by
  have := World.rowIs_alloc w (KC k) 25 (fun i => .int .u8 (k.getD i 0 : Nat)) (fun i hi => by rw [KC_size, h] at hi; exact KC_get h i hi)
  rwa [KC_size, h] at this
theorem KC_zero : KC KY.zero = #[.int .u8 0, .int .u8 0, .int .u8 0, .int .u8 0, .int .u8 0, .int .u8 0, .int .u8 0, .int .u8 0, .int .u8 0, .int .u8 0, .int .u8 0, .int .u8 0, .int .u8 0, .int .u8 0, .int .u8 0, .int .u8 0, .int .u8 0, .int .u8 0, .int .u8 0, .int .u8 0] := by
  rfl
theorem KAt.block {w : World} {b : Nat} {k : List Nat} (h : KAt w b k) (hl : k.length = 20) : w.heap[b]? = some (.cells (KC k) 25 (0, 0)) := by
  obtain ⟨c, h1, h2, h3⟩ := h
  rw [h1, KC_of hl h2 h3]
theorem KAt.ext {w w' : World} {b : Nat} {k : List Nat} (h : KAt w b k) (hx : w.Extends w') : KAt w' b k := World.rowIs.of_block h (hx.block b h.lt)
/-- Two keys are held against each other. -/
theorem run_key_items (w : World) (d : Nat) (a b : List Nat) (ha : a.length = 20) (hb : b.length = 20) : ∀ (is : List Nat), (∀ i ∈ is, i < 20) →
    (Op.eqItems (d + 1) 5 1 (KC a) (KC b) is).run Try.prog w = .ok (is.all fun i => a.getD i 0 == b.getD i 0) w
  | [], _ => by simp [Op.eqItems]
  | i :: is, h => by
    have hi := h i (by simp)
    have p1 := run_part_plain w (P := Try.prog) (e := 5) (by kernel_rfl) (KC_get ha i hi)
    have p2 := run_part_plain w (P := Try.prog) (e := 5) (by kernel_rfl) (KC_get hb i hi)
    have p3 := run_equalIn_int w (P := Try.prog) d 5 .u8 .u8 (a.getD i 0 : Nat) (b.getD i 0 : Nat) Try.underlying5
    have ih := run_key_items w d a b ha hb is (fun j hj => h j (by simp [hj]))
    have e : (((a.getD i 0 : Nat) : Int) == ((b.getD i 0 : Nat) : Int)) = (a.getD i 0 == b.getD i 0) := by
      rw [Bool.eq_iff_iff, beq_iff_eq, beq_iff_eq]; omega
    simp only [Op.eqItems, Sem.run_bind, Nat.mul_one, p1, p2, p3, Result.andThen_ok, List.all_cons, e]
    cases (a.getD i 0 == b.getD i 0)
    · simp
    · simpa using ih
theorem run_key_eq {a b : List Nat} (ha : a.length = 20) (hb : b.length = 20) (w : World) : (Op.equalIn 10000 25 (KV a) (KV b)).run Try.prog w = .ok (decide (a = b)) w := by
  obtain ⟨i, hi⟩ : ∃ i, Try.prog.info? 5 = some i := info_of_underlying Try.underlying5
  rw [run_equalIn_array w 9999 (KC a) (KC b) Try.underlying25 hi, show Try.prog.cellsOf 5 = 1 by kernel_rfl, run_key_items w 9998 a b ha hb (List.range 20) (fun j hj => List.mem_range.1 hj)]
  congr 1
  rw [Bool.eq_iff_iff]
  simp only [List.all_eq_true, List.mem_range, beq_iff_eq, decide_eq_true_eq]
  exact ⟨fun h => KY.ext ha hb h, fun h i _ => by rw [h]⟩
/-- The operation that reads a key out of its block. -/
theorem KAt.yields {w : World} {b : Nat} {k : List Nat} (h : KAt w b k) (hl : k.length = 20) {a : Act} {o : Oper} {x : Operand} (ho : o.op = .load 25 x) (hx : a.eval x = .pointer (some ⟨b, 0, none⟩)) :
    (execOp a.eval o).run Try.prog w = .ok (.value (KV k)) w := by
  unfold execOp
  simp only [ho, hx, Instr.loadAt, Instr.sureAddr, Sem.run_bind, Sem.run_pure, Result.andThen_ok, run_loadVar_row w b 25 25 (KC k) (0, 0) _ (h.block hl) Try.underlying25 rfl (by rw [KC_size, hl]; kernel_rfl)]
/-- A row of twenty zeros, as 'var k api.Key' lays it. -/
abbrev Z20 : Array Value := #[.int .u8 0, .int .u8 0, .int .u8 0, .int .u8 0, .int .u8 0, .int .u8 0, .int .u8 0, .int .u8 0, .int .u8 0, .int .u8 0, .int .u8 0, .int .u8 0, .int .u8 0, .int .u8 0, .int .u8 0, .int .u8 0, .int .u8 0, .int .u8 0, .int .u8 0, .int .u8 0]
theorem KAt.zeros (w : World) : KAt (w.alloc (.cells Z20 25)) w.heap.size KY.zero := by
  have := KAt.new w (k := KY.zero) rfl
  rwa [KC_zero] at this
/-- A key of which the first i bytes are there. -/
def KTo (k : List Nat) (i j : Nat) : Value := .int .u8 ((if j < i then k.getD j 0 else 0 : Nat))
theorem KTo.start {w : World} {b : Nat} (k : List Nat) (h : KAt w b KY.zero) : w.rowIs b 25 20 (KTo k 0) :=
  h.congr fun j _ => by show Value.int .u8 ((KY.zero.getD j 0 : Nat) : Int) = _; rw [KY.zero_get]; rfl
theorem KTo.next {w : World} {b : Nat} {k : List Nat} {i : Nat} (h : w.rowIs b 25 20 (KTo k i)) {v : Value} (hv : v = .int .u8 (k.getD i 0 : Nat)) : (w.setCell ⟨b, i, none⟩ v).rowIs b 25 20 (KTo k (i + 1)) :=
  (h.set i v).congr fun j _ => by
    subst hv
    unfold KTo
    by_cases e : j = i
    · subst e; rw [if_pos rfl, if_pos (by omega)]
    · rw [if_neg e]
      by_cases e2 : j < i
      · rw [if_pos e2, if_pos (by omega)]
      · rw [if_neg e2, if_neg (by omega)]
theorem KTo.done {w : World} {b : Nat} {k : List Nat} (h : w.rowIs b 25 20 (KTo k 20)) : KAt w b k := h.congr fun j hj => by unfold KTo; rw [if_pos hj]
theorem key_info {k : List Nat} (h : k.length = 20) : (Try.prog.info? 25).map (·.size) = some (KC k).size := by rw [KC_size, h]; kernel_rfl
/-- What a call that answers a key of a variable of its own leaves. -/
theorem key_left {w wr : World} {r : Nat} {k : List Nat} (hr : w.heap.size ≤ r) (hb : Below w.heap.size w wr) (h0 : ∃ z, wr.heap[r]? = some (.cells z 25 (0, 0)) ∧ z.size = 20) : Below w.heap.size w (wr.setRow r (KC k)) ∧ (wr.setRow r (KC k)).heap[r]? = some (.cells (KC k) 25 (0, 0)) := by
  obtain ⟨z, hz, _⟩ := h0
  exact ⟨hb.trans ⟨rfl, rfl, rfl, by simp, fun i hi => setRow_other wr r i (KC k) (by omega)⟩, setRow_heap wr r z (KC k) _ _ hz⟩
theorem key_block {w : World} {b : Nat} {f : Nat → Value} (h : w.rowIs b 25 20 f) : ∃ z, w.heap[b]? = some (.cells z 25 (0, 0)) ∧ z.size = 20 := by
  obtain ⟨c, h1, h2, _⟩ := h
  exact ⟨c, h1, h2⟩
/-- A key is read out of its block, as the walk spells it. -/
theorem KAt.load {w : World} {b : Nat} {k : List Nat} (h : KAt w b k) (hl : k.length = 20) : (loadCellsFrom ⟨b, 0, none⟩ 0 20 #[]).run Try.prog w = .ok (KC k) w := by
  have := run_loadCells_list (P := Try.prog) w ⟨b, 0, none⟩ (KC k).toList (fun j v hv => by
    have hadd : (⟨b, 0, none⟩ : Addr).add j = ⟨b, j, none⟩ := by unfold Addr.add; split <;> simp_all
    rw [hadd, cell_of_row _ _ j (KC k) 25 (0, 0) (h.block hl)]
    simpa using hv)
  rw [Array.length_toList, KC_size, hl] at this
  simpa [loadCells] using this
end Go.Proofs.Ytnbhkbncllebmaa
namespace Go.Proofs.Ytnbhkbncllebmaa
set_option maxRecDepth 20000
open Go.RowKit Go.ChangeShapes Go.WideShapes
set_option linter.unusedVariables false
section
variable {H : Type} {enc : TypeId × Value → H} {P : Program} {w : World} {base : Nat} {held : Bool}
theorem key_of_cells {l : List Value} (hl : l.length = 20) (h : ∀ i (hi : i < l.length), ∃ x : Nat, l[i] = .int .u8 x ∧ x < 256) : ∃ k, KY.Ok k ∧ l.toArray = KC k := by
  have ex : ∀ i, ∃ x : Nat, x < 256 ∧ ∀ hi : i < l.length, l[i] = .int .u8 x := fun i => by
    by_cases hi : i < l.length
    · obtain ⟨x, h1, h2⟩ := h i hi
      exact ⟨x, h2, fun _ => h1⟩
    · exact ⟨0, by decide, fun h' => absurd h' hi⟩
  refine ⟨(List.range 20).map fun i => (ex i).choose, ⟨by simp, fun x hx => ?_⟩, ?_⟩
  · obtain ⟨i, _, rfl⟩ := List.mem_map.1 hx
    exact (ex i).choose_spec.1
  · refine KC_of (by simp) (by simpa using hl) fun i hi => ?_
    have h20 : i < ((List.range 20).map fun i => (ex i).choose).length := by rw [List.length_map, List.length_range]; exact hi
    rw [KY.get_in _ _ h20, List.getElem_map, List.getElem_range, List.getElem?_toArray, List.getElem?_eq_getElem (show i < l.length by omega), (ex i).choose_spec.2 (by omega)]
theorem open_key_cells {t e : TypeId} {fuel : Nat} {spare : Nat → Bool} {l : List Value} {x : DataW H × List MemPlace} (ht : P.underlying t = some (.array 20 e)) (he : P.underlying e = some (.int .u8)) (ce : P.cellsOf e = 1) (hl : l.length = 20)
    (h : DataW.trod enc P w base spare held fuel t l = some x) : ∃ k, KY.Ok k ∧ l.toArray = KC k := by
  obtain ⟨xs, m, _, _, _, hx, hf⟩ := DataW.trod_array ht h
  refine key_of_cells hl fun i hi => ?_
  have h1 := hf i (by omega)
  rw [ce, Nat.mul_one, List.getElem?_eq_getElem (show i < xs.length by omega)] at h1
  obtain ⟨n, e1, _, hw⟩ := DataW.trod_int he h1
  obtain ⟨y, rfl, hy⟩ := u8_nat hw
  refine ⟨y, ?_, hy⟩
  rw [List.drop_eq_getElem_cons hi, List.take_succ_cons, List.take_zero] at e1
  exact (List.cons.inj e1).1
theorem open_key {r : Reach} {b0 : Nat} {t e : TypeId} {v : Value} {d : DataW H} {p : List MemPlace} (ht : P.underlying t = some (.array 20 e)) (he : P.underlying e = some (.int .u8)) (ce : P.cellsOf e = 1) (ct : P.cellsOf t = 20)
    (hv : Value.okWide P w r b0 t v) (h : DataW.Trod enc P w base (fun _ => true) held t v d p) : ∃ k, v = KV k ∧ KY.Ok k := by
  simp only [Value.okWide, ht] at hv
  obtain ⟨cs, rfl, hs, _⟩ := hv
  obtain ⟨fuel, hf⟩ := h
  obtain ⟨l⟩ := cs
  obtain ⟨k, h1, h2⟩ := open_key_cells ht he ce (by have := hs.trans ct; simpa using this) (show DataW.trod enc P w base (fun _ => true) held fuel t l = some (d, p) from hf)
  exact ⟨k, by show Value.agg l.toArray = _; rw [h2], h1⟩
end
end Go.Proofs.Ytnbhkbncllebmaa
namespace Go.Proofs.Ytnbhkbncllebmaa
set_option maxRecDepth 20000
set_option linter.unusedVariables false
namespace CM
/-- A right shape. -/
def Right (b s m : Int) : Prop := 1 ≤ b ∧ b ≤ 4000 ∧ 1 ≤ s ∧ s ≤ 64 ∧ 1 ≤ m ∧ m ≤ 40
instance (b s m : Int) : Decidable (Right b s m) := by unfold Right; infer_instance
/-- How many symbols; how many blocks; how many symbols block i has, and how many the blocks ahead of it. -/
def sy (b s : Nat) : Nat := (b - 1) / s + 1
def bl (b s m : Nat) : Nat := (sy b s - 1) / m + 1
def deal (y n i : Nat) : Nat := y / n + (if i < y % n then 1 else 0)
def ahead (y n i : Nat) : Nat := i * (y / n) + min i (y % n)
def kk (b s m i : Nat) : Nat := if i < bl b s m then deal (sy b s) (bl b s m) i else 0
theorem sy_pos (b s : Nat) : 1 ≤ sy b s := Nat.le_add_left _ _
theorem sy_le (b s : Nat) (hb : 1 ≤ b) : sy b s ≤ b := by
  have := Nat.div_le_self (b - 1) s
  unfold sy; omega
theorem bl_le (b s m : Nat) : bl b s m ≤ sy b s := by
  have h := Nat.div_le_self (sy b s - 1) m
  have := sy_pos b s
  unfold bl; omega
theorem ahead_zero (y n : Nat) : ahead y n 0 = 0 := by simp [ahead]
theorem ahead_succ (y n i : Nat) : ahead y n (i + 1) = ahead y n i + deal y n i := by
  unfold ahead deal
  rw [Nat.add_mul, Nat.one_mul]
  split <;> omega
theorem kk_in (b s m i : Nat) (h : i < bl b s m) : kk b s m i = deal (sy b s) (bl b s m) i := if_pos h
/-- Symbol i of size bytes: bytes 0 behind the data. -/
def sym (s : Nat) (xs : List Nat) (i : Nat) : List Nat := (List.range s).map fun x => xs.getD (i * s + x) 0
def blk (s : Nat) (xs : List Nat) (a k : Nat) : List (List Nat) := (List.range k).map fun i => sym s xs (a + i)
def cut (b s m : Nat) (xs : List Nat) : List (List (List Nat)) := (List.range (bl b s m)).map fun i => blk s xs (ahead (sy b s) (bl b s m) i) (kk b s m i)
/-- All rows, one behind the other. -/
def flat (l : List (List (List Nat))) : List Nat := l.flatten.flatten
/-- Whether blocks have a shape. -/
def Fit (b s m : Nat) (l : List (List (List Nat))) : Prop := l.length = bl b s m ∧ ∀ i, i < l.length → (l.getD i []).length = kk b s m i ∧ ∀ j, j < (l.getD i []).length → ((l.getD i []).getD j []).length = s
theorem flat_nil : flat [] = [] := rfl
theorem flat_snoc (l : List (List (List Nat))) (r : List (List Nat)) : flat (l ++ [r]) = flat l ++ r.flatten := by simp [flat]
theorem flatten_length (s : Nat) : ∀ (l : List (List Nat)), (∀ j, j < l.length → (l.getD j []).length = s) → l.flatten.length = l.length * s
  | [], _ => by simp
  | r :: l, h => by
    have h0 := h 0 (by simp)
    have ih := flatten_length s l fun j hj => by have := h (j + 1) (by simp; omega); simpa using this
    have h0' : r.length = s := by simpa using h0
    rw [List.flatten_cons, List.length_append, ih, List.length_cons, Nat.add_mul, h0', Nat.one_mul, Nat.add_comm]
/-- The bytes of the blocks ahead. -/
theorem flat_length (b s m : Nat) (l : List (List (List Nat))) (h : Fit b s m l) : ∀ i, i ≤ l.length → (flat (l.take i)).length = ahead (sy b s) (bl b s m) i * s
  | 0, _ => by rw [ahead_zero]; simp [flat]
  | i + 1, hi => by
    have ih := flat_length b s m l h i (by omega)
    have hfi := h.2 i (by omega)
    have e : l.take (i + 1) = l.take i ++ [l.getD i []] := by rw [List.take_succ_eq_append_getElem (by omega)]; simp [show i < l.length by omega]
    rw [e, flat_snoc, List.length_append, ih, flatten_length s _ hfi.2, hfi.1, kk_in _ _ _ _ (by rw [← h.1]; omega), ahead_succ, Nat.add_mul]
instance fitDec (b s m : Nat) (l : List (List (List Nat))) : Decidable (Fit b s m l) := by unfold Fit; infer_instance
end CM
end Go.Proofs.Ytnbhkbncllebmaa
namespace Go.Proofs.Ytnbhkbncllebmaa
set_option maxRecDepth 20000
set_option linter.unusedVariables false
namespace KM
/-- A number as so many bytes, the highest first. -/
def nb : Nat → Nat → List Nat
  | 0, _ => []
  | W + 1, n => n / 256 ^ W % 256 :: nb W n
theorem nb_length : ∀ (W n : Nat), (nb W n).length = W
  | 0, _ => rfl
  | W + 1, n => by simp [nb, nb_length W n]
theorem nb_lt : ∀ (W n x : Nat), x ∈ nb W n → x < 256
  | 0, _, _, h => by cases h
  | W + 1, n, x, h => by
    rcases List.mem_cons.1 h with rfl | h
    · exact Nat.mod_lt _ (by decide)
    · exact nb_lt W n x h
/-- The number that bytes tell. -/
def num (xs : List Nat) : Nat := xs.foldl (fun n x => n * 256 + x) 0
theorem num_from (xs : List Nat) : ∀ (a : Nat), xs.foldl (fun n x => n * 256 + x) a = a * 256 ^ xs.length + num xs := by
  induction xs with
  | nil => intro a; simp [num]
  | cons x xs ih =>
    intro a
    have h1 := ih (a * 256 + x)
    have h2 := ih (0 * 256 + x)
    show xs.foldl _ (a * 256 + x) = a * 256 ^ (xs.length + 1) + xs.foldl _ (0 * 256 + x)
    rw [h1, h2, Nat.pow_succ, Nat.zero_mul, Nat.zero_add, Nat.add_mul, Nat.mul_assoc, Nat.mul_comm 256 (256 ^ xs.length), Nat.add_assoc]
theorem num_cons (x : Nat) (xs : List Nat) : num (x :: xs) = x * 256 ^ xs.length + num xs := by
  have := num_from xs (0 * 256 + x)
  rw [Nat.zero_mul, Nat.zero_add] at this
  show xs.foldl _ (0 * 256 + x) = _
  rw [Nat.zero_mul, Nat.zero_add]; exact this
theorem num_nb_mod : ∀ (W n : Nat), num (nb W n) = n % 256 ^ W
  | 0, n => by simp [nb, num, Nat.mod_one]
  | W + 1, n => by
    rw [show nb (W + 1) n = n / 256 ^ W % 256 :: nb W n from rfl, num_cons, nb_length, num_nb_mod W n, Nat.mod_pow_succ, Nat.mul_comm (256 ^ W)]
    omega
theorem num_nb (W n : Nat) (h : n < 256 ^ W) : num (nb W n) = n := by rw [num_nb_mod, Nat.mod_eq_of_lt h]
/-- Taking a number of so many bytes: what it is, what is left, and whether there was too little. -/
def gn (W : Nat) (s : List Nat × Bool) : Nat := if s.2 = true ∨ s.1.length < W then 0 else num (s.1.take W)
def gs (W : Nat) (s : List Nat × Bool) : List Nat × Bool := if s.2 = true ∨ s.1.length < W then (s.1, true) else (s.1.drop W, false)
theorem gs_lt {W : Nat} {s : List Nat × Bool} (h : ∀ x ∈ s.1, x < 256) : ∀ x ∈ (gs W s).1, x < 256 := by
  unfold gs
  split
  · exact h
  · exact fun x hx => h x (List.mem_of_mem_drop hx)
theorem gs_some {W n : Nat} {ys : List Nat} (h : n < 256 ^ W) : gn W (nb W n ++ ys, false) = n ∧ gs W (nb W n ++ ys, false) = (ys, false) := by
  have hl := nb_length W n
  have c : ¬ ((nb W n ++ ys, false).2 = true ∨ (nb W n ++ ys, false).1.length < W) := by simp [hl]
  unfold gn gs
  rw [if_neg c, if_neg c]
  simp only
  rw [List.take_append_of_le_length (by omega), List.take_of_length_le (by omega), num_nb W n h, List.drop_append_of_le_length (by omega), List.drop_of_length_le (by omega)]
  exact ⟨rfl, rfl⟩
/-- A record that may be. -/
def Right (r : Rc) : Prop := (0 ≤ r.p ∧ r.p ≤ 2147483647) ∧ (1 ≤ r.n ∧ r.n ≤ 2147483647) ∧ (0 ≤ r.u ∧ r.u ≤ 2147483647) ∧
  (r.g = true → ((r.b = 0 ∧ r.s = 0 ∧ r.m = 0) ∧ r.k = 0) ∧ r.e = 0 ∧ r.d = []) ∧
  (r.g = false → (CM.Right r.b r.s r.m ∧ 0 ≤ r.k ∧ r.k < CM.bl r.b.toNat r.s.toNat r.m.toNat) ∧ (0 ≤ r.e ∧ r.e ≤ 16777215) ∧ (r.d.length : Int) = r.s)
/-- Its bytes. -/
def head (r : Rc) : List Nat := nb 1 (if r.g then 1 else 0) ++ (nb 4 r.p.toNat ++ (nb 4 r.n.toNat ++ nb 4 r.u.toNat))
def body (r : Rc) : List Nat := nb 2 r.b.toNat ++ (nb 2 r.s.toNat ++ (nb 2 r.m.toNat ++ (nb 2 r.k.toNat ++ nb 3 r.e.toNat)))
def bytes (r : Rc) : List Nat := if r.g then head r else head r ++ (body r ++ r.d)
theorem head_length (r : Rc) : (head r).length = 13 := by simp [head, nb_length]
theorem body_length (r : Rc) : (body r).length = 11 := by simp [body, nb_length]
/-- What bytes spell out: the record, its first byte, whether there was too little. -/
def tk (xs : List Nat) : Rc × Nat × Bool :=
  let s0 : List Nat × Bool := (xs, false)
  let s1 := gs 1 s0
  let s2 := gs 4 s1
  let s3 := gs 4 s2
  let s4 := gs 4 s3
  if gn 1 s0 = 1 then (⟨gn 4 s1, gn 4 s2, 0, 0, 0, 0, 0, true, gn 4 s3, s4.1⟩, 1, s4.2)
  else
    let s5 := gs 2 s4
    let s6 := gs 2 s5
    let s7 := gs 2 s6
    let s8 := gs 2 s7
    let s9 := gs 3 s8
    (⟨gn 4 s1, gn 4 s2, gn 2 s4, gn 2 s5, gn 2 s6, gn 2 s7, gn 3 s8, false, gn 4 s3, s9.1⟩, gn 1 s0, s9.2)
theorem right_bounds {r : Rc} (h : Right r) : r.p.toNat < 256 ^ 4 ∧ r.n.toNat < 256 ^ 4 ∧ r.u.toNat < 256 ^ 4 ∧ (r.g = false → r.b.toNat < 256 ^ 2 ∧ r.s.toNat < 256 ^ 2 ∧ r.m.toNat < 256 ^ 2 ∧ r.k.toNat < 256 ^ 2 ∧ r.e.toNat < 256 ^ 3) := by
  obtain ⟨h1, h2, h3, h4, h5⟩ := h
  refine ⟨by omega, by omega, by omega, fun hg => ?_⟩
  obtain ⟨⟨hr, h6, h7⟩, h8, h9⟩ := h5 hg
  obtain ⟨b1, b2, b3, b4, b5, b6⟩ := hr
  have h10 := CM.bl_le r.b.toNat r.s.toNat r.m.toNat
  have h11 := CM.sy_le r.b.toNat r.s.toNat (by omega)
  refine ⟨by omega, by omega, by omega, by omega, by omega⟩
/-- The bytes of a right record, and what stands behind, are taken apart. -/
theorem tk_bytes {r : Rc} (h : Right r) : tk (bytes r) = (r, (if r.g then 1 else 0), false) := by
  obtain ⟨hp, hn, hu, hrest⟩ := right_bounds h
  obtain ⟨h1, h2, h3, h4, h5⟩ := h
  obtain ⟨p, n, b, s, m, k, e, g, u, d⟩ := r
  cases g with
  | true =>
    have e1 : ∀ ys, gn 1 (nb 1 1 ++ ys, false) = 1 ∧ gs 1 (nb 1 1 ++ ys, false) = (ys, false) := fun ys => gs_some (by decide)
    obtain ⟨⟨⟨c1, c2, c3⟩, c4⟩, c5, c6⟩ := h4 rfl
    simp only at *
    subst c1; subst c2; subst c3; subst c4; subst c5; subst c6
    have hb : bytes ⟨p, n, 0, 0, 0, 0, 0, true, u, []⟩ = nb 1 1 ++ (nb 4 p.toNat ++ (nb 4 n.toNat ++ (nb 4 u.toNat ++ []))) := by simp [bytes, head]
    rw [hb]
    unfold tk
    simp only [(e1 _).1, (e1 _).2, (gs_some hp).1, (gs_some hp).2, (gs_some hn).1, (gs_some hn).2, (gs_some hu).1, (gs_some hu).2, if_true]
    simp only [Prod.mk.injEq, Rc.mk.injEq, and_true, true_and]
    omega
  | false =>
    have e1 : ∀ ys, gn 1 (nb 1 0 ++ ys, false) = 0 ∧ gs 1 (nb 1 0 ++ ys, false) = (ys, false) := fun ys => gs_some (by decide)
    obtain ⟨kb, ks, km, kk, ke⟩ := hrest rfl
    obtain ⟨⟨hr, h6, h7⟩, h8, h9⟩ := h5 rfl
    obtain ⟨b1, b2, b3, b4, b5, b6⟩ := hr
    simp only at *
    have hb : bytes ⟨p, n, b, s, m, k, e, false, u, d⟩ = nb 1 0 ++ (nb 4 p.toNat ++ (nb 4 n.toNat ++ (nb 4 u.toNat ++ (nb 2 b.toNat ++ (nb 2 s.toNat ++ (nb 2 m.toNat ++ (nb 2 k.toNat ++ (nb 3 e.toNat ++ d)))))))) := by simp [bytes, head, body]
    rw [hb]
    unfold tk
    simp only [(e1 _).1, (e1 _).2, (gs_some hp).1, (gs_some hp).2, (gs_some hn).1, (gs_some hn).2, (gs_some hu).1, (gs_some hu).2, (gs_some kb).1, (gs_some kb).2, (gs_some ks).1, (gs_some ks).2, (gs_some km).1, (gs_some km).2, (gs_some kk).1, (gs_some kk).2, (gs_some ke).1, (gs_some ke).2, Nat.zero_ne_one, if_false, Bool.false_eq_true]
    simp only [Prod.mk.injEq, Rc.mk.injEq, and_true, true_and]
    omega
end KM
end Go.Proofs.Ytnbhkbncllebmaa
namespace Go.Proofs.Ytnbhkbncllebmaa
set_option maxRecDepth 20000
open Go.RowKit
theorem byteinfo : (Try.prog.info? 5).map (fun i => (i.zero, i.size, i.bytes)) = some (some (.int .u8 0), 1, 1) := by kernel_rfl
end Go.Proofs.Ytnbhkbncllebmaa
