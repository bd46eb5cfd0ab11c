/- In one text: LokMath, Fr, LokAt. -/
import Derived.Test.YtgjnkfbckbkcnaaMA1
import Derived.Test.YtgjnkfbckbkcnaaMA2
import Derived.Test.YtgjnkfbckbkcnaaMA3
import Derived.Test.YtgjnkfbckbkcnaaMA5
namespace Go.Proofs.Ytgjnkfbckbkcnaa
set_option maxRecDepth 20000
set_option linter.unusedVariables false
structure Lk where
  k : List Nat
  self : Int
  known : List Int
  asked : List Int
  opn : List Int
namespace Lk
/-- One more is known. -/
def add (s : Lk) (x : Int) : Lk := if x < 0 ∨ x = s.self ∨ x ∈ s.known then s else { s with known := s.known ++ [x] }
def more (s : Lk) (m : List Int) : Lk := m.foldl add s
def over (s : Lk) (p : Int) : Lk := { s with opn := outI p s.opn }
def asks (s : Lk) (p : Int) : Lk := { s with asked := s.asked ++ [p], opn := s.opn ++ [p] }
def heard (s : Lk) (p : Int) (m : List Int) : Lk := if p ∈ s.opn then (s.over p).more m else s
def new (k : List Nat) (self : Int) : Lk := ⟨k, self, [], [], []⟩
structure Inv (s : Lk) : Prop where
  k : KY.Ok s.k
  nodup : s.known.Nodup
  range : ∀ x ∈ s.known, 0 ≤ x ∧ x ≤ 9223372036854775807
  once : s.asked.Nodup
  sub : ∀ x ∈ s.asked, x ∈ s.known
  opn : s.opn.Nodup
  wait : ∀ x ∈ s.opn, x ∈ s.asked
theorem Inv.new {k : List Nat} (h : KY.Ok k) (self : Int) : Inv (Lk.new k self) := ⟨h, List.nodup_nil, fun x hx => (nomatch hx), List.nodup_nil, fun x hx => (nomatch hx), List.nodup_nil, fun x hx => (nomatch hx)⟩
theorem snoc_nodup {l : List Int} {x : Int} (h : l.Nodup) (hx : x ∉ l) : (l ++ [x]).Nodup := by
  rw [List.nodup_append]
  exact ⟨h, by simp, fun a ha b hb e => hx (by rw [List.mem_singleton.1 hb] at e; exact e ▸ ha)⟩
theorem nodup_le : ∀ {l m : List Int}, l.Nodup → (∀ x ∈ l, x ∈ m) → l.length ≤ m.length
  | [], _, _, _ => Nat.zero_le _
  | a :: r, m, h, hs => by
    rw [List.nodup_cons] at h
    have ha : a ∈ m := hs a (by simp)
    have := nodup_le (l := r) (m := m.erase a) h.2 fun x hx => by
      have hne : x ≠ a := fun e => h.1 (by rw [← e]; exact hx)
      exact (List.mem_erase_of_ne hne).2 (hs x (by simp [hx]))
    rw [List.length_erase_of_mem ha] at this
    have := List.length_pos_of_mem ha
    rw [List.length_cons]; omega
theorem Inv.few {s : Lk} (h : Inv s) : s.opn.length ≤ s.asked.length := nodup_le h.opn h.wait
theorem Inv.most {s : Lk} (h : Inv s) : s.asked.length ≤ s.known.length := nodup_le h.once h.sub
theorem add_self (s : Lk) (x : Int) : (s.add x).self = s.self := by unfold add; split <;> rfl
theorem add_asked (s : Lk) (x : Int) : (s.add x).asked = s.asked := by unfold add; split <;> rfl
theorem add_opn (s : Lk) (x : Int) : (s.add x).opn = s.opn := by unfold add; split <;> rfl
theorem add_len (s : Lk) (x : Int) : (s.add x).known.length ≤ s.known.length + 1 := by unfold add; split <;> simp
theorem more_snoc (s : Lk) (m : List Int) (x : Int) : s.more (m ++ [x]) = (s.more m).add x := by simp [more]
theorem more_asked (s : Lk) (m : List Int) : (s.more m).asked = s.asked := by
  induction m generalizing s with
  | nil => rfl
  | cons a r ih => show ((s.add a).more r).asked = _; rw [ih, add_asked]
theorem more_opn (s : Lk) (m : List Int) : (s.more m).opn = s.opn := by
  induction m generalizing s with
  | nil => rfl
  | cons a r ih => show ((s.add a).more r).opn = _; rw [ih, add_opn]
theorem more_len (s : Lk) (m : List Int) : (s.more m).known.length ≤ s.known.length + m.length := by
  induction m generalizing s with
  | nil => exact Nat.le_refl _
  | cons a r ih =>
    show ((s.add a).more r).known.length ≤ _
    have := ih (s.add a)
    have := add_len s a
    rw [List.length_cons]; omega
theorem Inv.add {s : Lk} (h : Inv s) {x : Int} (hx : In64 x) : Inv (s.add x) := by
  unfold Lk.add
  split
  · exact h
  · rename_i hn
    have h1 : x ∉ s.known := fun e => hn (.inr (.inr e))
    have h2 : ¬ x < 0 := fun e => hn (.inl e)
    refine ⟨h.k, snoc_nodup h.nodup h1, fun y hy => ?_, h.once, fun y hy => List.mem_append_left _ (h.sub y hy), h.opn, h.wait⟩
    rcases List.mem_append.1 hy with hy | hy
    · exact h.range y hy
    · rw [List.mem_singleton.1 hy]; exact ⟨by omega, hx.2⟩
theorem Inv.more {s : Lk} (h : Inv s) {m : List Int} (hm : ∀ x ∈ m, In64 x) : Inv (s.more m) := by
  induction m generalizing s with
  | nil => exact h
  | cons a r ih => exact ih (h.add (hm a (by simp))) (fun x hx => hm x (by simp [hx]))
theorem Inv.over {s : Lk} (h : Inv s) (p : Int) : Inv (s.over p) :=
  ⟨h.k, h.nodup, h.range, h.once, h.sub, outI_nodup h.opn, fun x hx => h.wait x (mem_outI.1 hx).1⟩
theorem Inv.asks {s : Lk} (h : Inv s) {p : Int} (h1 : p ∈ s.known) (h2 : p ∉ s.asked) : Inv (s.asks p) := by
  refine ⟨h.k, h.nodup, h.range, snoc_nodup h.once h2, fun x hx => ?_, snoc_nodup h.opn (fun e => h2 (h.wait p e)), fun x hx => ?_⟩
  · rcases List.mem_append.1 hx with hx | hx
    · exact h.sub x hx
    · rw [List.mem_singleton.1 hx]; exact h1
  · rcases List.mem_append.1 hx with hx | hx
    · exact List.mem_append_left _ (h.wait x hx)
    · exact List.mem_append_right _ hx
theorem Inv.heard {s : Lk} (h : Inv s) (p : Int) {m : List Int} (hm : ∀ x ∈ m, In64 x) : Inv (s.heard p m) := by
  unfold Lk.heard
  split
  · exact (h.over p).more hm
  · exact h
/-- p stands among the first n as the nearest that was not asked, the first of several. -/
def Best (s : Lk) (n : Nat) (p : Int) : Prop :=
  ∃ j, j < n ∧ s.known[j]? = some p ∧ p ∉ s.asked ∧ ∀ i y, i < n → s.known[i]? = some y → y ∉ s.asked → KY.lt (far s.k y) (far s.k p) = false ∧ (i < j → KY.lt (far s.k p) (far s.k y) = true)
theorem Best.uniq {s : Lk} {n : Nat} {p q : Int} (h : Best s n p) (g : Best s n q) : p = q := by
  obtain ⟨j, hj, h1, h2, h3⟩ := h
  obtain ⟨i, hi, g1, g2, g3⟩ := g
  rcases Nat.lt_trichotomy i j with e | e | e
  · have a1 := (h3 i q hi g1 g2).2 e
    have a2 := (g3 j p hj h1 h2).1
    rw [a1] at a2; cases a2
  · subst e
    rw [h1] at g1
    exact Option.some.inj g1
  · have a1 := (g3 j p hj h1 h2).2 e
    have a2 := (h3 i q hi g1 g2).1
    rw [a1] at a2; cases a2
theorem Best.mem {s : Lk} {n : Nat} {p : Int} (h : Best s n p) : p ∈ s.known ∧ p ∉ s.asked := by
  obtain ⟨j, hj, h1, h2, h3⟩ := h
  exact ⟨List.mem_of_getElem? h1, h2⟩
/-- Nobody among the first n is left. -/
def Left0 (s : Lk) (n : Nat) : Prop := ∀ i y, i < n → s.known[i]? = some y → y ∈ s.asked
theorem Left0.best {s : Lk} {n : Nat} {p : Int} (h : Left0 s n) (g : Best s n p) : False := by
  obtain ⟨j, hj, h1, h2, h3⟩ := g
  exact h2 (h j p hj h1)
/-- The queue holds just those that are known and were not asked. -/
structure QOk (s : Lk) (hs : List Cd) : Prop where
  is : ∀ c ∈ hs, s.known[c.a]? = some c.p ∧ c.k = far s.k c.p ∧ c.p ∉ s.asked
  all : ∀ j y, s.known[j]? = some y → y ∉ s.asked → ∃ c ∈ hs, c.a = j
  len : hs.length + s.asked.length = s.known.length
  once : (hs.map Cd.p).Nodup
theorem QOk.new (k : List Nat) (self : Int) : QOk (Lk.new k self) [] := ⟨fun c hc => (nomatch hc), fun j y h => by simp [Lk.new] at h, rfl, List.nodup_nil⟩
theorem QOk.perm {s : Lk} {hs hs' : List Cd} (h : QOk s hs) (hp : hs'.Perm hs) : QOk s hs' :=
  ⟨fun c hc => h.is c (hp.mem_iff.1 hc), fun j y h1 h2 => by obtain ⟨c, h3, h4⟩ := h.all j y h1 h2; exact ⟨c, hp.mem_iff.2 h3, h4⟩, by rw [hp.length_eq]; exact h.len, ((hp.map Cd.p).nodup_iff).2 h.once⟩
theorem QOk.ok {s : Lk} {hs : List Cd} (h : QOk s hs) (hk : KY.Ok s.k) : ∀ c ∈ hs, KY.Ok c.k := fun c hc => by
  rw [(h.is c hc).2.1]; exact far_ok hk _
/-- How a peer stands in the queue. -/
def cand (s : Lk) (x : Int) (h : KY.Ok s.k) : Cd := ⟨x, s.known.length, far s.k x, (far_ok h x).1⟩
theorem QOk.add {s : Lk} {hs : List Cd} (h : QOk s hs) (hi : Inv s) {x : Int} (h1 : ¬ x < 0) (h2 : x ≠ s.self) (h3 : x ∉ s.known) : QOk (s.add x) (hs ++ [s.cand x hi.k]) := by
  have e : s.add x = { s with known := s.known ++ [x] } := by
    unfold Lk.add
    rw [if_neg (by rintro (h | h | h); exact h1 h; exact h2 h; exact h3 h)]
  rw [e]
  refine ⟨fun c hc => ?_, fun j y hj hy => ?_, ?_, ?_⟩
  · rcases List.mem_append.1 hc with hc | hc
    · obtain ⟨a1, a2, a3⟩ := h.is c hc
      refine ⟨?_, a2, a3⟩
      have := (List.getElem?_eq_some_iff.1 a1).1
      show (s.known ++ [x])[c.a]? = _
      rw [List.getElem?_append_left this]; exact a1
    · rw [List.mem_singleton.1 hc]
      refine ⟨?_, rfl, fun e => h3 (hi.sub x e)⟩
      show (s.known ++ [x])[s.known.length]? = some x
      simp
  · have hj' : (s.known ++ [x])[j]? = some y := hj
    rcases Nat.lt_or_ge j s.known.length with hl | hl
    · rw [List.getElem?_append_left hl] at hj'
      obtain ⟨c, a1, a2⟩ := h.all j y hj' hy
      exact ⟨c, List.mem_append_left _ a1, a2⟩
    · have := (List.getElem?_eq_some_iff.1 hj').1
      rw [List.length_append, List.length_singleton] at this
      exact ⟨s.cand x hi.k, List.mem_append_right _ (by simp), by show s.known.length = j; omega⟩
  · have := h.len
    show (hs ++ [_]).length + s.asked.length = (s.known ++ [x]).length
    rw [List.length_append, List.length_append, List.length_singleton, List.length_singleton]; omega
  · rw [List.map_append, List.map_singleton]
    refine snoc_nodup h.once fun e => ?_
    obtain ⟨c, hc, he⟩ := List.mem_map.1 e
    have := (h.is c hc).1
    have h4 := List.mem_of_getElem? this
    rw [he] at h4
    exact h3 h4
theorem QOk.asks {s : Lk} {c : Cd} {hs : List Cd} (h : QOk s (c :: hs)) : QOk (s.asks c.p) hs := by
  have hn := h.once
  rw [List.map_cons, List.nodup_cons] at hn
  refine ⟨fun d hd => ?_, fun j y hj hy => ?_, ?_, hn.2⟩
  · obtain ⟨a1, a2, a3⟩ := h.is d (List.mem_cons_of_mem _ hd)
    refine ⟨a1, a2, fun e => ?_⟩
    rcases List.mem_append.1 e with e | e
    · exact a3 e
    · exact hn.1 (List.mem_map.2 ⟨d, hd, List.mem_singleton.1 e⟩)
  · have h1 : y ∉ s.asked := fun e => hy (List.mem_append_left _ e)
    obtain ⟨d, hd, he⟩ := h.all j y hj h1
    rcases List.mem_cons.1 hd with e | hd
    · subst e
      have := (h.is d (by simp)).1
      rw [he] at this
      have hj' : s.known[j]? = some y := hj
      rw [this] at hj'
      exact absurd (List.mem_append_right _ (by rw [Option.some.inj hj']; simp)) hy
    · exact ⟨d, hd, he⟩
  · have := h.len
    show hs.length + (s.asked ++ [c.p]).length = s.known.length
    rw [List.length_append, List.length_singleton]
    rw [List.length_cons] at this; omega
theorem QOk.over {s : Lk} {hs : List Cd} (h : QOk s hs) (p : Int) : QOk (s.over p) hs := ⟨h.is, h.all, h.len, h.once⟩
/-- Whoever is ahead of all in the queue is the best. -/
theorem QOk.best {s : Lk} {hs : List Cd} (h : QOk s hs) (hk : KY.Ok s.k) {c : Cd} (hc : c ∈ hs) (hm : ∀ d ∈ hs, dlt d c = false) : Best s s.known.length c.p := by
  obtain ⟨a1, a2, a3⟩ := h.is c hc
  refine ⟨c.a, (List.getElem?_eq_some_iff.1 a1).1, a1, a3, fun i y hi hy hn => ?_⟩
  obtain ⟨d, hd, he⟩ := h.all i y hy hn
  obtain ⟨b1, b2, b3⟩ := h.is d hd
  have hp : d.p = y := by
    rw [he, hy] at b1
    exact (Option.some.inj b1).symm
  have h1 := hm d hd
  rw [hp] at b2
  unfold dlt at h1
  rw [← b2, ← a2]
  by_cases e : d.k = c.k
  · rw [if_pos e, decide_eq_false_iff_not] at h1
    exact ⟨by rw [e]; exact KY.lt_self _, fun h2 => by omega⟩
  · rw [if_neg e] at h1
    exact ⟨h1, fun _ => lt_tot d.h c.h h1 e⟩
theorem QOk.left {s : Lk} (h : QOk s []) : Left0 s s.known.length := fun i y hi hy => by
  by_cases e : y ∈ s.asked
  · exact e
  · obtain ⟨c, hc, _⟩ := h.all i y hy e
    exact nomatch hc
end Lk
end Go.Proofs.Ytgjnkfbckbkcnaa
namespace Go.Proofs.Ytgjnkfbckbkcnaa
set_option maxRecDepth 20000
open Go.RowKit
set_option linter.unusedVariables false
/-- Nothing is written but blocks of D, and new ones. -/
structure Fr (D : Nat → Prop) (w w' : World) : Prop where
  os : w'.os = w.os
  tape : w'.tape = w.tape
  output : w'.output = w.output
  size : w.heap.size ≤ w'.heap.size
  away : ∀ i, i < w.heap.size → ¬ D i → w'.heap[i]? = w.heap[i]?
theorem Fr.refl (D : Nat → Prop) (w : World) : Fr D w w := ⟨rfl, rfl, rfl, Nat.le_refl _, fun _ _ _ => rfl⟩
theorem Fr.ext {D : Nat → Prop} {w w' : World} (h : w.Extends w') : Fr D w w' := ⟨h.os, h.tape, h.output, h.size, fun i hi _ => h.block i hi⟩
theorem Fr.grown {D : Nat → Prop} {w w' : World} {r : Option Nat} (h : w.grownBy w' r) (hr : ∀ g, r = some g → D g) : Fr D w w' := ⟨h.os, h.tape, h.output, h.size, fun i hi hD => h.block i hi (fun e => hD (hr i e.symm))⟩
theorem Fr.mono {D D' : Nat → Prop} {w w' : World} (h : Fr D w w') (hD : ∀ i, D i → D' i) : Fr D' w w' := ⟨h.os, h.tape, h.output, h.size, fun i hi hn => h.away i hi (fun e => hn (hD i e))⟩
/-- D, and the blocks made since. -/
def Nx (D : Nat → Prop) (w w' : World) : Nat → Prop := fun i => D i ∨ (w.heap.size ≤ i ∧ i < w'.heap.size)
theorem Fr.trans {D D' : Nat → Prop} {a b c : World} (h : Fr D a b) (k : Fr D' b c) (hD : ∀ i, i < a.heap.size → D' i → D i) : Fr D a c :=
  ⟨k.os.trans h.os, k.tape.trans h.tape, k.output.trans h.output, Nat.le_trans h.size k.size, fun i hi hn => (k.away i (Nat.lt_of_lt_of_le hi h.size) (fun hd => hn (hD i hi hd))).trans (h.away i hi hn)⟩
theorem Fr.next {D : Nat → Prop} {a b c : World} (h : Fr D a b) (k : Fr (Nx D a b) b c) : Fr D a c := h.trans k fun i hi hd => by
  rcases hd with hd | hd
  · exact hd
  · omega
theorem Nx.next {D : Nat → Prop} {a b c : World} (h : a.heap.size ≤ b.heap.size) (k : b.heap.size ≤ c.heap.size) {i : Nat} (hd : Nx (Nx D a b) b c i) : Nx D a c i := by
  rcases hd with (hd | hd) | hd
  · exact .inl hd
  · exact .inr (by omega)
  · exact .inr (by omega)
theorem Fr.below {D : Nat → Prop} {w w' : World} {B : Nat} (h : Fr D w w') (hs : B ≤ w.heap.size) (hD : ∀ i, D i → B ≤ i) : Below B w w' :=
  ⟨h.os, h.tape, h.output, h.size, fun k hk => h.away k (by omega) (fun hd => by have := hD k hd; omega)⟩
/-- All blocks of type T stay. -/
def Still (T : TypeId) (w w' : World) : Prop := ∀ (i : Nat) (cs : Array Value) (f : Nat × Nat), w.heap[i]? = some (.cells cs T f) → w'.heap[i]? = w.heap[i]?
theorem Still.refl (T : TypeId) (w : World) : Still T w w := fun _ _ _ _ => rfl
theorem Still.ext {T : TypeId} {w w' : World} (h : w.Extends w') : Still T w w' := fun i cs f hi => h.block i (Array.getElem?_eq_some_iff.1 hi).1
theorem Still.trans {T : TypeId} {a b c : World} (h : Still T a b) (k : Still T b c) : Still T a c := fun i cs f hi => (k i cs f ((h i cs f hi).trans hi)).trans (h i cs f hi)
theorem Still.grown {T T' : TypeId} {w w' : World} {g : Nat} {cs : Array Value} {f : Nat × Nat} (h : w.grownBy w' (some g)) (hg : w.heap[g]? = some (.cells cs T' f)) (hT : T' ≠ T) : Still T w w' := fun i ci fi hi => h.block i (Array.getElem?_eq_some_iff.1 hi).1 (fun e => by
  have e' := Option.some.inj e
  subst e'
  rw [hi] at hg
  simp only [Option.some.injEq, Obj.cells.injEq] at hg
  exact hT hg.2.1.symm)
theorem Still.map {T : TypeId} {w w' : World} {g : Nat} {es : Array MapEntry} {c : Nat} (h : w.grownBy w' (some g)) (hg : w.heap[g]? = some (.map es c)) : Still T w w' := fun i ci fi hi => h.block i (Array.getElem?_eq_some_iff.1 hi).1 (fun e => by
  have e' := Option.some.inj e
  subst e'
  rw [hi] at hg
  cases hg)
end Go.Proofs.Ytgjnkfbckbkcnaa
namespace Go.Proofs.Ytgjnkfbckbkcnaa
set_option maxRecDepth 20000
open Go.RowKit Go.Deep
set_option linter.unusedVariables false
theorem list20 {α : Type} {l : List α} (h : l.length = 20) : ∃ a0 a1 a2 a3 a4 a5 a6 a7 a8 a9 a10 a11 a12 a13 a14 a15 a16 a17 a18 a19, l = [a0, a1, a2, a3, a4, a5, a6, a7, a8, a9, a10, a11, a12, a13, a14, a15, a16, a17, a18, a19] := by
  match l, h with
  | [a0, a1, a2, a3, a4, a5, a6, a7, a8, a9, a10, a11, a12, a13, a14, a15, a16, a17, a18, a19], _ => exact ⟨_, _, _, _, _, _, _, _, _, _, _, _, _, _, _, _, _, _, _, _, rfl⟩
/-- The cells of a look. -/
def LC (k : List Nat) (self : Int) (mk mo : Nat) (q v : Value) : Array Value := ((KC k).toList ++ [.int .i64 self, .map (some mk), q, v, .map (some mo)]).toArray
section
variable {k : List Nat} {self : Int} {mk mo : Nat} {q v : Value}
theorem LC_get (h : k.length = 20) : (LC k self mk mo q v)[20]? = some (.int .i64 self) ∧ (LC k self mk mo q v)[21]? = some (.map (some mk)) ∧ (LC k self mk mo q v)[22]? = some q ∧ (LC k self mk mo q v)[23]? = some v ∧ (LC k self mk mo q v)[24]? = some (.map (some mo)) := by
  obtain ⟨a0, a1, a2, a3, a4, a5, a6, a7, a8, a9, a10, a11, a12, a13, a14, a15, a16, a17, a18, a19, rfl⟩ := list20 h
  exact ⟨rfl, rfl, rfl, rfl, rfl⟩
theorem LC_q (h : k.length = 20) (q' : Value) : (LC k self mk mo q v).setIfInBounds 22 q' = LC k self mk mo q' v := by
  obtain ⟨a0, a1, a2, a3, a4, a5, a6, a7, a8, a9, a10, a11, a12, a13, a14, a15, a16, a17, a18, a19, rfl⟩ := list20 h
  rfl
theorem LC_v (h : k.length = 20) (v' : Value) : (LC k self mk mo q v).setIfInBounds 23 v' = LC k self mk mo q v' := by
  obtain ⟨a0, a1, a2, a3, a4, a5, a6, a7, a8, a9, a10, a11, a12, a13, a14, a15, a16, a17, a18, a19, rfl⟩ := list20 h
  rfl
theorem LC_key (h : k.length = 20) (j : Nat) (u : Value) (hu : (KC k).toList[j]? = some u) : (LC k self mk mo q v)[j]? = some u := by
  have hj := (List.getElem?_eq_some_iff.1 hu).1
  unfold LC
  rw [List.getElem?_toArray, List.getElem?_append_left hj]; exact hu
end
/-- A look at block t: its sets at mk, mo; q: its queue's slice; v: those that were asked; hs: the queue. -/
structure LAtX (w : World) (t : Nat) (s : Lk) (mk mo : Nat) (q v : Value) (hs : List Cd) : Prop where
  row : w.heap[t]? = some (.cells (LC s.k s.self mk mo q v) 50 (0, 0))
  known : SetAt w mk s.known
  opn : SetAt w mo s.opn
  ne : mk ≠ mo
  queue : OwnD w 0 q hs
  asked : OwnI w 0 v s.asked
  heap : HM.Heap dlt z22 hs.length hs
  ok : s.QOk hs
  inv : s.Inv
  len : s.known.length ≤ 8000
/-- Its blocks are of D. -/
structure LIn (D : Nat → Prop) (t mk mo : Nat) (q v : Value) : Prop where
  ht : D t
  hk : D mk
  ho : D mo
  q : ∀ g, q.ownBlock = some g → D g
  v : ∀ g, v.ownBlock = some g → D g
theorem LIn.mono {D D' : Nat → Prop} {t mk mo : Nat} {q v : Value} (h : LIn D t mk mo q v) (hD : ∀ i, D i → D' i) : LIn D' t mk mo q v := ⟨hD _ h.ht, hD _ h.hk, hD _ h.ho, fun g hg => hD g (h.q g hg), fun g hg => hD g (h.v g hg)⟩
def LAt (w : World) (t : Nat) (D : Nat → Prop) (s : Lk) : Prop := ∃ mk mo q v hs, LAtX w t s mk mo q v hs ∧ LIn D t mk mo q v
theorem OwnI.block {w : World} {B : Nat} {v : Value} {l : List Int} (h : OwnI w B v l) {g : Nat} (hg : v.ownBlock = some g) : g < w.heap.size ∧ ∃ cs, w.heap[g]? = some (.cells cs 3 (0, 0)) := by
  refine ⟨(h.lt g hg).2, ?_⟩
  rcases h.2 with ⟨rfl, h0⟩ | ⟨g', cap, cur, rfl, _, hh, _⟩
  · cases hg
  · simp only [Value.ownBlock, Option.some.injEq] at hg
    subst hg
    exact ⟨cur, hh⟩
theorem OwnI.kept {w w' : World} {B : Nat} {v : Value} {l : List Int} (h : OwnI w B v l) (hk : ∀ g, v.ownBlock = some g → w'.heap[g]? = w.heap[g]?) : OwnI w' B v l := by
  refine ⟨h.1, ?_⟩
  rcases h.2 with hn | ⟨g, cap, cur, rfl, hbg, hg, rest⟩
  · exact .inl hn
  · exact .inr ⟨g, cap, cur, rfl, hbg, (hk g rfl).trans hg, rest⟩
theorem OwnD.stay {w w' : World} {B : Nat} {v : Value} {l : List Cd} (h : OwnD w B v l) (hk : ∀ g, v.ownBlock = some g → w'.heap[g]? = w.heap[g]?) : OwnD w' B v l := by
  refine ⟨h.1, ?_⟩
  rcases h.2 with hn | ⟨g, cap, cur, rfl, hbg, hg, rest⟩
  · exact .inl hn
  · exact .inr ⟨g, cap, cur, rfl, hbg, (hk g rfl).trans hg, rest⟩
section
variable {w w' : World} {t mk mo : Nat} {s : Lk} {q v : Value} {hs : List Cd} {D D' : Nat → Prop}
theorem LAtX.lt (h : LAtX w t s mk mo q v hs) : t < w.heap.size := (Array.getElem?_eq_some_iff.1 h.row).1
theorem LAtX.kl (h : LAtX w t s mk mo q v hs) : s.k.length = 20 := h.inv.k.1
/-- No two of its parts lie in one block. -/
structure LSep (t mk mo : Nat) (q v : Value) : Prop where
  tk : mk ≠ t
  ot : mo ≠ t
  ko : mk ≠ mo
  qt : q.ownBlock ≠ some t
  qk : q.ownBlock ≠ some mk
  qo : q.ownBlock ≠ some mo
  vt : v.ownBlock ≠ some t
  vk : v.ownBlock ≠ some mk
  vo : v.ownBlock ≠ some mo
  qv : ∀ g, q.ownBlock = some g → v.ownBlock ≠ some g
theorem LAtX.sep (h : LAtX w t s mk mo q v hs) : LSep t mk mo q v := by
  obtain ⟨e1, c1, hk⟩ := h.known.block
  obtain ⟨e2, c2, ho⟩ := h.opn.block
  have hr := h.row
  refine ⟨fun e => ?_, fun e => ?_, h.ne, fun e => ?_, fun e => ?_, fun e => ?_, fun e => ?_, fun e => ?_, fun e => ?_, fun g hg e => ?_⟩
  · subst e; rw [hr] at hk; cases hk
  · subst e; rw [hr] at ho; cases ho
  · obtain ⟨_, _, cs, hc⟩ := h.queue.block e
    rw [hr] at hc
    simp only [Option.some.injEq, Obj.cells.injEq] at hc
    exact absurd hc.2.1 (by decide)
  · obtain ⟨_, _, cs, hc⟩ := h.queue.block e
    rw [hk] at hc; cases hc
  · obtain ⟨_, _, cs, hc⟩ := h.queue.block e
    rw [ho] at hc; cases hc
  · obtain ⟨_, cs, hc⟩ := h.asked.block e
    rw [hr] at hc
    simp only [Option.some.injEq, Obj.cells.injEq] at hc
    exact absurd hc.2.1 (by decide)
  · obtain ⟨_, cs, hc⟩ := h.asked.block e
    rw [hk] at hc; cases hc
  · obtain ⟨_, cs, hc⟩ := h.asked.block e
    rw [ho] at hc; cases hc
  · obtain ⟨_, _, cs, hc⟩ := h.queue.block hg
    obtain ⟨_, cs', hc'⟩ := h.asked.block e
    rw [hc] at hc'
    simp only [Option.some.injEq, Obj.cells.injEq] at hc'
    exact absurd hc'.2.1 (by decide)
theorem LAtX.away (h : LAtX w t s mk mo q v hs) (hin : LIn D t mk mo q v) (hf : Fr D' w w') (hn : ∀ i, D i → ¬ D' i) : LAtX w' t s mk mo q v hs := by
  have hb : ∀ g, D g → g < w.heap.size → w'.heap[g]? = w.heap[g]? := fun g hg hl => hf.away g hl (hn g hg)
  exact ⟨(hb t hin.ht h.lt).trans h.row, h.known.kept (hb mk hin.hk h.known.lt), h.opn.kept (hb mo hin.ho h.opn.lt), h.ne, h.queue.stay fun g hg => hb g (hin.q g hg) (h.queue.block hg).2.1, h.asked.kept fun g hg => hb g (hin.v g hg) (h.asked.block hg).1, h.heap, h.ok, h.inv, h.len⟩
theorem LAtX.ext (h : LAtX w t s mk mo q v hs) (hx : w.Extends w') : LAtX w' t s mk mo q v hs :=
  h.away (D := fun _ => True) (D' := fun _ => False) ⟨trivial, trivial, trivial, fun _ _ => trivial, fun _ _ => trivial⟩ (Fr.ext hx) (fun _ _ h => h)
theorem LAt.mono (h : LAt w t D s) (hD : ∀ i, D i → D' i) : LAt w t D' s := by
  obtain ⟨mk, mo, q, v, hs, h1, h2⟩ := h
  exact ⟨mk, mo, q, v, hs, h1, h2.mono hD⟩
theorem LAt.away (h : LAt w t D s) (hf : Fr D' w w') (hn : ∀ i, D i → ¬ D' i) : LAt w' t D s := by
  obtain ⟨mk, mo, q, v, hs, h1, h2⟩ := h
  exact ⟨mk, mo, q, v, hs, h1.away h2 hf hn, h2⟩
theorem LAt.ext (h : LAt w t D s) (hx : w.Extends w') : LAt w' t D s := by
  obtain ⟨mk, mo, q, v, hs, h1, h2⟩ := h
  exact ⟨mk, mo, q, v, hs, h1.ext hx, h2⟩
theorem LAtX.cells (h : LAtX w t s mk mo q v hs) : w.cell? ⟨t, 20, none⟩ = some (.int .i64 s.self) ∧ w.cell? ⟨t, 21, none⟩ = some (.map (some mk)) ∧ w.cell? ⟨t, 22, none⟩ = some q ∧ w.cell? ⟨t, 23, none⟩ = some v ∧ w.cell? ⟨t, 24, none⟩ = some (.map (some mo)) := by
  obtain ⟨h0, h1, h2, h3, h4⟩ := LC_get (self := s.self) (mk := mk) (mo := mo) (q := q) (v := v) h.kl
  refine ⟨?_, ?_, ?_, ?_, ?_⟩ <;> rw [cell_of_row _ _ _ _ _ _ h.row] <;> assumption
theorem LAtX.key (h : LAtX w t s mk mo q v hs) : w.rangeAt t 0 (KC s.k).toList := fun j u hu => by
  rw [Nat.zero_add, cell_of_row _ _ _ _ _ _ h.row]
  exact LC_key h.kl j u hu
theorem LAtX.frozen (h : LAtX w t s mk mo q v hs) (o : Nat) : w.frozen? ⟨t, o, none⟩ = false := frozen_of_row _ _ _ _ _ h.row
theorem LAtX.qis (h : LAtX w t s mk mo q v hs) : QIs w t 22 q hs := ⟨⟨_, _, h.row, (LC_get h.kl).2.2.1⟩, h.queue, h.sep.qt⟩
theorem LAtX.qlen (h : LAtX w t s mk mo q v hs) : hs.length ≤ 8000 := by have := h.ok.len; have := h.len; omega
/-- What a call that writes the queue leaves of the look's other parts. -/
theorem LAtX.turned {q' : Value} (h : LAtX w t s mk mo q v hs) (hw : QW w t 22 q q' w') : w'.heap[t]? = some (.cells (LC s.k s.self mk mo q' v) 50 (0, 0)) ∧ SetAt w' mk s.known ∧ SetAt w' mo s.opn ∧ OwnI w' 0 v s.asked := by
  have hp := h.sep
  refine ⟨?_, h.known.kept (hw.block mk h.known.lt hp.tk hp.qk), h.opn.kept (hw.block mo h.opn.lt hp.ot hp.qo), h.asked.kept fun g hg => hw.block g (h.asked.block hg).1 (fun e => hp.vt (e ▸ hg)) (fun e => hp.qv g e hg)⟩
  have := hw.here _ _ h.row
  rwa [LC_q h.kl] at this
theorem Fr.of_qw {q' : Value} (hw : QW w t 22 q q' w') (ht : D t) (hq : ∀ g, q.ownBlock = some g → D g) : Fr D w w' :=
  ⟨hw.os, hw.tape, hw.output, hw.size, fun i hi hn => hw.block i hi (fun e => hn (e ▸ ht)) (fun e => hn (hq i e))⟩
end
end Go.Proofs.Ytgjnkfbckbkcnaa
