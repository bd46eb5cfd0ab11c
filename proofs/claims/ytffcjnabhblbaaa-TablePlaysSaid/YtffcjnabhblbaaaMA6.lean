/- In one text: TabAt, TabMath, KeyDist, KeyLess, KeyPre, RndStirP, RndRandP. -/
import Derived.WalkLawsBesides
import Derived.Outline
import Derived.BigRegion
import Derived.Laws.BitsAllLaws
import Derived.Deep.DeepCutAuto
import Derived.Lib.BytesEntry
import Derived.Laws.MathBits
import Derived.Test.YtffcjnabhblbaaaRows
import Derived.WalkKit
import Derived.Lib.Hide
import Derived.IntWalk
import Derived.Test.YtffcjnabhblbaaaMA1
import Derived.Test.YtffcjnabhblbaaaMA5
namespace Go.Proofs.Ytffcjnabhblbaaa
set_option maxRecDepth 20000
open Go.RowKit Go.Deep
set_option linter.unusedVariables false
/-- A row of buckets with another one at i. -/
def upd {α : Type} (b : Nat → α) (i : Nat) (x : α) : Nat → α := fun j => if j = i then x else b j
theorem upd_same {α : Type} (b : Nat → α) (i : Nat) (x : α) : upd b i x i = x := if_pos rfl
theorem upd_ne {α : Type} (b : Nat → α) {i j : Nat} (x : α) (h : j ≠ i) : upd b i x j = b j := if_neg h
theorem upd_self {α : Type} (b : Nat → α) (i : Nat) : upd b i (b i) = b := by
  funext j; unfold upd; split
  · next h => rw [h]
  · rfl
/-- A row of lists, parted at one of them. -/
theorem flat_split {α : Type} (f : Nat → List α) {i n : Nat} (h : i < n) : (List.range n).flatMap f = (List.range i).flatMap f ++ (f i ++ (List.range (n - (i + 1))).flatMap fun j => f (i + 1 + j)) := by
  have e : n = i + (1 + (n - (i + 1))) := by omega
  conv => lhs; rw [e, List.range_add, List.flatMap_append, List.range_add]
  simp [List.flatMap_map, Nat.add_assoc]
theorem flat_congr {α : Type} {f g : Nat → List α} : ∀ {l : List Nat}, (∀ j ∈ l, f j = g j) → l.flatMap f = l.flatMap g
  | [], _ => rfl
  | a :: l, h => by rw [List.flatMap_cons, List.flatMap_cons, h a (by simp), flat_congr fun j hj => h j (by simp [hj])]
theorem map_split {α : Type} (f : Nat → α) {i n : Nat} (h : i < n) : (List.range n).map f = (List.range i).map f ++ (f i :: (List.range (n - (i + 1))).map fun j => f (i + 1 + j)) := by
  have e : n = i + (1 + (n - (i + 1))) := by omega
  conv => lhs; rw [e, List.range_add, List.map_append, List.range_add]
  simp [Nat.add_assoc, Function.comp_def]
/-- The cells of a bucket. -/
def bktL (l : List Ct) : List Value := flatC (l ++ List.replicate (3 - l.length) z21) ++ [.int .i64 (l.length : Nat)]
theorem bktL_length {l : List Ct} (h : l.length ≤ 3) : (bktL l).length = 64 := by
  unfold bktL
  rw [List.length_append, flatC_length, three_len h]; rfl
/-- The cells of a table. -/
def tabL (p : Int) (b : Nat → List Ct) : List Value := .int .i64 p :: (List.range 161).flatMap fun i => bktL (b i)
def preT (p : Int) (b : Nat → List Ct) (i : Nat) : List Value := .int .i64 p :: (List.range i).flatMap fun j => bktL (b j)
def postT (b : Nat → List Ct) (i : Nat) : List Value := (List.range (161 - (i + 1))).flatMap fun j => bktL (b (i + 1 + j))
theorem flat64 {b : Nat → List Ct} (h : ∀ i, (b i).length ≤ 3) : ∀ i, ((List.range i).flatMap fun j => bktL (b j)).length = i * 64
  | 0 => rfl
  | i + 1 => by
    rw [List.range_succ, List.flatMap_append, List.length_append, flat64 h i, List.flatMap_cons, List.flatMap_nil, List.append_nil, bktL_length (h i)]; omega
theorem preT_length (p : Int) {b : Nat → List Ct} (h : ∀ i, (b i).length ≤ 3) (i : Nat) : (preT p b i).length = 1 + i * 64 := by
  unfold preT
  rw [List.length_cons, flat64 h]; omega
theorem tabL_split (p : Int) (b : Nat → List Ct) {i : Nat} (h : i < 161) : tabL p b = preT p b i ++ (bktL (b i) ++ postT b i) := by
  unfold tabL preT postT
  rw [flat_split _ h]; rfl
theorem preT_upd (p : Int) (b : Nat → List Ct) (i : Nat) (l : List Ct) : preT p (upd b i l) i = preT p b i := by
  unfold preT
  rw [flat_congr (g := fun j => bktL (b j)) fun j hj => by rw [upd_ne _ _ (by have := List.mem_range.1 hj; omega)]]
theorem postT_upd (b : Nat → List Ct) (i : Nat) (l : List Ct) : postT (upd b i l) i = postT b i := by
  unfold postT
  exact flat_congr fun j hj => by rw [upd_ne _ _ (by omega)]
/-- Block g holds a table of peer p with these buckets. -/
structure TAt (w : World) (g : Nat) (p : Int) (b : Nat → List Ct) : Prop where
  row : w.heap[g]? = some (.cells (tabL p b).toArray 55 (0, 0))
  le : ∀ i, (b i).length ≤ 3
section
variable {w w' : World} {g : Nat} {p : Int} {b : Nat → List Ct}
theorem TAt.lt (h : TAt w g p b) : g < w.heap.size := (Array.getElem?_eq_some_iff.1 h.row).1
theorem TAt.kept (h : TAt w g p b) (hk : w'.heap[g]? = w.heap[g]?) : TAt w' g p b := ⟨hk.trans h.row, h.le⟩
theorem TAt.ext (h : TAt w g p b) (hx : w.Extends w') : TAt w' g p b := h.kept (hx.block g h.lt)
theorem TAt.peer (h : TAt w g p b) : w.cell? ⟨g, 0, none⟩ = some (.int .i64 p) := by
  rw [cell_of_row _ _ _ _ _ _ h.row]; rfl
theorem TAt.bkt (h : TAt w g p b) {i : Nat} (hi : i < 161) : BAt w g 55 (preT p b i) (b i) (postT b i) := by
  refine ⟨h.le i, ?_⟩
  unfold CAt
  rw [h.row, tabL_split p b hi]
  unfold bktL
  simp only [List.append_assoc, List.cons_append, List.nil_append]
theorem TAt.put (h : TAt w g p b) {i : Nat} (hi : i < 161) {l : List Ct} (h' : BAt w' g 55 (preT p b i) l (postT b i)) : TAt w' g p (upd b i l) := by
  refine ⟨?_, fun j => ?_⟩
  · have := h'.at_
    unfold CAt at this
    rw [this, tabL_split p (upd b i l) hi, preT_upd, postT_upd, upd_same]
    unfold bktL
    simp only [List.append_assoc, List.cons_append, List.nil_append]
  · by_cases e : j = i
    · rw [e, upd_same]; exact h'.le
    · rw [upd_ne _ _ e]; exact h.le j
end
set_option maxRecDepth 100000 in
theorem tab_zero : Try.zeroCells55 = (tabL 0 (fun _ => [])).toArray := by kernel_rfl
/-- The reference's. -/
def rtabL (p : Int) (vs : Nat → Value) : List Value := .int .i64 p :: (List.range 161).map vs
structure RTAt (w : World) (g : Nat) (p : Int) (vs : Nat → Value) (b : Nat → List Ct) : Prop where
  row : w.heap[g]? = some (.cells (rtabL p vs).toArray 61 (0, 0))
  own : ∀ i, OwnC w 0 (vs i) (b i)
  apart : ∀ i j, i ≠ j → ∀ k, (vs i).ownBlock = some k → (vs j).ownBlock ≠ some k
def rpreT (p : Int) (vs : Nat → Value) (i : Nat) : List Value := .int .i64 p :: (List.range i).map vs
def rpostT (vs : Nat → Value) (i : Nat) : List Value := (List.range (161 - (i + 1))).map fun j => vs (i + 1 + j)
theorem rpreT_length (p : Int) (vs : Nat → Value) (i : Nat) : (rpreT p vs i).length = 1 + i := by
  unfold rpreT
  rw [List.length_cons, List.length_map, List.length_range]; omega
theorem rtabL_split (p : Int) (vs : Nat → Value) {i : Nat} (h : i < 161) : rtabL p vs = rpreT p vs i ++ (vs i :: rpostT vs i) := by
  unfold rtabL rpreT rpostT
  rw [map_split _ h]; rfl
theorem rpreT_upd (p : Int) (vs : Nat → Value) (i : Nat) (v : Value) : rpreT p (upd vs i v) i = rpreT p vs i := by
  unfold rpreT
  rw [List.map_congr_left (g := vs) fun j hj => upd_ne _ _ (by have := List.mem_range.1 hj; omega)]
theorem rpostT_upd (vs : Nat → Value) (i : Nat) (v : Value) : rpostT (upd vs i v) i = rpostT vs i := by
  unfold rpostT
  exact List.map_congr_left fun j hj => upd_ne _ _ (by omega)
theorem OwnC.of_block {w w' : World} {B : Nat} {v : Value} {l : List Ct} (h : OwnC w B v l) (hk : ∀ k, v.ownBlock = some k → w'.heap[k]? = w.heap[k]?) : OwnC w' B v l := by
  refine ⟨h.1, ?_⟩
  rcases h.2 with hn | ⟨g, cap, cur, rfl, hb, hg, rest⟩
  · exact .inl hn
  · exact .inr ⟨g, cap, cur, rfl, hb, (hk g rfl).trans hg, rest⟩
section
variable {w w' : World} {g : Nat} {p : Int} {b : Nat → List Ct} {vs : Nat → Value}
theorem RTAt.lt (h : RTAt w g p vs b) : g < w.heap.size := (Array.getElem?_eq_some_iff.1 h.row).1
theorem RTAt.ne (h : RTAt w g p vs b) (i : Nat) : (vs i).ownBlock ≠ some g := fun e => by
  obtain ⟨_, _, cs, hc⟩ := (h.own i).block e
  rw [h.row] at hc
  simp only [Option.some.injEq, Obj.cells.injEq] at hc
  exact absurd hc.2.1 (by decide)
theorem RTAt.ext (h : RTAt w g p vs b) (hx : w.Extends w') : RTAt w' g p vs b := ⟨(hx.block g h.lt).trans h.row, fun i => (h.own i).ext hx, h.apart⟩
/-- It stays where neither its block nor a slice's is written. -/
theorem RTAt.kept (h : RTAt w g p vs b) {x : Nat} (hg : w.grownBy w' (some x)) (hx : x ≠ g) (hv : ∀ i, (vs i).ownBlock ≠ some x) : RTAt w' g p vs b :=
  ⟨(hg.block g h.lt (by intro e; exact hx (Option.some.inj e).symm)).trans h.row, fun i => (h.own i).kept hg (.inr (hv i)), h.apart⟩
theorem RTAt.peer (h : RTAt w g p vs b) : w.cell? ⟨g, 0, none⟩ = some (.int .i64 p) := by
  rw [cell_of_row _ _ _ _ _ _ h.row]; rfl
theorem RTAt.bkt (h : RTAt w g p vs b) {i : Nat} (hi : i < 161) : RBAt w g 61 (rpreT p vs i) (vs i) (rpostT vs i) (b i) :=
  ⟨by rw [h.row, rtabL_split p vs hi], h.own i, by decide⟩
theorem RTAt.put (h : RTAt w g p vs b) {i : Nat} (hi : i < 161) {l : List Ct} {v' : Value} (h' : RBAt w' g 61 (rpreT p vs i) v' (rpostT vs i) l) (hr : RWrote w g (vs i) v' w') : RTAt w' g p (upd vs i v') (upd b i l) := by
  refine ⟨?_, fun j => ?_, fun j k hjk x hx => ?_⟩
  · rw [h'.row, rtabL_split p (upd vs i v') hi, rpreT_upd, rpostT_upd, upd_same]
  · by_cases e : j = i
    · rw [e, upd_same, upd_same]; exact h'.own
    · rw [upd_ne _ _ e, upd_ne _ _ e]
      refine (h.own j).of_block fun k hk => hr.block k (h.own j |>.block hk).2.1 (fun e2 => h.ne j (by rw [hk, e2])) (h.apart j i e k hk)
  · have hold : ∀ m y, m ≠ i → (vs m).ownBlock = some y → v'.ownBlock ≠ some y := fun m y hm hy e2 => by
      rcases hr.new with e3 | e3
      · exact h.apart m i hm y hy (e3.symm.trans e2)
      · have := e3 y e2
        have := ((h.own m).block hy).2.1
        omega
    by_cases e : j = i
    · subst e
      rw [upd_same] at hx
      rw [upd_ne _ _ (Ne.symm hjk)]
      exact fun e4 => hold k x (Ne.symm hjk) e4 hx
    · rw [upd_ne _ _ e] at hx
      by_cases e5 : k = i
      · rw [e5, upd_same]; exact hold j x e hx
      · rw [upd_ne _ _ e5]; exact h.apart j k hjk x hx
end
set_option maxRecDepth 100000 in
theorem rtab_zero : Try.zeroCells61 = (rtabL 0 (fun _ => .slice none 0 0)).toArray := by kernel_rfl
end Go.Proofs.Ytffcjnabhblbaaa
namespace Go.Proofs.Ytffcjnabhblbaaa
set_option maxRecDepth 20000
set_option linter.unusedVariables false
/-- The contact of a peer. -/
def ctOf (q : Int) : Ct := ⟨q, KY.of [q], (KY.of_ok _).1⟩
/-- Where a peer has its bucket in the table of p. -/
def bx (p q : Int) : Nat := KY.pre (KY.of [q]) (KY.of [p])
theorem bx_lt (p q : Int) : bx p q < 161 := Nat.lt_succ_of_le (KY.pre_le (KY.of_ok _).1 (KY.of_ok _).1)
/-- Whom a table never knows. -/
abbrev Off (p q : Int) : Prop := q < 0 ∨ q = p
def tsee (p : Int) (b : Nat → List Ct) (q : Int) : Nat → List Ct := if Off p q then b else upd b (bx p q) (seeL (b (bx p q)) (ctOf q))
def tseeX (p : Int) (b : Nat → List Ct) (q : Int) : Int := if Off p q then 0 else (seeX (b (bx p q)) (ctOf q)).p
def tseeB (p : Int) (b : Nat → List Ct) (q : Int) : Bool := if Off p q then false else seeB (b (bx p q)) (ctOf q)
def tdrop (p : Int) (b : Nat → List Ct) (q : Int) : Nat → List Ct := upd b (bx p q) (dropC q (b (bx p q)))
def tdropB (p : Int) (b : Nat → List Ct) (q : Int) : Bool := isIn q (b (bx p q))
structure TInv (p : Int) (b : Nat → List Ct) : Prop where
  dst : ∀ i, Dst (b i)
  le : ∀ i, (b i).length ≤ 3
  ok : ∀ i, ∀ c ∈ b i, c = ctOf c.p ∧ ¬ Off p c.p ∧ bx p c.p = i
theorem TInv.new (p : Int) : TInv p (fun _ => []) := ⟨fun _ => Dst.nil, fun _ => Nat.zero_le _, fun _ c h => nomatch h⟩
theorem dropC_sub {q : Int} {l : List Ct} : ∀ c ∈ dropC q l, c ∈ l := fun c h => (List.mem_filter.1 h).1
theorem seeL_sub {l : List Ct} {x : Ct} : ∀ c ∈ seeL l x, c ∈ l ∨ c = x := fun c h => by
  unfold seeL at h
  split at h
  · exact .inl (dropC_sub c h)
  · rcases List.mem_append.1 h with h | h
    · exact .inl (dropC_sub c h)
    · exact .inr (by simpa using h)
theorem seeL_le {l : List Ct} {x : Ct} (h : l.length ≤ 3) : (seeL l x).length ≤ 3 := by
  have := dropC_le x.p l
  unfold seeL
  split
  · omega
  · rw [List.length_append]; simp; omega
theorem TInv.see {p : Int} {b : Nat → List Ct} (h : TInv p b) (q : Int) : TInv p (tsee p b q) := by
  unfold tsee
  split
  · exact h
  next hq =>
    refine ⟨fun i => ?_, fun i => ?_, fun i c hc => ?_⟩
    · by_cases e : i = bx p q
      · rw [e, upd_same]; exact (h.dst _).see _
      · rw [upd_ne _ _ e]; exact h.dst i
    · by_cases e : i = bx p q
      · rw [e, upd_same]; exact seeL_le (h.le _)
      · rw [upd_ne _ _ e]; exact h.le i
    · by_cases e : i = bx p q
      · rw [e, upd_same] at hc
        rcases seeL_sub c hc with hc | rfl
        · rw [e]; exact h.ok _ c hc
        · exact ⟨rfl, hq, e.symm⟩
      · rw [upd_ne _ _ e] at hc; exact h.ok i c hc
theorem TInv.drop {p : Int} {b : Nat → List Ct} (h : TInv p b) (q : Int) : TInv p (tdrop p b q) := by
  unfold tdrop
  refine ⟨fun i => ?_, fun i => ?_, fun i c hc => ?_⟩
  · by_cases e : i = bx p q
    · rw [e, upd_same]; exact (h.dst _).drop _
    · rw [upd_ne _ _ e]; exact h.dst i
  · by_cases e : i = bx p q
    · rw [e, upd_same]; exact Nat.le_trans (dropC_le _ _) (h.le _)
    · rw [upd_ne _ _ e]; exact h.le i
  · by_cases e : i = bx p q
    · rw [e, upd_same] at hc
      rw [e]; exact h.ok _ c (dropC_sub c hc)
    · rw [upd_ne _ _ e] at hc; exact h.ok i c hc
/-- Whom a table never knows is not there. -/
theorem TInv.off {p : Int} {b : Nat → List Ct} (h : TInv p b) {q : Int} (hq : Off p q) : tdrop p b q = b ∧ tdropB p b q = false := by
  have e : dropC q (b (bx p q)) = b (bx p q) := dropC_none fun c hc hcq => (h.ok _ c hc).2.1 (by rw [hcq]; exact hq)
  constructor
  · unfold tdrop; rw [e, upd_self]
  · unfold tdropB isIn; rw [e]; simp
/-- All contacts, bucket by bucket. -/
def flatT (b : Nat → List Ct) : List Ct := (List.range 161).flatMap b
def peersT (b : Nat → List Ct) : List Int := (flatT b).map Ct.p
theorem mem_flatT {b : Nat → List Ct} {c : Ct} : c ∈ flatT b ↔ ∃ i, i < 161 ∧ c ∈ b i := by simp [flatT]
theorem flat_le {b : Nat → List Ct} (h : ∀ i, (b i).length ≤ 3) : ∀ n, ((List.range n).flatMap b).length ≤ n * 3
  | 0 => by simp
  | n + 1 => by
    have := flat_le h n
    have := h n
    rw [List.range_succ, List.flatMap_append, List.length_append, List.flatMap_cons, List.flatMap_nil, List.append_nil]; omega
theorem TInv.len {p : Int} {b : Nat → List Ct} (h : TInv p b) : (flatT b).length ≤ 483 := flat_le h.le 161
theorem TInv.peer {p : Int} {b : Nat → List Ct} (h : TInv p b) : ∀ c ∈ flatT b, c = ctOf c.p ∧ ¬ Off p c.p := fun c hc => by
  obtain ⟨i, _, hc⟩ := mem_flatT.1 hc
  exact ⟨(h.ok i c hc).1, (h.ok i c hc).2.1⟩
theorem TInv.apart {p : Int} {b : Nat → List Ct} (h : TInv p b) : Dst (flatT b) := by
  unfold Dst flatT
  rw [List.pairwise_flatMap]
  refine ⟨fun i _ => h.dst i, ?_⟩
  refine List.Pairwise.imp (R := fun a b => a < b) (fun {i j} hij x hx y hy e => ?_) List.pairwise_lt_range
  have h1 := (h.ok i x hx).2.2
  have h2 := (h.ok j y hy).2.2
  rw [e] at h1
  omega
theorem TInv.nodup {p : Int} {b : Nat → List Ct} (h : TInv p b) : (peersT b).Pairwise (· ≠ ·) := by
  unfold peersT
  rw [List.pairwise_map]
  exact h.apart
/-- Ahead in order: a strict order R on numbers, by which two that neither is ahead are one. -/
structure Ord (R : Int → Int → Bool) : Prop where
  irr : ∀ x, R x x = false
  tr : ∀ x y z, R x y = true → R y z = true → R x z = true
  tot : ∀ x y, R x y = false → R y x = false → x = y
section
variable {R : Int → Int → Bool}
theorem Ord.asym (h : Ord R) {x y : Int} (hxy : R x y = true) : R y x = false := by
  cases e : R y x with
  | false => rfl
  | true => have := h.tr x y x hxy e; rw [h.irr] at this; cases this
theorem Ord.ntr (h : Ord R) {x y z : Int} (h1 : R x y = false) (h2 : R y z = false) : R x z = false := by
  cases e : R x z with
  | false => rfl
  | true =>
    cases e2 : R y x with
    | true => rw [h.tr y x z e2 e] at h2; cases h2
    | false => rw [h.tot x y h1 e2, h2] at e; cases e
def Srt (R : Int → Int → Bool) (l : List Int) : Prop := l.Pairwise fun a b => R b a = false
/-- One more is set where it belongs. -/
theorem Srt.insert (h : Ord R) {l : List Int} (hl : Srt R l) {x : Int} {j : Nat} (hj : j ≤ l.length) (h1 : ∀ m, j ≤ m → m < l.length → R x (l.getD m 0) = true) (h2 : 0 < j → R x (l.getD (j - 1) 0) = false) : Srt R (l.take j ++ [x] ++ l.drop j) := by
  have hat : ∀ m (hm : m < l.length), l.getD m 0 = l[m] := fun m hm => by simp [hm]
  have hbef : ∀ a ∈ l.take j, R x a = false := by
    intro a ha
    obtain ⟨m, hm, rfl⟩ := List.mem_iff_getElem.1 ha
    rw [List.length_take] at hm
    have hj0 : 0 < j := by omega
    have h3 := h2 hj0
    rw [List.getElem_take]
    by_cases e : m = j - 1
    · rw [hat _ (by omega)] at h3; simpa [e] using h3
    · have := List.pairwise_iff_getElem.1 hl m (j - 1) (by omega) (by omega) (by omega)
      rw [hat _ (by omega)] at h3
      exact h.ntr h3 this
  have haft : ∀ a ∈ l.drop j, R x a = true := by
    intro a ha
    obtain ⟨m, hm, rfl⟩ := List.mem_iff_getElem.1 ha
    rw [List.length_drop] at hm
    have := h1 (j + m) (by omega) (by omega)
    rw [hat _ (by omega)] at this
    rw [List.getElem_drop]; exact this
  unfold Srt
  rw [List.append_assoc, List.pairwise_append, List.singleton_append, List.pairwise_cons]
  refine ⟨hl.sublist (List.take_sublist _ _), ⟨fun a ha => h.asym (haft a ha), hl.sublist (List.drop_sublist _ _)⟩, fun a ha c hc => ?_⟩
  rcases List.mem_cons.1 hc with rfl | hc
  · exact hbef a ha
  · exact h.ntr (h.asym (haft c hc)) (hbef a ha)
theorem insert_perm (l : List Int) (x : Int) (j : Nat) : (l.take j ++ [x] ++ l.drop j).Perm (x :: l) := by
  rw [List.append_assoc, List.singleton_append]
  refine List.perm_middle.trans ?_
  rw [List.take_append_drop]
/-- There is one such order of some numbers. -/
theorem Srt.uniq (h : Ord R) {l m : List Int} (hl : Srt R l) (hm : Srt R m) (hp : l.Perm m) : l = m :=
  List.Perm.eq_of_pairwise (le := fun a b => R b a = false) (fun a b _ _ h1 h2 => h.tot a b h2 h1) hl hm hp
end
def ltI (x y : Int) : Bool := decide (x < y)
theorem ltI_ord : Ord ltI := ⟨fun x => by simp [ltI], fun x y z h1 h2 => by simp [ltI] at *; omega, fun x y h1 h2 => by simp [ltI] at *; omega⟩
theorem sortI_srt (l : List Int) : Srt ltI (l.mergeSort fun x y => decide (x ≤ y)) := by
  have := List.pairwise_mergeSort (le := fun x y : Int => decide (x ≤ y)) (fun a b c h1 h2 => by simp at *; omega) (fun a b => by simp; omega) l
  exact this.imp fun h => by simp [ltI] at *; omega
/-- All that a table knows, rising. -/
def allT (b : Nat → List Ct) : List Int := (peersT b).mergeSort fun x y => decide (x ≤ y)
theorem allT_perm (b : Nat → List Ct) : (allT b).Perm (peersT b) := List.mergeSort_perm _ _
theorem allT_srt (b : Nat → List Ct) : Srt ltI (allT b) := sortI_srt _
theorem TInv.rising {p : Int} {b : Nat → List Ct} (h : TInv p b) : (allT b).Pairwise (· < ·) := by
  have h1 : (allT b).Pairwise (· ≠ ·) := (List.Perm.pairwise_iff (fun {a b} h => Ne.symm h) (allT_perm b)).2 h.nodup
  exact ((allT_srt b).and h1).imp fun ⟨h1, h2⟩ => by simp [ltI] at h1; omega
/-- How far first, then who. -/
def lex (d : List Nat) (q : Int) (e : List Nat) (r : Int) : Bool := KY.lt d e || (!KY.lt e d && decide (q < r))
theorem lex_iff {d e : List Nat} (hd : d.length = 20) (he : e.length = 20) {q r : Int} : lex d q e r = true ↔ KY.lt d e = true ∨ (d = e ∧ q < r) := by
  unfold lex
  by_cases h : d = e
  · subst h; simp [KY.lt_self]
  · have := KY.lt_other d e (by rw [hd, he]) h
    cases h1 : KY.lt d e <;> cases h2 : KY.lt e d <;> simp_all
theorem lex_irr {d : List Nat} (hd : d.length = 20) (q : Int) : lex d q d q = false := by
  unfold lex; simp [KY.lt_self]
theorem lex_trans {d e f : List Nat} (hd : d.length = 20) (he : e.length = 20) (hf : f.length = 20) {q r s : Int} (h1 : lex d q e r = true) (h2 : lex e r f s = true) : lex d q f s = true := by
  rw [lex_iff hd he] at h1
  rw [lex_iff he hf] at h2
  rw [lex_iff hd hf]
  rcases h1 with h1 | ⟨rfl, h1⟩
  · rcases h2 with h2 | ⟨rfl, h2⟩
    · exact .inl (KY.lt_trans d e f h1 h2)
    · exact .inl h1
  · rcases h2 with h2 | ⟨rfl, h2⟩
    · exact .inl h2
    · exact .inr ⟨rfl, by omega⟩
theorem lex_tot {d e : List Nat} (hd : d.length = 20) (he : e.length = 20) {q r : Int} (h1 : lex d q e r = false) (h2 : lex e r d q = false) : d = e ∧ q = r := by
  have n1 : ¬ (KY.lt d e = true ∨ (d = e ∧ q < r)) := fun h => by rw [(lex_iff hd he).2 h] at h1; cases h1
  have n2 : ¬ (KY.lt e d = true ∨ (e = d ∧ r < q)) := fun h => by rw [(lex_iff he hd).2 h] at h2; cases h2
  by_cases h : d = e
  · refine ⟨h, ?_⟩
    have : ¬ q < r := fun h3 => n1 (.inr ⟨h, h3⟩)
    have : ¬ r < q := fun h3 => n2 (.inr ⟨h.symm, h3⟩)
    omega
  · exfalso
    have := KY.lt_other d e (by rw [hd, he]) h
    cases h3 : KY.lt d e
    · rw [h3] at this
      refine n2 (.inl ?_)
      cases h4 : KY.lt e d
      · rw [h4] at this; cases this
      · rfl
    · exact n1 (.inl h3)
theorem dist_inj {a b K : List Nat} (ha : a.length = 20) (hb : b.length = 20) (hK : K.length = 20) (h : KY.dist a K = KY.dist b K) : a = b := by
  have h1 := KY.dist_way ha hK hb
  rw [KY.dist_comm hK hb, h, KY.dist_self (KY.dist_len hb hK)] at h1
  exact (KY.dist_zero ha hb).1 h1.symm
/-- How far a peer is. -/
def far (K : List Nat) (q : Int) : List Nat := KY.dist (KY.of [q]) K
theorem far_ok {K : List Nat} (hK : KY.Ok K) (q : Int) : KY.Ok (far K q) := KY.dist_ok (KY.of_ok _) hK
/-- Which of two peers is nearer. -/
def nlt (K : List Nat) (a b : Int) : Bool := lex (far K a) a (far K b) b
theorem nlt_ord {K : List Nat} (hK : KY.Ok K) : Ord (nlt K) :=
  ⟨fun x => lex_irr (far_ok hK x).1 x, fun x y z h1 h2 => lex_trans (far_ok hK x).1 (far_ok hK y).1 (far_ok hK z).1 h1 h2, fun x y h1 h2 => (lex_tot (far_ok hK x).1 (far_ok hK y).1 h1 h2).2⟩
/-- Of those that come rising the reference's word is the same. -/
theorem nlt_rise (K : List Nat) {x y : Int} (h : y ≤ x) : nlt K x y = KY.lt (far K x) (far K y) := by
  unfold nlt lex
  have : decide (x < y) = false := by simp; omega
  rw [this]; simp
theorem nlt_far {K : List Nat} {x y : Int} (h : nlt K x y = false) : KY.lt (far K x) (far K y) = false := by
  unfold nlt lex at h
  simp at h
  exact h.1
def nearT (K : List Nat) (b : Nat → List Ct) : List Int := (peersT b).mergeSort fun x y => !nlt K y x
theorem nearT_perm (K : List Nat) (b : Nat → List Ct) : (nearT K b).Perm (peersT b) := List.mergeSort_perm _ _
theorem nearT_srt {K : List Nat} (hK : KY.Ok K) (b : Nat → List Ct) : Srt (nlt K) (nearT K b) := by
  have ho := nlt_ord hK
  have := List.pairwise_mergeSort (le := fun x y : Int => !nlt K y x) (fun x y z h1 h2 => by
      simp only [Bool.not_eq_true'] at *
      exact ho.ntr h2 h1) (fun x y => by
      cases h : nlt K y x
      · rfl
      · rw [ho.asym h]; rfl) (peersT b)
  exact this.imp fun h => by simpa using h
/-- How many are told. -/
def cutN (n : Int) : Nat := (min (max n 0) 1000).toNat
end Go.Proofs.Ytffcjnabhblbaaa
namespace Go.Proofs.Ytffcjnabhblbaaa
set_option maxRecDepth 20000
open Go.RowKit
set_option linter.unusedVariables false
/-- What stands where a call on two keys has boxed both, and laid two variables. -/
structure Four (w w1 : World) (s : Nat) (a b : List Nat) : Prop where
  below : Below w.heap.size w w1
  at_ : w.heap.size = s
  a : KAt w1 s a
  b : KAt w1 (s + 1) b
  r : KAt w1 (s + 1 + 1) KY.zero
  v : KAt w1 (s + 1 + 1 + 1) KY.zero
theorem Four.made (w : World) {a b : List Nat} (ha : KY.Ok a) (hb : KY.Ok b) :
    Four w ((((w.alloc (.cells (KC a) 24)).alloc (.cells (KC b) 24)).alloc (.cells Z20 24)).alloc (.cells Z20 24)) w.heap.size a b := by
  have h2 := KAt.new (w.alloc (.cells (KC a) 24)) hb.1
  have h3 := KAt.zeros ((w.alloc (.cells (KC a) 24)).alloc (.cells (KC b) 24))
  have h4 := KAt.zeros (((w.alloc (.cells (KC a) 24)).alloc (.cells (KC b) 24)).alloc (.cells Z20 24))
  have e : ∀ (w : World) (o : Obj), (w.alloc o).heap.size = w.heap.size + 1 := fun w o => by simp
  rw [e] at h2
  rw [e, e] at h3
  rw [e, e, e] at h4
  exact ⟨((((Below.refl _ _).alloc (Nat.le_refl _) _).alloc (by simp) _).alloc (by simp; omega) _).alloc (by simp; omega) _, rfl, (((KAt.new w ha.1).alloc _).alloc _).alloc _, (h2.alloc _).alloc _, h3.alloc _, h4⟩
set_option maxHeartbeats 1000000 in
theorem kdist_any {a b : List Nat} (ha : KY.Ok a) (hb : KY.Ok b) (w : World) :
    Calls Try.prog 48 #[KV a, KV b] w fun e w' => e = .returned (KV (KY.dist a b)) ∧ w.Extends w' := by
  obtain ⟨d, hd⟩ : ∃ d, d = KY.dist a b := ⟨_, rfl⟩
  have hdl : d.length = 20 := by rw [hd]; exact KY.dist_len ha.1 hb.1
  have HG := Lib.hid fun i => KY.dist_get ha.1 hb.1 i
  rw [← hd] at HG ⊢
  have HDL := Lib.hid hdl
  clear hd hdl
  go_enter Try.func48, Try.ntmps48
  go_wp2_with fail
  have HF := Lib.hid (Four.made w ha hb)
  generalize hw1 : World.alloc _ _ = w1 at *
  clear hw1
  obtain ⟨s, hs⟩ : ∃ s, s = w.heap.size := ⟨_, rfl⟩
  rw [← hs] at HF ⊢
  clear hs
  go_loopw [7] (fun i wr => ∃ k : Nat, k ≤ 20 ∧ i = .int .i64 k ∧ w1.grownBy wr (some (s + 1 + 1 + 1)) ∧ wr.rowIs (s + 1 + 1 + 1) 24 20 (KTo d k)) (fun i _ => (20 - intOf i).toNat)
  case atStart => exact ⟨0, by omega, rfl, grown_refl _ _, KTo.start _ HF.out.v⟩
  case round =>
    obtain ⟨k, hk, rfl, hg, hr⟩ := hrel
    by_cases h1 : k < 20
    · have hra := HF.out.a.of_block (hg.block s (by have := HF.out.a.lt; omega) (by simp; omega))
      have hrb := HF.out.b.of_block (hg.block (s + 1) (by have := HF.out.b.lt; omega) (by simp))
      have hc1 := hra.cell h1
      have hc2 := hrb.cell h1
      have hc3 := hr.cell h1
      have hf3 := hr.frozen k
      have hx := ha.lt k
      have hy := hb.lt k
      have HN := Lib.hid (KTo.next hr (i := k) rfl)
      have HGR := Lib.hid (grown_setCell hg k (.int .u8 (d.getD k 0 : Nat)))
      have HV := Lib.hid (u8_xor_nat _ _ hx hy)
      rw [HG.out k] at HN HGR
      clear hg hr hra hrb
      generalize a.getD k 0 = x at *
      generalize b.getD k 0 = y at *
      generalize KTo d k k = old at *
      go_wp2_with fail
      go_region
      rw [HV.out]
      have HR := Lib.hid HN.out.drew
      have HW := Lib.hid (grown_drew HGR.out)
      clear HN HGR
      go_wp2
      go_roundw
      case rel => exact ⟨k + 1, by omega, by go_num, HW.out, HR.out⟩
      case measure => simp [intOf]; omega
    · obtain rfl : k = 20 := by omega
      have hk1 := KAt.block (KTo.done hr) HDL.out
      have hro := HF.out.r.of_block (hg.block (s + 1 + 1) (by have := HF.out.v.lt; omega) (by simp))
      obtain ⟨old, hk4, hk5⟩ := key_block hro
      have hi := key_info HDL.out
      have hsame : old.size = (KC d).size := by rw [KC_size, HDL.out, hk5]
      have hb := HF.out.below.grown hg (by have := HF.out.below.size; omega) (fun q hq => by have := HF.out.at_; cases hq; omega)
      have HFIN := Lib.hid (key_left (r := s + 1 + 1) (k := d) (by have := HF.out.at_; omega) hb ⟨old, hk4, hk5⟩)
      clear hg hr hro hb
      go_wp2_with (first | (refine wpList_load_row rfl 24 (.tmp 5) rfl (s + 1 + 1 + 1) rfl 24 (KC d) (0, 0) _ hk1 Try.underlying24 rfl hi ?_) | (refine wpList_store_row rfl 24 (.tmp 4) (.tmp 20) rfl (s + 1 + 1) (KC d) rfl rfl 24 old hk4 hi hsame KC_one ?_))
      refine bodyPost_ret (v := KV d) (results_cell_row rfl _ _ (s + 1 + 1) 24 (KC d) (0, 0) _ rfl HFIN.out.2 Try.underlying24 rfl hi) rfl ⟨rfl, Gr.ext_of HFIN.out.1⟩
set_option maxHeartbeats 1000000 in
theorem rkdist_any {a b : List Nat} (ha : KY.Ok a) (hb : KY.Ok b) (w : World) :
    Calls Try.prog 18 #[KV a, KV b] w fun e w' => e = .returned (KV (KY.dist a b)) ∧ w.Extends w' := by
  obtain ⟨d, hd⟩ : ∃ d, d = KY.dist a b := ⟨_, rfl⟩
  have hdl : d.length = 20 := by rw [hd]; exact KY.dist_len ha.1 hb.1
  have HG := Lib.hid fun i => KY.dist_get ha.1 hb.1 i
  rw [← hd] at HG ⊢
  have HDL := Lib.hid hdl
  clear hd hdl
  go_enter Try.func18, Try.ntmps18
  go_wp2_with fail
  have HF := Lib.hid (Four.made w ha hb)
  generalize hw1 : World.alloc _ _ = w1 at *
  clear hw1
  obtain ⟨s, hs⟩ : ∃ s, s = w.heap.size := ⟨_, rfl⟩
  rw [← hs] at HF ⊢
  clear hs
  go_loopw [6] (fun i wr => ∃ k : Nat, k ≤ 20 ∧ i = .int .i64 k ∧ w1.grownBy wr (some (s + 1 + 1 + 1)) ∧ wr.rowIs (s + 1 + 1 + 1) 24 20 (KTo d k)) (fun i _ => (20 - intOf i).toNat)
  case atStart => exact ⟨0, by omega, rfl, grown_refl _ _, KTo.start _ HF.out.v⟩
  case round =>
    obtain ⟨k, hk, rfl, hg, hr⟩ := hrel
    by_cases h1 : k < 20
    · have hra := HF.out.a.of_block (hg.block s (by have := HF.out.a.lt; omega) (by simp; omega))
      have hrb := HF.out.b.of_block (hg.block (s + 1) (by have := HF.out.b.lt; omega) (by simp))
      have hc1 := hra.cell h1
      have hc2 := hrb.cell h1
      have hc3 := hr.cell h1
      have hf3 := hr.frozen k
      have hx := ha.lt k
      have hy := hb.lt k
      have HN := Lib.hid (KTo.next hr (i := k) rfl)
      have HGR := Lib.hid (grown_setCell hg k (.int .u8 (d.getD k 0 : Nat)))
      have HV := Lib.hid (u8_xor_nat _ _ hx hy)
      rw [HG.out k] at HN HGR
      clear hg hr hra hrb
      generalize a.getD k 0 = x at *
      generalize b.getD k 0 = y at *
      generalize KTo d k k = old at *
      go_wp2_with fail
      go_region
      rw [HV.out]
      have HR := Lib.hid HN.out.drew
      have HW := Lib.hid (grown_drew HGR.out)
      clear HN HGR
      go_wp2
      go_roundw
      case rel => exact ⟨k + 1, by omega, by go_num, HW.out, HR.out⟩
      case measure => simp [intOf]; omega
    · obtain rfl : k = 20 := by omega
      have hk1 := KAt.block (KTo.done hr) HDL.out
      have hro := HF.out.r.of_block (hg.block (s + 1 + 1) (by have := HF.out.v.lt; omega) (by simp))
      obtain ⟨old, hk4, hk5⟩ := key_block hro
      have hi := key_info HDL.out
      have hsame : old.size = (KC d).size := by rw [KC_size, HDL.out, hk5]
      have hb := HF.out.below.grown hg (by have := HF.out.below.size; omega) (fun q hq => by have := HF.out.at_; cases hq; omega)
      have HFIN := Lib.hid (key_left (r := s + 1 + 1) (k := d) (by have := HF.out.at_; omega) hb ⟨old, hk4, hk5⟩)
      clear hg hr hro hb
      go_wp2_with (first | (refine wpList_load_row rfl 24 (.tmp 5) rfl (s + 1 + 1 + 1) rfl 24 (KC d) (0, 0) _ hk1 Try.underlying24 rfl hi ?_) | (refine wpList_store_row rfl 24 (.tmp 4) (.tmp 20) rfl (s + 1 + 1) (KC d) rfl rfl 24 old hk4 hi hsame KC_one ?_))
      refine bodyPost_ret (v := KV d) (results_cell_row rfl _ _ (s + 1 + 1) 24 (KC d) (0, 0) _ rfl HFIN.out.2 Try.underlying24 rfl hi) rfl ⟨rfl, Gr.ext_of HFIN.out.1⟩
end Go.Proofs.Ytffcjnabhblbaaa
namespace Go.Proofs.Ytffcjnabhblbaaa
set_option maxRecDepth 20000
open Go.RowKit
set_option linter.unusedVariables false
theorem run_bytes_of_key {w : World} {s : Nat} {k : List Nat} (h : KAt w s k) (hl : k.length = 20) :
    (Extern.Bytes.bytesOf (.slice (some ⟨s, 0, none⟩) 20 20)).run Try.prog w = .ok ⟨(k.map fun x => UInt8.ofNat x).toArray⟩ w := by
  have hr := Lib.run_loadBytesX (P := Try.prog) w (k.map fun (x : Nat) => (x : Int)) ⟨s, 0, none⟩ .empty (fun j x hj => by
    have hjl : j < k.length := by have := (List.getElem?_eq_some_iff.1 hj).1; simpa using this
    have e : (⟨s, 0, none⟩ : Addr).add j = ⟨s, j, none⟩ := by unfold Addr.add; split <;> simp_all
    rw [e, h.cell (by omega), KY.get_in _ _ hjl]
    simp only [List.getElem?_map, List.getElem?_eq_getElem hjl, Option.map_some, Option.some.injEq] at hj
    rw [← hj])
  rw [List.length_map, hl] at hr
  unfold Extern.Bytes.bytesOf
  rw [hr]
  congr 1
  apply ByteArray.ext
  show (#[] : Array UInt8) ++ (Lib.bytesOf (k.map fun (x : Nat) => (x : Int))).toArray = _
  simp [Lib.bytesOf, Function.comp_def]
theorem run_compare_keys {w : World} {s r : Nat} {a b : List Nat} (ha : KAt w s a) (hb : KAt w r b) (hla : a.length = 20) (hlb : b.length = 20) :
    (Extern.BytealgCompare.compare #[.slice (some ⟨s, 0, none⟩) 20 20, .slice (some ⟨r, 0, none⟩) 20 20]).run Try.prog w = .ok (.int .i64 (Lib.compareBytes (a.map fun x => UInt8.ofNat x) (b.map fun x => UInt8.ofNat x))) w := by
  change Sem.run Try.prog (do pure (goInt (Extern.BytealgCompare.cmp (← Extern.Bytes.bytesOf (.slice (some ⟨s, 0, none⟩) 20 20)) (← Extern.Bytes.bytesOf (.slice (some ⟨r, 0, none⟩) 20 20))))) w = _
  simp only [Sem.run_bind, Sem.run_pure, run_bytes_of_key ha hla, run_bytes_of_key hb hlb, Result.andThen]
  rw [Lib.cmp_eq]
  rfl
theorem bcompare_any {w : World} {s r : Nat} {a b : List Nat} (ha : KAt w s a) (hb : KAt w r b) (hla : a.length = 20) (hlb : b.length = 20) :
    Calls Try.prog 76 #[.slice (some ⟨s, 0, none⟩) 20 20, .slice (some ⟨r, 0, none⟩) 20 20] w fun e w' => e = .returned (.int .i64 (Lib.compareBytes (a.map fun x => UInt8.ofNat x) (b.map fun x => UInt8.ofNat x))) ∧ w = w' := by
  have hr := run_compare_keys ha hb hla hlb
  go_enter Try.func76, Try.ntmps76
  go_wp2
  rw [run_callFunc_extern Try.func87 (by kernel_rfl) (by kernel_rfl) (by kernel_rfl) (e := Extern.BytealgCompare.compare) (by kernel_rfl), hr]
  simp only [Result.andThen]
  rw [Oper.upon_value]
  go_wp2
  go_ret
  exact ⟨rfl, rfl⟩
/-- What stands where a call on two keys has boxed both. -/
structure Boxed (w w1 : World) (s : Nat) (a b : List Nat) : Prop where
  ext : w.Extends w1
  at_ : w.heap.size = s
  a : KAt w1 s a
  b : KAt w1 (s + 1) b
theorem Boxed.made (w : World) {a b : List Nat} (ha : KY.Ok a) (hb : KY.Ok b) : Boxed w ((w.alloc (.cells (KC a) 24)).alloc (.cells (KC b) 24)) w.heap.size a b := by
  have h2 := KAt.new (w.alloc (.cells (KC a) 24)) hb.1
  rw [show (w.alloc (.cells (KC a) 24)).heap.size = w.heap.size + 1 by simp] at h2
  exact ⟨Gr.ext_of (((Below.refl _ _).alloc (Nat.le_refl _) _).alloc (by simp) _), rfl, (KAt.new w ha.1).alloc _, h2⟩
set_option maxHeartbeats 1000000 in
theorem rkless_any {a b : List Nat} (ha : KY.Ok a) (hb : KY.Ok b) (w : World) :
    Calls Try.prog 21 #[KV a, KV b] w fun e w' => e = .returned (.bool (KY.lt a b)) ∧ w.Extends w' := by
  obtain ⟨q, hq⟩ : ∃ q, q = KY.lt a b := ⟨_, rfl⟩
  have HC := Lib.hid hq
  rw [← hq]
  clear hq
  go_enter Try.func21, Try.ntmps21
  go_wp2_with fail
  have HB := Lib.hid (Boxed.made w ha hb)
  generalize hw1 : World.alloc _ _ = w1 at *
  clear hw1
  obtain ⟨s, hs⟩ : ∃ s, s = w.heap.size := ⟨_, rfl⟩
  rw [← hs] at HB ⊢
  clear hs
  go_loopw [5] (fun i wr => ∃ k : Nat, k ≤ 20 ∧ i = .int .i64 k ∧ w1.Extends wr ∧ q = KY.lt (a.drop k) (b.drop k)) (fun i _ => (20 - intOf i).toNat)
  case atStart => exact ⟨0, by omega, rfl, Gr.ext_refl _, HC.out⟩
  case round =>
    obtain ⟨k, hk, rfl, hx, hl⟩ := hrel
    by_cases h1 : k < 20
    · have hc1 := (HB.out.a.ext hx).cell h1
      have hc2 := (HB.out.b.ext hx).cell h1
      have hka := ha.1
      have hkb := hb.1
      have hd := KY.lt_drop (a := a) (b := b) (k := k) (by omega) (by omega)
      have HD := Lib.hid (hl.trans hd)
      have HX := Lib.hid hx
      have HXW := Lib.hid (Gr.ext_trans HB.out.ext hx)
      clear hd hl hx hka hkb
      generalize a.getD k 0 = x at *
      generalize b.getD k 0 = y at *
      go_wp2_with fail
      go_region
      by_cases h2 : x = y
      · go_wp2
        go_roundw
        case rel => exact ⟨k + 1, by omega, by go_num, Gr.ext_drew HX.out, by rw [HD.out, if_neg (by omega), if_neg (by omega)]⟩
        case measure => simp [intOf]; omega
      · go_wp2
        go_region
        go_wp2
        go_ret
        refine ⟨?_, Gr.ext_drew (Gr.ext_drew HXW.out)⟩
        rw [HD.out]
        by_cases h3 : x < y
        · rw [if_pos h3]; simp [h3]
        · rw [if_neg h3, if_pos (by omega)]; simp [h3]
    · have hkk : k = 20 := by omega
      rw [hkk, List.drop_of_length_le (by rw [ha.1]; omega)] at hl
      have HL := Lib.hid (hl.trans (show KY.lt [] _ = false by simp [KY.lt]))
      have HXW := Lib.hid (Gr.ext_trans HB.out.ext hx)
      clear hl hx
      go_wp2
      go_ret
      rw [HL.out]
      exact ⟨rfl, HXW.out⟩
end Go.Proofs.Ytffcjnabhblbaaa
namespace Go.Proofs.Ytffcjnabhblbaaa
set_option maxRecDepth 20000
open Go.RowKit
set_option linter.unusedVariables false
theorem len8_any (x : Nat) (hx : x < 256) (w : World) : Calls Try.prog 78 #[.int .u8 x] w fun e w' => e = .returned (.int .i64 (bitLen x : Nat)) ∧ w = w' := by
  go_enter Try.func78, Try.ntmps78
  have hb := bitLen_le8 x hx
  go_wp2
  go_ret
  refine ⟨?_, rfl⟩
  rw [len8tab_get x hx, IntWalk.wrap64_in _ ⟨by omega, by omega⟩]
  rfl
theorem lead8_any (x : Nat) (hx : x < 256) (w : World) : Calls Try.prog 52 #[.int .u8 x] w fun e w' => e = .returned (.int .i64 (8 - bitLen x : Nat)) ∧ w = w' := by
  have hb := bitLen_le8 x hx
  go_enter Try.func52, Try.ntmps52
  go_wp2_with fail
  refine (len8_any x hx _).mono ?_
  rintro e w' ⟨rfl, rfl⟩
  obtain ⟨n, hn⟩ : ∃ n, n = bitLen x := ⟨_, rfl⟩
  rw [← hn] at hb ⊢
  have hm : ((8 - bitLen x : Nat) : Int) = 8 - (n : Int) := by omega
  clear hn
  go_wp2
  go_ret
  refine ⟨?_, rfl⟩
  rw [hm]
  rfl
set_option maxHeartbeats 1000000 in
theorem kpre_any {a b : List Nat} (ha : KY.Ok a) (hb : KY.Ok b) (w : World) :
    Calls Try.prog 38 #[KV a, KV b] w fun e w' => e = .returned (.int .i64 (KY.pre a b : Nat)) ∧ w.Extends w' := by
  obtain ⟨q, hq⟩ : ∃ q, q = KY.pre a b := ⟨_, rfl⟩
  obtain ⟨d, hd⟩ : ∃ d, d = KY.dist a b := ⟨_, rfl⟩
  have hdk : KY.Ok d := by rw [hd]; exact KY.dist_ok ha hb
  have HC := Lib.hid (show q = KY.lead d by rw [hq, hd]; rfl)
  have HDD := Lib.hid hd
  rw [← hq]
  clear hq hd
  go_enter Try.func38, Try.ntmps38
  go_upto_region 1 with fail
  have HB := Lib.hid (Boxed.made w ha hb)
  generalize hw1 : World.alloc _ _ = w1 at *
  clear hw1
  obtain ⟨s, hs⟩ : ∃ s, s = w.heap.size := ⟨_, rfl⟩
  rw [← hs] at HB ⊢
  clear hs
  have hk1 := HB.out.a.block ha.1
  have hk2 := HB.out.b.block hb.1
  have hi1 := key_info ha.1
  have hi2 := key_info hb.1
  go_wp2_with (first | (refine wpList_load_row rfl 24 (.tmp 2) rfl s rfl 24 (KC a) (0, 0) _ hk1 Try.underlying24 rfl hi1 ?_) | (refine wpList_load_row rfl 24 (.tmp 3) rfl (s + 1) rfl 24 (KC b) (0, 0) _ hk2 Try.underlying24 rfl hi2 ?_) | fail)
  refine (kdist_any ha hb _).mono ?_
  rintro e w2 ⟨rfl, hx⟩
  rw [← HDD.out]
  have HX := Lib.hid (Gr.ext_trans HB.out.ext hx)
  clear hk1 hk2 hi1 hi2 hx HB
  have hdl := hdk.1
  go_wp2_with fail
  go_loopw [10] (fun i wr => ∃ k : Nat, k ≤ 20 ∧ i = .int .i64 k ∧ w2 = wr ∧ q = 8 * k + KY.lead (d.drop k)) (fun i _ => (20 - intOf i).toNat)
  case atStart => exact ⟨0, by omega, rfl, rfl, by rw [HC.out]; simp⟩
  case round =>
    obtain ⟨k, hk, rfl, rfl, hq⟩ := hrel
    by_cases h1 : k < 20
    · have hx := run_key_index hdl k h1
      have hb := hdk.lt k
      have hld := KY.lead_drop (d := d) (k := k) (by omega)
      rw [hld] at hq
      have HQ := Lib.hid hq
      clear hq hld
      generalize d.getD k 0 = x at *
      have h8 := bitLen_le8 x hb
      by_cases h2 : x = 0
      · subst h2
        go_wp2
        go_roundw
        case rel => exact ⟨k + 1, by omega, by go_num, by first | rfl | trivial, by rw [HQ.out]; simp; omega⟩
        case measure => simp [intOf]; omega
      · go_wp2_with fail
        refine (lead8_any x hb _).mono ?_
        rintro e w' ⟨rfl, rfl⟩
        have HQ2 := Lib.hid (show q = 8 * k + (8 - bitLen x) by rw [HQ.out, if_neg h2])
        obtain ⟨n, hn⟩ : ∃ n, n = 8 - bitLen x := ⟨_, rfl⟩
        have hn8 : n ≤ 8 := by omega
        rw [← hn] at HQ2 ⊢
        clear hn h8 HQ
        go_wp2
        go_ret
        rw [HQ2.out]
        refine ⟨?_, HX.out⟩
        show Ending.returned (.int .i64 (8 * (k : Int) + n)) = Ending.returned (.int .i64 ((8 * k + n : Nat) : Int))
        rw [show 8 * (k : Int) + n = ((8 * k + n : Nat) : Int) by omega]
    · have hkk : k = 20 := by omega
      rw [hkk, List.drop_of_length_le (by rw [hdl]; omega)] at hq
      have HQ := Lib.hid (hq.trans (show 8 * 20 + KY.lead [] = 160 by simp [KY.lead]))
      clear hq
      go_wp2
      go_ret
      rw [HQ.out]
      exact ⟨rfl, HX.out⟩
theorem and_bit (x m : Nat) (hx : x < 256) : bits .and .u8 ((x : Int) / 2 ^ m) 1 = ((x / 2 ^ m % 2 : Nat) : Int) := by
  have h := u8_and_nat (x / 2 ^ m) 1 (Nat.lt_of_le_of_lt (Nat.div_le_self _ _) hx) (by decide)
  rw [Nat.and_one_is_mod] at h
  rw [← h, Int.natCast_ediv, Int.natCast_pow]
  rfl
theorem bits_same (x y m : Nat) (hx : x < 256) (hy : y < 256) : (bits .and .u8 ((x : Int) / 2 ^ m) 1 == bits .and .u8 ((y : Int) / 2 ^ m) 1) = decide (x / 2 ^ m % 2 = y / 2 ^ m % 2) := by
  rw [and_bit x m hx, and_bit y m hy, Bool.eq_iff_iff, beq_iff_eq, decide_eq_true_eq]
  omega
set_option maxHeartbeats 1000000 in
theorem rkpre_any {a b : List Nat} (ha : KY.Ok a) (hb : KY.Ok b) (w : World) :
    Calls Try.prog 42 #[KV a, KV b] w fun e w' => e = .returned (.int .i64 (KY.pre a b : Nat)) ∧ w.Extends w' := by
  obtain ⟨q, hq⟩ : ∃ q, q = KY.pre a b := ⟨_, rfl⟩
  have HQ := Lib.hid hq
  have hq160 : q ≤ 160 := by rw [hq]; exact KY.pre_le ha.1 hb.1
  rw [← hq]
  clear hq
  go_enter Try.func42, Try.ntmps42
  go_wp2_with fail
  have HB := Lib.hid (Boxed.made w ha hb)
  generalize hw1 : World.alloc _ _ = w1 at *
  clear hw1
  obtain ⟨s, hs⟩ : ∃ s, s = w.heap.size := ⟨_, rfl⟩
  rw [← hs] at HB ⊢
  clear hs
  go_loopw [5] (fun i wr => ∃ k : Nat, k ≤ q ∧ i = .int .i64 k ∧ w1.Extends wr) (fun i _ => (q - intOf i).toNat)
  case atStart => exact ⟨0, by omega, rfl, Gr.ext_refl _⟩
  case round =>
    obtain ⟨k, hk, rfl, hx⟩ := hrel
    by_cases h1 : k < 160
    · have hc1 := (HB.out.a.ext hx).cell (i := k / 8) (by omega)
      have hc2 := (HB.out.b.ext hx).cell (i := k / 8) (by omega)
      have HX := Lib.hid hx
      have HXW := Lib.hid (Gr.ext_trans HB.out.ext hx)
      have hxa := ha.lt (k / 8)
      have hxb := hb.lt (k / 8)
      have hbs := bits_same (a.getD (k / 8) 0) (b.getD (k / 8) 0) (7 - k % 8) hxa hxb
      have hw1 : IntKind.i64.wrap ((k : Int) / 8) = ((k / 8 : Nat) : Int) := by rw [IntKind.wrap_i64]; omega
      have hw2 : IntKind.i64.wrap (7 - (k : Int).tmod 8) = ((7 - k % 8 : Nat) : Int) := by rw [Int.tmod_eq_emod_of_nonneg (by omega), IntKind.wrap_i64]; omega
      have hw3 : IntKind.u64.wrap ((7 - k % 8 : Nat) : Int) = ((7 - k % 8 : Nat) : Int) := by rw [IntKind.wrap_u64]; omega
      have hi : ((k / 8 : Nat) : Int) < 20 := by omega
      have hm : 7 - k % 8 < 8 := by omega
      have hd : decide ((k : Int) < 160) = true := by simp; omega
      by_cases h2 : k < q
      · have he : decide (a.getD (k / 8) 0 / 2 ^ (7 - k % 8) % 2 = b.getD (k / 8) 0 / 2 ^ (7 - k % 8) % 2) = true :=
          decide_eq_true (KY.pre_bits ha.1 hb.1 k (by rw [← HQ.out]; exact h2))
        rw [he] at hbs
        clear hx he
        generalize a.getD (k / 8) 0 = x at *
        generalize b.getD (k / 8) 0 = y at *
        generalize k / 8 = i at *
        generalize 7 - k % 8 = m at *
        go_wp2_with fail
        refine Gr.region 24 [(false,0),(false,1),(false,2),(false,3),(false,4),(false,5),(false,6),(false,7),(false,8),(false,9),(false,10),(false,11),(false,12),(false,13),(false,14),(false,15),(false,16),(false,17),(false,18),(false,19),(false,20),(false,21),(false,22),(false,23)] (by kernel_rfl) (by kernel_rfl) (fun d _ _ _ _ h => by cases d <;> exact h) ?_
        simp only [Gr.pick, List.getElem?_cons_zero, List.getElem?_cons_succ, List.drop_succ_cons, List.drop_zero]
        iterate 24
          refine Gr.walk_t ?_ (Or.inl ⟨by rfl, ?_⟩) ?_
          rotate_left
          · intro w' hw'
            have hc1' := hw'.cell_of hc1
            have hc2' := hw'.cell_of hc2
            clear hw'
            go_simp
            try with_reducible rfl
          simp only [Act.put, List.setIfInBounds_toArray, List.set_cons_zero, List.set_cons_succ]
        refine Gr.walk_nil ?_
        go_wp2
        go_roundw
        case rel => exact ⟨k + 1, by omega, by go_num, Gr.ext_drew HX.out⟩
        case measure => simp [intOf]; omega
      · have hkq : k = q := by omega
        have he : decide (a.getD (k / 8) 0 / 2 ^ (7 - k % 8) % 2 = b.getD (k / 8) 0 / 2 ^ (7 - k % 8) % 2) = false := by
          have := KY.pre_bit ha hb (by rw [← HQ.out]; omega)
          rw [← HQ.out, ← hkq] at this
          exact decide_eq_false this
        rw [he] at hbs
        have HK := Lib.hid hkq
        clear hx he hkq h2 hk hq160
        generalize a.getD (k / 8) 0 = x at *
        generalize b.getD (k / 8) 0 = y at *
        generalize k / 8 = i at *
        generalize 7 - k % 8 = m at *
        go_wp2_with fail
        refine Gr.region 24 [(false,0),(false,1),(false,2),(false,3),(false,4),(false,5),(false,6),(false,7),(false,8),(false,9),(false,10),(false,11),(false,12),(false,13),(false,14),(false,15),(false,16),(false,17),(false,18),(false,19),(false,20),(false,21),(false,22),(false,23)] (by kernel_rfl) (by kernel_rfl) (fun d _ _ _ _ h => by cases d <;> exact h) ?_
        simp only [Gr.pick, List.getElem?_cons_zero, List.getElem?_cons_succ, List.drop_succ_cons, List.drop_zero]
        iterate 24
          refine Gr.walk_t ?_ (Or.inl ⟨by rfl, ?_⟩) ?_
          rotate_left
          · intro w' hw'
            have hc1' := hw'.cell_of hc1
            have hc2' := hw'.cell_of hc2
            clear hw'
            go_simp
            try with_reducible rfl
          simp only [Act.put, List.setIfInBounds_toArray, List.set_cons_zero, List.set_cons_succ]
        refine Gr.walk_nil ?_
        go_wp2
        go_ret
        rw [← HK.out]
        exact ⟨rfl, Gr.ext_drew HXW.out⟩
    · have hkq : k = q := by omega
      have HK := Lib.hid hkq
      have HXW := Lib.hid (Gr.ext_trans HB.out.ext hx)
      have hd : decide ((k : Int) < 160) = false := by simp; omega
      clear hkq hk hx hq160
      go_wp2_with fail
      refine Gr.region 24 [(false,0),(false,1),(false,2),(false,3),(false,4),(false,5),(false,6),(false,7),(false,8),(false,9),(false,10),(false,11),(false,12),(false,13),(false,14),(false,15),(false,16),(false,17),(false,18),(false,19),(false,20),(false,21),(false,22),(false,23)] (by kernel_rfl) (by kernel_rfl) (fun d _ _ _ _ h => by cases d <;> exact h) ?_
      simp only [Gr.pick, List.getElem?_cons_zero, List.getElem?_cons_succ, List.drop_succ_cons, List.drop_zero]
      iterate 3
        refine Gr.walk_t ?_ (Or.inl ⟨by rfl, ?_⟩) ?_
        rotate_left
        · intro w' hw'
          clear hw'
          go_simp
          try with_reducible rfl
        simp only [Act.put, List.setIfInBounds_toArray, List.set_cons_zero, List.set_cons_succ]
      refine Gr.walk_t _ (Or.inr ⟨by rfl, rfl⟩) ?_
      simp only [Act.put, List.setIfInBounds_toArray, List.set_cons_zero, List.set_cons_succ]
      refine Gr.walk_t _ (Or.inr ⟨by rfl, rfl⟩) ?_
      simp only [Act.put, List.setIfInBounds_toArray, List.set_cons_zero, List.set_cons_succ]
      refine Gr.walk_t _ (Or.inr ⟨by rfl, rfl⟩) ?_
      simp only [Act.put, List.setIfInBounds_toArray, List.set_cons_zero, List.set_cons_succ]
      refine Gr.walk_t _ (Or.inr ⟨by rfl, rfl⟩) ?_
      simp only [Act.put, List.setIfInBounds_toArray, List.set_cons_zero, List.set_cons_succ]
      refine Gr.walk_t _ (Or.inr ⟨by rfl, rfl⟩) ?_
      simp only [Act.put, List.setIfInBounds_toArray, List.set_cons_zero, List.set_cons_succ]
      refine Gr.walk_t _ (Or.inr ⟨by rfl, rfl⟩) ?_
      simp only [Act.put, List.setIfInBounds_toArray, List.set_cons_zero, List.set_cons_succ]
      refine Gr.walk_t _ (Or.inr ⟨by rfl, rfl⟩) ?_
      simp only [Act.put, List.setIfInBounds_toArray, List.set_cons_zero, List.set_cons_succ]
      refine Gr.walk_t _ (Or.inr ⟨by rfl, rfl⟩) ?_
      simp only [Act.put, List.setIfInBounds_toArray, List.set_cons_zero, List.set_cons_succ]
      refine Gr.walk_t _ (Or.inr ⟨by rfl, rfl⟩) ?_
      simp only [Act.put, List.setIfInBounds_toArray, List.set_cons_zero, List.set_cons_succ]
      refine Gr.walk_t _ (Or.inr ⟨by rfl, rfl⟩) ?_
      simp only [Act.put, List.setIfInBounds_toArray, List.set_cons_zero, List.set_cons_succ]
      refine Gr.walk_t _ (Or.inr ⟨by rfl, rfl⟩) ?_
      simp only [Act.put, List.setIfInBounds_toArray, List.set_cons_zero, List.set_cons_succ]
      refine Gr.walk_t _ (Or.inr ⟨by rfl, rfl⟩) ?_
      simp only [Act.put, List.setIfInBounds_toArray, List.set_cons_zero, List.set_cons_succ]
      refine Gr.walk_t _ (Or.inr ⟨by rfl, rfl⟩) ?_
      simp only [Act.put, List.setIfInBounds_toArray, List.set_cons_zero, List.set_cons_succ]
      refine Gr.walk_t _ (Or.inr ⟨by rfl, rfl⟩) ?_
      simp only [Act.put, List.setIfInBounds_toArray, List.set_cons_zero, List.set_cons_succ]
      refine Gr.walk_t _ (Or.inr ⟨by rfl, rfl⟩) ?_
      simp only [Act.put, List.setIfInBounds_toArray, List.set_cons_zero, List.set_cons_succ]
      refine Gr.walk_t _ (Or.inr ⟨by rfl, rfl⟩) ?_
      simp only [Act.put, List.setIfInBounds_toArray, List.set_cons_zero, List.set_cons_succ]
      refine Gr.walk_t _ (Or.inr ⟨by rfl, rfl⟩) ?_
      simp only [Act.put, List.setIfInBounds_toArray, List.set_cons_zero, List.set_cons_succ]
      refine Gr.walk_t _ (Or.inr ⟨by rfl, rfl⟩) ?_
      simp only [Act.put, List.setIfInBounds_toArray, List.set_cons_zero, List.set_cons_succ]
      refine Gr.walk_t _ (Or.inr ⟨by rfl, rfl⟩) ?_
      simp only [Act.put, List.setIfInBounds_toArray, List.set_cons_zero, List.set_cons_succ]
      refine Gr.walk_t _ (Or.inr ⟨by rfl, rfl⟩) ?_
      simp only [Act.put, List.setIfInBounds_toArray, List.set_cons_zero, List.set_cons_succ]
      refine Gr.walk_t _ (Or.inr ⟨by rfl, rfl⟩) ?_
      simp only [Act.put, List.setIfInBounds_toArray, List.set_cons_zero, List.set_cons_succ]
      refine Gr.walk_nil ?_
      go_wp2
      go_ret
      rw [← HK.out]
      exact ⟨rfl, Gr.ext_drew HXW.out⟩
end Go.Proofs.Ytffcjnabhblbaaa
namespace Go.Proofs.Ytffcjnabhblbaaa
set_option maxRecDepth 20000
open Go.RowKit
theorem u32_mix (k x : Nat) (hx : x < 4294967296) : bits BinOp.xor IntKind.u32 (x : Int) ((x : Int) / ((2 ^ k : Nat) : Int)) = (RM.mixed k x : Nat) := by
  have h := u32_xor_nat x (x / 2 ^ k) hx (Nat.lt_of_le_of_lt (Nat.div_le_self _ _) hx)
  rw [← Int.natCast_ediv, h]; rfl
theorem u32_mul (x c : Nat) : (x : Int) * (c : Int) % 4294967296 = ((x * c % 4294967296 : Nat) : Int) := by
  rw [Int.natCast_emod, Int.natCast_mul]; rfl
theorem u32_stir (x : Nat) (hx : x < 4294967296) :
    (bits BinOp.xor IntKind.u32
      (bits BinOp.xor IntKind.u32 (bits BinOp.xor IntKind.u32 (x : Int) ((x : Int) / 65536) * 2146121005 % 4294967296) (bits BinOp.xor IntKind.u32 (x : Int) ((x : Int) / 65536) * 2146121005 % 4294967296 / 32768) * 2221713035 % 4294967296)
      (bits BinOp.xor IntKind.u32 (bits BinOp.xor IntKind.u32 (x : Int) ((x : Int) / 65536) * 2146121005 % 4294967296) (bits BinOp.xor IntKind.u32 (x : Int) ((x : Int) / 65536) * 2146121005 % 4294967296 / 32768) * 2221713035 % 4294967296 / 65536)) = (RM.stir x : Nat) := by
  have l : ∀ z : Nat, z % 4294967296 < 4294967296 := fun z => Nat.mod_lt z (by decide)
  have e1 := u32_mix 16 x hx
  have e2 := u32_mul (RM.mixed 16 x) 2146121005
  have e3 := u32_mix 15 _ (l (RM.mixed 16 x * 2146121005))
  have e4 := u32_mul (RM.mixed 15 (RM.mixed 16 x * 2146121005 % 4294967296)) 2221713035
  have e5 := u32_mix 16 _ (l (RM.mixed 15 (RM.mixed 16 x * 2146121005 % 4294967296) * 2221713035))
  have p16 : ((2 ^ 16 : Nat) : Int) = 65536 := by decide +kernel
  have p15 : ((2 ^ 15 : Nat) : Int) = 32768 := by decide +kernel
  have c1 : ((2146121005 : Nat) : Int) = 2146121005 := by decide +kernel
  have c2 : ((2221713035 : Nat) : Int) = 2221713035 := by decide +kernel
  rw [p16] at e1 e5; rw [p15] at e3; rw [c1] at e2; rw [c2] at e4
  rw [e1, e2, e3, e4, e5]; unfold RM.stir; rfl
theorem retu32 {a b : Int} (h : a = b) : Ending.returned (.int .u32 a) = .returned (.int .u32 b) := by rw [h]
theorem retn64 {a b : Int} (h : a = b) : Ending.returned (.int .i64 a) = .returned (.int .i64 b) := by rw [h]
theorem stir_any (x : Nat) (hx : x < 4294967296) (w : World) :
    Calls Try.prog 53 #[.int .u32 x] w fun e w' => e = .returned (.int .u32 (RM.stir x : Nat)) ∧ w = w' := by
  go_enter Try.func53, Try.ntmps53
  go_wp2
  go_ret
  exact ⟨retu32 (u32_stir x hx), rfl⟩
end Go.Proofs.Ytffcjnabhblbaaa
namespace Go.Proofs.Ytffcjnabhblbaaa
set_option maxRecDepth 20000
open Go.RowKit
theorem u32_drawn (s i : Nat) : ((s : Int) + (i : Int) * 2654435769) % 4294967296 = (((s + i * 2654435769) % 4294967296 : Nat) : Int) := by
  rw [Int.natCast_emod, Int.natCast_add, Int.natCast_mul]; rfl
theorem rand_val (y i : Nat) (m : Int) (h : 1 ≤ m) : (RM.stir ((RM.stir y + i * 2654435769) % 4294967296) : Int) % m = RM.rand y i m := by
  unfold RM.rand; rw [if_neg (by omega)]; rfl
theorem rand_any (y i : Nat) (m : Int) (hy : y < 4294967296) (hm0 : -9223372036854775808 ≤ m) (hm1 : m ≤ 9223372036854775807) (w : World) :
    Calls Try.prog 54 #[.int .u32 y, .int .u32 i, .int .i64 m] w fun e w' => e = .returned (.int .i64 (RM.rand y i m)) ∧ w = w' := by
  by_cases h : m < 1
  · have e : RM.rand y i m = 0 := if_pos h
    rw [e]
    go_enter Try.func54, Try.ntmps54
    go_wp2
    go_ret
    exact ⟨rfl, rfl⟩
  · have hl := RM.stir_lt ((RM.stir y + i * 2654435769) % 4294967296)
    have hr := rand_val y i m (by omega)
    go_enter Try.func54, Try.ntmps54
    go_wp2_with fail
    refine (stir_any _ hy _).mono ?_
    rintro e w' ⟨rfl, rfl⟩
    go_wp2_with fail
    rw [u32_drawn]
    refine (stir_any _ (Nat.mod_lt _ (by decide)) _).mono ?_
    rintro e w' ⟨rfl, rfl⟩
    go_wp2
    go_ret
    refine ⟨retn64 ?_, rfl⟩
    have hb := RM.rand_below y i m (by omega)
    rw [IntWalk.wrap64_in _ ⟨by omega, by omega⟩]
end Go.Proofs.Ytffcjnabhblbaaa
