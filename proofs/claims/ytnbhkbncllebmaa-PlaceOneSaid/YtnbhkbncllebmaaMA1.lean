/- In one text: Bytes, Rws, Open, Open2, Append, Ints, OpenI, Grow, Rec. -/
import Derived.WalkKit
import Derived.Below
import Derived.OpenShut
import Derived.Laws.NewBlocks
import Derived.Deep.OwnRows
import Derived.Deep.MidRow
import Derived.Laws.AppendOwn
import Derived.Laws.MakeOwn
import Derived.Deep.Matrix
import Derived.SizedLaws
import Derived.Lib.SmallJoins
import Derived.Deep.AppendSrc
import Derived.Lib.Hide
import Derived.Handy
import Derived.OrdersHeld
import Derived.StillTail
import Derived.KernelRfl
import Derived.Deep.RegionHeld
import Derived.Test.YtnbhkbncllebmaaRows
namespace Go.Proofs.Ytnbhkbncllebmaa
set_option maxRecDepth 20000
open Go.RowKit
/-- v is a slice of the bytes xs in w: empty; or its cells hold them. -/
def U8s (w : World) (v : Value) (xs : List Nat) : Prop :=
  (xs = [] ∧ ∃ a cap, v = .slice a 0 cap ∧ cap ≤ maxLen) ∨
  ∃ b off cap, v = .slice (some ⟨b, off, none⟩) xs.length cap ∧ xs.length ≤ cap ∧ cap ≤ maxLen ∧ b < w.heap.size ∧ (∀ k, k < xs.length → w.cell? ⟨b, off + k, none⟩ = some (.int .u8 (xs.getD k 0 : Nat))) ∧ ∀ x ∈ xs, x < 256
theorem U8s.below {w w' : World} {v : Value} {xs : List Nat} {B : Nat} (h : U8s w v xs) (hb : Below B w w') (hB : B = w.heap.size) : U8s w' v xs := by
  rcases h with h | ⟨b, off, cap, h1, h2, h2', h3, h4, h5⟩
  · exact .inl h
  · refine .inr ⟨b, off, cap, h1, h2, h2', Nat.lt_of_lt_of_le h3 hb.size, fun k hk => ?_, h5⟩
    rw [hb.cell (p := ⟨b, off + k, none⟩) (by show b < B; omega)]
    exact h4 k hk
theorem nil_u8s (w : World) (a : Option Addr) (cap : Nat) (h : cap ≤ maxLen := by decide) : U8s w (.slice a 0 cap) [] := .inl ⟨rfl, a, cap, rfl, h⟩
/-- WHAT THE WALK IS TOLD OF A SLICE OF INTEGERS THAT CAME IN: nil; or a row of 'cap' cells, the numbers 'zs', the first 'len' its elements. -/
def IsRow (k : IntKind) (w : World) (a : Option Addr) (len cap : Nat) (zs : List Int) : Prop :=
  (a = none ∧ len = 0 ∧ cap = 0 ∧ zs = []) ∨
  ∃ x, a = some x ∧ len ≤ cap ∧ cap ≤ maxLen ∧ zs.length = cap ∧ (∀ i, i < zs.length → w.cell? (x.add i) = some (.int k (zs.getD i 0))) ∧ ∀ n ∈ zs, (Lit.int k n).wf = true
theorem IsRow.u8s {w : World} {a : Option Addr} {len cap : Nat} {zs : List Int} (h : IsRow .u8 w a len cap zs) : U8s w (.slice a len cap) ((zs.take len).map Int.toNat) ∧ ((zs.take len).map Int.toNat).length = len := by
  rcases h with ⟨rfl, rfl, rfl, rfl⟩ | ⟨x, rfl, hl, hm, hz, hc, hw⟩
  · exact ⟨.inl ⟨rfl, none, 0, rfl, Nat.zero_le _⟩, rfl⟩
  · by_cases h0 : len = 0
    · subst h0; exact ⟨.inl ⟨rfl, some x, cap, rfl, hm⟩, rfl⟩
    · have hlen : ((zs.take len).map Int.toNat).length = len := by simp; omega
      refine ⟨.inr ?_, hlen⟩
      obtain ⟨b, off, rfl, hc'⟩ := ints_at hc (by omega)
      refine ⟨b, off, cap, by rw [hlen], by omega, hm, ?_, fun k hk => ?_, fun y hy => ?_⟩
      · have := hc' 0 (by omega)
        exact World.block_lt_of_cell? w _ this
      · rw [hlen] at hk
        rw [hc' k (by omega)]
        have hmem : zs.getD k 0 ∈ zs := by
          rw [List.getD_eq_getElem?_getD, List.getElem?_eq_getElem (by omega)]; exact List.getElem_mem _
        have hwf := hw _ hmem
        have hb : 0 ≤ zs.getD k 0 ∧ zs.getD k 0 ≤ 255 := by simpa [Lit.wf, IntKind.min, IntKind.max, IntKind.bits, IntKind.signed] using hwf
        have : (((zs.take len).map Int.toNat).getD k 0 : Int) = zs.getD k 0 := by
          simp [List.getD_eq_getElem?_getD, hk] at hb ⊢
          rw [List.getElem?_eq_getElem (by omega)] at *
          simp at hb ⊢; omega
        rw [this]
      · obtain ⟨z, hz1, rfl⟩ := List.mem_map.1 hy
        have hwf := hw _ (List.mem_of_mem_take hz1)
        have hb : 0 ≤ z ∧ z ≤ 255 := by simpa [Lit.wf, IntKind.min, IntKind.max, IntKind.bits, IntKind.signed] using hwf
        omega

theorem u8_nat {a : Int} (h : (Lit.int .u8 a).wf = true) : ∃ n : Nat, a = n ∧ n < 256 := by
  have := bounds_u8 h
  obtain ⟨n, rfl⟩ := Int.eq_ofNat_of_zero_le this.1
  exact ⟨n, rfl, by omega⟩
end Go.Proofs.Ytnbhkbncllebmaa
namespace Go.Proofs.Ytnbhkbncllebmaa
set_option maxRecDepth 20000
open Go.RowKit
/-- Block b of w is a row of the bytes xs, not frozen. -/
def Own (w : World) (b : Nat) (T : TypeId) (xs : List Nat) : Prop := w.rowIs b T xs.length (fun i => .int .u8 (xs.getD i 0 : Nat)) ∧ xs.length ≤ maxLen ∧ ∀ x ∈ xs, x < 256
theorem Own.lt {w : World} {b : Nat} {T : TypeId} {xs : List Nat} (h : Own w b T xs) : b < w.heap.size := h.1.lt
theorem Own.u8s {w : World} {b : Nat} {T : TypeId} {xs : List Nat} (h : Own w b T xs) : U8s w (.slice (some ⟨b, 0, none⟩) xs.length xs.length) xs :=
  .inr ⟨b, 0, xs.length, rfl, Nat.le_refl _, h.2.1, h.lt, fun k hk => by rw [Nat.zero_add]; exact h.1.cell hk, h.2.2⟩
theorem Own.block {w w' : World} {b : Nat} {T : TypeId} {xs : List Nat} (h : Own w b T xs) (e : w'.heap[b]? = w.heap[b]?) : Own w' b T xs := ⟨h.1.of_block e, h.2⟩
theorem Own.below {w w' : World} {b B : Nat} {T : TypeId} {xs : List Nat} (h : Own w b T xs) (hb : Below B w w') (hB : b < B) : Own w' b T xs := h.block (hb.block b hB)
theorem Own.alloc {w : World} {b : Nat} {T : TypeId} {xs : List Nat} (h : Own w b T xs) (o : Obj) : Own (w.alloc o) b T xs := ⟨h.1.alloc o, h.2⟩
theorem Own.grown {w w' : World} {b : Nat} {T : TypeId} {xs : List Nat} (h : Own w b T xs) {r : Option Nat} (hg : w.grownBy w' r) (hr : some b ≠ r) : Own w' b T xs := h.block (hg.block b h.lt hr)
theorem getD_set (xs : List Nat) (i v j : Nat) (hi : i < xs.length) : (xs.set i v).getD j 0 = if j = i then v else xs.getD j 0 := by
  by_cases h : j = i
  · subst h; simp [hi]
  · rw [if_neg h]; simp [List.getD_eq_getElem?_getD, Ne.symm h]
theorem Own.set {w : World} {b : Nat} {T : TypeId} {xs : List Nat} (h : Own w b T xs) (i v : Nat) (hi : i < xs.length) (hv : v < 256) : Own (w.setCell ⟨b, i, none⟩ (.int .u8 (v : Nat))) b T (xs.set i v) := by
  refine ⟨?_, by simpa using h.2.1, fun x hx => ?_⟩
  · rw [List.length_set]
    refine (h.1.set i _).congr fun j hj => ?_
    rw [getD_set xs i v j hi]
    split <;> rfl
  · rcases List.mem_or_eq_of_mem_set hx with h' | h'
    · exact h.2.2 x h'
    · subst h'; exact hv
theorem Own.made (w : World) (n : Nat) (T : TypeId) (hn : n ≤ maxLen) : Own (w.alloc (.cells (madeCells #[.int .u8 0] n) T)) w.heap.size T (List.replicate n 0) := by
  refine ⟨?_, by simpa using hn, fun x hx => ?_⟩
  · rw [List.length_replicate]
    refine (World.rowIs_made w (.int .u8 0) n T).congr fun i hi => ?_
    simp [List.getD_eq_getElem?_getD, hi]
  · rw [(List.mem_replicate.1 hx).2]; decide
theorem U8s.slice {w : World} {v : Value} {xs : List Nat} (h : U8s w v xs) : ∃ a cap, v = .slice a xs.length cap ∧ xs.length ≤ cap ∧ cap ≤ maxLen := by
  rcases h with ⟨rfl, a, cap, rfl, hm⟩ | ⟨b, off, cap, rfl, h1, h2, _⟩
  · exact ⟨a, cap, rfl, Nat.zero_le _, hm⟩
  · exact ⟨_, cap, rfl, h1, h2⟩
theorem U8s.len {w : World} {v : Value} {xs : List Nat} (h : U8s w v xs) : xs.length ≤ maxLen := by
  rcases h with ⟨rfl, _⟩ | ⟨b, off, cap, rfl, h1, h2, _⟩
  · simp [maxLen]
  · exact Nat.le_trans h1 h2
theorem U8s.lt {w : World} {v : Value} {xs : List Nat} (h : U8s w v xs) : ∀ x ∈ xs, x < 256 := by
  rcases h with ⟨rfl, _⟩ | ⟨b, off, cap, rfl, h1, h2, h3, h4, h5⟩
  · intro x hx; cases hx
  · exact h5
theorem U8s.ext {w w' : World} {v : Value} {xs : List Nat} (h : U8s w v xs) (hb : w.Extends w') : U8s w' v xs := by
  rcases h with h | ⟨b, off, cap, h1, h2, h2', h3, h4, h5⟩
  · exact .inl h
  · exact .inr ⟨b, off, cap, h1, h2, h2', Nat.lt_of_lt_of_le h3 hb.size, fun k hk => (hb.cell ⟨b, off + k, none⟩ h3).trans (h4 k hk), h5⟩
/-- It stays where block b alone may have changed, and is not that block. -/
theorem U8s.grown {w w' : World} {v : Value} {xs : List Nat} (h : U8s w v xs) {r : Option Nat} (hg : w.grownBy w' r) (hr : xs = [] ∨ v.ownBlock ≠ r) : U8s w' v xs := by
  rcases h with h | ⟨b, off, cap, h1, h2, h2', h3, h4, h5⟩
  · exact .inl h
  · rcases hr with rfl | hr
    · subst h1; exact .inl ⟨rfl, _, _, rfl, h2'⟩
    refine .inr ⟨b, off, cap, h1, h2, h2', Nat.lt_of_lt_of_le h3 hg.size, fun k hk => ?_, h5⟩
    refine (World.cell?_of_block (w := w) (hg.block b h3 ?_)).trans (h4 k hk)
    subst h1
    simpa [Value.ownBlock] using hr
theorem U8s.take {w : World} {a : Option Addr} {cap : Nat} {xs : List Nat} (h : U8s w (.slice a xs.length cap) xs) (n : Nat) : U8s w (.slice a (min n xs.length) cap) (xs.take n) := by
  rcases h with ⟨rfl, a', cap', hv, hm⟩ | ⟨b, off, cap', hv, h2, h2', h3, h4, h5⟩
  · cases hv; exact .inl ⟨by simp, a, cap, by simp, hm⟩
  · cases hv
    by_cases h0 : min n xs.length = 0
    · refine .inl ⟨?_, _, _, by rw [h0], h2'⟩
      apply List.eq_nil_of_length_eq_zero; rw [List.length_take]; exact h0
    · refine .inr ⟨b, off, cap, by rw [List.length_take], by rw [List.length_take]; omega, h2', h3, fun k hk => ?_, fun x hx => h5 x (List.mem_of_mem_take hx)⟩
      rw [List.length_take] at hk
      rw [h4 k (by omega)]
      simp [List.getD_eq_getElem?_getD, show k < n by omega]
theorem U8s.cell {w : World} {a : Option Addr} {n cap : Nat} {xs : List Nat} (h : U8s w (.slice a n cap) xs) : n = xs.length ∧ (0 < n → ∃ b off, a = some ⟨b, off, none⟩ ∧ b < w.heap.size ∧ ∀ k, k < n → w.cell? ⟨b, off + k, none⟩ = some (.int .u8 (xs.getD k 0 : Nat))) := by
  rcases h with ⟨rfl, a', cap', hv, _⟩ | ⟨b, off, cap', hv, h2, h2', h3, h4, h5⟩
  · cases hv; exact ⟨rfl, fun h => absurd h (Nat.lt_irrefl _)⟩
  · cases hv; exact ⟨rfl, fun _ => ⟨b, off, rfl, h3, h4⟩⟩
theorem grown_refl (w : World) (r : Option Nat) : w.grownBy w r := ⟨rfl, rfl, rfl, Nat.le_refl _, fun _ _ _ => rfl⟩
theorem grown_trans {a b c : World} {r : Option Nat} (h : a.grownBy b r) (k : b.grownBy c r) : a.grownBy c r :=
  ⟨k.os.trans h.os, k.tape.trans h.tape, k.output.trans h.output, Nat.le_trans h.size k.size, fun i hi hr => (k.block i (Nat.lt_of_lt_of_le hi h.size) hr).trans (h.block i hi hr)⟩
theorem grown_setCell {a b : World} {g : Nat} (h : a.grownBy b (some g)) (i : Nat) (v : Value) : a.grownBy (b.setCell ⟨g, i, none⟩ v) (some g) :=
  ⟨h.os, h.tape, h.output, by simpa using h.size, fun k hk hr => (Below.heap_setCell b ⟨g, i, none⟩ v k (fun e => hr (by rw [e]))).trans (h.block k hk hr)⟩
theorem grown_drew {a b : World} {r : Option Nat} (h : a.grownBy b r) : a.grownBy b.drew r := ⟨h.os, h.tape, h.output, h.size, h.block⟩
theorem U8s.old {w : World} {v : Value} {xs : List Nat} (h : U8s w v xs) {b : Nat} (hb : w.heap.size ≤ b) : xs = [] ∨ v.ownBlock ≠ some b := by
  rcases h with h | ⟨b', off, cap, rfl, h2, h2', h3, h4, h5⟩
  · exact .inl h.1
  · exact .inr (by simp [Value.ownBlock]; omega)
theorem U8s.drew {w : World} {v : Value} {xs : List Nat} (h : U8s w v xs) : U8s w.drew v xs := h.ext ⟨rfl, rfl, rfl, Nat.le_refl _, fun _ _ => rfl, fun _ _ => rfl, fun _ _ => rfl⟩
/-- A slice of rows of bytes. -/
def Rws (w : World) (v : Value) (l : List (List Nat)) : Prop :=
  (l = [] ∧ ∃ a cap, v = .slice a 0 cap) ∨
  ∃ b off cap, v = .slice (some ⟨b, off, none⟩) l.length cap ∧ l.length ≤ cap ∧ cap ≤ maxLen ∧ b < w.heap.size ∧ ∀ k, k < l.length → ∃ u, w.cell? ⟨b, off + k, none⟩ = some u ∧ U8s w u (l.getD k [])
theorem Rws.nil (w : World) (a : Option Addr) (cap : Nat) : Rws w (.slice a 0 cap) [] := .inl ⟨rfl, a, cap, rfl⟩
theorem Rws.ext {w w' : World} {v : Value} {l : List (List Nat)} (h : Rws w v l) (hb : w.Extends w') : Rws w' v l := by
  rcases h with h | ⟨b, off, cap, h1, h2, h2', h3, h4⟩
  · exact .inl h
  · refine .inr ⟨b, off, cap, h1, h2, h2', Nat.lt_of_lt_of_le h3 hb.size, fun k hk => ?_⟩
    obtain ⟨u, hu, hv⟩ := h4 k hk
    exact ⟨u, (hb.cell ⟨b, off + k, none⟩ h3).trans hu, hv.ext hb⟩
theorem ext_below {B : Nat} {w w' : World} (h : Below B w w') (hB : B = w.heap.size) : w.Extends w' := by
  subst hB
  exact ⟨h.os, h.tape, h.output, h.size, fun _ ha => World.cell?_of_block (w := w) (h.block _ ha), fun _ ha => World.frozen?_of_block (w := w) (h.block _ ha), h.block⟩
theorem Rws.below {w w' : World} {v : Value} {l : List (List Nat)} (h : Rws w v l) {B : Nat} (hb : Below B w w') (hB : B = w.heap.size) : Rws w' v l := h.ext (ext_below hb hB)
theorem Rws.slice {w : World} {v : Value} {l : List (List Nat)} (h : Rws w v l) : ∃ a cap, v = .slice a l.length cap ∧ l.length ≤ cap := by
  rcases h with ⟨rfl, a, cap, rfl⟩ | ⟨b, off, cap, rfl, h1, _⟩
  · exact ⟨a, cap, rfl, Nat.zero_le _⟩
  · exact ⟨_, cap, rfl, h1⟩
theorem Rws.len {w : World} {v : Value} {l : List (List Nat)} (h : Rws w v l) : l.length ≤ maxLen := by
  rcases h with ⟨rfl, _⟩ | ⟨b, off, cap, rfl, h1, h2, _⟩
  · simp [maxLen]
  · exact Nat.le_trans h1 h2
/-- Row k: its cell, and how it reads. -/
theorem Rws.at {w : World} {a : Option Addr} {n cap : Nat} {l : List (List Nat)} (h : Rws w (.slice a n cap) l) : n = l.length ∧ (0 < n → ∃ b off, a = some ⟨b, off, none⟩ ∧ b < w.heap.size ∧ ∀ k, k < n → ∃ a' c', w.cell? ⟨b, off + k, none⟩ = some (.slice a' (l.getD k []).length c') ∧ U8s w (.slice a' (l.getD k []).length c') (l.getD k [])) := by
  rcases h with ⟨rfl, a', cap', hv⟩ | ⟨b, off, cap', hv, h2, h2', h3, h4⟩
  · cases hv; exact ⟨rfl, fun h => absurd h (Nat.lt_irrefl _)⟩
  · cases hv
    refine ⟨rfl, fun _ => ⟨b, off, rfl, h3, fun k hk => ?_⟩⟩
    obtain ⟨u, hu, hs⟩ := h4 k hk
    obtain ⟨a', c', rfl, _, _⟩ := hs.slice
    exact ⟨a', c', hu, hs⟩
theorem ext_alloc (w : World) (o : Obj) : w.Extends (w.alloc o) := ext_below ((Below.refl _ _).alloc (Nat.le_refl _) _) rfl
theorem Rws.drew {w : World} {v : Value} {l : List (List Nat)} (h : Rws w v l) : Rws w.drew v l := h.ext ⟨rfl, rfl, rfl, Nat.le_refl _, fun _ _ => rfl, fun _ _ => rfl, fun _ _ => rfl⟩
end Go.Proofs.Ytnbhkbncllebmaa
namespace Go.Proofs.Ytnbhkbncllebmaa
set_option maxRecDepth 20000
open Go.RowKit Go.Deep Go.ChangeShapes Go.WideShapes
section
variable {H : Type} {enc : TypeId × Value → H} {P : Program} {w : World} {base : Nat} {held : Bool}
theorem open_u8s {t e : TypeId} {fuel : Nat} {v : Value} {x : DataW H × List MemPlace} (ht : P.underlying t = some (.slice e)) (he : P.underlying e = some (.int .u8)) (hc : P.cellsOf e = 1)
    (hv : ∃ a len cap, v = .slice a len cap) (h : DataW.trod enc P w base (fun _ => true) held fuel t v.cells.toList = some x) : ∃ xs, U8s w v xs := by
  obtain ⟨a, len, cap, rfl⟩ := hv
  rcases open_ints ht he hc h with ⟨hcs, _⟩ | ⟨a', len', cap', zs, hcs, _, hl, hm, hz, _, hcell, hwz⟩
  · simp [Value.cells] at hcs
    obtain ⟨rfl, rfl, rfl⟩ := hcs
    exact ⟨[], .inl ⟨rfl, none, 0, rfl, Nat.zero_le _⟩⟩
  · simp [Value.cells] at hcs
    obtain ⟨rfl, rfl, rfl⟩ := hcs
    simp only [if_true] at hz
    have := (IsRow.u8s (w := w) (a := some a') (len := len) (cap := cap) (zs := zs) (.inr ⟨a', rfl, hl, hm, hz, hcell, hwz⟩))
    exact ⟨_, this.1⟩
end
end Go.Proofs.Ytnbhkbncllebmaa
namespace Go.Proofs.Ytnbhkbncllebmaa
set_option maxRecDepth 20000
open Go.RowKit Go.Deep Go.ChangeShapes Go.WideShapes
set_option linter.unusedVariables false
section
variable {H : Type} {enc : TypeId × Value → H} {P : Program} {w : World} {base : Nat} {held : Bool}
theorem open_two {r : Reach} {b0 : Nat} {t : TypeId} {f0 f1 : Field} {v : Value} {d : DataW H} {p : List MemPlace} {spare : Nat → Bool} (hs : P.underlying t = some (.struct #[f0, f1])) (hone : oneCellFields P #[f0, f1] = true) (hC : P.cellsOf t = 2)
    (k0 : P.underlying f0.type = some (.int .i64)) (k1 : P.underlying f1.type = some (.int .i64))
    (hv : Value.okWide P w r b0 t v) (h : DataW.Trod enc P w base spare held t v d p) :
    ∃ a b : Int, v = .agg #[.int .i64 a, .int .i64 b] ∧ (Lit.int .i64 a).wf = true ∧ (Lit.int .i64 b).wf = true := by
  obtain ⟨v0, v1, y0, y1, n, rfl, _, _, h0, h1⟩ := Joins.open_agg2 hs hone hC hv h
  obtain ⟨a, ha, _, wa⟩ := DataW.trod_int k0 h0
  obtain ⟨b, hb, _, wb⟩ := DataW.trod_int k1 h1
  simp only [List.cons.injEq, and_true] at ha hb
  subst ha; subst hb
  exact ⟨a, b, rfl, wa, wb⟩
end
end Go.Proofs.Ytnbhkbncllebmaa
namespace Go.Proofs.Ytnbhkbncllebmaa
set_option maxRecDepth 20000
open Go.RowKit Go.Deep
section
variable {P : Program} (w : World)
theorem run_append_own_src (base : Nat) (t tx ty e : TypeId) (i : TypeInfo) (z : Value) (size bytes : Nat) (ht : P.underlying t = some (.slice e)) (hi : P.info? e = some i) (hz : i.zero = some z)
    (hsize : i.size = size) (hby : i.bytes = bytes) (hzs : z.cells.size = size)
    (v : Value) (n : Nat) (xs : List Value) (hown : w.ownsRow base e size v n xs) (x : Value) (m : Nat) (news : List Value) (hs : Src P size tx x m news w)
    (h63 : n + m ≤ maxLen) (hbytes : (n + m) * bytes ≤ 140737488355328) (hbase : base ≤ w.heap.size) :
    ∃ v' w', (Builtin.append_ #[t, tx] ty #[v, x]).run P w = .ok v' w' ∧ w'.ownsRow base e size v' (n + m) (xs ++ news) ∧ w.grownBy w' v.ownBlock ∧
      (v' = .slice none 0 0 ↔ v = .slice none 0 0 ∧ m = 0) := by
  subst hsize
  subst hby
  have hsmall : n + m ≤ 9223372036854775807 := by simp only [maxLen] at h63; omega
  have hl := hs.newsLen
  have hlen : (xs ++ news).length = (n + m) * i.size := by rw [List.length_append, hown.1, hl, Nat.add_mul]
  have grown : ∀ (old : Nat), old < n + m → ∀ (row : Option Nat),
      (w.drew.alloc (.cells ((xs ++ news).toArray ++ Builtin.zeroCells z.cells (grownCap w (n + m) old e - (n + m))) e)).ownsRow base e i.size
        (.slice (some ⟨w.heap.size, 0, none⟩) (n + m) (grownCap w (n + m) old e)) (n + m) (xs ++ news) ∧
      w.grownBy (w.drew.alloc (.cells ((xs ++ news).toArray ++ Builtin.zeroCells z.cells (grownCap w (n + m) old e - (n + m))) e)) row := by
    intro old ho row
    have hge := grownCap_ge w (n + m) old e
    have hcm : grownCap w (n + m) old e ≤ maxLen := grownCap_le_maxLen w (n + m) old e h63
    refine ⟨⟨hlen, .inr ⟨w.heap.size, _, _, rfl, hbase, heap_alloc_new w.drew _, hge, hcm, ?_, ?_⟩⟩, ⟨rfl, rfl, rfl, by simp, fun k hk _ => Below.heap_alloc w.drew _ k hk⟩⟩
    · simp only [Array.size_append, List.size_toArray, size_zeroCells, hzs, hlen, ← Nat.add_mul]
      congr 1
      omega
    · simp only [Array.toList_append]
      rw [← hlen]
      exact List.take_left
  rcases hown.2 with ⟨rfl, rfl⟩ | ⟨g, cap, cur, rfl, hbg, hg, hnc, hcm, hcs, htake⟩
  · have hx : xs = [] := List.eq_nil_of_length_eq_zero (by simpa using hown.1)
    subst hx
    by_cases hm : m = 0
    · subst hm
      have hn : news = [] := List.eq_nil_of_length_eq_zero (by simpa using hl)
      subst hn
      refine ⟨.slice none 0 0, w, ?_, World.ownsRow_nil w base e i.size, ⟨rfl, rfl, rfl, Nat.le_refl _, fun _ _ _ => rfl⟩, by simp⟩
      rcases hs.kind with ⟨e', hk⟩ | hk <;> simp [Builtin.append_, run_underlying ht, run_underlying hk, sizeOf, typeInfo, hi, hs.len, hs.cells]
    · have hr := run_append_grow_src (P := P) w t tx ty e i z ht hi hz none 0 0 [] (by simp [Builtin.firstCells]) x m news hs (by omega) (by omega) (growslice_fits (by omega) (by have hb := hbytes; simp only [Nat.zero_add] at hb ⊢; exact hb))
      have hgr := grown 0 (by omega) (Value.ownBlock (.slice none 0 0))
      simp only [Nat.zero_add, List.nil_append] at hgr hr ⊢
      exact ⟨_, _, hr, hgr.1, hgr.2, by simp [hm]⟩
  · by_cases hroom : n + m ≤ cap
    · have hfit : n * i.size + news.length ≤ cur.size := by rw [hl, hcs, ← Nat.add_mul]; exact Nat.mul_le_mul_right _ hroom
      have hst := run_storeCells_at P g (n * i.size) e news 0 cur w hg (by simpa using hfit) hs.one
      simp only [Nat.add_zero] at hst
      have hr : (Builtin.append_ #[t, tx] ty #[.slice (some ⟨g, 0, none⟩) n cap, x]).run P w =
          .ok (.slice (some ⟨g, 0, none⟩) (n + m) cap) (w.setRow g (cur.toList.take (n * i.size) ++ news ++ cur.toList.drop (n * i.size + news.length)).toArray) := by
        rcases hs.kind with ⟨e', hk⟩ | hk <;> simp [Builtin.append_, run_underlying ht, run_underlying hk, sizeOf, typeInfo, hi, hs.len, hroom, hs.cells, Addr.add_lit, hst]
      refine ⟨_, _, hr, ⟨hlen, .inr ⟨g, cap, _, rfl, hbg, setRow_heap w g cur _ e _ hg, hroom, hcm, ?_, ?_⟩⟩, ⟨rfl, rfl, rfl, by simp, fun k _ hk => setRow_other w g k _ (fun e => hk (by simp [Value.ownBlock, e]))⟩, by simp⟩
      · simp only [List.size_toArray, List.length_append, List.length_take, List.length_drop, Array.length_toList]
        omega
      · rw [htake, ← hlen]
        exact List.take_left
    · have holds : ∀ j u, xs[j]? = some u → w.cell? ((⟨g, 0, none⟩ : Addr).add j) = some u := hown.cells (g := g) rfl
      have hold := run_firstCells_some (P := P) w.drew i.size n ⟨g, 0, none⟩ n cap xs hown.1 (by simpa using holds)
      have hr := run_append_grow_src (P := P) w t tx ty e i z ht hi hz (some ⟨g, 0, none⟩) n cap xs hold x m news hs (by omega) (by omega) (growslice_fits (by omega) hbytes)
      have hgr := grown cap (by omega) (Value.ownBlock (.slice (some ⟨g, 0, none⟩) n cap))
      exact ⟨_, _, hr, hgr.1, hgr.2, by simp⟩
theorem wp_append_own_src {o : Oper} {a : Act} {K : Act → World → Prop} {Q : Exit → Act → World → Prop} (s x : Operand) (t tx : TypeId)
    (ho : o.op = .call { callee := .builtin .append, args := #[s, x], argTypes := #[t, tx] })
    (base : Nat) (e : TypeId) (i : TypeInfo) (z : Value) (size bytes : Nat) (ht : P.underlying t = some (.slice e)) (hi : P.info? e = some i) (hz : i.zero = some z)
    (hsize : i.size = size) (hby : i.bytes = bytes) (hzs : z.cells.size = size)
    (v : Value) (n : Nat) (xs : List Value) (hs : a.eval s = v) (hown : w.ownsRow base e size v n xs) (y : Value) (m : Nat) (news : List Value) (hx : a.eval x = y) (hsrc : Src P size tx y m news w)
    (h63 : n + m ≤ maxLen) (hbytes : (n + m) * bytes ≤ 140737488355328) (hbase : base ≤ w.heap.size)
    (h : ∀ v' w', w'.ownsRow base e size v' (n + m) (xs ++ news) → w.grownBy w' v.ownBlock → (v' = .slice none 0 0 ↔ v = .slice none 0 0 ∧ m = 0) → K (a.put o.dst v') w') : o.wp P a w K Q := by
  obtain ⟨v', w', hr, h2, h3, h4⟩ := run_append_own_src (P := P) w base t tx o.type e i z size bytes ht hi hz hsize hby hzs v n xs hown y m news hsrc h63 hbytes hbase
  unfold Oper.wp execOp
  simp only [ho, resolve, invoke, builtin, Sem.run_bind, Sem.run_pure, Result.andThen_ok, List.map_toArray, List.map_cons, List.map_nil, hs, hx, hr]
  exact h v' w' h2 h3 h4
theorem wpList_append_own_src {ops : Array Oper} {rest : List Oper} {o : Oper} {a : Act} {Q : Exit → Act → World → Prop} (hgd : o.guard = none) (s x : Operand) (t tx : TypeId)
    (ho : o.op = .call { callee := .builtin .append, args := #[s, x], argTypes := #[t, tx] })
    (base : Nat) (e : TypeId) (i : TypeInfo) (z : Value) (size bytes : Nat) (ht : P.underlying t = some (.slice e)) (hi : P.info? e = some i) (hz : i.zero = some z)
    (hsize : i.size = size) (hby : i.bytes = bytes) (hzs : z.cells.size = size)
    (v : Value) (n : Nat) (xs : List Value) (hs : a.eval s = v) (hown : w.ownsRow base e size v n xs) (y : Value) (m : Nat) (news : List Value) (hx : a.eval x = y) (hsrc : Src P size tx y m news w)
    (h63 : n + m ≤ maxLen) (hbytes : (n + m) * bytes ≤ 140737488355328) (hbase : base ≤ w.heap.size)
    (h : ∀ v' w', w'.ownsRow base e size v' (n + m) (xs ++ news) → w.grownBy w' v.ownBlock → (v' = .slice none 0 0 ↔ v = .slice none 0 0 ∧ m = 0) → wpList P ops Q rest (a.put o.dst v') w') : wpList P ops Q (o :: rest) a w :=
  wpList_plain hgd fun _ hK => wp_append_own_src w s x t tx ho base e i z size bytes ht hi hz hsize hby hzs v n xs hs hown y m news hx hsrc h63 hbytes hbase fun v' w' h2 h3 h4 => hK _ _ (h v' w' h2 h3 h4)
end
/-- Bytes as values. -/
def u8vs (xs : List Nat) : List Value := xs.map fun (x : Nat) => Value.int .u8 (x : Int)
theorem u8vs_length (xs : List Nat) : (u8vs xs).length = xs.length := by simp [u8vs]
theorem u8vs_at (xs : List Nat) (j : Nat) (u : Value) (h : (u8vs xs)[j]? = some u) : j < xs.length ∧ u = .int .u8 (xs.getD j 0 : Nat) := by
  have hj : j < xs.length := by
    rcases Nat.lt_or_ge j xs.length with h' | h'
    · exact h'
    · rw [List.getElem?_eq_none (by rw [u8vs_length]; exact h')] at h; cases h
  refine ⟨hj, ?_⟩
  simp [u8vs, hj] at h
  simp [hj, ← h]
/-- A slice of bytes as a source of append. -/
theorem U8s.src {P : Program} {w : World} {v : Value} {xs : List Nat} (h : U8s w v xs) {tx e' : TypeId} (hk : P.underlying tx = some (.slice e')) : Src P 1 tx v xs.length (u8vs xs) w := by
  obtain ⟨a, cap, rfl, _, _⟩ := h.slice
  by_cases h0 : xs.length = 0
  · have : xs = [] := List.eq_nil_of_length_eq_zero h0
    subst this
    cases a with
    | none => exact Src.ofNil w hk cap
    | some a => exact Src.ofSlice w hk a 0 cap [] rfl (by simp) (by simp)
  · obtain ⟨b, off, rfl, _, hc⟩ := h.cell.2 (by omega)
    refine Src.ofSlice w hk ⟨b, off, none⟩ xs.length cap (u8vs xs) (by rw [u8vs_length, Nat.mul_one]) (fun j u hu => ?_) (fun u hu => ?_)
    · obtain ⟨hj, rfl⟩ := u8vs_at xs j u hu
      rw [Addr.add_mid]; exact hc j hj
    · obtain ⟨x, _, rfl⟩ := List.mem_map.1 hu; rfl
/-- A slice of bytes that the call has appended together. -/
theorem owns_u8s {w : World} {base : Nat} {T : TypeId} {v : Value} {n : Nat} {xs : List Nat} (h : w.ownsRow base T 1 v n (u8vs xs)) (hlt : ∀ x ∈ xs, x < 256) : U8s w v xs := by
  have hn : xs.length = n := by have := h.1; rw [u8vs_length, Nat.mul_one] at this; exact this
  rcases h.2 with ⟨rfl, rfl⟩ | ⟨g, cap, cur, rfl, hbg, hg, hnc, hcm, hcs, htake⟩
  · exact .inl ⟨List.eq_nil_of_length_eq_zero hn, none, 0, rfl, Nat.zero_le _⟩
  · refine .inr ⟨g, 0, cap, by rw [hn], by omega, hcm, ?_, fun k hk => ?_, hlt⟩
    · exact (Array.getElem?_eq_some_iff.1 hg).1
    · have := h.cells (g := g) rfl k (.int .u8 (xs.getD k 0 : Nat)) (by simp [u8vs, hk])
      rw [Addr.add_mid] at this
      exact this
/-- The literal of one value that append(s, u) makes. -/
theorem src_one {P : Program} {W : World} {T tx e' : TypeId} {u : Value} (hk : P.underlying tx = some (.slice e')) (s c : Nat) (hs : s = W.heap.size) (h1 : u.oneCell' = true) :
    Src P 1 tx (.slice (some ⟨s, 0, none⟩) 1 c) 1 [u] (W.alloc (.cells #[u] T)) := by
  subst hs
  refine Src.ofSlice _ hk ⟨W.heap.size, 0, none⟩ 1 c [u] rfl (fun j u' hu => ?_) (fun u' hu => ?_)
  · have hj : j = 0 := by
      rcases Nat.eq_zero_or_pos j with h | h
      · exact h
      · rw [List.getElem?_eq_none (by simp; omega)] at hu; cases hu
    subst hj
    simp at hu
    subst hu
    rw [Addr.add_mid]
    simp
  · simp at hu; subst hu; exact h1
theorem owns_slice {w : World} {B : Nat} {e : TypeId} {s : Nat} {v : Value} {n : Nat} {xs : List Value} (h : w.ownsRow B e s v n xs) : ∃ a cap, v = .slice a n cap := by
  rcases h.2 with ⟨rfl, rfl⟩ | ⟨g, cap, cur, rfl, _⟩
  · exact ⟨none, 0, rfl⟩
  · exact ⟨_, cap, rfl⟩
end Go.Proofs.Ytnbhkbncllebmaa
namespace Go.Proofs.Ytnbhkbncllebmaa
set_option maxRecDepth 20000
open Go.RowKit
/-- Ints as values. -/
def i64vs (xs : List Int) : List Value := xs.map fun (x : Int) => Value.int .i64 x
theorem i64vs_length (xs : List Int) : (i64vs xs).length = xs.length := by simp [i64vs]
/-- v is a slice of the ints xs in w: empty; or its cells hold them. -/
def Ints (w : World) (v : Value) (xs : List Int) : Prop :=
  (xs = [] ∧ ∃ a cap, v = .slice a 0 cap ∧ cap ≤ maxLen) ∨
  ∃ b off cap, v = .slice (some ⟨b, off, none⟩) xs.length cap ∧ xs.length ≤ cap ∧ cap ≤ maxLen ∧ b < w.heap.size ∧ ∀ k, k < xs.length → w.cell? ⟨b, off + k, none⟩ = some (.int .i64 (xs.getD k 0))
theorem Ints.ext {w w' : World} {v : Value} {xs : List Int} (h : Ints w v xs) (hb : w.Extends w') : Ints w' v xs := by
  rcases h with h | ⟨b, off, cap, h1, h2, h2', h3, h4⟩
  · exact .inl h
  · exact .inr ⟨b, off, cap, h1, h2, h2', Nat.lt_of_lt_of_le h3 hb.size, fun k hk => (hb.cell ⟨b, off + k, none⟩ h3).trans (h4 k hk)⟩
theorem Ints.slice {w : World} {v : Value} {xs : List Int} (h : Ints w v xs) : ∃ a cap, v = .slice a xs.length cap ∧ xs.length ≤ cap ∧ cap ≤ maxLen := by
  rcases h with ⟨rfl, a, cap, rfl, hm⟩ | ⟨b, off, cap, rfl, h1, h2, _⟩
  · exact ⟨a, cap, rfl, Nat.zero_le _, hm⟩
  · exact ⟨_, cap, rfl, h1, h2⟩
theorem Ints.len {w : World} {v : Value} {xs : List Int} (h : Ints w v xs) : xs.length ≤ maxLen := by
  obtain ⟨_, _, _, h1, h2⟩ := h.slice; exact Nat.le_trans h1 h2
theorem Ints.cell {w : World} {a : Option Addr} {n cap : Nat} {xs : List Int} (h : Ints w (.slice a n cap) xs) : n = xs.length ∧ (0 < n → ∃ b off, a = some ⟨b, off, none⟩ ∧ b < w.heap.size ∧ ∀ k, k < n → w.cell? ⟨b, off + k, none⟩ = some (.int .i64 (xs.getD k 0))) := by
  rcases h with ⟨rfl, a', cap', hv, _⟩ | ⟨b, off, cap', hv, h2, h2', h3, h4⟩
  · cases hv; exact ⟨rfl, fun h => absurd h (Nat.lt_irrefl _)⟩
  · cases hv; exact ⟨rfl, fun _ => ⟨b, off, rfl, h3, h4⟩⟩
theorem nil_ints (w : World) (a : Option Addr) (cap : Nat) (h : cap ≤ maxLen := by decide) : Ints w (.slice a 0 cap) [] := .inl ⟨rfl, a, cap, rfl, h⟩
theorem owns_ext {w w' : World} {B : Nat} {e : TypeId} {s : Nat} {v : Value} {n : Nat} {xs : List Value} (h : w.ownsRow B e s v n xs) (hx : w.Extends w') : w'.ownsRow B e s v n xs :=
  h.kept (row := none) ⟨hx.os, hx.tape, hx.output, hx.size, fun i hi _ => hx.block i hi⟩ (by cases v.ownBlock <;> simp)
theorem owns_base {w : World} {B B' : Nat} {e : TypeId} {s : Nat} {v : Value} {n : Nat} {xs : List Value} (h : w.ownsRow B e s v n xs) (hb : B' ≤ B) : w.ownsRow B' e s v n xs :=
  by
  rcases h.2 with h' | ⟨g, cap, cur, h1, h2, h3⟩
  · exact ⟨h.1, .inl h'⟩
  · exact ⟨h.1, .inr ⟨g, cap, cur, h1, Nat.le_trans hb h2, h3⟩⟩
end Go.Proofs.Ytnbhkbncllebmaa
namespace Go.Proofs.Ytnbhkbncllebmaa
set_option maxRecDepth 20000
open Go.RowKit Go.Deep Go.ChangeShapes Go.WideShapes
theorem i64wf {z : Int} (h : (Lit.int .i64 z).wf = true) : -9223372036854775808 ≤ z ∧ z ≤ 9223372036854775807 := by simpa [Lit.wf, IntKind.min, IntKind.max, IntKind.bits, IntKind.signed] using h
theorem ints_row {w : World} {x : Addr} {len cap : Nat} {zs : List Int} (hl : len ≤ cap) (hm : cap ≤ maxLen) (hz : zs.length = cap) (hc : ∀ i, i < zs.length → w.cell? (x.add i) = some (.int .i64 (zs.getD i 0))) : Ints w (.slice (some x) len cap) (zs.take len) := by
  by_cases h0 : len = 0
  · subst h0; exact .inl ⟨rfl, some x, cap, rfl, hm⟩
  · have hlen : (zs.take len).length = len := by simp; omega
    refine .inr ?_
    obtain ⟨b, off, rfl, hc'⟩ := ints_at hc (by omega)
    refine ⟨b, off, cap, by rw [hlen], by omega, hm, ?_, fun k hk => ?_⟩
    · exact World.block_lt_of_cell? w _ (hc' 0 (by omega))
    · rw [hlen] at hk
      rw [hc' k (by omega)]
      simp [List.getD_eq_getElem?_getD, hk]
section
variable {H : Type} {enc : TypeId × Value → H} {P : Program} {w : World} {base : Nat} {held : Bool}
theorem open_i64s {t e : TypeId} {fuel : Nat} {v : Value} {x : DataW H × List MemPlace} (ht : P.underlying t = some (.slice e)) (he : P.underlying e = some (.int .i64)) (hc : P.cellsOf e = 1)
    (hv : ∃ a len cap, v = .slice a len cap) (h : DataW.trod enc P w base (fun _ => true) held fuel t v.cells.toList = some x) : ∃ xs, Ints w v xs ∧ ∀ y ∈ xs, -9223372036854775808 ≤ y ∧ y ≤ 9223372036854775807 := by
  obtain ⟨a, len, cap, rfl⟩ := hv
  rcases open_ints ht he hc h with ⟨hcs, _⟩ | ⟨a', len', cap', zs, hcs, _, hl, hm, hz, _, hcell, hwz⟩
  · simp [Value.cells] at hcs
    obtain ⟨rfl, rfl, rfl⟩ := hcs
    exact ⟨[], .inl ⟨rfl, none, 0, rfl, Nat.zero_le _⟩, fun y hy => by cases hy⟩
  · simp [Value.cells] at hcs
    obtain ⟨rfl, rfl, rfl⟩ := hcs
    simp only [if_true] at hz
    exact ⟨zs.take len, ints_row hl hm hz hcell, fun y hy => i64wf (hwz y (List.mem_of_mem_take hy))⟩
end
end Go.Proofs.Ytnbhkbncllebmaa
namespace Go.Proofs.Ytnbhkbncllebmaa
set_option maxRecDepth 20000
open Go.RowKit
namespace Gr
theorem ext_refl (w : World) : w.Extends w := ⟨rfl, rfl, rfl, Nat.le_refl _, fun _ _ => rfl, fun _ _ => rfl, fun _ _ => rfl⟩
theorem ext_trans {a b c : World} (h : a.Extends b) (k : b.Extends c) : a.Extends c :=
  ⟨k.os.trans h.os, k.tape.trans h.tape, k.output.trans h.output, Nat.le_trans h.size k.size,
    fun x hx => (k.cell x (Nat.lt_of_lt_of_le hx h.size)).trans (h.cell x hx), fun x hx => (k.frozen x (Nat.lt_of_lt_of_le hx h.size)).trans (h.frozen x hx),
    fun i hi => (k.block i (Nat.lt_of_lt_of_le hi h.size)).trans (h.block i hi)⟩
theorem ext_of {w w' : World} (h : Below w.heap.size w w') : w.Extends w' :=
  ⟨h.os, h.tape, h.output, h.size, fun _ ha => World.cell?_of_block (w := w) (h.block _ ha), fun _ ha => World.frozen?_of_block (w := w) (h.block _ ha), h.block⟩
theorem below_of {w w' : World} (h : w.Extends w') : Below w.heap.size w w' := ⟨h.os, h.tape, h.output, h.size, h.block⟩
theorem ext_drew {w w' : World} (h : w.Extends w') : w.Extends w'.drew := ⟨h.os, h.tape, h.output, h.size, h.cell, h.frozen, h.block⟩

section
variable {P : Program} {ops : Array Oper} {Q : Exit → Act → World → Prop} {md : Region.Mode} {S : World → Prop}
/-- Whatever order is picked, till 'fuel' operations have come up; then L. -/
def AnyE (P : Program) (md : Region.Mode) (ops : Array Oper) (Q : Exit → Act → World → Prop) (n : Nat) (L : Array Bool → Act → World → Prop) (S : World → Prop) : Nat → Array Bool → Act → World → Prop
  | 0, listed, a, w => L listed a w
  | f + 1, listed, a, w => Region.ready md ops listed ≠ [] ∧ ∀ i ∈ Region.ready md ops listed, i < n ∧ wpOp P ops Q i (fun a' w' => S w' ∧ AnyE P md ops Q n L S f (listed.setIfInBounds i true) a' w') a w
theorem AnyE.weaken {n : Nat} {L : Array Bool → Act → World → Prop} {S S' : World → Prop} (hS : ∀ w, S' w → S w) :
    ∀ (f : Nat) (listed : Array Bool) (a : Act) (w : World), AnyE P md ops Q n L S' f listed a w → AnyE P md ops Q n L S f listed a w
  | 0, _, _, _, h => h
  | f + 1, _, _, _, h => ⟨h.1, fun i hi => ⟨(h.2 i hi).1, wpOp_mono (fun a' w' hk => ⟨hS _ hk.1, AnyE.weaken hS f _ a' w' hk.2⟩) (h.2 i hi).2⟩⟩
theorem AnyE.any {n g : Nat} {L : Array Bool → Act → World → Prop} (hL : ∀ listed a w, L listed a w → wpAny P md ops Q g listed a w) :
    ∀ (f : Nat) (listed : Array Bool) (a : Act) (w : World), AnyE P md ops Q n L S f listed a w → wpAny P md ops Q (f + g) listed a w
  | 0, listed, a, w, h => by rw [Nat.zero_add]; exact hL _ _ _ h
  | f + 1, listed, a, w, h => by
    rw [show f + 1 + g = (f + g) + 1 by omega]
    exact ⟨fun h0 => absurd h0 h.1, fun i hi => wpOp_mono (fun a' w' h' => AnyE.any hL f _ a' w' h'.2) (h.2 i hi).2⟩
theorem AnyE.first {n i : Nat} {oi : Oper} {v : Value} {L : Array Bool → Act → World → Prop} (hi : ops[i]? = some oi) (hsel : ∀ (j : Nat) (o : Oper) cs b, ops[j]? = some o → o.op ≠ .select cs b)
    (hs : Region.sinkB md ops n = true) (hc : Region.chainB md ops n = true) (hn : n < ops.size) (hin : i < n)
    (hQ : ∀ c a w, Q (.panic c) (a.put oi.dst v) w → Q (.panic c) a w)
    (hdone : ∀ listed a w, L listed a w → ∀ j ∈ Region.ready md ops listed, n ≤ j) :
    ∀ (f : Nat) (listed : Array Bool) (a : Act) (w : World), HeadInv md ops n listed →
      (∀ j oj, ops[j]? = some oj → j ≠ i → listed.getD j true = false → (∀ e ∈ oj.after, Region.binds md e = true → e.on ≠ i) → oi.apart ops oj = true) →
      i ∈ Region.ready md ops listed → YieldsIf P ops S oi v a → S w →
      AnyE P md ops Q n L S f (listed.setIfInBounds i true) (a.put oi.dst v) w → AnyE P md ops Q n L S (f + 1) listed a w := by
  intro f
  induction f with
  | zero =>
    intro listed a w inv _ hr hy hS H
    have hun := (mem_ready.1 hr).1
    refine ⟨fun h => (by rw [h] at hr; cases hr), fun j hj => ?_⟩
    have hjn : j < n := by
      rcases Nat.lt_or_ge j n with h | h
      · exact h
      · exact absurd hj (tail_waits hs hc hn inv _ i rfl hin hun j h)
    refine ⟨hjn, ?_⟩
    by_cases hji : j = i
    · subst hji; exact hy.wpOp hi hS ⟨hS, H⟩
    · have := hdone _ _ _ H j (ready_mono hj hji)
      omega
  | succ f ih =>
    intro listed a w inv hfree hr hy hS H
    have hun := (mem_ready.1 hr).1
    refine ⟨fun h => (by rw [h] at hr; cases hr), fun j hj => ?_⟩
    have hjn : j < n := by
      rcases Nat.lt_or_ge j n with h | h
      · exact h
      · exact absurd hj (tail_waits hs hc hn inv _ i rfl hin hun j h)
    refine ⟨hjn, ?_⟩
    by_cases hji : j = i
    · subst hji; exact hy.wpOp hi hS ⟨hS, H⟩
    · have h1 := (H.2 j (ready_mono hj hji)).2
      obtain ⟨hjun, oj, hoj, hall⟩ := mem_ready.1 hj
      have hnot : ∀ e ∈ oj.after, Region.binds md e = true → e.on ≠ i := fun e he hb heq => by
        have h1 := hall e he hb
        rw [heq, getD_both hun] at h1
        cases h1
      have h2 := wpOp_putIf hoj (hfree j oj hoj hji hjun hnot) (fun cs b => hsel i oi cs b hi) (fun cs b => hsel j oj cs b hoj) hQ hy h1
      have hfree' : ∀ k ok, ops[k]? = some ok → k ≠ i → (listed.setIfInBounds j true).getD k true = false →
          (∀ e ∈ ok.after, Region.binds md e = true → e.on ≠ i) → oi.apart ops ok = true := fun k ok hk hki hun hno => by
        refine hfree k ok hk hki ?_ hno
        by_cases hjk : j = k
        · subst hjk; exact hjun
        · rw [getD_set_ne true hjk] at hun; exact hun
      refine wpOp_mono (fun a' w' h3 => ⟨h3.2.1, ih (listed.setIfInBounds j true) a' w' (inv.set hj hjn) hfree' (ready_mono hr (Ne.symm hji)) h3.1 h3.2.1 ?_⟩) h2
      rw [Array.setIfInBounds_comm _ _ hji]
      exact h3.2.2

/-- The order of the walk: of each operation whether it is carried out (else it is taken), and its number. -/
def check (md : Region.Mode) (ops : Array Oper) (n g : Nat) : List (Bool × Nat) → Array Bool → Bool
  | [], listed => Region.seqB md ops g n listed
  | (c, i) :: rest, listed => decide (i < n) && (match c with | true => decide (Region.ready md ops listed = [i]) | false => (Region.ready md ops listed).contains i && Region.free md ops listed i)
      && check md ops n g rest (listed.setIfInBounds i true)
def growB (md : Region.Mode) (ops : Array Oper) (n : Nat) (ord : List (Bool × Nat)) : Bool :=
  Region.noSelect ops && decide (n < ops.size) && Region.sinkB md ops n && Region.chainB md ops n && decide (ord.length + (ops.size - n) = ops.size) && check md ops n (ops.size - n) ord (Array.replicate ops.size false)
/-- The operations in that order. -/
def pick (l : List Oper) : List (Bool × Nat) → List (Bool × Oper)
  | [] => []
  | (c, i) :: r => match l[i]? with | some o => (c, o) :: pick l r | none => []
def walk (P : Program) (ops : Array Oper) (Q : Exit → Act → World → Prop) (tail : List Oper) : List (Bool × Oper) → Act → World → Prop
  | [], a, w => wpList P ops Q tail a w
  | (true, o) :: rest, a, w => if Region.wanted o (yielded ops a.tmps) = true then o.wp P a w (fun a' w' => w.Extends w' ∧ walk P ops Q tail rest a' w') Q else walk P ops Q tail rest (a.put o.dst undef) w
  | (false, o) :: rest, a, w => ∃ v, YieldsIf P ops w.Extends o v a ∧ walk P ops Q tail rest (a.put o.dst v) w
theorem walk_nil {tail : List Oper} {a : Act} {w : World} (h : wpList P ops Q tail a w) : walk P ops Q tail [] a w := h
/-- An operation that is taken. -/
theorem walk_t {tail : List Oper} {rest : List (Bool × Oper)} {o : Oper} {a : Act} {w : World} (v : Value) (hy : YieldsIf P ops w.Extends o v a) (h : walk P ops Q tail rest (a.put o.dst v) w) :
    walk P ops Q tail ((false, o) :: rest) a w := ⟨v, hy, h⟩
/-- An operation that is carried out. -/
theorem walk_c {tail : List Oper} {rest : List (Bool × Oper)} {o : Oper} {a : Act} {w : World}
    (h : ∀ K : Act → World → Prop, Shut (∀ a' w', w.Extends w' → walk P ops Q tail rest a' w' → K a' w') → if Region.wanted o (yielded ops a.tmps) = true then o.wp P a w K Q else K (a.put o.dst undef) w) :
    walk P ops Q tail ((true, o) :: rest) a w := by
  have h0 := h (fun a' w' => w.Extends w' ∧ walk P ops Q tail rest a' w') (fun _ _ h1 h2 => ⟨h1, h2⟩)
  unfold walk
  split
  · rename_i hw; rw [if_pos hw] at h0; exact h0
  · rename_i hw; rw [if_neg hw] at h0; exact h0.2

theorem walk_sound {l : List Oper} {n : Nat} (hsel : Region.noSelect l.toArray = true) (hs : Region.sinkB md l.toArray n = true) (hc : Region.chainB md l.toArray n = true) (hn : n < l.toArray.size)
    (hQ : ∀ d v c a w, Q (.panic c) (Act.put a d v) w → Q (.panic c) a w) :
    ∀ (ord : List (Bool × Nat)) (listed : Array Bool) (a : Act) (w : World), HeadInv md l.toArray n listed → check md l.toArray n (l.toArray.size - n) ord listed = true →
      walk P l.toArray Q (l.drop n) (pick l ord) a w →
      AnyE P md l.toArray Q n (fun listed' a' w' => Region.seqB md l.toArray (l.toArray.size - n) n listed' = true ∧ wpList P l.toArray Q (l.drop n) a' w') w.Extends ord.length listed a w
  | [], listed, a, w, _, hB, h => ⟨hB, h⟩
  | (c, i) :: rest, listed, a, w, inv, hB, h => by
    simp only [check, Bool.and_eq_true, decide_eq_true_eq] at hB
    obtain ⟨⟨hin, hr⟩, hB'⟩ := hB
    have hil : i < l.length := by have : l.toArray.size = l.length := by simp
                                  omega
    have ho : l[i]? = some l[i] := List.getElem?_eq_getElem hil
    have hoa : l.toArray[i]? = some l[i] := by simp
    simp only [pick, ho] at h
    cases c with
    | true =>
      simp only [decide_eq_true_eq] at hr
      refine ⟨(by rw [hr]; simp), fun j hj => ?_⟩
      rw [hr] at hj
      obtain rfl : j = i := by simpa using hj
      refine ⟨hin, ?_⟩
      have hrm : j ∈ Region.ready md l.toArray listed := by rw [hr]; simp
      unfold walk at h
      unfold wpOp
      simp only [hoa]
      split
      · rename_i hw
        rw [if_pos hw] at h
        exact .inl (Oper.wp_mono (fun a' w' hk => ⟨hk.1, AnyE.weaken (fun u hu => ext_trans hk.1 hu) _ _ _ _ (walk_sound hsel hs hc hn hQ rest _ a' w' (inv.set hrm hin) hB' hk.2)⟩) h)
      · rename_i hw
        rw [if_neg hw] at h
        exact ⟨ext_refl w, walk_sound hsel hs hc hn hQ rest _ _ w (inv.set hrm hin) hB' h⟩
    | false =>
      simp only [Bool.and_eq_true] at hr
      unfold walk at h
      obtain ⟨v, hy, hK⟩ := h
      have hrm : i ∈ Region.ready md l.toArray listed := by simpa using hr.1
      exact AnyE.first hoa (Region.noSelect_spec hsel) hs hc hn hin (fun c a w => hQ _ v c a w) (fun listed' a' w' hL => seqB_ready hL.1) rest.length listed a w inv (Region.free_spec hoa hr.2) hrm hy (ext_refl w)
        (walk_sound hsel hs hc hn hQ rest _ _ w (inv.set hrm hin) hB' hK)

theorem region {id : Nat} {a : Act} {w : World} {l : List Oper} (n : Nat) (ord : List (Bool × Nat)) (hm : P.follows .mixedOrders = true) (hB : growB .any l.toArray n ord = true)
    (hQ : ∀ d v c a w, Q (.panic c) (Act.put a d v) w → Q (.panic c) a w)
    (h : walk P l.toArray Q (l.drop n) (pick l ord) a w.drew) : (Code.region id l.toArray true).wp P Q a w := by
  simp only [growB, Bool.and_eq_true, decide_eq_true_eq] at hB
  obtain ⟨⟨⟨⟨⟨hsel, hn⟩, hs⟩, hc⟩, hlen⟩, hck⟩ := hB
  have hdl : (l.drop n).length = l.toArray.size - n := by simp
  have inv0 : HeadInv .any l.toArray n (Array.replicate l.toArray.size false) :=
    ⟨by simp, fun j oj _ hl => (by rw [getD_replicate_false] at hl; cases hl), fun t _ ht => getD_in (by simpa using ht) (getD_replicate_false _ _)⟩
  have H := walk_sound (md := .any) hsel hs hc hn hQ ord _ a w.drew inv0 hck h
  refine wp_region_any hm ?_
  have := AnyE.any (Q := Q) (g := l.toArray.size - n) (fun listed a' w' hL => by
    have := wpAny_of_seq (md := .any) (Q' := Q) (l.drop n) n listed a' w' (fun j => by simp [List.getElem?_drop]) (by rw [hdl]; exact hL.1) hL.2
    rwa [hdl] at this) _ _ _ _ H
  rw [hlen] at this
  exact this
/-! Where more than one operation that is carried out may come up: the walk goes a step at a time. -/
/-- What is left: 'f' operations of the head, then the tail. -/
def Left (P : Program) (l : List Oper) (Q : Exit → Act → World → Prop) (n f : Nat) (listed : Array Bool) (a : Act) (w : World) : Prop :=
  HeadInv .any l.toArray n listed → AnyE P .any l.toArray Q n (fun listed' a' w' => Region.seqB .any l.toArray (l.toArray.size - n) n listed' = true ∧ wpList P l.toArray Q (l.drop n) a' w') w.Extends f listed a w
theorem Left.done {l : List Oper} {n : Nat} {listed : Array Bool} {a : Act} {w : World} (hB : Region.seqB .any l.toArray (l.toArray.size - n) n listed = true) (h : wpList P l.toArray Q (l.drop n) a w) : Left P l Q n 0 listed a w := fun _ => ⟨hB, h⟩
theorem Left.take {l : List Oper} {n f i : Nat} {o : Oper} {listed : Array Bool} {a : Act} {w : World} (hi : l[i]? = some o)
    (hk : (Region.noSelect l.toArray && decide (n < l.toArray.size) && Region.sinkB .any l.toArray n && Region.chainB .any l.toArray n && decide (i < n) && (Region.ready .any l.toArray listed).contains i && Region.free .any l.toArray listed i) = true)
    (hQ : ∀ d v c a w, Q (.panic c) (Act.put a d v) w → Q (.panic c) a w) (v : Value) (hy : YieldsIf P l.toArray w.Extends o v a)
    (h : Left P l Q n f (listed.setIfInBounds i true) (a.put o.dst v) w) : Left P l Q n (f + 1) listed a w := fun inv => by
  simp only [Bool.and_eq_true, decide_eq_true_eq] at hk
  obtain ⟨⟨⟨⟨⟨⟨hsel, hn⟩, hs⟩, hc⟩, hin⟩, hr⟩, hf⟩ := hk
  have hoa : l.toArray[i]? = some o := by simpa using hi
  have hrm : i ∈ Region.ready .any l.toArray listed := by simpa using hr
  exact AnyE.first hoa (Region.noSelect_spec hsel) hs hc hn hin (fun c a w => hQ _ v c a w) (fun listed' a' w' hL => seqB_ready hL.1) f listed a w inv (Region.free_spec hoa hf) hrm hy (ext_refl w) (h (inv.set hrm hin))
/-- One step of an operation that is carried out. -/
def Step (P : Program) (l : List Oper) (Q : Exit → Act → World → Prop) (n f i : Nat) (listed : Array Bool) (a : Act) (w : World) : Prop :=
  ∀ o, l[i]? = some o → ∀ K : Act → World → Prop, Shut (∀ a' w', w.Extends w' → Left P l Q n f (listed.setIfInBounds i true) a' w' → K a' w') → if Region.wanted o (yielded l.toArray a.tmps) = true then o.wp P a w K Q else K (a.put o.dst undef) w
theorem Step.mk {l : List Oper} {n f i : Nat} {o : Oper} {listed : Array Bool} {a : Act} {w : World} (hi : l[i]? = some o)
    (h : ∀ K : Act → World → Prop, Shut (∀ a' w', w.Extends w' → Left P l Q n f (listed.setIfInBounds i true) a' w' → K a' w') → if Region.wanted o (yielded l.toArray a.tmps) = true then o.wp P a w K Q else K (a.put o.dst undef) w) : Step P l Q n f i listed a w := fun o' ho' => by
  rw [hi] at ho'; cases ho'; exact h
theorem Left.some {l : List Oper} {n f : Nat} {rs : List Nat} {listed : Array Bool} {a : Act} {w : World} (hr : Region.ready .any l.toArray listed = rs) (hne : (!rs.isEmpty && rs.all (· < n) && rs.all (· < l.length)) = true)
    (h : ∀ i ∈ rs, Step P l Q n f i listed a w) : Left P l Q n (f + 1) listed a w := fun inv => by
  simp only [Bool.and_eq_true, List.all_eq_true, decide_eq_true_eq] at hne
  refine ⟨(by rw [hr]; intro h0; rw [h0] at hne; simp at hne), fun j hj => ?_⟩
  have hjr : j ∈ rs := hr ▸ hj
  refine ⟨hne.1.2 j hjr, ?_⟩
  have hjl := hne.2 j hjr
  have hoa : l.toArray[j]? = Option.some l[j] := by simp
  have h0 := h j hjr l[j] (List.getElem?_eq_getElem hjl) (fun a' w' => w.Extends w' ∧ Left P l Q n f (listed.setIfInBounds j true) a' w') (fun _ _ h1 h2 => ⟨h1, h2⟩)
  have hinv := inv.set hj (hne.1.2 j hjr)
  have fin : ∀ a' w', w.Extends w' ∧ Left P l Q n f (listed.setIfInBounds j true) a' w' → w.Extends w' ∧ AnyE P .any l.toArray Q n _ w.Extends f (listed.setIfInBounds j true) a' w' :=
    fun a' w' hk => ⟨hk.1, AnyE.weaken (fun u hu => ext_trans hk.1 hu) _ _ _ _ (hk.2 hinv)⟩
  unfold wpOp
  simp only [hoa]
  split
  · rename_i hw; rw [if_pos hw] at h0; exact .inl (Oper.wp_mono fin h0)
  · rename_i hw; rw [if_neg hw] at h0; exact fin _ _ h0
theorem Left.one {l : List Oper} {n f i : Nat} {listed : Array Bool} {a : Act} {w : World} (hr : Region.ready .any l.toArray listed = [i]) (hne : (decide (i < n) && decide (i < l.length)) = true)
    (h : Step P l Q n f i listed a w) : Left P l Q n (f + 1) listed a w :=
  Left.some hr (by simpa using hne) (fun j hj => by obtain rfl : j = i := by simpa using hj
                                                    exact h)
theorem Left.two {l : List Oper} {n f i j : Nat} {listed : Array Bool} {a : Act} {w : World} (hr : Region.ready .any l.toArray listed = [i, j]) (hne : (decide (i < n) && decide (i < l.length) && decide (j < n) && decide (j < l.length)) = true)
    (h1 : Step P l Q n f i listed a w) (h2 : Step P l Q n f j listed a w) : Left P l Q n (f + 1) listed a w :=
  Left.some hr (by simp only [Bool.and_eq_true, decide_eq_true_eq] at hne; simp; omega) (fun k hk => by
    simp only [List.mem_cons, List.not_mem_nil, or_false] at hk
    rcases hk with rfl | rfl
    · exact h1
    · exact h2)
/-- The walk of a beginning; what is left is walked a step at a time. -/
def checkTo (md : Region.Mode) (ops : Array Oper) (n : Nat) : List (Bool × Nat) → Array Bool → Bool
  | [], _ => true
  | (c, i) :: rest, listed => decide (i < n) && (match c with | true => decide (Region.ready md ops listed = [i]) | false => (Region.ready md ops listed).contains i && Region.free md ops listed i)
      && checkTo md ops n rest (listed.setIfInBounds i true)
def lists : List (Bool × Nat) → Array Bool → Array Bool
  | [], listed => listed
  | (_, i) :: rest, listed => lists rest (listed.setIfInBounds i true)
def walkE (P : Program) (ops : Array Oper) (Q : Exit → Act → World → Prop) (E : Act → World → Prop) : List (Bool × Oper) → Act → World → Prop
  | [], a, w => E a w
  | (true, o) :: rest, a, w => if Region.wanted o (yielded ops a.tmps) = true then o.wp P a w (fun a' w' => w.Extends w' ∧ walkE P ops Q E rest a' w') Q else walkE P ops Q E rest (a.put o.dst undef) w
  | (false, o) :: rest, a, w => ∃ v, YieldsIf P ops w.Extends o v a ∧ walkE P ops Q E rest (a.put o.dst v) w
theorem walkE_nil {E : Act → World → Prop} {a : Act} {w : World} (h : E a w) : walkE P ops Q E [] a w := h
theorem walkE_t {E : Act → World → Prop} {rest : List (Bool × Oper)} {o : Oper} {a : Act} {w : World} (v : Value) (hy : YieldsIf P ops w.Extends o v a) (h : walkE P ops Q E rest (a.put o.dst v) w) :
    walkE P ops Q E ((false, o) :: rest) a w := ⟨v, hy, h⟩
theorem walkE_sound {l : List Oper} {n g : Nat} (hsel : Region.noSelect l.toArray = true) (hs : Region.sinkB .any l.toArray n = true) (hc : Region.chainB .any l.toArray n = true) (hn : n < l.toArray.size)
    (hQ : ∀ d v c a w, Q (.panic c) (Act.put a d v) w → Q (.panic c) a w) :
    ∀ (ord : List (Bool × Nat)) (listed : Array Bool) (a : Act) (w : World), checkTo .any l.toArray n ord listed = true →
      walkE P l.toArray Q (Left P l Q n g (lists ord listed)) (pick l ord) a w → Left P l Q n (ord.length + g) listed a w
  | [], listed, a, w, _, h => by rw [List.length_nil, Nat.zero_add]; exact h
  | (c, i) :: rest, listed, a, w, hB, h => fun inv => by
    simp only [checkTo, Bool.and_eq_true, decide_eq_true_eq] at hB
    obtain ⟨⟨hin, hr⟩, hB'⟩ := hB
    have hil : i < l.length := by have : l.toArray.size = l.length := by simp
                                  omega
    have ho : l[i]? = Option.some l[i] := List.getElem?_eq_getElem hil
    have hoa : l.toArray[i]? = Option.some l[i] := by simp
    have hlen : ((c, i) :: rest).length + g = (rest.length + g) + 1 := by simp; omega
    rw [hlen]
    simp only [pick, ho] at h
    cases c with
    | true =>
      simp only [decide_eq_true_eq] at hr
      refine ⟨(by rw [hr]; simp), fun j hj => ?_⟩
      rw [hr] at hj
      obtain rfl : j = i := by simpa using hj
      refine ⟨hin, ?_⟩
      have hrm : j ∈ Region.ready .any l.toArray listed := by rw [hr]; simp
      unfold walkE at h
      unfold wpOp
      simp only [hoa]
      split
      · rename_i hw
        rw [if_pos hw] at h
        exact .inl (Oper.wp_mono (fun a' w' hk => ⟨hk.1, AnyE.weaken (fun u hu => ext_trans hk.1 hu) _ _ _ _ (walkE_sound hsel hs hc hn hQ rest _ a' w' hB' hk.2 (inv.set hrm hin))⟩) h)
      · rename_i hw
        rw [if_neg hw] at h
        exact ⟨ext_refl w, walkE_sound hsel hs hc hn hQ rest _ _ w hB' h (inv.set hrm hin)⟩
    | false =>
      simp only [Bool.and_eq_true] at hr
      unfold walkE at h
      obtain ⟨v, hy, hK⟩ := h
      have hrm : i ∈ Region.ready .any l.toArray listed := by simpa using hr.1
      exact AnyE.first hoa (Region.noSelect_spec hsel) hs hc hn hin (fun c a w => hQ _ v c a w) (fun listed' a' w' hL => seqB_ready hL.1) (rest.length + g) listed a w inv (Region.free_spec hoa hr.2) hrm hy (ext_refl w)
        (walkE_sound hsel hs hc hn hQ rest _ _ w hB' hK (inv.set hrm hin))
theorem regionE {id : Nat} {a : Act} {w : World} {l : List Oper} (n g : Nat) (ord : List (Bool × Nat)) (hm : P.follows .mixedOrders = true)
    (hB : (Region.noSelect l.toArray && decide (n < l.toArray.size) && Region.sinkB .any l.toArray n && Region.chainB .any l.toArray n && decide (ord.length + g = n) && checkTo .any l.toArray n ord (Array.replicate l.toArray.size false)) = true)
    (hQ : ∀ d v c a w, Q (.panic c) (Act.put a d v) w → Q (.panic c) a w)
    (h : walkE P l.toArray Q (Left P l Q n g (lists ord (Array.replicate l.toArray.size false))) (pick l ord) a w.drew) : (Code.region id l.toArray true).wp P Q a w := by
  simp only [Bool.and_eq_true, decide_eq_true_eq] at hB
  obtain ⟨⟨⟨⟨⟨hsel, hn⟩, hs⟩, hc⟩, hlen⟩, hck⟩ := hB
  have hdl : (l.drop n).length = l.toArray.size - n := by simp
  have inv0 : HeadInv .any l.toArray n (Array.replicate l.toArray.size false) :=
    ⟨by simp, fun j oj _ hl => (by rw [getD_replicate_false] at hl; cases hl), fun t _ ht => getD_in (by simpa using ht) (getD_replicate_false _ _)⟩
  have H := walkE_sound hsel hs hc hn hQ ord _ a w.drew hck h inv0
  refine wp_region_any hm ?_
  have := AnyE.any (Q := Q) (g := l.toArray.size - n) (fun listed a' w' hL => by
    have := wpAny_of_seq (md := .any) (Q' := Q) (l.drop n) n listed a' w' (fun j => by simp [List.getElem?_drop]) (by rw [hdl]; exact hL.1) hL.2
    rwa [hdl] at this) _ _ _ _ H
  rw [hlen, show n + (l.toArray.size - n) = l.toArray.size by omega] at this
  exact this
end
end Gr
theorem ext_own {a b c : World} {r : Option Nat} (h : a.Extends b) (k : b.grownBy c r) (hr : ∀ x, r = some x → a.heap.size ≤ x) : a.Extends c :=
  Gr.ext_of ((Gr.below_of h).trans ⟨k.os, k.tape, k.output, k.size, fun i hi => k.block i (Nat.lt_of_lt_of_le hi h.size) (fun e => by have := hr i e.symm; omega)⟩)
end Go.Proofs.Ytnbhkbncllebmaa
namespace Go.Proofs.Ytnbhkbncllebmaa
set_option maxRecDepth 20000
open Go.RowKit Go.Deep
set_option linter.unusedVariables false
/-- A record: id, shape, block, number, gone, until, data. -/
structure Rc where
  p : Int
  n : Int
  b : Int
  s : Int
  m : Int
  k : Int
  e : Int
  g : Bool
  u : Int
  d : List Nat
def Rc.zero : Rc := ⟨0, 0, 0, 0, 0, 0, 0, false, 0, []⟩
/-- Its cells, and the record as a value; v: its data. -/
def Rc.cells (r : Rc) (v : Value) : List Value := [.int .i64 r.p, .int .i64 r.n, .int .i64 r.b, .int .i64 r.s, .int .i64 r.m, .int .i64 r.k, .int .i64 r.e, .bool r.g, .int .i64 r.u, v]
def Rc.val (r : Rc) (v : Value) : Value := .agg #[.int .i64 r.p, .int .i64 r.n, .int .i64 r.b, .int .i64 r.s, .int .i64 r.m, .int .i64 r.k, .int .i64 r.e, .bool r.g, .int .i64 r.u, v]
theorem recinfo : (Try.prog.info? 46).map (fun i => (i.zero, i.size, i.bytes)) = some (some (Rc.zero.val (.slice none 0 0)), 10, 96) := by kernel_rfl
/-- The record whose cells begin at b, off. -/
def RCell (w : World) (b off : Nat) (r : Rc) : Prop := ∃ a c, w.rangeAt b off (r.cells (.slice a r.d.length c)) ∧ U8s w (.slice a r.d.length c) r.d
theorem rangeAt_ext {w w' : World} {b off : Nat} {l : List Value} (h : w.rangeAt b off l) (hx : w.Extends w') : w'.rangeAt b off l := fun j v hv => hx.cell_of (h j v hv)
theorem RCell.ext {w w' : World} {b off : Nat} {r : Rc} (h : RCell w b off r) (hx : w.Extends w') : RCell w' b off r := by
  obtain ⟨a, c, h1, h2⟩ := h
  exact ⟨a, c, rangeAt_ext h1 hx, h2.ext hx⟩
/-- All of its cells, one by one. -/
theorem RCell.ten {w : World} {b off : Nat} {r : Rc} {v : Value} (h : w.rangeAt b off (r.cells v)) :
    w.cell? ⟨b, off, none⟩ = some (.int .i64 r.p) ∧ w.cell? ⟨b, off + 1, none⟩ = some (.int .i64 r.n) ∧ w.cell? ⟨b, off + 2, none⟩ = some (.int .i64 r.b) ∧ w.cell? ⟨b, off + 3, none⟩ = some (.int .i64 r.s) ∧ w.cell? ⟨b, off + 4, none⟩ = some (.int .i64 r.m) ∧
    w.cell? ⟨b, off + 5, none⟩ = some (.int .i64 r.k) ∧ w.cell? ⟨b, off + 6, none⟩ = some (.int .i64 r.e) ∧ w.cell? ⟨b, off + 7, none⟩ = some (.bool r.g) ∧ w.cell? ⟨b, off + 8, none⟩ = some (.int .i64 r.u) ∧ w.cell? ⟨b, off + 9, none⟩ = some v :=
  ⟨h 0 _ rfl, h 1 _ rfl, h 2 _ rfl, h 3 _ rfl, h 4 _ rfl, h 5 _ rfl, h 6 _ rfl, h 7 _ rfl, h 8 _ rfl, h 9 _ rfl⟩
theorem Rc.cells_lt (r : Rc) (u : Value) {i : Nat} {v : Value} (h : (r.cells u)[i]? = some v) : i < 10 := by
  rcases Nat.lt_or_ge i 10 with h' | h'
  · exact h'
  · rw [List.getElem?_eq_none (show (r.cells u).length ≤ i from h')] at h; cases h
/-- A variable that holds a record, just made. -/
theorem box_rec (w : World) (T : TypeId) (r : Rc) (u : Value) : (w.alloc (.cells (r.cells u).toArray T)).rangeAt w.heap.size 0 (r.cells u) := fun j v hv => by
  have h0 := heap_alloc_new w (.cells (r.cells u).toArray T)
  rw [cell_of_row _ _ _ _ _ _ h0, List.getElem?_toArray, Nat.zero_add]
  exact hv
end Go.Proofs.Ytnbhkbncllebmaa
