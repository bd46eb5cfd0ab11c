/- In one text: Bytes, Rws, Open, Append, Mats, FldMath, FldBits. -/
import Derived.WalkKit
import Derived.Below
import Derived.OpenShut
import Derived.Laws.NewBlocks
import Derived.Deep.OwnRows
import Derived.Deep.MidRow
import Derived.Laws.AppendOwn
import Derived.Laws.MakeOwn
import Derived.Deep.Matrix
import Derived.SizedLaws
import Derived.Deep.AppendSrc
import Derived.Test.YtpfmmfapdcbnkaaGreatDoorRows
import Derived.Laws.OwnMore
import Derived.Laws.BitsAllLaws
import Derived.Lib.Hide
import Derived.IntWalk
namespace Go.Proofs.YtpfmmfapdcbnkaaGreatDoor
set_option maxRecDepth 20000
open Go.RowKit
/-- v is a slice of the bytes xs in w: empty; or its cells hold them. -/
def U8s (w : World) (v : Value) (xs : List Nat) : Prop :=
  (xs = [] ∧ ∃ a cap, v = .slice a 0 cap ∧ cap ≤ maxLen) ∨
  ∃ b off cap, v = .slice (some ⟨b, off, none⟩) xs.length cap ∧ xs.length ≤ cap ∧ cap ≤ maxLen ∧ b < w.heap.size ∧ (∀ k, k < xs.length → w.cell? ⟨b, off + k, none⟩ = some (.int .u8 (xs.getD k 0 : Nat))) ∧ ∀ x ∈ xs, x < 256
theorem U8s.below {w w' : World} {v : Value} {xs : List Nat} {B : Nat} (h : U8s w v xs) (hb : Below B w w') (hB : B = w.heap.size) : U8s w' v xs := by
  rcases h with h | ⟨b, off, cap, h1, h2, h2', h3, h4, h5⟩
  · exact .inl h
  · refine .inr ⟨b, off, cap, h1, h2, h2', Nat.lt_of_lt_of_le h3 hb.size, fun k hk => ?_, h5⟩
    rw [hb.cell (p := ⟨b, off + k, none⟩) (by show b < B; omega)]
    exact h4 k hk
theorem getD_lt (xs : List Nat) (h : ∀ x ∈ xs, x < 256) (k : Nat) : xs.getD k 0 < 256 := by
  by_cases hk : k < xs.length
  · rw [List.getD_eq_getElem?_getD, List.getElem?_eq_getElem hk]; exact h _ (List.getElem_mem hk)
  · rw [List.getD_eq_getElem?_getD, List.getElem?_eq_none (by omega)]; decide
theorem take_lt (xs : List Nat) (h : ∀ x ∈ xs, x < 256) (k : Nat) : ∀ x ∈ xs.take k, x < 256 := fun x hx => h x (List.mem_of_mem_take hx)
theorem u8s_new (W : World) (s n c : Nat) (T : TypeId) (cs : Array Value) (xs : List Nat) (hs : s = W.heap.size) (hn : n = xs.length) (hc : cs = (xs.map fun (x : Nat) => Value.int .u8 (x : Int)).toArray) (hm : xs.length ≤ maxLen) (hl : ∀ x ∈ xs, x < 256) (hcn : c = n := by rfl) :
    U8s (W.alloc (.cells cs T)) (.slice (some ⟨s, 0, none⟩) n c) xs := by
  subst hcn; subst hs; subst hn; subst hc
  refine .inr ⟨W.heap.size, 0, xs.length, rfl, Nat.le_refl _, hm, by simp, fun k hk => ?_, hl⟩
  have := cell_of_row (W.alloc (.cells (xs.map fun (x : Nat) => Value.int .u8 (x : Int)).toArray T)) W.heap.size k _ T (0, 0) (heap_alloc_new W _)
  rw [Nat.zero_add, this]
  simp [hk]
theorem nil_u8s (w : World) (a : Option Addr) (cap : Nat) (h : cap ≤ maxLen := by decide) : U8s w (.slice a 0 cap) [] := .inl ⟨rfl, a, cap, rfl, h⟩
theorem balloc {w w' : World} (h : Below w.heap.size w w') (o : Obj) : Below w.heap.size w (w'.alloc o) := h.alloc h.size o
/-- WHAT THE WALK IS TOLD OF A SLICE OF INTEGERS THAT CAME IN: nil; or a row of 'cap' cells, the numbers 'zs', the first 'len' its elements. -/
def IsRow (k : IntKind) (w : World) (a : Option Addr) (len cap : Nat) (zs : List Int) : Prop :=
  (a = none ∧ len = 0 ∧ cap = 0 ∧ zs = []) ∨
  ∃ x, a = some x ∧ len ≤ cap ∧ cap ≤ maxLen ∧ zs.length = cap ∧ (∀ i, i < zs.length → w.cell? (x.add i) = some (.int k (zs.getD i 0))) ∧ ∀ n ∈ zs, (Lit.int k n).wf = true
theorem IsRow.u8s {w : World} {a : Option Addr} {len cap : Nat} {zs : List Int} (h : IsRow .u8 w a len cap zs) : U8s w (.slice a len cap) ((zs.take len).map Int.toNat) ∧ ((zs.take len).map Int.toNat).length = len := by
  rcases h with ⟨rfl, rfl, rfl, rfl⟩ | ⟨x, rfl, hl, hm, hz, hc, hw⟩
  · exact ⟨.inl ⟨rfl, none, 0, rfl, Nat.zero_le _⟩, rfl⟩
  · by_cases h0 : len = 0
    · subst h0; exact ⟨.inl ⟨rfl, some x, cap, rfl, hm⟩, rfl⟩
    · have hlen : ((zs.take len).map Int.toNat).length = len := by simp; omega
      refine ⟨.inr ?_, hlen⟩
      obtain ⟨b, off, rfl, hc'⟩ := ints_at hc (by omega)
      refine ⟨b, off, cap, by rw [hlen], by omega, hm, ?_, fun k hk => ?_, fun y hy => ?_⟩
      · have := hc' 0 (by omega)
        exact World.block_lt_of_cell? w _ this
      · rw [hlen] at hk
        rw [hc' k (by omega)]
        have hmem : zs.getD k 0 ∈ zs := by
          rw [List.getD_eq_getElem?_getD, List.getElem?_eq_getElem (by omega)]; exact List.getElem_mem _
        have hwf := hw _ hmem
        have hb : 0 ≤ zs.getD k 0 ∧ zs.getD k 0 ≤ 255 := by simpa [Lit.wf, IntKind.min, IntKind.max, IntKind.bits, IntKind.signed] using hwf
        have : (((zs.take len).map Int.toNat).getD k 0 : Int) = zs.getD k 0 := by
          simp [List.getD_eq_getElem?_getD, hk] at hb ⊢
          rw [List.getElem?_eq_getElem (by omega)] at *
          simp at hb ⊢; omega
        rw [this]
      · obtain ⟨z, hz1, rfl⟩ := List.mem_map.1 hy
        have hwf := hw _ (List.mem_of_mem_take hz1)
        have hb : 0 ≤ z ∧ z ≤ 255 := by simpa [Lit.wf, IntKind.min, IntKind.max, IntKind.bits, IntKind.signed] using hwf
        omega

end Go.Proofs.YtpfmmfapdcbnkaaGreatDoor
namespace Go.Proofs.YtpfmmfapdcbnkaaGreatDoor
set_option maxRecDepth 20000
open Go.RowKit
/-- Block b of w is a row of the bytes xs, not frozen. -/
def Own (w : World) (b : Nat) (T : TypeId) (xs : List Nat) : Prop := w.rowIs b T xs.length (fun i => .int .u8 (xs.getD i 0 : Nat)) ∧ xs.length ≤ maxLen ∧ ∀ x ∈ xs, x < 256
theorem Own.lt {w : World} {b : Nat} {T : TypeId} {xs : List Nat} (h : Own w b T xs) : b < w.heap.size := h.1.lt
theorem Own.u8s {w : World} {b : Nat} {T : TypeId} {xs : List Nat} (h : Own w b T xs) : U8s w (.slice (some ⟨b, 0, none⟩) xs.length xs.length) xs :=
  .inr ⟨b, 0, xs.length, rfl, Nat.le_refl _, h.2.1, h.lt, fun k hk => by rw [Nat.zero_add]; exact h.1.cell hk, h.2.2⟩
theorem Own.block {w w' : World} {b : Nat} {T : TypeId} {xs : List Nat} (h : Own w b T xs) (e : w'.heap[b]? = w.heap[b]?) : Own w' b T xs := ⟨h.1.of_block e, h.2⟩
theorem Own.below {w w' : World} {b B : Nat} {T : TypeId} {xs : List Nat} (h : Own w b T xs) (hb : Below B w w') (hB : b < B) : Own w' b T xs := h.block (hb.block b hB)
theorem Own.alloc {w : World} {b : Nat} {T : TypeId} {xs : List Nat} (h : Own w b T xs) (o : Obj) : Own (w.alloc o) b T xs := ⟨h.1.alloc o, h.2⟩
theorem Own.grown {w w' : World} {b : Nat} {T : TypeId} {xs : List Nat} (h : Own w b T xs) {r : Option Nat} (hg : w.grownBy w' r) (hr : some b ≠ r) : Own w' b T xs := h.block (hg.block b h.lt hr)
theorem getD_set (xs : List Nat) (i v j : Nat) (hi : i < xs.length) : (xs.set i v).getD j 0 = if j = i then v else xs.getD j 0 := by
  by_cases h : j = i
  · subst h; simp [hi]
  · rw [if_neg h]; simp [List.getD_eq_getElem?_getD, Ne.symm h]
theorem Own.set {w : World} {b : Nat} {T : TypeId} {xs : List Nat} (h : Own w b T xs) (i v : Nat) (hi : i < xs.length) (hv : v < 256) : Own (w.setCell ⟨b, i, none⟩ (.int .u8 (v : Nat))) b T (xs.set i v) := by
  refine ⟨?_, by simpa using h.2.1, fun x hx => ?_⟩
  · rw [List.length_set]
    refine (h.1.set i _).congr fun j hj => ?_
    rw [getD_set xs i v j hi]
    split <;> rfl
  · rcases List.mem_or_eq_of_mem_set hx with h' | h'
    · exact h.2.2 x h'
    · subst h'; exact hv
theorem Own.made (w : World) (n : Nat) (T : TypeId) (hn : n ≤ maxLen) : Own (w.alloc (.cells (madeCells #[.int .u8 0] n) T)) w.heap.size T (List.replicate n 0) := by
  refine ⟨?_, by simpa using hn, fun x hx => ?_⟩
  · rw [List.length_replicate]
    refine (World.rowIs_made w (.int .u8 0) n T).congr fun i hi => ?_
    simp [List.getD_eq_getElem?_getD, hi]
  · rw [(List.mem_replicate.1 hx).2]; decide
theorem U8s.slice {w : World} {v : Value} {xs : List Nat} (h : U8s w v xs) : ∃ a cap, v = .slice a xs.length cap ∧ xs.length ≤ cap ∧ cap ≤ maxLen := by
  rcases h with ⟨rfl, a, cap, rfl, hm⟩ | ⟨b, off, cap, rfl, h1, h2, _⟩
  · exact ⟨a, cap, rfl, Nat.zero_le _, hm⟩
  · exact ⟨_, cap, rfl, h1, h2⟩
theorem U8s.len {w : World} {v : Value} {xs : List Nat} (h : U8s w v xs) : xs.length ≤ maxLen := by
  rcases h with ⟨rfl, _⟩ | ⟨b, off, cap, rfl, h1, h2, _⟩
  · simp [maxLen]
  · exact Nat.le_trans h1 h2
theorem U8s.lt {w : World} {v : Value} {xs : List Nat} (h : U8s w v xs) : ∀ x ∈ xs, x < 256 := by
  rcases h with ⟨rfl, _⟩ | ⟨b, off, cap, rfl, h1, h2, h3, h4, h5⟩
  · intro x hx; cases hx
  · exact h5
theorem U8s.ext {w w' : World} {v : Value} {xs : List Nat} (h : U8s w v xs) (hb : w.Extends w') : U8s w' v xs := by
  rcases h with h | ⟨b, off, cap, h1, h2, h2', h3, h4, h5⟩
  · exact .inl h
  · exact .inr ⟨b, off, cap, h1, h2, h2', Nat.lt_of_lt_of_le h3 hb.size, fun k hk => (hb.cell ⟨b, off + k, none⟩ h3).trans (h4 k hk), h5⟩
/-- It stays where block b alone may have changed, and is not that block. -/
theorem U8s.grown {w w' : World} {v : Value} {xs : List Nat} (h : U8s w v xs) {r : Option Nat} (hg : w.grownBy w' r) (hr : xs = [] ∨ v.ownBlock ≠ r) : U8s w' v xs := by
  rcases h with h | ⟨b, off, cap, h1, h2, h2', h3, h4, h5⟩
  · exact .inl h
  · rcases hr with rfl | hr
    · subst h1; exact .inl ⟨rfl, _, _, rfl, h2'⟩
    refine .inr ⟨b, off, cap, h1, h2, h2', Nat.lt_of_lt_of_le h3 hg.size, fun k hk => ?_, h5⟩
    refine (World.cell?_of_block (w := w) (hg.block b h3 ?_)).trans (h4 k hk)
    subst h1
    simpa [Value.ownBlock] using hr
theorem U8s.take {w : World} {a : Option Addr} {cap : Nat} {xs : List Nat} (h : U8s w (.slice a xs.length cap) xs) (n : Nat) : U8s w (.slice a (min n xs.length) cap) (xs.take n) := by
  rcases h with ⟨rfl, a', cap', hv, hm⟩ | ⟨b, off, cap', hv, h2, h2', h3, h4, h5⟩
  · cases hv; exact .inl ⟨by simp, a, cap, by simp, hm⟩
  · cases hv
    by_cases h0 : min n xs.length = 0
    · refine .inl ⟨?_, _, _, by rw [h0], h2'⟩
      apply List.eq_nil_of_length_eq_zero; rw [List.length_take]; exact h0
    · refine .inr ⟨b, off, cap, by rw [List.length_take], by rw [List.length_take]; omega, h2', h3, fun k hk => ?_, fun x hx => h5 x (List.mem_of_mem_take hx)⟩
      rw [List.length_take] at hk
      rw [h4 k (by omega)]
      simp [List.getD_eq_getElem?_getD, show k < n by omega]
theorem U8s.cell {w : World} {a : Option Addr} {n cap : Nat} {xs : List Nat} (h : U8s w (.slice a n cap) xs) : n = xs.length ∧ (0 < n → ∃ b off, a = some ⟨b, off, none⟩ ∧ b < w.heap.size ∧ ∀ k, k < n → w.cell? ⟨b, off + k, none⟩ = some (.int .u8 (xs.getD k 0 : Nat))) := by
  rcases h with ⟨rfl, a', cap', hv, _⟩ | ⟨b, off, cap', hv, h2, h2', h3, h4, h5⟩
  · cases hv; exact ⟨rfl, fun h => absurd h (Nat.lt_irrefl _)⟩
  · cases hv; exact ⟨rfl, fun _ => ⟨b, off, rfl, h3, h4⟩⟩
theorem grown_refl (w : World) (r : Option Nat) : w.grownBy w r := ⟨rfl, rfl, rfl, Nat.le_refl _, fun _ _ _ => rfl⟩
theorem grown_trans {a b c : World} {r : Option Nat} (h : a.grownBy b r) (k : b.grownBy c r) : a.grownBy c r :=
  ⟨k.os.trans h.os, k.tape.trans h.tape, k.output.trans h.output, Nat.le_trans h.size k.size, fun i hi hr => (k.block i (Nat.lt_of_lt_of_le hi h.size) hr).trans (h.block i hi hr)⟩
theorem grown_setCell {a b : World} {g : Nat} (h : a.grownBy b (some g)) (i : Nat) (v : Value) : a.grownBy (b.setCell ⟨g, i, none⟩ v) (some g) :=
  ⟨h.os, h.tape, h.output, by simpa using h.size, fun k hk hr => (Below.heap_setCell b ⟨g, i, none⟩ v k (fun e => hr (by rw [e]))).trans (h.block k hk hr)⟩
theorem grown_alloc {a b : World} {r : Option Nat} (h : a.grownBy b r) (o : Obj) : a.grownBy (b.alloc o) r := grown_trans h (World.grownBy_alloc b o r)
theorem grown_below {a b : World} {r : Option Nat} {B : Nat} (h : Below B a b) (hB : a.heap.size ≤ B) : a.grownBy b r := ⟨h.os, h.tape, h.output, h.size, fun k hk _ => h.block k (Nat.lt_of_lt_of_le hk hB)⟩
theorem grown_drew {a b : World} {r : Option Nat} (h : a.grownBy b r) : a.grownBy b.drew r := ⟨h.os, h.tape, h.output, h.size, h.block⟩
theorem below_grown {a b : World} {g B : Nat} (h : a.grownBy b (some g)) (hB : B ≤ g) (hB' : B ≤ a.heap.size) : Below B a b :=
  ⟨h.os, h.tape, h.output, h.size, fun k hk => h.block k (by omega) (by simp; omega)⟩
theorem U8s.old {w : World} {v : Value} {xs : List Nat} (h : U8s w v xs) {b : Nat} (hb : w.heap.size ≤ b) : xs = [] ∨ v.ownBlock ≠ some b := by
  rcases h with h | ⟨b', off, cap, rfl, h2, h2', h3, h4, h5⟩
  · exact .inl h.1
  · exact .inr (by simp [Value.ownBlock]; omega)
theorem U8s.drew {w : World} {v : Value} {xs : List Nat} (h : U8s w v xs) : U8s w.drew v xs := h.ext ⟨rfl, rfl, rfl, Nat.le_refl _, fun _ _ => rfl, fun _ _ => rfl, fun _ _ => rfl⟩
theorem below_undrew {a b : World} {B : Nat} (h : Below B a.drew b) : Below B a b := ⟨h.os, h.tape, h.output, h.size, h.block⟩
/-- A slice of rows of bytes. -/
def Rws (w : World) (v : Value) (l : List (List Nat)) : Prop :=
  (l = [] ∧ ∃ a cap, v = .slice a 0 cap) ∨
  ∃ b off cap, v = .slice (some ⟨b, off, none⟩) l.length cap ∧ l.length ≤ cap ∧ cap ≤ maxLen ∧ b < w.heap.size ∧ ∀ k, k < l.length → ∃ u, w.cell? ⟨b, off + k, none⟩ = some u ∧ U8s w u (l.getD k [])
theorem Rws.nil (w : World) (a : Option Addr) (cap : Nat) : Rws w (.slice a 0 cap) [] := .inl ⟨rfl, a, cap, rfl⟩
theorem Rws.ext {w w' : World} {v : Value} {l : List (List Nat)} (h : Rws w v l) (hb : w.Extends w') : Rws w' v l := by
  rcases h with h | ⟨b, off, cap, h1, h2, h2', h3, h4⟩
  · exact .inl h
  · refine .inr ⟨b, off, cap, h1, h2, h2', Nat.lt_of_lt_of_le h3 hb.size, fun k hk => ?_⟩
    obtain ⟨u, hu, hv⟩ := h4 k hk
    exact ⟨u, (hb.cell ⟨b, off + k, none⟩ h3).trans hu, hv.ext hb⟩
theorem ext_below {B : Nat} {w w' : World} (h : Below B w w') (hB : B = w.heap.size) : w.Extends w' := by
  subst hB
  exact ⟨h.os, h.tape, h.output, h.size, fun _ ha => World.cell?_of_block (w := w) (h.block _ ha), fun _ ha => World.frozen?_of_block (w := w) (h.block _ ha), h.block⟩
theorem Rws.below {w w' : World} {v : Value} {l : List (List Nat)} (h : Rws w v l) {B : Nat} (hb : Below B w w') (hB : B = w.heap.size) : Rws w' v l := h.ext (ext_below hb hB)
theorem Rws.slice {w : World} {v : Value} {l : List (List Nat)} (h : Rws w v l) : ∃ a cap, v = .slice a l.length cap ∧ l.length ≤ cap := by
  rcases h with ⟨rfl, a, cap, rfl⟩ | ⟨b, off, cap, rfl, h1, _⟩
  · exact ⟨a, cap, rfl, Nat.zero_le _⟩
  · exact ⟨_, cap, rfl, h1⟩
theorem Rws.len {w : World} {v : Value} {l : List (List Nat)} (h : Rws w v l) : l.length ≤ maxLen := by
  rcases h with ⟨rfl, _⟩ | ⟨b, off, cap, rfl, h1, h2, _⟩
  · simp [maxLen]
  · exact Nat.le_trans h1 h2
/-- Row k: its cell, and how it reads. -/
theorem Rws.at {w : World} {a : Option Addr} {n cap : Nat} {l : List (List Nat)} (h : Rws w (.slice a n cap) l) : n = l.length ∧ (0 < n → ∃ b off, a = some ⟨b, off, none⟩ ∧ b < w.heap.size ∧ ∀ k, k < n → ∃ a' c', w.cell? ⟨b, off + k, none⟩ = some (.slice a' (l.getD k []).length c') ∧ U8s w (.slice a' (l.getD k []).length c') (l.getD k [])) := by
  rcases h with ⟨rfl, a', cap', hv⟩ | ⟨b, off, cap', hv, h2, h2', h3, h4⟩
  · cases hv; exact ⟨rfl, fun h => absurd h (Nat.lt_irrefl _)⟩
  · cases hv
    refine ⟨rfl, fun _ => ⟨b, off, rfl, h3, fun k hk => ?_⟩⟩
    obtain ⟨u, hu, hs⟩ := h4 k hk
    obtain ⟨a', c', rfl, _, _⟩ := hs.slice
    exact ⟨a', c', hu, hs⟩
theorem Rws.row_lt {w : World} {v : Value} {l : List (List Nat)} (h : Rws w v l) (k i : Nat) : (l.getD k []).getD i 0 < 256 := by
  rcases h with ⟨rfl, _⟩ | ⟨b, off, cap, rfl, _, _, _, h4⟩
  · simp
  · by_cases hk : k < l.length
    · obtain ⟨u, _, hs⟩ := h4 k hk
      exact getD_lt _ hs.lt i
    · simp [List.getD_eq_getElem?_getD, List.getElem?_eq_none (Nat.le_of_not_lt hk)]
/-- A fresh literal of slices. -/
theorem rws_new (W : World) (s n c : Nat) (T : TypeId) (vs : Array Value) (l : List (List Nat)) (hs : s = W.heap.size) (hn : n = l.length) (hm : l.length ≤ maxLen)
    (h : ∀ k, k < l.length → ∃ u, vs[k]? = some u ∧ U8s W u (l.getD k [])) (hcn : c = n := by rfl) : Rws (W.alloc (.cells vs T)) (.slice (some ⟨s, 0, none⟩) n c) l := by
  subst hcn; subst hs; subst hn
  have hx : W.Extends (W.alloc (.cells vs T)) := ext_below ((Below.refl _ _).alloc (Nat.le_refl _) _) rfl
  refine .inr ⟨W.heap.size, 0, l.length, rfl, Nat.le_refl _, hm, by simp, fun k hk => ?_⟩
  obtain ⟨u, hu, hv⟩ := h k hk
  refine ⟨u, ?_, hv.ext hx⟩
  have := cell_of_row (W.alloc (.cells vs T)) W.heap.size k _ T (0, 0) (heap_alloc_new W _)
  rw [Nat.zero_add, this, hu]
theorem rws_one (W : World) (s : Nat) (T : TypeId) (u : Value) (a : List Nat) (hu : U8s W u a) (hs : s = W.heap.size := by rfl) : Rws (W.alloc (.cells #[u] T)) (.slice (some ⟨s, 0, none⟩) 1 1) [a] :=
  rws_new W s 1 1 T #[u] [a] hs rfl (by simp [maxLen]) fun k hk => by
    obtain rfl : k = 0 := by simp at hk; omega
    exact ⟨u, rfl, hu⟩
theorem rws_two (W : World) (s : Nat) (T : TypeId) (u v : Value) (a b : List Nat) (hu : U8s W u a) (hv : U8s W v b) (hs : s = W.heap.size := by rfl) : Rws (W.alloc (.cells #[u, v] T)) (.slice (some ⟨s, 0, none⟩) 2 2) [a, b] :=
  rws_new W s 2 2 T #[u, v] [a, b] hs rfl (by simp [maxLen]) fun k hk => by
    match k, hk with
    | 0, _ => exact ⟨u, rfl, hu⟩
    | 1, _ => exact ⟨v, rfl, hv⟩
theorem ext_alloc (w : World) (o : Obj) : w.Extends (w.alloc o) := ext_below ((Below.refl _ _).alloc (Nat.le_refl _) _) rfl
theorem Rws.drew {w : World} {v : Value} {l : List (List Nat)} (h : Rws w v l) : Rws w.drew v l := h.ext ⟨rfl, rfl, rfl, Nat.le_refl _, fun _ _ => rfl, fun _ _ => rfl, fun _ _ => rfl⟩
end Go.Proofs.YtpfmmfapdcbnkaaGreatDoor
namespace Go.Proofs.YtpfmmfapdcbnkaaGreatDoor
set_option maxRecDepth 20000
open Go.RowKit Go.Deep Go.ChangeShapes Go.WideShapes
section
variable {H : Type} {enc : TypeId × Value → H} {P : Program} {w : World} {base : Nat} {held : Bool}
theorem open_u8s {t e : TypeId} {fuel : Nat} {v : Value} {x : DataW H × List MemPlace} (ht : P.underlying t = some (.slice e)) (he : P.underlying e = some (.int .u8)) (hc : P.cellsOf e = 1)
    (hv : ∃ a len cap, v = .slice a len cap) (h : DataW.trod enc P w base (fun _ => true) held fuel t v.cells.toList = some x) : ∃ xs, U8s w v xs := by
  obtain ⟨a, len, cap, rfl⟩ := hv
  rcases open_ints ht he hc h with ⟨hcs, _⟩ | ⟨a', len', cap', zs, hcs, _, hl, hm, hz, _, hcell, hwz⟩
  · simp [Value.cells] at hcs
    obtain ⟨rfl, rfl, rfl⟩ := hcs
    exact ⟨[], .inl ⟨rfl, none, 0, rfl, Nat.zero_le _⟩⟩
  · simp [Value.cells] at hcs
    obtain ⟨rfl, rfl, rfl⟩ := hcs
    simp only [if_true] at hz
    have := (IsRow.u8s (w := w) (a := some a') (len := len) (cap := cap) (zs := zs) (.inr ⟨a', rfl, hl, hm, hz, hcell, hwz⟩))
    exact ⟨_, this.1⟩
end
end Go.Proofs.YtpfmmfapdcbnkaaGreatDoor
namespace Go.Proofs.YtpfmmfapdcbnkaaGreatDoor
set_option maxRecDepth 20000
open Go.RowKit Go.Deep
section
variable {P : Program} (w : World)
theorem run_append_own_src (base : Nat) (t tx ty e : TypeId) (i : TypeInfo) (z : Value) (size bytes : Nat) (ht : P.underlying t = some (.slice e)) (hi : P.info? e = some i) (hz : i.zero = some z)
    (hsize : i.size = size) (hby : i.bytes = bytes) (hzs : z.cells.size = size)
    (v : Value) (n : Nat) (xs : List Value) (hown : w.ownsRow base e size v n xs) (x : Value) (m : Nat) (news : List Value) (hs : Src P size tx x m news w)
    (h63 : n + m ≤ maxLen) (hbytes : (n + m) * bytes ≤ 140737488355328) (hbase : base ≤ w.heap.size) :
    ∃ v' w', (Builtin.append_ #[t, tx] ty #[v, x]).run P w = .ok v' w' ∧ w'.ownsRow base e size v' (n + m) (xs ++ news) ∧ w.grownBy w' v.ownBlock ∧
      (v' = .slice none 0 0 ↔ v = .slice none 0 0 ∧ m = 0) := by
  subst hsize
  subst hby
  have hsmall : n + m ≤ 9223372036854775807 := by simp only [maxLen] at h63; omega
  have hl := hs.newsLen
  have hlen : (xs ++ news).length = (n + m) * i.size := by rw [List.length_append, hown.1, hl, Nat.add_mul]
  have grown : ∀ (old : Nat), old < n + m → ∀ (row : Option Nat),
      (w.drew.alloc (.cells ((xs ++ news).toArray ++ Builtin.zeroCells z.cells (grownCap w (n + m) old e - (n + m))) e)).ownsRow base e i.size
        (.slice (some ⟨w.heap.size, 0, none⟩) (n + m) (grownCap w (n + m) old e)) (n + m) (xs ++ news) ∧
      w.grownBy (w.drew.alloc (.cells ((xs ++ news).toArray ++ Builtin.zeroCells z.cells (grownCap w (n + m) old e - (n + m))) e)) row := by
    intro old ho row
    have hge := grownCap_ge w (n + m) old e
    have hcm : grownCap w (n + m) old e ≤ maxLen := grownCap_le_maxLen w (n + m) old e h63
    refine ⟨⟨hlen, .inr ⟨w.heap.size, _, _, rfl, hbase, heap_alloc_new w.drew _, hge, hcm, ?_, ?_⟩⟩, ⟨rfl, rfl, rfl, by simp, fun k hk _ => Below.heap_alloc w.drew _ k hk⟩⟩
    · simp only [Array.size_append, List.size_toArray, size_zeroCells, hzs, hlen, ← Nat.add_mul]
      congr 1
      omega
    · simp only [Array.toList_append]
      rw [← hlen]
      exact List.take_left
  rcases hown.2 with ⟨rfl, rfl⟩ | ⟨g, cap, cur, rfl, hbg, hg, hnc, hcm, hcs, htake⟩
  · have hx : xs = [] := List.eq_nil_of_length_eq_zero (by simpa using hown.1)
    subst hx
    by_cases hm : m = 0
    · subst hm
      have hn : news = [] := List.eq_nil_of_length_eq_zero (by simpa using hl)
      subst hn
      refine ⟨.slice none 0 0, w, ?_, World.ownsRow_nil w base e i.size, ⟨rfl, rfl, rfl, Nat.le_refl _, fun _ _ _ => rfl⟩, by simp⟩
      rcases hs.kind with ⟨e', hk⟩ | hk <;> simp [Builtin.append_, run_underlying ht, run_underlying hk, sizeOf, typeInfo, hi, hs.len, hs.cells]
    · have hr := run_append_grow_src (P := P) w t tx ty e i z ht hi hz none 0 0 [] (by simp [Builtin.firstCells]) x m news hs (by omega) (by omega) (growslice_fits (by omega) (by have hb := hbytes; simp only [Nat.zero_add] at hb ⊢; exact hb))
      have hgr := grown 0 (by omega) (Value.ownBlock (.slice none 0 0))
      simp only [Nat.zero_add, List.nil_append] at hgr hr ⊢
      exact ⟨_, _, hr, hgr.1, hgr.2, by simp [hm]⟩
  · by_cases hroom : n + m ≤ cap
    · have hfit : n * i.size + news.length ≤ cur.size := by rw [hl, hcs, ← Nat.add_mul]; exact Nat.mul_le_mul_right _ hroom
      have hst := run_storeCells_at P g (n * i.size) e news 0 cur w hg (by simpa using hfit) hs.one
      simp only [Nat.add_zero] at hst
      have hr : (Builtin.append_ #[t, tx] ty #[.slice (some ⟨g, 0, none⟩) n cap, x]).run P w =
          .ok (.slice (some ⟨g, 0, none⟩) (n + m) cap) (w.setRow g (cur.toList.take (n * i.size) ++ news ++ cur.toList.drop (n * i.size + news.length)).toArray) := by
        rcases hs.kind with ⟨e', hk⟩ | hk <;> simp [Builtin.append_, run_underlying ht, run_underlying hk, sizeOf, typeInfo, hi, hs.len, hroom, hs.cells, Addr.add_lit, hst]
      refine ⟨_, _, hr, ⟨hlen, .inr ⟨g, cap, _, rfl, hbg, setRow_heap w g cur _ e _ hg, hroom, hcm, ?_, ?_⟩⟩, ⟨rfl, rfl, rfl, by simp, fun k _ hk => setRow_other w g k _ (fun e => hk (by simp [Value.ownBlock, e]))⟩, by simp⟩
      · simp only [List.size_toArray, List.length_append, List.length_take, List.length_drop, Array.length_toList]
        omega
      · rw [htake, ← hlen]
        exact List.take_left
    · have holds : ∀ j u, xs[j]? = some u → w.cell? ((⟨g, 0, none⟩ : Addr).add j) = some u := hown.cells (g := g) rfl
      have hold := run_firstCells_some (P := P) w.drew i.size n ⟨g, 0, none⟩ n cap xs hown.1 (by simpa using holds)
      have hr := run_append_grow_src (P := P) w t tx ty e i z ht hi hz (some ⟨g, 0, none⟩) n cap xs hold x m news hs (by omega) (by omega) (growslice_fits (by omega) hbytes)
      have hgr := grown cap (by omega) (Value.ownBlock (.slice (some ⟨g, 0, none⟩) n cap))
      exact ⟨_, _, hr, hgr.1, hgr.2, by simp⟩
theorem wp_append_own_src {o : Oper} {a : Act} {K : Act → World → Prop} {Q : Exit → Act → World → Prop} (s x : Operand) (t tx : TypeId)
    (ho : o.op = .call { callee := .builtin .append, args := #[s, x], argTypes := #[t, tx] })
    (base : Nat) (e : TypeId) (i : TypeInfo) (z : Value) (size bytes : Nat) (ht : P.underlying t = some (.slice e)) (hi : P.info? e = some i) (hz : i.zero = some z)
    (hsize : i.size = size) (hby : i.bytes = bytes) (hzs : z.cells.size = size)
    (v : Value) (n : Nat) (xs : List Value) (hs : a.eval s = v) (hown : w.ownsRow base e size v n xs) (y : Value) (m : Nat) (news : List Value) (hx : a.eval x = y) (hsrc : Src P size tx y m news w)
    (h63 : n + m ≤ maxLen) (hbytes : (n + m) * bytes ≤ 140737488355328) (hbase : base ≤ w.heap.size)
    (h : ∀ v' w', w'.ownsRow base e size v' (n + m) (xs ++ news) → w.grownBy w' v.ownBlock → (v' = .slice none 0 0 ↔ v = .slice none 0 0 ∧ m = 0) → K (a.put o.dst v') w') : o.wp P a w K Q := by
  obtain ⟨v', w', hr, h2, h3, h4⟩ := run_append_own_src (P := P) w base t tx o.type e i z size bytes ht hi hz hsize hby hzs v n xs hown y m news hsrc h63 hbytes hbase
  unfold Oper.wp execOp
  simp only [ho, resolve, invoke, builtin, Sem.run_bind, Sem.run_pure, Result.andThen_ok, List.map_toArray, List.map_cons, List.map_nil, hs, hx, hr]
  exact h v' w' h2 h3 h4
theorem wpList_append_own_src {ops : Array Oper} {rest : List Oper} {o : Oper} {a : Act} {Q : Exit → Act → World → Prop} (hgd : o.guard = none) (s x : Operand) (t tx : TypeId)
    (ho : o.op = .call { callee := .builtin .append, args := #[s, x], argTypes := #[t, tx] })
    (base : Nat) (e : TypeId) (i : TypeInfo) (z : Value) (size bytes : Nat) (ht : P.underlying t = some (.slice e)) (hi : P.info? e = some i) (hz : i.zero = some z)
    (hsize : i.size = size) (hby : i.bytes = bytes) (hzs : z.cells.size = size)
    (v : Value) (n : Nat) (xs : List Value) (hs : a.eval s = v) (hown : w.ownsRow base e size v n xs) (y : Value) (m : Nat) (news : List Value) (hx : a.eval x = y) (hsrc : Src P size tx y m news w)
    (h63 : n + m ≤ maxLen) (hbytes : (n + m) * bytes ≤ 140737488355328) (hbase : base ≤ w.heap.size)
    (h : ∀ v' w', w'.ownsRow base e size v' (n + m) (xs ++ news) → w.grownBy w' v.ownBlock → (v' = .slice none 0 0 ↔ v = .slice none 0 0 ∧ m = 0) → wpList P ops Q rest (a.put o.dst v') w') : wpList P ops Q (o :: rest) a w :=
  wpList_plain hgd fun _ hK => wp_append_own_src w s x t tx ho base e i z size bytes ht hi hz hsize hby hzs v n xs hs hown y m news hx hsrc h63 hbytes hbase fun v' w' h2 h3 h4 => hK _ _ (h v' w' h2 h3 h4)
end
/-- Bytes as values. -/
def u8vs (xs : List Nat) : List Value := xs.map fun (x : Nat) => Value.int .u8 (x : Int)
theorem u8vs_length (xs : List Nat) : (u8vs xs).length = xs.length := by simp [u8vs]
theorem u8vs_at (xs : List Nat) (j : Nat) (u : Value) (h : (u8vs xs)[j]? = some u) : j < xs.length ∧ u = .int .u8 (xs.getD j 0 : Nat) := by
  have hj : j < xs.length := by
    rcases Nat.lt_or_ge j xs.length with h' | h'
    · exact h'
    · rw [List.getElem?_eq_none (by rw [u8vs_length]; exact h')] at h; cases h
  refine ⟨hj, ?_⟩
  simp [u8vs, hj] at h
  simp [hj, ← h]
/-- A slice of bytes as a source of append. -/
theorem U8s.src {P : Program} {w : World} {v : Value} {xs : List Nat} (h : U8s w v xs) {tx e' : TypeId} (hk : P.underlying tx = some (.slice e')) : Src P 1 tx v xs.length (u8vs xs) w := by
  obtain ⟨a, cap, rfl, _, _⟩ := h.slice
  by_cases h0 : xs.length = 0
  · have : xs = [] := List.eq_nil_of_length_eq_zero h0
    subst this
    cases a with
    | none => exact Src.ofNil w hk cap
    | some a => exact Src.ofSlice w hk a 0 cap [] rfl (by simp) (by simp)
  · obtain ⟨b, off, rfl, _, hc⟩ := h.cell.2 (by omega)
    refine Src.ofSlice w hk ⟨b, off, none⟩ xs.length cap (u8vs xs) (by rw [u8vs_length, Nat.mul_one]) (fun j u hu => ?_) (fun u hu => ?_)
    · obtain ⟨hj, rfl⟩ := u8vs_at xs j u hu
      rw [Addr.add_mid]; exact hc j hj
    · obtain ⟨x, _, rfl⟩ := List.mem_map.1 hu; rfl
/-- A slice of bytes that the call has appended together. -/
theorem owns_u8s {w : World} {base : Nat} {T : TypeId} {v : Value} {n : Nat} {xs : List Nat} (h : w.ownsRow base T 1 v n (u8vs xs)) (hlt : ∀ x ∈ xs, x < 256) : U8s w v xs := by
  have hn : xs.length = n := by have := h.1; rw [u8vs_length, Nat.mul_one] at this; exact this
  rcases h.2 with ⟨rfl, rfl⟩ | ⟨g, cap, cur, rfl, hbg, hg, hnc, hcm, hcs, htake⟩
  · exact .inl ⟨List.eq_nil_of_length_eq_zero hn, none, 0, rfl, Nat.zero_le _⟩
  · refine .inr ⟨g, 0, cap, by rw [hn], by omega, hcm, ?_, fun k hk => ?_, hlt⟩
    · exact (Array.getElem?_eq_some_iff.1 hg).1
    · have := h.cells (g := g) rfl k (.int .u8 (xs.getD k 0 : Nat)) (by simp [u8vs, hk])
      rw [Addr.add_mid] at this
      exact this
/-- The literal of one value that append(s, u) makes. -/
theorem src_one {P : Program} {W : World} {T tx e' : TypeId} {u : Value} (hk : P.underlying tx = some (.slice e')) (s c : Nat) (hs : s = W.heap.size) (h1 : u.oneCell' = true) :
    Src P 1 tx (.slice (some ⟨s, 0, none⟩) 1 c) 1 [u] (W.alloc (.cells #[u] T)) := by
  subst hs
  refine Src.ofSlice _ hk ⟨W.heap.size, 0, none⟩ 1 c [u] rfl (fun j u' hu => ?_) (fun u' hu => ?_)
  · have hj : j = 0 := by
      rcases Nat.eq_zero_or_pos j with h | h
      · exact h
      · rw [List.getElem?_eq_none (by simp; omega)] at hu; cases hu
    subst hj
    simp at hu
    subst hu
    rw [Addr.add_mid]
    simp
  · simp at hu; subst hu; exact h1
theorem owns_slice {w : World} {B : Nat} {e : TypeId} {s : Nat} {v : Value} {n : Nat} {xs : List Value} (h : w.ownsRow B e s v n xs) : ∃ a cap, v = .slice a n cap := by
  rcases h.2 with ⟨rfl, rfl⟩ | ⟨g, cap, cur, rfl, _⟩
  · exact ⟨none, 0, rfl⟩
  · exact ⟨_, cap, rfl⟩
end Go.Proofs.YtpfmmfapdcbnkaaGreatDoor
namespace Go.Proofs.YtpfmmfapdcbnkaaGreatDoor
set_option maxRecDepth 20000
open Go.RowKit Go.Deep
set_option linter.unusedVariables false
/-- u reads as xs, and lies in memory from before B, or in a row of bytes. -/
def RowOk (w : World) (B : Nat) (u : Value) (xs : List Nat) : Prop := U8s w u xs ∧ (xs = [] ∨ ∀ g, u.ownBlock = some g → g < w.heap.size ∧ (g < B ∨ ∃ cs, w.heap[g]? = some (.cells cs 5 (0, 0))))
theorem bytesinfo : (Tryz.prog.info? 30).map (fun i => (i.zero, i.size, i.bytes)) = some (some (.slice none 0 0), 1, 24) := by kernel_rfl
theorem rowinfo : (Tryz.prog.info? 99).map (fun i => (i.zero, i.size, i.bytes)) = some (some (.slice none 0 0), 1, 24) := by kernel_rfl
theorem RowOk.old {w : World} {u : Value} {xs : List Nat} (h : U8s w u xs) {B : Nat} (hB : w.heap.size ≤ B) : RowOk w B u xs := by
  refine ⟨h, ?_⟩
  rcases h with h | ⟨b, off, cap, rfl, h1, h2, h3, h4, h5⟩
  · exact .inl h.1
  · refine .inr fun g hg => ?_
    simp only [Value.ownBlock, Option.some.injEq] at hg
    subst hg
    exact ⟨h3, .inl (by omega)⟩
theorem RowOk.own {w : World} {b n c : Nat} {xs : List Nat} (h : Own w b 5 xs) (B : Nat) (hn : n = xs.length) (hc : c = xs.length) : RowOk w B (.slice (some ⟨b, 0, none⟩) n c) xs := by
  subst hn; subst hc
  refine ⟨h.u8s, .inr fun g hg => ?_⟩
  simp only [Value.ownBlock, Option.some.injEq] at hg
  subst hg
  obtain ⟨cs, hcs, _⟩ := h.1
  exact ⟨h.lt, .inr ⟨cs, hcs⟩⟩
theorem RowOk.apart {w : World} {B B' : Nat} {u v : Value} {xs : List Nat} {n : Nat} {vs : List Value} {T : TypeId} (h : RowOk w B u xs) (ho : w.ownsRow B T 1 v n vs) (hT : T ≠ 5) (hne : v.ownBlock ≠ none) : xs = [] ∨ u.ownBlock ≠ v.ownBlock := by
  rcases h.2 with h0 | h0
  · exact .inl h0
  · refine .inr fun e => ?_
    cases hv : v.ownBlock with
    | none => exact hne hv
    | some g =>
      rw [hv] at e
      obtain ⟨_, h1⟩ := h0 g e
      have hb := (ho.lt g hv).1
      rcases h1 with h1 | ⟨cs, hcs⟩
      · omega
      · rcases ho.2 with ⟨rfl, _⟩ | ⟨g', cap, cur, rfl, hbg, hg, _⟩
        · cases hv
        · simp only [Value.ownBlock, Option.some.injEq] at hv
          subst hv
          rw [hg] at hcs
          simp only [Option.some.injEq, Obj.cells.injEq] at hcs
          exact hT hcs.2.1
theorem RowOk.grown {w w' : World} {B : Nat} {u : Value} {xs : List Nat} {r : Option Nat} (h : RowOk w B u xs) (hg : w.grownBy w' r) (hr : xs = [] ∨ u.ownBlock ≠ r) : RowOk w' B u xs := by
  refine ⟨h.1.grown hg hr, ?_⟩
  rcases h.2 with h0 | h0
  · exact .inl h0
  · rcases hr with hr | hr
    · exact .inl hr
    · refine .inr fun g hgu => ?_
      obtain ⟨h1, h2⟩ := h0 g hgu
      have he : w'.heap[g]? = w.heap[g]? := hg.block g h1 (by rw [← hgu]; exact hr)
      exact ⟨Nat.lt_of_lt_of_le h1 hg.size, (by rcases h2 with h2 | ⟨cs, hcs⟩; exact .inl h2; exact .inr ⟨cs, he.trans hcs⟩)⟩
theorem RowOk.ext {w w' : World} {B : Nat} {u : Value} {xs : List Nat} (h : RowOk w B u xs) (hx : w.Extends w') : RowOk w' B u xs := by
  refine ⟨h.1.ext hx, ?_⟩
  rcases h.2 with h0 | h0
  · exact .inl h0
  refine .inr fun g hgu => ?_
  obtain ⟨h1, h2⟩ := h0 g hgu
  refine ⟨Nat.lt_of_lt_of_le h1 hx.size, ?_⟩
  rcases h2 with h2 | ⟨cs, hcs⟩
  · exact .inl h2
  · exact .inr ⟨cs, (hx.block g h1).trans hcs⟩
theorem list_of {n : Nat} {R : Nat → Value → Prop} (h : ∀ k, k < n → ∃ u, R k u) : ∃ vs : List Value, vs.length = n ∧ ∀ k, k < n → ∃ u, vs[k]? = some u ∧ R k u := by
  induction n with
  | zero => exact ⟨[], rfl, fun k hk => absurd hk (Nat.not_lt_zero _)⟩
  | succ n ih =>
    obtain ⟨vs, hl, hv⟩ := ih fun k hk => h k (by omega)
    obtain ⟨u, hu⟩ := h n (by omega)
    refine ⟨vs ++ [u], by simp [hl], fun k hk => ?_⟩
    by_cases hkn : k < n
    · obtain ⟨u', h1, h2⟩ := hv k hkn
      exact ⟨u', by rw [List.getElem?_append_left (by omega)]; exact h1, h2⟩
    · obtain rfl : k = n := by omega
      exact ⟨u, by rw [List.getElem?_append_right (by omega), hl]; simp, hu⟩
theorem u8s_one {w : World} {v : Value} {xs : List Nat} (h : U8s w v xs) : v.oneCell' = true := by
  obtain ⟨a, c, rfl, _⟩ := h.slice; rfl
/-- A slice of rows as a source of append. -/
theorem Rws.srcs {P : Program} {w : World} {v : Value} {l : List (List Nat)} (h : Rws w v l) {tx e' : TypeId} (hk : P.underlying tx = some (.slice e')) :
    ∃ vs, Src P 1 tx v l.length vs w ∧ ∀ j, j < l.length → ∃ u, vs[j]? = some u ∧ U8s w u (l.getD j []) := by
  rcases h with ⟨rfl, a, cap, rfl⟩ | ⟨b, off, cap, rfl, h1, h2, h3, h4⟩
  · refine ⟨[], ?_, fun j hj => absurd hj (Nat.not_lt_zero _)⟩
    cases a with
    | none => exact Src.ofNil w hk cap
    | some a => exact Src.ofSlice w hk a 0 cap [] rfl (by simp) (by simp)
  · obtain ⟨vs, hl, hv⟩ := list_of h4
    refine ⟨vs, Src.ofSlice w hk ⟨b, off, none⟩ l.length cap vs (by rw [hl, Nat.mul_one]) (fun j u hu => ?_) (fun u hu => ?_), fun j hj => ?_⟩
    · have hj : j < l.length := by
        rcases Nat.lt_or_ge j l.length with h | h
        · exact h
        · rw [List.getElem?_eq_none (by omega)] at hu; cases hu
      obtain ⟨u', h5, h6, _⟩ := hv j hj
      rw [hu] at h5; cases h5
      rw [Addr.add_mid]; exact h6
    · obtain ⟨j, hj, rfl⟩ := List.mem_iff_getElem.1 hu
      obtain ⟨u', h5, _, h7⟩ := hv j (by omega)
      rw [List.getElem?_eq_getElem hj] at h5
      rw [Option.some.inj h5]; exact u8s_one h7
    · obtain ⟨u, h5, _, h7⟩ := hv j hj
      exact ⟨u, h5, h7⟩
theorem RowOk.mono {w : World} {B B' : Nat} {u : Value} {xs : List Nat} (h : RowOk w B u xs) (hB : B ≤ B') : RowOk w B' u xs := by
  refine ⟨h.1, ?_⟩
  rcases h.2 with h0 | h0
  · exact .inl h0
  · exact .inr fun g hg => ⟨(h0 g hg).1, (h0 g hg).2.imp (fun h => Nat.lt_of_lt_of_le h hB) id⟩
/-- v is the call's own slice (of elements of type T, in memory from B on) of values that read as the first k of l, and lie in memory from before R or in blocks of bytes. -/
def Mats (w : World) (B R : Nat) (T : TypeId) (v : Value) (k : Nat) (l : List (List Nat)) : Prop := ∃ vs, w.ownsRow B T 1 v k vs ∧ ∀ j, j < k → ∃ u, vs[j]? = some u ∧ RowOk w R u (l.getD j [])
theorem Mats.nil (w : World) (B R : Nat) (T : TypeId) (l : List (List Nat)) : Mats w B R T (.slice none 0 0) 0 l := ⟨[], World.ownsRow_nil _ _ _ _, fun j hj => absurd hj (Nat.not_lt_zero _)⟩
theorem Mats.rws {w : World} {B R : Nat} {T : TypeId} {v : Value} {k : Nat} {l : List (List Nat)} (h : Mats w B R T v k l) (hk : k = l.length) : Rws w v l := by
  subst hk
  obtain ⟨vs, hown, hrow⟩ := h
  rcases hown.2 with ⟨rfl, h0⟩ | ⟨g, cap, cur, rfl, hbg, hg, hnc, hcm, hcs, htake⟩
  · exact .inl ⟨List.eq_nil_of_length_eq_zero h0, none, 0, rfl⟩
  · refine .inr ⟨g, 0, cap, rfl, hnc, hcm, (Array.getElem?_eq_some_iff.1 hg).1, fun j hj => ?_⟩
    obtain ⟨u, hu, ho⟩ := hrow j hj
    refine ⟨u, ?_, ho.1⟩
    have := hown.cells (g := g) rfl j u hu
    rw [Addr.add_mid] at this
    exact this
theorem Mats.grow {w w' : World} {B R : Nat} {T : TypeId} {v v' : Value} {k m : Nat} {l r : List (List Nat)} {vs us : List Value} (hR : R ≤ B) (hT : T ≠ 5) (hk : k = l.length) (hm : m = r.length) (hown : w.ownsRow B T 1 v k vs) (hr : ∀ j, j < k → ∃ u, vs[j]? = some u ∧ RowOk w R u (l.getD j [])) (hu : ∀ j, j < m → ∃ u, us[j]? = some u ∧ RowOk w R u (r.getD j []))
    (hg : w.grownBy w' v.ownBlock) (ho : w'.ownsRow B T 1 v' (k + m) (vs ++ us)) : Mats w' B R T v' (k + m) (l ++ r) := by
  have hl : vs.length = k := by have := hown.1; omega
  have keep : ∀ {x : Value} {xs : List Nat}, RowOk w R x xs → RowOk w' R x xs := fun {x xs} h => by
    by_cases hn : v.ownBlock = none
    · rw [hn] at hg
      exact h.ext (ext_below ⟨hg.os, hg.tape, hg.output, hg.size, fun i hi => hg.block i hi (by simp)⟩ rfl)
    · exact h.grown hg ((h.mono hR).apart (B' := B) hown hT hn)
  refine ⟨vs ++ us, ho, fun j hj => ?_⟩
  by_cases hjk : j < k
  · obtain ⟨u', hu', ho'⟩ := hr j hjk
    refine ⟨u', by rw [List.getElem?_append_left (by omega)]; exact hu', ?_⟩
    rw [show (l ++ r).getD j [] = l.getD j [] by simp [List.getD_eq_getElem?_getD, List.getElem?_append_left (show j < l.length by omega)]]
    exact keep ho'
  · obtain ⟨u', hu', ho'⟩ := hu (j - k) (by omega)
    refine ⟨u', by rw [List.getElem?_append_right (by omega), hl]; exact hu', ?_⟩
    rw [show (l ++ r).getD j [] = r.getD (j - k) [] by simp [List.getD_eq_getElem?_getD, List.getElem?_append_right (show l.length ≤ j by omega), hk]]
    exact keep ho'
theorem Mats.snoc {w w' : World} {B R : Nat} {T : TypeId} {v v' u : Value} {k : Nat} {l : List (List Nat)} {vs : List Value} {r : List Nat} (hR : R ≤ B) (hT : T ≠ 5) (hk : k = l.length) (hown : w.ownsRow B T 1 v k vs) (hr : ∀ j, j < k → ∃ u, vs[j]? = some u ∧ RowOk w R u (l.getD j [])) (hu : RowOk w R u r)
    (hg : w.grownBy w' v.ownBlock) (ho : w'.ownsRow B T 1 v' (k + 1) (vs ++ [u])) : Mats w' B R T v' (k + 1) (l ++ [r]) :=
  Mats.grow hR hT hk rfl hown hr (fun j hj => by
    obtain rfl : j = 0 := by omega
    exact ⟨u, rfl, hu⟩) hg ho
theorem Mats.ext {w w' : World} {B R : Nat} {T : TypeId} {v : Value} {k : Nat} {l : List (List Nat)} (h : Mats w B R T v k l) (hx : w.Extends w') : Mats w' B R T v k l := by
  obtain ⟨vs, ho, hr⟩ := h
  have hg : w.grownBy w' none := ⟨hx.os, hx.tape, hx.output, hx.size, fun i hi _ => hx.block i hi⟩
  refine ⟨vs, ho.kept hg (by cases v.ownBlock <;> simp), fun j hj => ?_⟩
  obtain ⟨u, h1, h2⟩ := hr j hj
  exact ⟨u, h1, h2.ext hx⟩
/-- Such a slice as a source of append. -/
theorem Mats.srcs {P : Program} {w : World} {B R : Nat} {T : TypeId} {v : Value} {k : Nat} {l : List (List Nat)} (h : Mats w B R T v k l) {tx e' : TypeId} (hk : P.underlying tx = some (.slice e')) :
    ∃ vs, Src P 1 tx v k vs w ∧ ∀ j, j < k → ∃ u, vs[j]? = some u ∧ RowOk w R u (l.getD j []) := by
  obtain ⟨vs, hown, hrow⟩ := h
  have hl : vs.length = k := by have := hown.1; omega
  refine ⟨vs, ?_, hrow⟩
  have hone : ∀ u ∈ vs, u.oneCell' = true := fun u hu => by
    obtain ⟨j, hj, rfl⟩ := List.mem_iff_getElem.1 hu
    obtain ⟨u', h5, h6⟩ := hrow j (by omega)
    rw [List.getElem?_eq_getElem hj] at h5
    rw [Option.some.inj h5]; exact u8s_one h6.1
  rcases id hown.2 with ⟨rfl, rfl⟩ | ⟨g, cap, cur, rfl, _⟩
  · obtain rfl : vs = [] := List.eq_nil_of_length_eq_zero hl
    exact Src.ofNil w hk 0
  · exact Src.ofSlice w hk ⟨g, 0, none⟩ k cap vs (by rw [hl, Nat.mul_one]) (fun j u hu => hown.cells (g := g) rfl j u hu) hone
theorem Mats.base {w : World} {B B' R : Nat} {T : TypeId} {v : Value} {k : Nat} {l : List (List Nat)} (h : Mats w B R T v k l) (hB : B' ≤ B) : Mats w B' R T v k l := by
  obtain ⟨vs, ho, hr⟩ := h
  refine ⟨vs, ⟨ho.1, ?_⟩, hr⟩
  rcases ho.2 with h' | ⟨g, cap, cur, h1, h2, h3⟩
  · exact .inl h'
  · exact .inr ⟨g, cap, cur, h1, Nat.le_trans hB h2, h3⟩
theorem Mats.slice {w : World} {B R : Nat} {T : TypeId} {v : Value} {k : Nat} {l : List (List Nat)} (h : Mats w B R T v k l) : ∃ a cap, v = .slice a k cap := by
  obtain ⟨vs, ho, hr⟩ := h
  rcases ho.2 with ⟨rfl, rfl⟩ | ⟨g, cap, cur, rfl, _⟩
  · exact ⟨_, _, rfl⟩
  · exact ⟨_, _, rfl⟩
end Go.Proofs.YtpfmmfapdcbnkaaGreatDoor
namespace Go.Proofs.YtpfmmfapdcbnkaaGreatDoor
set_option maxRecDepth 20000
namespace FM
def dbl (a : Nat) : Nat := if a < 128 then a * 2 else (a * 2 % 256) ^^^ 29
def tloop : Nat → Nat → Nat → Nat → Nat
  | 0, p, _, _ => p
  | f+1, p, a, b => tloop f (if b % 2 = 1 then p ^^^ a else p) (dbl a) (b / 2)
def tm (a b : Nat) : Nat := tloop 8 0 a b
def rx (a b : Nat) : Nat → Nat
  | 0 => 0
  | i+1 => if (b / 2^i) % 2 = 1 then rx a b i ^^^ (a * 2^i) else rx a b i
def rred (x : Nat) : Nat → Nat
  | 0 => x
  | j+1 => if (rred x j / 2^(14-j)) % 2 = 1 then rred x j ^^^ (285 * 2^(6-j)) else rred x j
def rtm (a b : Nat) : Nat := rred (rx a b 8) 7 % 256

theorem xor_lt {a b : Nat} (ha : a < 256) (hb : b < 256) : a ^^^ b < 256 := Nat.xor_lt_two_pow (n := 8) ha hb
theorem dbl_lt (a : Nat) (h : a < 256) : dbl a < 256 := by
  unfold dbl; split
  · omega
  · exact xor_lt (by omega) (by omega)
theorem tloop_zero (f p a : Nat) : tloop f p a 0 = p := by
  induction f generalizing p a with
  | zero => rfl
  | succ f ih => simp [tloop, ih]
theorem tloop_lt (f p a b : Nat) (hp : p < 256) (ha : a < 256) : tloop f p a b < 256 := by
  induction f generalizing p a b with
  | zero => exact hp
  | succ f ih =>
    rw [tloop]; refine ih _ _ _ ?_ (dbl_lt a ha)
    split
    · exact xor_lt hp ha
    · exact hp
theorem tm_lt (a b : Nat) (ha : a < 256) : tm a b < 256 := tloop_lt _ _ _ _ (by omega) ha

/-! ### what is linear -/
def Lin (f : Nat → Nat) : Prop := ∀ x y, x < 256 → y < 256 → f (x ^^^ y) = f x ^^^ f y

theorem Lin.zero {f : Nat → Nat} (h : Lin f) : f 0 = 0 := by
  have := h 0 0 (by omega) (by omega)
  rw [Nat.xor_self] at this
  rw [this, Nat.xor_self]

theorem split_bit : ∀ n, n < 8 → ∀ x, x < 256 → 2 ^ n ≤ x → x < 2 ^ (n + 1) → x = 2 ^ n ^^^ (x - 2 ^ n) := by decide +kernel

theorem Lin.ext {f g : Nat → Nat} (hf : Lin f) (hg : Lin g) (h : ∀ i, i < 8 → f (2 ^ i) = g (2 ^ i)) : ∀ x, x < 256 → f x = g x := by
  have key : ∀ n, n ≤ 8 → ∀ x, x < 2 ^ n → f x = g x := by
    intro n
    induction n with
    | zero =>
      intro _ x hx
      obtain rfl : x = 0 := by simpa using hx
      rw [hf.zero, hg.zero]
    | succ n ih =>
      intro hn x hx
      by_cases hlt : x < 2 ^ n
      · exact ih (by omega) x hlt
      · have h8 : 2 ^ (n + 1) ≤ 2 ^ 8 := Nat.pow_le_pow_right (by omega) hn
        have hp : 2 ^ (n + 1) = 2 ^ n * 2 := Nat.pow_succ 2 n
        have h1 : 2 ^ n < 256 := by omega
        have e := split_bit n (by omega) x (by omega) (by omega) hx
        rw [e, hf _ _ h1 (by omega), hg _ _ h1 (by omega), h n (by omega), ih (by omega) _ (by omega)]
  exact fun x hx => key 8 (by omega) x hx

theorem xor_four (a b c d : Nat) : (a ^^^ b) ^^^ (c ^^^ d) = (a ^^^ c) ^^^ (b ^^^ d) := by
  rw [Nat.xor_assoc, Nat.xor_assoc, ← Nat.xor_assoc b c d, Nat.xor_comm b c, Nat.xor_assoc c b d]

theorem div_pow_xor (x y i : Nat) : (x ^^^ y) / 2 ^ i = (x / 2 ^ i) ^^^ (y / 2 ^ i) := by
  apply Nat.eq_of_testBit_eq; intro j
  simp [Nat.testBit_xor, Nat.testBit_div_two_pow]
theorem mul_pow_xor (x y i : Nat) : (x ^^^ y) * 2 ^ i = (x * 2 ^ i) ^^^ (y * 2 ^ i) := by
  rw [← Nat.shiftLeft_eq, ← Nat.shiftLeft_eq, ← Nat.shiftLeft_eq]; exact Nat.shiftLeft_xor_distrib ..
theorem mod_pow_xor (x y i : Nat) : (x ^^^ y) % 2 ^ i = (x % 2 ^ i) ^^^ (y % 2 ^ i) := by
  apply Nat.eq_of_testBit_eq; intro j
  simp only [Nat.testBit_xor, Nat.testBit_mod_two_pow]
  by_cases h : j < i <;> simp [h]
theorem odd_xor (x y : Nat) : (x ^^^ y) % 2 = ((x % 2) ^^^ (y % 2)) := mod_pow_xor x y 1
theorem odd_cases (x y : Nat) : (x ^^^ y) % 2 = (x % 2 + y % 2) % 2 := by
  rw [odd_xor]
  rcases Nat.mod_two_eq_zero_or_one x with h | h <;> rcases Nat.mod_two_eq_zero_or_one y with k | k <;> rw [h, k] <;> rfl

/-- c where the bit is set -/
def sel (x c : Nat) : Nat := if x % 2 = 1 then c else 0
theorem sel_xor (x y c : Nat) : sel (x ^^^ y) c = sel x c ^^^ sel y c := by
  unfold sel
  rw [odd_cases]
  rcases Nat.mod_two_eq_zero_or_one x with h | h <;> rcases Nat.mod_two_eq_zero_or_one y with k | k <;> simp [h, k]
theorem sel_xor_right (x c d : Nat) : sel x (c ^^^ d) = sel x c ^^^ sel x d := by
  unfold sel; split <;> simp
theorem ite_sel (x p c : Nat) : (if x % 2 = 1 then p ^^^ c else p) = p ^^^ sel x c := by
  unfold sel; split <;> simp

theorem dbl_eq : ∀ a, a < 256 → dbl a = (a * 2 ^ 1) ^^^ sel (a / 2 ^ 7) 285 := by decide +kernel
theorem dbl_lin : Lin dbl := by
  intro x y hx hy
  rw [dbl_eq x hx, dbl_eq y hy, dbl_eq _ (xor_lt hx hy), div_pow_xor, mul_pow_xor, sel_xor]
  exact xor_four ..

theorem tloop_acc (f p q a b : Nat) : tloop f (p ^^^ q) a b = p ^^^ tloop f q a b := by
  induction f generalizing p q a b with
  | zero => rfl
  | succ f ih => rw [tloop, tloop, ite_sel, ite_sel, Nat.xor_assoc, ih]
theorem tloop_pull (f p a b : Nat) : tloop f p a b = p ^^^ tloop f 0 a b := by
  have := tloop_acc f p 0 a b; rwa [Nat.xor_zero] at this
theorem tloop_succ (f a b : Nat) : tloop (f+1) 0 a b = sel b a ^^^ tloop f 0 (dbl a) (b / 2) := by
  rw [tloop, ite_sel, Nat.zero_xor, tloop_pull]
theorem tloop_left (f b x y : Nat) (hx : x < 256) (hy : y < 256) : tloop f 0 (x ^^^ y) b = tloop f 0 x b ^^^ tloop f 0 y b := by
  induction f generalizing b x y with
  | zero => simp [tloop]
  | succ f ih =>
    rw [tloop_succ, tloop_succ, tloop_succ, dbl_lin x y hx hy, ih _ _ _ (dbl_lt x hx) (dbl_lt y hy), sel_xor_right]
    exact xor_four ..
theorem tloop_right (f a x y : Nat) : tloop f 0 a (x ^^^ y) = tloop f 0 a x ^^^ tloop f 0 a y := by
  induction f generalizing a x y with
  | zero => simp [tloop]
  | succ f ih =>
    have h2 : (x ^^^ y) / 2 = (x / 2) ^^^ (y / 2) := div_pow_xor x y 1
    rw [tloop_succ, tloop_succ, tloop_succ, h2, ih, sel_xor]
    exact xor_four ..
theorem tm_left (b : Nat) : Lin (fun a => tm a b) := fun x y hx hy => tloop_left 8 b x y hx hy
theorem tm_right (a : Nat) : Lin (fun b => tm a b) := fun x y _ _ => tloop_right 8 a x y
theorem tm_xor_right (a x y : Nat) : tm a (x ^^^ y) = tm a x ^^^ tm a y := tloop_right 8 a x y
theorem tm_xor_left (x y b : Nat) (hx : x < 256) (hy : y < 256) : tm (x ^^^ y) b = tm x b ^^^ tm y b := tloop_left 8 b x y hx hy
theorem tm_zero_right (a : Nat) : tm a 0 = 0 := tloop_zero _ _ _
theorem tm_zero_left (b : Nat) : tm 0 b = 0 := (tm_left b).zero

theorem Lin.comp {f g : Nat → Nat} (hf : Lin f) (hg : Lin g) (hlt : ∀ x, x < 256 → g x < 256) : Lin (fun x => f (g x)) := by
  intro x y hx hy
  show f (g (x ^^^ y)) = _
  rw [hg x y hx hy, hf _ _ (hlt x hx) (hlt y hy)]

theorem pow_lt8 {i : Nat} (h : i < 8) : 2 ^ i < 256 := Nat.pow_lt_pow_right (m := i) (n := 8) (by omega) h
theorem tm_comm (a b : Nat) (ha : a < 256) (hb : b < 256) : tm a b = tm b a := by
  refine Lin.ext (f := fun x => tm x b) (g := fun x => tm b x) (tm_left b) (tm_right b) (fun i hi => ?_) a ha
  refine Lin.ext (f := fun y => tm (2 ^ i) y) (g := fun y => tm y (2 ^ i)) (tm_right _) (tm_left _) (fun j hj => ?_) b hb
  have : ∀ i, i < 8 → ∀ j, j < 8 → tm (2 ^ i) (2 ^ j) = tm (2 ^ j) (2 ^ i) := by decide +kernel
  exact this i hi j hj
theorem tm_assoc (a b c : Nat) (ha : a < 256) (hb : b < 256) (hc : c < 256) : tm (tm a b) c = tm a (tm b c) := by
  refine Lin.ext (f := fun x => tm (tm x b) c) (g := fun x => tm x (tm b c)) ((tm_left c).comp (tm_left b) (fun x hx => tm_lt x b hx)) (tm_left _) (fun i hi => ?_) a ha
  have h2 := pow_lt8 hi
  refine Lin.ext (f := fun x => tm (tm (2 ^ i) x) c) (g := fun x => tm (2 ^ i) (tm x c)) ((tm_left c).comp (tm_right _) (fun x _ => tm_lt _ x h2)) ((tm_right _).comp (tm_left c) (fun x hx => tm_lt x c hx)) (fun j hj => ?_) b hb
  refine Lin.ext (f := fun x => tm (tm (2 ^ i) (2 ^ j)) x) (g := fun x => tm (2 ^ i) (tm (2 ^ j) x)) (tm_right _) ((tm_right _).comp (tm_right _) (fun x _ => tm_lt _ x (pow_lt8 hj))) (fun k hk => ?_) c hc
  have : ∀ i, i < 8 → ∀ j, j < 8 → ∀ k, k < 8 → tm (tm (2 ^ i) (2 ^ j)) (2 ^ k) = tm (2 ^ i) (tm (2 ^ j) (2 ^ k)) := by decide +kernel
  exact this i hi j hj k hk
theorem tm_one_right (a : Nat) (ha : a < 256) : tm a 1 = a := by
  refine Lin.ext (f := fun x => tm x 1) (g := fun x => x) (tm_left 1) (fun _ _ _ _ => rfl) (fun i hi => ?_) a ha
  have : ∀ i, i < 8 → tm (2 ^ i) 1 = 2 ^ i := by decide +kernel
  exact this i hi
theorem tm_one_left (a : Nat) (ha : a < 256) : tm 1 a = a := by rw [tm_comm 1 a (by omega) ha, tm_one_right a ha]

/-! ### the document's own way: all bits first, then the remainder -/
theorem rx_left (b n x y : Nat) : rx (x ^^^ y) b n = rx x b n ^^^ rx y b n := by
  induction n with
  | zero => simp [rx]
  | succ n ih => rw [rx, rx, rx, ite_sel, ite_sel, ite_sel, ih, mul_pow_xor, sel_xor_right]; exact xor_four ..
theorem rx_right (a n x y : Nat) : rx a (x ^^^ y) n = rx a x n ^^^ rx a y n := by
  induction n with
  | zero => simp [rx]
  | succ n ih => rw [rx, rx, rx, ite_sel, ite_sel, ite_sel, ih, div_pow_xor, sel_xor]; exact xor_four ..
theorem rred_lin (n x y : Nat) : rred (x ^^^ y) n = rred x n ^^^ rred y n := by
  induction n with
  | zero => rfl
  | succ n ih => rw [rred, rred, rred, ite_sel, ite_sel, ite_sel, ih, div_pow_xor, sel_xor]; exact xor_four ..
theorem rtm_left (b : Nat) : Lin (fun a => rtm a b) := by
  intro x y _ _
  show rred (rx (x ^^^ y) b 8) 7 % 2 ^ 8 = _
  rw [rx_left, rred_lin, mod_pow_xor]; rfl
theorem rtm_right (a : Nat) : Lin (fun b => rtm a b) := by
  intro x y _ _
  show rred (rx a (x ^^^ y) 8) 7 % 2 ^ 8 = _
  rw [rx_right, rred_lin, mod_pow_xor]; rfl
theorem rtm_eq (a b : Nat) (ha : a < 256) (hb : b < 256) : rtm a b = tm a b := by
  refine Lin.ext (f := fun x => rtm x b) (g := fun x => tm x b) (rtm_left b) (tm_left b) (fun i hi => ?_) a ha
  refine Lin.ext (f := fun y => rtm (2 ^ i) y) (g := fun y => tm (2 ^ i) y) (rtm_right _) (tm_right _) (fun j hj => ?_) b hb
  have : ∀ i, i < 8 → ∀ j, j < 8 → rtm (2 ^ i) (2 ^ j) = tm (2 ^ i) (2 ^ j) := by decide +kernel
  exact this i hi j hj

/-! ### powers -/
def pw (a : Nat) : Nat → Nat
  | 0 => 1
  | n+1 => tm (pw a n) a
theorem pw_lt (a n : Nat) (_ha : a < 256) : pw a n < 256 := by
  induction n with
  | zero => show 1 < 256; omega
  | succ n ih => exact tm_lt _ _ ih
theorem pw_add (a m n : Nat) (ha : a < 256) : pw a (m + n) = tm (pw a m) (pw a n) := by
  induction n with
  | zero => exact (tm_one_right _ (pw_lt a m ha)).symm
  | succ n ih => rw [← Nat.add_assoc, pw, pw, ih, tm_assoc _ _ _ (pw_lt a m ha) (pw_lt a n ha) ha]
theorem pw_one (a : Nat) (ha : a < 256) : pw a 1 = a := tm_one_left a ha
theorem pw_sq (a n : Nat) (ha : a < 256) : pw (tm a a) n = pw a (2 * n) := by
  induction n with
  | zero => rfl
  | succ n ih =>
    rw [pw, ih, show 2 * (n + 1) = 2 * n + 2 from by omega, pw_add a (2 * n) 2 ha]
    show _ = tm _ (tm (tm 1 a) a)
    rw [tm_one_left a ha]
/-- raise's own loop -/
def rloop : Nat → Nat → Nat → Nat → Nat
  | 0, p, _, _ => p
  | f+1, p, a, n => rloop f (if n % 2 = 1 then tm p a else p) (tm a a) (n / 2)
theorem rloop_zero (f p a : Nat) : rloop f p a 0 = p := by
  induction f generalizing p a with
  | zero => rfl
  | succ f ih => simp [rloop, ih]
theorem rloop_eq (f p a n : Nat) (hp : p < 256) (ha : a < 256) (hn : n < 2 ^ f) : rloop f p a n = tm p (pw a n) := by
  induction f generalizing p a n with
  | zero => obtain rfl : n = 0 := by simpa using hn
            exact (tm_one_right p hp).symm
  | succ f ih =>
    rw [Nat.pow_succ] at hn
    rw [rloop, ih _ _ _ (by split; exact tm_lt _ _ hp; exact hp) (tm_lt a a ha) (by omega), pw_sq a _ ha]
    split
    · rw [tm_assoc p a _ hp ha (pw_lt a _ ha)]
      conv => rhs; rw [show n = 1 + 2 * (n / 2) from by omega, pw_add a _ _ ha, pw_one a ha]
    · conv => rhs; rw [show n = 2 * (n / 2) from by omega]
def inv (a : Nat) : Nat := pw a 254
theorem inv_lt (a : Nat) (ha : a < 256) : inv a < 256 := pw_lt a _ ha
theorem inv_eq (a : Nat) (ha : a < 256) : rloop 8 1 a 254 = inv a := by
  rw [rloop_eq 8 1 a 254 (by omega) ha (by omega), tm_one_left _ (pw_lt a _ ha)]; rfl
theorem inv_tab : ∀ a, a < 256 → a ≠ 0 → tm a (rloop 8 1 a 254) = 1 := by decide +kernel
theorem tm_inv (a : Nat) (ha : a < 256) (h0 : a ≠ 0) : tm a (inv a) = 1 := by rw [← inv_eq a ha]; exact inv_tab a ha h0
theorem inv_zero : inv 0 = 0 := by rw [← inv_eq 0 (by omega)]; decide +kernel
theorem inv_ne (a : Nat) (ha : a < 256) (h0 : a ≠ 0) : inv a ≠ 0 := by
  intro h; have := tm_inv a ha h0; rw [h, tm_zero_right] at this; omega
theorem inv_unique (a b : Nat) (ha : a < 256) (hb : b < 256) (h : tm a b = 1) : b = inv a := by
  have h0 : a ≠ 0 := by intro e; rw [e, tm_zero_left] at h; omega
  have h1 := tm_assoc (inv a) a b (inv_lt a ha) ha hb
  rw [h, tm_one_right _ (inv_lt a ha), tm_comm (inv a) a (inv_lt a ha) ha, tm_inv a ha h0, tm_one_left b hb] at h1
  exact h1
/-- 2 to the n -/
def ex (n : Nat) : Nat := pw 2 n
theorem ex_lt (n : Nat) : ex n < 256 := pw_lt 2 n (by omega)
/-- how many of the first powers are a -/
def cnt (a : Nat) : Nat → Nat
  | 0 => 0
  | n+1 => cnt a n + if ex n = a then 1 else 0
end FM
end Go.Proofs.YtpfmmfapdcbnkaaGreatDoor
namespace Go.Proofs.YtpfmmfapdcbnkaaGreatDoor
set_option maxRecDepth 20000
open Go.RowKit
theorem i64_in' (n : Int) (h₀ : 0 ≤ n) (h₁ : n < 9223372036854775808) : IntKind.i64.wrap n = n := by rw [IntKind.wrap_i64]; omega
theorem ofInt_63 (a : Nat) (ha : a < 9223372036854775808) : (BitVec.ofInt 64 (a : Int)).toNat = a := by
  rw [BitVec.ofInt_natCast, BitVec.toNat_ofNat]; exact Nat.mod_eq_of_lt (by omega)
theorem i64_and_nat (a b : Nat) (ha : a < 9223372036854775808) (hb : b < 9223372036854775808) : bits .and .i64 (a : Int) (b : Int) = ((a &&& b : Nat) : Int) := by
  have hx : a &&& b < 2 ^ 63 := Nat.and_lt_two_pow _ (by omega)
  show IntKind.i64.wrap ((BitVec.ofInt 64 (a : Int) &&& BitVec.ofInt 64 (b : Int)).toNat : Int) = _
  rw [BitVec.toNat_and, ofInt_63 a ha, ofInt_63 b hb, i64_in' _ (by omega) (by omega)]
theorem i64_xor_nat (a b : Nat) (ha : a < 9223372036854775808) (hb : b < 9223372036854775808) : bits .xor .i64 (a : Int) (b : Int) = ((a ^^^ b : Nat) : Int) := by
  have hx : a ^^^ b < 2 ^ 63 := Nat.xor_lt_two_pow (by omega) (by omega)
  show IntKind.i64.wrap ((BitVec.ofInt 64 (a : Int) ^^^ BitVec.ofInt 64 (b : Int)).toNat : Int) = _
  rw [BitVec.toNat_xor, ofInt_63 a ha, ofInt_63 b hb, i64_in' _ (by omega) (by omega)]
theorem i64_and1 (a : Nat) (h : a < 9223372036854775808) : bits .and .i64 (a : Int) 1 = ((a % 2 : Nat) : Int) := by
  have := i64_and_nat a 1 h (by omega)
  rw [show ((1 : Nat) : Int) = 1 from rfl] at this
  rw [this, Nat.and_one_is_mod]
theorem u8_and1 (a : Nat) (h : a < 256) : bits BinOp.and IntKind.u8 (↑a) 1 = ((a % 2 : Nat) : Int) := by
  have := u8_and_nat a 1 (by omega) (by omega)
  rw [show ((1 : Nat) : Int) = 1 from rfl] at this
  rw [this, Nat.and_one_is_mod]
theorem and128_lt (a : Nat) (h : a < 128) : (bits BinOp.and IntKind.u8 (↑a) 128 != 0) = false := by
  have := u8_and_nat a 128 (by omega) (by omega)
  rw [show ((128 : Nat) : Int) = 128 from rfl] at this
  rw [this]
  have h2 : a &&& 128 = 0 := by
    have : ∀ a, a < 128 → a &&& 128 = 0 := by decide +kernel
    exact this a h
  simp [h2]
theorem and128_ge (a : Nat) (h : ¬ a < 128) (h2 : a < 256) : (bits BinOp.and IntKind.u8 (↑a) 128 != 0) = true := by
  have := u8_and_nat a 128 (by omega) (by omega)
  rw [show ((128 : Nat) : Int) = 128 from rfl] at this
  rw [this]
  have h2 : a &&& 128 = 128 := by
    have : ∀ a, a < 256 → 128 ≤ a → a &&& 128 = 128 := by decide +kernel
    exact this a h2 (by omega)
  simp [h2]
theorem retu8 {a b : Int} (h : a = b) : Ending.returned (.int .u8 a) = .returned (.int .u8 b) := by rw [h]
end Go.Proofs.YtpfmmfapdcbnkaaGreatDoor
