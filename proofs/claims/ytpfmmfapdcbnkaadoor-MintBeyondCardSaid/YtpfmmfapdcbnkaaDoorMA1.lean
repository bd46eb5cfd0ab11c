/- In one text: Bytes, Rws, Grow, Rec, SplMath. -/
import Derived.WalkKit
import Derived.Below
import Derived.OpenShut
import Derived.Laws.NewBlocks
import Derived.Deep.OwnRows
import Derived.Deep.MidRow
import Derived.Laws.AppendOwn
import Derived.Laws.MakeOwn
import Derived.OrdersHeld
import Derived.StillTail
import Derived.KernelRfl
import Derived.Deep.RegionHeld
import Derived.Test.YtpfmmfapdcbnkaaDoorRows
namespace Go.Proofs.YtpfmmfapdcbnkaaDoor
set_option maxRecDepth 20000
open Go.RowKit
/-- v is a slice of the bytes xs in w: empty; or its cells hold them. -/
def U8s (w : World) (v : Value) (xs : List Nat) : Prop :=
  (xs = [] ∧ ∃ a cap, v = .slice a 0 cap ∧ cap ≤ maxLen) ∨
  ∃ b off cap, v = .slice (some ⟨b, off, none⟩) xs.length cap ∧ xs.length ≤ cap ∧ cap ≤ maxLen ∧ b < w.heap.size ∧ (∀ k, k < xs.length → w.cell? ⟨b, off + k, none⟩ = some (.int .u8 (xs.getD k 0 : Nat))) ∧ ∀ x ∈ xs, x < 256
theorem U8s.below {w w' : World} {v : Value} {xs : List Nat} {B : Nat} (h : U8s w v xs) (hb : Below B w w') (hB : B = w.heap.size) : U8s w' v xs := by
  rcases h with h | ⟨b, off, cap, h1, h2, h2', h3, h4, h5⟩
  · exact .inl h
  · refine .inr ⟨b, off, cap, h1, h2, h2', Nat.lt_of_lt_of_le h3 hb.size, fun k hk => ?_, h5⟩
    rw [hb.cell (p := ⟨b, off + k, none⟩) (by show b < B; omega)]
    exact h4 k hk
theorem getD_lt (xs : List Nat) (h : ∀ x ∈ xs, x < 256) (k : Nat) : xs.getD k 0 < 256 := by
  by_cases hk : k < xs.length
  · rw [List.getD_eq_getElem?_getD, List.getElem?_eq_getElem hk]; exact h _ (List.getElem_mem hk)
  · rw [List.getD_eq_getElem?_getD, List.getElem?_eq_none (by omega)]; decide
theorem take_lt (xs : List Nat) (h : ∀ x ∈ xs, x < 256) (k : Nat) : ∀ x ∈ xs.take k, x < 256 := fun x hx => h x (List.mem_of_mem_take hx)
theorem u8s_new (W : World) (s n c : Nat) (T : TypeId) (cs : Array Value) (xs : List Nat) (hs : s = W.heap.size) (hn : n = xs.length) (hc : cs = (xs.map fun (x : Nat) => Value.int .u8 (x : Int)).toArray) (hm : xs.length ≤ maxLen) (hl : ∀ x ∈ xs, x < 256) (hcn : c = n := by rfl) :
    U8s (W.alloc (.cells cs T)) (.slice (some ⟨s, 0, none⟩) n c) xs := by
  subst hcn; subst hs; subst hn; subst hc
  refine .inr ⟨W.heap.size, 0, xs.length, rfl, Nat.le_refl _, hm, by simp, fun k hk => ?_, hl⟩
  have := cell_of_row (W.alloc (.cells (xs.map fun (x : Nat) => Value.int .u8 (x : Int)).toArray T)) W.heap.size k _ T (0, 0) (heap_alloc_new W _)
  rw [Nat.zero_add, this]
  simp [hk]
theorem nil_u8s (w : World) (a : Option Addr) (cap : Nat) (h : cap ≤ maxLen := by decide) : U8s w (.slice a 0 cap) [] := .inl ⟨rfl, a, cap, rfl, h⟩
/-- WHAT THE WALK IS TOLD OF A SLICE OF INTEGERS THAT CAME IN: nil; or a row of 'cap' cells, the numbers 'zs', the first 'len' its elements. -/
def IsRow (k : IntKind) (w : World) (a : Option Addr) (len cap : Nat) (zs : List Int) : Prop :=
  (a = none ∧ len = 0 ∧ cap = 0 ∧ zs = []) ∨
  ∃ x, a = some x ∧ len ≤ cap ∧ cap ≤ maxLen ∧ zs.length = cap ∧ (∀ i, i < zs.length → w.cell? (x.add i) = some (.int k (zs.getD i 0))) ∧ ∀ n ∈ zs, (Lit.int k n).wf = true
theorem IsRow.u8s {w : World} {a : Option Addr} {len cap : Nat} {zs : List Int} (h : IsRow .u8 w a len cap zs) : U8s w (.slice a len cap) ((zs.take len).map Int.toNat) ∧ ((zs.take len).map Int.toNat).length = len := by
  rcases h with ⟨rfl, rfl, rfl, rfl⟩ | ⟨x, rfl, hl, hm, hz, hc, hw⟩
  · exact ⟨.inl ⟨rfl, none, 0, rfl, Nat.zero_le _⟩, rfl⟩
  · by_cases h0 : len = 0
    · subst h0; exact ⟨.inl ⟨rfl, some x, cap, rfl, hm⟩, rfl⟩
    · have hlen : ((zs.take len).map Int.toNat).length = len := by simp; omega
      refine ⟨.inr ?_, hlen⟩
      obtain ⟨b, off, rfl, hc'⟩ := ints_at hc (by omega)
      refine ⟨b, off, cap, by rw [hlen], by omega, hm, ?_, fun k hk => ?_, fun y hy => ?_⟩
      · have := hc' 0 (by omega)
        exact World.block_lt_of_cell? w _ this
      · rw [hlen] at hk
        rw [hc' k (by omega)]
        have hmem : zs.getD k 0 ∈ zs := by
          rw [List.getD_eq_getElem?_getD, List.getElem?_eq_getElem (by omega)]; exact List.getElem_mem _
        have hwf := hw _ hmem
        have hb : 0 ≤ zs.getD k 0 ∧ zs.getD k 0 ≤ 255 := by simpa [Lit.wf, IntKind.min, IntKind.max, IntKind.bits, IntKind.signed] using hwf
        have : (((zs.take len).map Int.toNat).getD k 0 : Int) = zs.getD k 0 := by
          simp [List.getD_eq_getElem?_getD, hk] at hb ⊢
          rw [List.getElem?_eq_getElem (by omega)] at *
          simp at hb ⊢; omega
        rw [this]
      · obtain ⟨z, hz1, rfl⟩ := List.mem_map.1 hy
        have hwf := hw _ (List.mem_of_mem_take hz1)
        have hb : 0 ≤ z ∧ z ≤ 255 := by simpa [Lit.wf, IntKind.min, IntKind.max, IntKind.bits, IntKind.signed] using hwf
        omega

end Go.Proofs.YtpfmmfapdcbnkaaDoor
namespace Go.Proofs.YtpfmmfapdcbnkaaDoor
set_option maxRecDepth 20000
open Go.RowKit
/-- Block b of w is a row of the bytes xs, not frozen. -/
def Own (w : World) (b : Nat) (T : TypeId) (xs : List Nat) : Prop := w.rowIs b T xs.length (fun i => .int .u8 (xs.getD i 0 : Nat)) ∧ xs.length ≤ maxLen ∧ ∀ x ∈ xs, x < 256
theorem Own.lt {w : World} {b : Nat} {T : TypeId} {xs : List Nat} (h : Own w b T xs) : b < w.heap.size := h.1.lt
theorem Own.u8s {w : World} {b : Nat} {T : TypeId} {xs : List Nat} (h : Own w b T xs) : U8s w (.slice (some ⟨b, 0, none⟩) xs.length xs.length) xs :=
  .inr ⟨b, 0, xs.length, rfl, Nat.le_refl _, h.2.1, h.lt, fun k hk => by rw [Nat.zero_add]; exact h.1.cell hk, h.2.2⟩
theorem Own.block {w w' : World} {b : Nat} {T : TypeId} {xs : List Nat} (h : Own w b T xs) (e : w'.heap[b]? = w.heap[b]?) : Own w' b T xs := ⟨h.1.of_block e, h.2⟩
theorem Own.below {w w' : World} {b B : Nat} {T : TypeId} {xs : List Nat} (h : Own w b T xs) (hb : Below B w w') (hB : b < B) : Own w' b T xs := h.block (hb.block b hB)
theorem Own.alloc {w : World} {b : Nat} {T : TypeId} {xs : List Nat} (h : Own w b T xs) (o : Obj) : Own (w.alloc o) b T xs := ⟨h.1.alloc o, h.2⟩
theorem Own.grown {w w' : World} {b : Nat} {T : TypeId} {xs : List Nat} (h : Own w b T xs) {r : Option Nat} (hg : w.grownBy w' r) (hr : some b ≠ r) : Own w' b T xs := h.block (hg.block b h.lt hr)
theorem getD_set (xs : List Nat) (i v j : Nat) (hi : i < xs.length) : (xs.set i v).getD j 0 = if j = i then v else xs.getD j 0 := by
  by_cases h : j = i
  · subst h; simp [hi]
  · rw [if_neg h]; simp [List.getD_eq_getElem?_getD, Ne.symm h]
theorem Own.set {w : World} {b : Nat} {T : TypeId} {xs : List Nat} (h : Own w b T xs) (i v : Nat) (hi : i < xs.length) (hv : v < 256) : Own (w.setCell ⟨b, i, none⟩ (.int .u8 (v : Nat))) b T (xs.set i v) := by
  refine ⟨?_, by simpa using h.2.1, fun x hx => ?_⟩
  · rw [List.length_set]
    refine (h.1.set i _).congr fun j hj => ?_
    rw [getD_set xs i v j hi]
    split <;> rfl
  · rcases List.mem_or_eq_of_mem_set hx with h' | h'
    · exact h.2.2 x h'
    · subst h'; exact hv
theorem Own.made (w : World) (n : Nat) (T : TypeId) (hn : n ≤ maxLen) : Own (w.alloc (.cells (madeCells #[.int .u8 0] n) T)) w.heap.size T (List.replicate n 0) := by
  refine ⟨?_, by simpa using hn, fun x hx => ?_⟩
  · rw [List.length_replicate]
    refine (World.rowIs_made w (.int .u8 0) n T).congr fun i hi => ?_
    simp [List.getD_eq_getElem?_getD, hi]
  · rw [(List.mem_replicate.1 hx).2]; decide
theorem U8s.slice {w : World} {v : Value} {xs : List Nat} (h : U8s w v xs) : ∃ a cap, v = .slice a xs.length cap ∧ xs.length ≤ cap ∧ cap ≤ maxLen := by
  rcases h with ⟨rfl, a, cap, rfl, hm⟩ | ⟨b, off, cap, rfl, h1, h2, _⟩
  · exact ⟨a, cap, rfl, Nat.zero_le _, hm⟩
  · exact ⟨_, cap, rfl, h1, h2⟩
theorem U8s.len {w : World} {v : Value} {xs : List Nat} (h : U8s w v xs) : xs.length ≤ maxLen := by
  rcases h with ⟨rfl, _⟩ | ⟨b, off, cap, rfl, h1, h2, _⟩
  · simp [maxLen]
  · exact Nat.le_trans h1 h2
theorem U8s.lt {w : World} {v : Value} {xs : List Nat} (h : U8s w v xs) : ∀ x ∈ xs, x < 256 := by
  rcases h with ⟨rfl, _⟩ | ⟨b, off, cap, rfl, h1, h2, h3, h4, h5⟩
  · intro x hx; cases hx
  · exact h5
theorem U8s.ext {w w' : World} {v : Value} {xs : List Nat} (h : U8s w v xs) (hb : w.Extends w') : U8s w' v xs := by
  rcases h with h | ⟨b, off, cap, h1, h2, h2', h3, h4, h5⟩
  · exact .inl h
  · exact .inr ⟨b, off, cap, h1, h2, h2', Nat.lt_of_lt_of_le h3 hb.size, fun k hk => (hb.cell ⟨b, off + k, none⟩ h3).trans (h4 k hk), h5⟩
/-- It stays where block b alone may have changed, and is not that block. -/
theorem U8s.grown {w w' : World} {v : Value} {xs : List Nat} (h : U8s w v xs) {r : Option Nat} (hg : w.grownBy w' r) (hr : xs = [] ∨ v.ownBlock ≠ r) : U8s w' v xs := by
  rcases h with h | ⟨b, off, cap, h1, h2, h2', h3, h4, h5⟩
  · exact .inl h
  · rcases hr with rfl | hr
    · subst h1; exact .inl ⟨rfl, _, _, rfl, h2'⟩
    refine .inr ⟨b, off, cap, h1, h2, h2', Nat.lt_of_lt_of_le h3 hg.size, fun k hk => ?_, h5⟩
    refine (World.cell?_of_block (w := w) (hg.block b h3 ?_)).trans (h4 k hk)
    subst h1
    simpa [Value.ownBlock] using hr
theorem U8s.take {w : World} {a : Option Addr} {cap : Nat} {xs : List Nat} (h : U8s w (.slice a xs.length cap) xs) (n : Nat) : U8s w (.slice a (min n xs.length) cap) (xs.take n) := by
  rcases h with ⟨rfl, a', cap', hv, hm⟩ | ⟨b, off, cap', hv, h2, h2', h3, h4, h5⟩
  · cases hv; exact .inl ⟨by simp, a, cap, by simp, hm⟩
  · cases hv
    by_cases h0 : min n xs.length = 0
    · refine .inl ⟨?_, _, _, by rw [h0], h2'⟩
      apply List.eq_nil_of_length_eq_zero; rw [List.length_take]; exact h0
    · refine .inr ⟨b, off, cap, by rw [List.length_take], by rw [List.length_take]; omega, h2', h3, fun k hk => ?_, fun x hx => h5 x (List.mem_of_mem_take hx)⟩
      rw [List.length_take] at hk
      rw [h4 k (by omega)]
      simp [List.getD_eq_getElem?_getD, show k < n by omega]
theorem U8s.cell {w : World} {a : Option Addr} {n cap : Nat} {xs : List Nat} (h : U8s w (.slice a n cap) xs) : n = xs.length ∧ (0 < n → ∃ b off, a = some ⟨b, off, none⟩ ∧ b < w.heap.size ∧ ∀ k, k < n → w.cell? ⟨b, off + k, none⟩ = some (.int .u8 (xs.getD k 0 : Nat))) := by
  rcases h with ⟨rfl, a', cap', hv, _⟩ | ⟨b, off, cap', hv, h2, h2', h3, h4, h5⟩
  · cases hv; exact ⟨rfl, fun h => absurd h (Nat.lt_irrefl _)⟩
  · cases hv; exact ⟨rfl, fun _ => ⟨b, off, rfl, h3, h4⟩⟩
theorem grown_refl (w : World) (r : Option Nat) : w.grownBy w r := ⟨rfl, rfl, rfl, Nat.le_refl _, fun _ _ _ => rfl⟩
theorem grown_trans {a b c : World} {r : Option Nat} (h : a.grownBy b r) (k : b.grownBy c r) : a.grownBy c r :=
  ⟨k.os.trans h.os, k.tape.trans h.tape, k.output.trans h.output, Nat.le_trans h.size k.size, fun i hi hr => (k.block i (Nat.lt_of_lt_of_le hi h.size) hr).trans (h.block i hi hr)⟩
theorem grown_setCell {a b : World} {g : Nat} (h : a.grownBy b (some g)) (i : Nat) (v : Value) : a.grownBy (b.setCell ⟨g, i, none⟩ v) (some g) :=
  ⟨h.os, h.tape, h.output, by simpa using h.size, fun k hk hr => (Below.heap_setCell b ⟨g, i, none⟩ v k (fun e => hr (by rw [e]))).trans (h.block k hk hr)⟩
theorem grown_alloc {a b : World} {r : Option Nat} (h : a.grownBy b r) (o : Obj) : a.grownBy (b.alloc o) r := grown_trans h (World.grownBy_alloc b o r)
theorem grown_below {a b : World} {r : Option Nat} {B : Nat} (h : Below B a b) (hB : a.heap.size ≤ B) : a.grownBy b r := ⟨h.os, h.tape, h.output, h.size, fun k hk _ => h.block k (Nat.lt_of_lt_of_le hk hB)⟩
theorem below_grown {a b : World} {g B : Nat} (h : a.grownBy b (some g)) (hB : B ≤ g) (hB' : B ≤ a.heap.size) : Below B a b :=
  ⟨h.os, h.tape, h.output, h.size, fun k hk => h.block k (by omega) (by simp; omega)⟩
theorem U8s.old {w : World} {v : Value} {xs : List Nat} (h : U8s w v xs) {b : Nat} (hb : w.heap.size ≤ b) : xs = [] ∨ v.ownBlock ≠ some b := by
  rcases h with h | ⟨b', off, cap, rfl, h2, h2', h3, h4, h5⟩
  · exact .inl h.1
  · exact .inr (by simp [Value.ownBlock]; omega)
theorem U8s.drew {w : World} {v : Value} {xs : List Nat} (h : U8s w v xs) : U8s w.drew v xs := h.ext ⟨rfl, rfl, rfl, Nat.le_refl _, fun _ _ => rfl, fun _ _ => rfl, fun _ _ => rfl⟩
theorem below_undrew {a b : World} {B : Nat} (h : Below B a.drew b) : Below B a b := ⟨h.os, h.tape, h.output, h.size, h.block⟩
/-- A slice of rows of bytes. -/
def Rws (w : World) (v : Value) (l : List (List Nat)) : Prop :=
  (l = [] ∧ ∃ a cap, v = .slice a 0 cap) ∨
  ∃ b off cap, v = .slice (some ⟨b, off, none⟩) l.length cap ∧ l.length ≤ cap ∧ cap ≤ maxLen ∧ b < w.heap.size ∧ ∀ k, k < l.length → ∃ u, w.cell? ⟨b, off + k, none⟩ = some u ∧ U8s w u (l.getD k [])
theorem Rws.nil (w : World) (a : Option Addr) (cap : Nat) : Rws w (.slice a 0 cap) [] := .inl ⟨rfl, a, cap, rfl⟩
theorem Rws.ext {w w' : World} {v : Value} {l : List (List Nat)} (h : Rws w v l) (hb : w.Extends w') : Rws w' v l := by
  rcases h with h | ⟨b, off, cap, h1, h2, h2', h3, h4⟩
  · exact .inl h
  · refine .inr ⟨b, off, cap, h1, h2, h2', Nat.lt_of_lt_of_le h3 hb.size, fun k hk => ?_⟩
    obtain ⟨u, hu, hv⟩ := h4 k hk
    exact ⟨u, (hb.cell ⟨b, off + k, none⟩ h3).trans hu, hv.ext hb⟩
theorem ext_below {B : Nat} {w w' : World} (h : Below B w w') (hB : B = w.heap.size) : w.Extends w' := by
  subst hB
  exact ⟨h.os, h.tape, h.output, h.size, fun _ ha => World.cell?_of_block (w := w) (h.block _ ha), fun _ ha => World.frozen?_of_block (w := w) (h.block _ ha), h.block⟩
theorem Rws.below {w w' : World} {v : Value} {l : List (List Nat)} (h : Rws w v l) {B : Nat} (hb : Below B w w') (hB : B = w.heap.size) : Rws w' v l := h.ext (ext_below hb hB)
theorem Rws.slice {w : World} {v : Value} {l : List (List Nat)} (h : Rws w v l) : ∃ a cap, v = .slice a l.length cap ∧ l.length ≤ cap := by
  rcases h with ⟨rfl, a, cap, rfl⟩ | ⟨b, off, cap, rfl, h1, _⟩
  · exact ⟨a, cap, rfl, Nat.zero_le _⟩
  · exact ⟨_, cap, rfl, h1⟩
theorem Rws.len {w : World} {v : Value} {l : List (List Nat)} (h : Rws w v l) : l.length ≤ maxLen := by
  rcases h with ⟨rfl, _⟩ | ⟨b, off, cap, rfl, h1, h2, _⟩
  · simp [maxLen]
  · exact Nat.le_trans h1 h2
/-- Row k: its cell, and how it reads. -/
theorem Rws.at {w : World} {a : Option Addr} {n cap : Nat} {l : List (List Nat)} (h : Rws w (.slice a n cap) l) : n = l.length ∧ (0 < n → ∃ b off, a = some ⟨b, off, none⟩ ∧ b < w.heap.size ∧ ∀ k, k < n → ∃ a' c', w.cell? ⟨b, off + k, none⟩ = some (.slice a' (l.getD k []).length c') ∧ U8s w (.slice a' (l.getD k []).length c') (l.getD k [])) := by
  rcases h with ⟨rfl, a', cap', hv⟩ | ⟨b, off, cap', hv, h2, h2', h3, h4⟩
  · cases hv; exact ⟨rfl, fun h => absurd h (Nat.lt_irrefl _)⟩
  · cases hv
    refine ⟨rfl, fun _ => ⟨b, off, rfl, h3, fun k hk => ?_⟩⟩
    obtain ⟨u, hu, hs⟩ := h4 k hk
    obtain ⟨a', c', rfl, _, _⟩ := hs.slice
    exact ⟨a', c', hu, hs⟩
theorem Rws.row_lt {w : World} {v : Value} {l : List (List Nat)} (h : Rws w v l) (k i : Nat) : (l.getD k []).getD i 0 < 256 := by
  rcases h with ⟨rfl, _⟩ | ⟨b, off, cap, rfl, _, _, _, h4⟩
  · simp
  · by_cases hk : k < l.length
    · obtain ⟨u, _, hs⟩ := h4 k hk
      exact getD_lt _ hs.lt i
    · simp [List.getD_eq_getElem?_getD, List.getElem?_eq_none (Nat.le_of_not_lt hk)]
/-- A fresh literal of slices. -/
theorem rws_new (W : World) (s n c : Nat) (T : TypeId) (vs : Array Value) (l : List (List Nat)) (hs : s = W.heap.size) (hn : n = l.length) (hm : l.length ≤ maxLen)
    (h : ∀ k, k < l.length → ∃ u, vs[k]? = some u ∧ U8s W u (l.getD k [])) (hcn : c = n := by rfl) : Rws (W.alloc (.cells vs T)) (.slice (some ⟨s, 0, none⟩) n c) l := by
  subst hcn; subst hs; subst hn
  have hx : W.Extends (W.alloc (.cells vs T)) := ext_below ((Below.refl _ _).alloc (Nat.le_refl _) _) rfl
  refine .inr ⟨W.heap.size, 0, l.length, rfl, Nat.le_refl _, hm, by simp, fun k hk => ?_⟩
  obtain ⟨u, hu, hv⟩ := h k hk
  refine ⟨u, ?_, hv.ext hx⟩
  have := cell_of_row (W.alloc (.cells vs T)) W.heap.size k _ T (0, 0) (heap_alloc_new W _)
  rw [Nat.zero_add, this, hu]
theorem rws_one (W : World) (s : Nat) (T : TypeId) (u : Value) (a : List Nat) (hu : U8s W u a) (hs : s = W.heap.size := by rfl) : Rws (W.alloc (.cells #[u] T)) (.slice (some ⟨s, 0, none⟩) 1 1) [a] :=
  rws_new W s 1 1 T #[u] [a] hs rfl (by simp [maxLen]) fun k hk => by
    obtain rfl : k = 0 := by simp at hk; omega
    exact ⟨u, rfl, hu⟩
theorem rws_two (W : World) (s : Nat) (T : TypeId) (u v : Value) (a b : List Nat) (hu : U8s W u a) (hv : U8s W v b) (hs : s = W.heap.size := by rfl) : Rws (W.alloc (.cells #[u, v] T)) (.slice (some ⟨s, 0, none⟩) 2 2) [a, b] :=
  rws_new W s 2 2 T #[u, v] [a, b] hs rfl (by simp [maxLen]) fun k hk => by
    match k, hk with
    | 0, _ => exact ⟨u, rfl, hu⟩
    | 1, _ => exact ⟨v, rfl, hv⟩
theorem ext_alloc (w : World) (o : Obj) : w.Extends (w.alloc o) := ext_below ((Below.refl _ _).alloc (Nat.le_refl _) _) rfl
theorem Rws.drew {w : World} {v : Value} {l : List (List Nat)} (h : Rws w v l) : Rws w.drew v l := h.ext ⟨rfl, rfl, rfl, Nat.le_refl _, fun _ _ => rfl, fun _ _ => rfl, fun _ _ => rfl⟩
end Go.Proofs.YtpfmmfapdcbnkaaDoor
namespace Go.Proofs.YtpfmmfapdcbnkaaDoor
set_option maxRecDepth 20000
open Go.RowKit
namespace Gr
theorem ext_refl (w : World) : w.Extends w := ⟨rfl, rfl, rfl, Nat.le_refl _, fun _ _ => rfl, fun _ _ => rfl, fun _ _ => rfl⟩
theorem ext_trans {a b c : World} (h : a.Extends b) (k : b.Extends c) : a.Extends c :=
  ⟨k.os.trans h.os, k.tape.trans h.tape, k.output.trans h.output, Nat.le_trans h.size k.size,
    fun x hx => (k.cell x (Nat.lt_of_lt_of_le hx h.size)).trans (h.cell x hx), fun x hx => (k.frozen x (Nat.lt_of_lt_of_le hx h.size)).trans (h.frozen x hx),
    fun i hi => (k.block i (Nat.lt_of_lt_of_le hi h.size)).trans (h.block i hi)⟩
theorem ext_of {w w' : World} (h : Below w.heap.size w w') : w.Extends w' :=
  ⟨h.os, h.tape, h.output, h.size, fun _ ha => World.cell?_of_block (w := w) (h.block _ ha), fun _ ha => World.frozen?_of_block (w := w) (h.block _ ha), h.block⟩
theorem below_of {w w' : World} (h : w.Extends w') : Below w.heap.size w w' := ⟨h.os, h.tape, h.output, h.size, h.block⟩
theorem ext_drew {w w' : World} (h : w.Extends w') : w.Extends w'.drew := ⟨h.os, h.tape, h.output, h.size, h.cell, h.frozen, h.block⟩

theorem of_drew {w w' : World} (h : w.drew.Extends w') : w.Extends w' := ⟨h.os, h.tape, h.output, h.size, h.cell, h.frozen, h.block⟩

section
variable {P : Program} {ops : Array Oper} {Q : Exit → Act → World → Prop} {md : Region.Mode} {S : World → Prop}
/-- Whatever order is picked, till 'fuel' operations have come up; then L. -/
def AnyE (P : Program) (md : Region.Mode) (ops : Array Oper) (Q : Exit → Act → World → Prop) (n : Nat) (L : Array Bool → Act → World → Prop) (S : World → Prop) : Nat → Array Bool → Act → World → Prop
  | 0, listed, a, w => L listed a w
  | f + 1, listed, a, w => Region.ready md ops listed ≠ [] ∧ ∀ i ∈ Region.ready md ops listed, i < n ∧ wpOp P ops Q i (fun a' w' => S w' ∧ AnyE P md ops Q n L S f (listed.setIfInBounds i true) a' w') a w
theorem AnyE.weaken {n : Nat} {L : Array Bool → Act → World → Prop} {S S' : World → Prop} (hS : ∀ w, S' w → S w) :
    ∀ (f : Nat) (listed : Array Bool) (a : Act) (w : World), AnyE P md ops Q n L S' f listed a w → AnyE P md ops Q n L S f listed a w
  | 0, _, _, _, h => h
  | f + 1, _, _, _, h => ⟨h.1, fun i hi => ⟨(h.2 i hi).1, wpOp_mono (fun a' w' hk => ⟨hS _ hk.1, AnyE.weaken hS f _ a' w' hk.2⟩) (h.2 i hi).2⟩⟩
theorem AnyE.any {n g : Nat} {L : Array Bool → Act → World → Prop} (hL : ∀ listed a w, L listed a w → wpAny P md ops Q g listed a w) :
    ∀ (f : Nat) (listed : Array Bool) (a : Act) (w : World), AnyE P md ops Q n L S f listed a w → wpAny P md ops Q (f + g) listed a w
  | 0, listed, a, w, h => by rw [Nat.zero_add]; exact hL _ _ _ h
  | f + 1, listed, a, w, h => by
    rw [show f + 1 + g = (f + g) + 1 by omega]
    exact ⟨fun h0 => absurd h0 h.1, fun i hi => wpOp_mono (fun a' w' h' => AnyE.any hL f _ a' w' h'.2) (h.2 i hi).2⟩
theorem AnyE.first {n i : Nat} {oi : Oper} {v : Value} {L : Array Bool → Act → World → Prop} (hi : ops[i]? = some oi) (hsel : ∀ (j : Nat) (o : Oper) cs b, ops[j]? = some o → o.op ≠ .select cs b)
    (hs : Region.sinkB md ops n = true) (hc : Region.chainB md ops n = true) (hn : n < ops.size) (hin : i < n)
    (hQ : ∀ c a w, Q (.panic c) (a.put oi.dst v) w → Q (.panic c) a w)
    (hdone : ∀ listed a w, L listed a w → ∀ j ∈ Region.ready md ops listed, n ≤ j) :
    ∀ (f : Nat) (listed : Array Bool) (a : Act) (w : World), HeadInv md ops n listed →
      (∀ j oj, ops[j]? = some oj → j ≠ i → listed.getD j true = false → (∀ e ∈ oj.after, Region.binds md e = true → e.on ≠ i) → oi.apart ops oj = true) →
      i ∈ Region.ready md ops listed → YieldsIf P ops S oi v a → S w →
      AnyE P md ops Q n L S f (listed.setIfInBounds i true) (a.put oi.dst v) w → AnyE P md ops Q n L S (f + 1) listed a w := by
  intro f
  induction f with
  | zero =>
    intro listed a w inv _ hr hy hS H
    have hun := (mem_ready.1 hr).1
    refine ⟨fun h => (by rw [h] at hr; cases hr), fun j hj => ?_⟩
    have hjn : j < n := by
      rcases Nat.lt_or_ge j n with h | h
      · exact h
      · exact absurd hj (tail_waits hs hc hn inv _ i rfl hin hun j h)
    refine ⟨hjn, ?_⟩
    by_cases hji : j = i
    · subst hji; exact hy.wpOp hi hS ⟨hS, H⟩
    · have := hdone _ _ _ H j (ready_mono hj hji)
      omega
  | succ f ih =>
    intro listed a w inv hfree hr hy hS H
    have hun := (mem_ready.1 hr).1
    refine ⟨fun h => (by rw [h] at hr; cases hr), fun j hj => ?_⟩
    have hjn : j < n := by
      rcases Nat.lt_or_ge j n with h | h
      · exact h
      · exact absurd hj (tail_waits hs hc hn inv _ i rfl hin hun j h)
    refine ⟨hjn, ?_⟩
    by_cases hji : j = i
    · subst hji; exact hy.wpOp hi hS ⟨hS, H⟩
    · have h1 := (H.2 j (ready_mono hj hji)).2
      obtain ⟨hjun, oj, hoj, hall⟩ := mem_ready.1 hj
      have hnot : ∀ e ∈ oj.after, Region.binds md e = true → e.on ≠ i := fun e he hb heq => by
        have h1 := hall e he hb
        rw [heq, getD_both hun] at h1
        cases h1
      have h2 := wpOp_putIf hoj (hfree j oj hoj hji hjun hnot) (fun cs b => hsel i oi cs b hi) (fun cs b => hsel j oj cs b hoj) hQ hy h1
      have hfree' : ∀ k ok, ops[k]? = some ok → k ≠ i → (listed.setIfInBounds j true).getD k true = false →
          (∀ e ∈ ok.after, Region.binds md e = true → e.on ≠ i) → oi.apart ops ok = true := fun k ok hk hki hun hno => by
        refine hfree k ok hk hki ?_ hno
        by_cases hjk : j = k
        · subst hjk; exact hjun
        · rw [getD_set_ne true hjk] at hun; exact hun
      refine wpOp_mono (fun a' w' h3 => ⟨h3.2.1, ih (listed.setIfInBounds j true) a' w' (inv.set hj hjn) hfree' (ready_mono hr (Ne.symm hji)) h3.1 h3.2.1 ?_⟩) h2
      rw [Array.setIfInBounds_comm _ _ hji]
      exact h3.2.2

/-- The order of the walk: of each operation whether it is carried out (else it is taken), and its number. -/
def check (md : Region.Mode) (ops : Array Oper) (n g : Nat) : List (Bool × Nat) → Array Bool → Bool
  | [], listed => Region.seqB md ops g n listed
  | (c, i) :: rest, listed => decide (i < n) && (match c with | true => decide (Region.ready md ops listed = [i]) | false => (Region.ready md ops listed).contains i && Region.free md ops listed i)
      && check md ops n g rest (listed.setIfInBounds i true)
def growB (md : Region.Mode) (ops : Array Oper) (n : Nat) (ord : List (Bool × Nat)) : Bool :=
  Region.noSelect ops && decide (n < ops.size) && Region.sinkB md ops n && Region.chainB md ops n && decide (ord.length + (ops.size - n) = ops.size) && check md ops n (ops.size - n) ord (Array.replicate ops.size false)
/-- The operations in that order. -/
def pick (l : List Oper) : List (Bool × Nat) → List (Bool × Oper)
  | [] => []
  | (c, i) :: r => match l[i]? with | some o => (c, o) :: pick l r | none => []
def walk (P : Program) (ops : Array Oper) (Q : Exit → Act → World → Prop) (tail : List Oper) : List (Bool × Oper) → Act → World → Prop
  | [], a, w => wpList P ops Q tail a w
  | (true, o) :: rest, a, w => if Region.wanted o (yielded ops a.tmps) = true then o.wp P a w (fun a' w' => w.Extends w' ∧ walk P ops Q tail rest a' w') Q else walk P ops Q tail rest (a.put o.dst undef) w
  | (false, o) :: rest, a, w => ∃ v, YieldsIf P ops w.Extends o v a ∧ walk P ops Q tail rest (a.put o.dst v) w
theorem walk_nil {tail : List Oper} {a : Act} {w : World} (h : wpList P ops Q tail a w) : walk P ops Q tail [] a w := h
/-- An operation that is taken. -/
theorem walk_t {tail : List Oper} {rest : List (Bool × Oper)} {o : Oper} {a : Act} {w : World} (v : Value) (hy : YieldsIf P ops w.Extends o v a) (h : walk P ops Q tail rest (a.put o.dst v) w) :
    walk P ops Q tail ((false, o) :: rest) a w := ⟨v, hy, h⟩
/-- An operation that is carried out. -/
theorem walk_c {tail : List Oper} {rest : List (Bool × Oper)} {o : Oper} {a : Act} {w : World}
    (h : ∀ K : Act → World → Prop, Shut (∀ a' w', w.Extends w' → walk P ops Q tail rest a' w' → K a' w') → if Region.wanted o (yielded ops a.tmps) = true then o.wp P a w K Q else K (a.put o.dst undef) w) :
    walk P ops Q tail ((true, o) :: rest) a w := by
  have h0 := h (fun a' w' => w.Extends w' ∧ walk P ops Q tail rest a' w') (fun _ _ h1 h2 => ⟨h1, h2⟩)
  unfold walk
  split
  · rename_i hw; rw [if_pos hw] at h0; exact h0
  · rename_i hw; rw [if_neg hw] at h0; exact h0.2

theorem walk_sound {l : List Oper} {n : Nat} (hsel : Region.noSelect l.toArray = true) (hs : Region.sinkB md l.toArray n = true) (hc : Region.chainB md l.toArray n = true) (hn : n < l.toArray.size)
    (hQ : ∀ d v c a w, Q (.panic c) (Act.put a d v) w → Q (.panic c) a w) :
    ∀ (ord : List (Bool × Nat)) (listed : Array Bool) (a : Act) (w : World), HeadInv md l.toArray n listed → check md l.toArray n (l.toArray.size - n) ord listed = true →
      walk P l.toArray Q (l.drop n) (pick l ord) a w →
      AnyE P md l.toArray Q n (fun listed' a' w' => Region.seqB md l.toArray (l.toArray.size - n) n listed' = true ∧ wpList P l.toArray Q (l.drop n) a' w') w.Extends ord.length listed a w
  | [], listed, a, w, _, hB, h => ⟨hB, h⟩
  | (c, i) :: rest, listed, a, w, inv, hB, h => by
    simp only [check, Bool.and_eq_true, decide_eq_true_eq] at hB
    obtain ⟨⟨hin, hr⟩, hB'⟩ := hB
    have hil : i < l.length := by have : l.toArray.size = l.length := by simp
                                  omega
    have ho : l[i]? = some l[i] := List.getElem?_eq_getElem hil
    have hoa : l.toArray[i]? = some l[i] := by simp
    simp only [pick, ho] at h
    cases c with
    | true =>
      simp only [decide_eq_true_eq] at hr
      refine ⟨(by rw [hr]; simp), fun j hj => ?_⟩
      rw [hr] at hj
      obtain rfl : j = i := by simpa using hj
      refine ⟨hin, ?_⟩
      have hrm : j ∈ Region.ready md l.toArray listed := by rw [hr]; simp
      unfold walk at h
      unfold wpOp
      simp only [hoa]
      split
      · rename_i hw
        rw [if_pos hw] at h
        exact .inl (Oper.wp_mono (fun a' w' hk => ⟨hk.1, AnyE.weaken (fun u hu => ext_trans hk.1 hu) _ _ _ _ (walk_sound hsel hs hc hn hQ rest _ a' w' (inv.set hrm hin) hB' hk.2)⟩) h)
      · rename_i hw
        rw [if_neg hw] at h
        exact ⟨ext_refl w, walk_sound hsel hs hc hn hQ rest _ _ w (inv.set hrm hin) hB' h⟩
    | false =>
      simp only [Bool.and_eq_true] at hr
      unfold walk at h
      obtain ⟨v, hy, hK⟩ := h
      have hrm : i ∈ Region.ready md l.toArray listed := by simpa using hr.1
      exact AnyE.first hoa (Region.noSelect_spec hsel) hs hc hn hin (fun c a w => hQ _ v c a w) (fun listed' a' w' hL => seqB_ready hL.1) rest.length listed a w inv (Region.free_spec hoa hr.2) hrm hy (ext_refl w)
        (walk_sound hsel hs hc hn hQ rest _ _ w (inv.set hrm hin) hB' hK)

theorem region {id : Nat} {a : Act} {w : World} {l : List Oper} (n : Nat) (ord : List (Bool × Nat)) (hm : P.follows .mixedOrders = true) (hB : growB .any l.toArray n ord = true)
    (hQ : ∀ d v c a w, Q (.panic c) (Act.put a d v) w → Q (.panic c) a w)
    (h : walk P l.toArray Q (l.drop n) (pick l ord) a w.drew) : (Code.region id l.toArray true).wp P Q a w := by
  simp only [growB, Bool.and_eq_true, decide_eq_true_eq] at hB
  obtain ⟨⟨⟨⟨⟨hsel, hn⟩, hs⟩, hc⟩, hlen⟩, hck⟩ := hB
  have hdl : (l.drop n).length = l.toArray.size - n := by simp
  have inv0 : HeadInv .any l.toArray n (Array.replicate l.toArray.size false) :=
    ⟨by simp, fun j oj _ hl => (by rw [getD_replicate_false] at hl; cases hl), fun t _ ht => getD_in (by simpa using ht) (getD_replicate_false _ _)⟩
  have H := walk_sound (md := .any) hsel hs hc hn hQ ord _ a w.drew inv0 hck h
  refine wp_region_any hm ?_
  have := AnyE.any (Q := Q) (g := l.toArray.size - n) (fun listed a' w' hL => by
    have := wpAny_of_seq (md := .any) (Q' := Q) (l.drop n) n listed a' w' (fun j => by simp [List.getElem?_drop]) (by rw [hdl]; exact hL.1) hL.2
    rwa [hdl] at this) _ _ _ _ H
  rw [hlen] at this
  exact this
/-! Where more than one operation that is carried out may come up: the walk goes a step at a time. -/
/-- What is left: 'f' operations of the head, then the tail. -/
def Left (P : Program) (l : List Oper) (Q : Exit → Act → World → Prop) (n f : Nat) (listed : Array Bool) (a : Act) (w : World) : Prop :=
  HeadInv .any l.toArray n listed → AnyE P .any l.toArray Q n (fun listed' a' w' => Region.seqB .any l.toArray (l.toArray.size - n) n listed' = true ∧ wpList P l.toArray Q (l.drop n) a' w') w.Extends f listed a w
theorem Left.done {l : List Oper} {n : Nat} {listed : Array Bool} {a : Act} {w : World} (hB : Region.seqB .any l.toArray (l.toArray.size - n) n listed = true) (h : wpList P l.toArray Q (l.drop n) a w) : Left P l Q n 0 listed a w := fun _ => ⟨hB, h⟩
theorem Left.take {l : List Oper} {n f i : Nat} {o : Oper} {listed : Array Bool} {a : Act} {w : World} (hi : l[i]? = some o)
    (hk : (Region.noSelect l.toArray && decide (n < l.toArray.size) && Region.sinkB .any l.toArray n && Region.chainB .any l.toArray n && decide (i < n) && (Region.ready .any l.toArray listed).contains i && Region.free .any l.toArray listed i) = true)
    (hQ : ∀ d v c a w, Q (.panic c) (Act.put a d v) w → Q (.panic c) a w) (v : Value) (hy : YieldsIf P l.toArray w.Extends o v a)
    (h : Left P l Q n f (listed.setIfInBounds i true) (a.put o.dst v) w) : Left P l Q n (f + 1) listed a w := fun inv => by
  simp only [Bool.and_eq_true, decide_eq_true_eq] at hk
  obtain ⟨⟨⟨⟨⟨⟨hsel, hn⟩, hs⟩, hc⟩, hin⟩, hr⟩, hf⟩ := hk
  have hoa : l.toArray[i]? = some o := by simpa using hi
  have hrm : i ∈ Region.ready .any l.toArray listed := by simpa using hr
  exact AnyE.first hoa (Region.noSelect_spec hsel) hs hc hn hin (fun c a w => hQ _ v c a w) (fun listed' a' w' hL => seqB_ready hL.1) f listed a w inv (Region.free_spec hoa hf) hrm hy (ext_refl w) (h (inv.set hrm hin))
/-- One step of an operation that is carried out. -/
def Step (P : Program) (l : List Oper) (Q : Exit → Act → World → Prop) (n f i : Nat) (listed : Array Bool) (a : Act) (w : World) : Prop :=
  ∀ o, l[i]? = some o → ∀ K : Act → World → Prop, Shut (∀ a' w', w.Extends w' → Left P l Q n f (listed.setIfInBounds i true) a' w' → K a' w') → if Region.wanted o (yielded l.toArray a.tmps) = true then o.wp P a w K Q else K (a.put o.dst undef) w
theorem Step.mk {l : List Oper} {n f i : Nat} {o : Oper} {listed : Array Bool} {a : Act} {w : World} (hi : l[i]? = some o)
    (h : ∀ K : Act → World → Prop, Shut (∀ a' w', w.Extends w' → Left P l Q n f (listed.setIfInBounds i true) a' w' → K a' w') → if Region.wanted o (yielded l.toArray a.tmps) = true then o.wp P a w K Q else K (a.put o.dst undef) w) : Step P l Q n f i listed a w := fun o' ho' => by
  rw [hi] at ho'; cases ho'; exact h
theorem Left.some {l : List Oper} {n f : Nat} {rs : List Nat} {listed : Array Bool} {a : Act} {w : World} (hr : Region.ready .any l.toArray listed = rs) (hne : (!rs.isEmpty && rs.all (· < n) && rs.all (· < l.length)) = true)
    (h : ∀ i ∈ rs, Step P l Q n f i listed a w) : Left P l Q n (f + 1) listed a w := fun inv => by
  simp only [Bool.and_eq_true, List.all_eq_true, decide_eq_true_eq] at hne
  refine ⟨(by rw [hr]; intro h0; rw [h0] at hne; simp at hne), fun j hj => ?_⟩
  have hjr : j ∈ rs := hr ▸ hj
  refine ⟨hne.1.2 j hjr, ?_⟩
  have hjl := hne.2 j hjr
  have hoa : l.toArray[j]? = Option.some l[j] := by simp
  have h0 := h j hjr l[j] (List.getElem?_eq_getElem hjl) (fun a' w' => w.Extends w' ∧ Left P l Q n f (listed.setIfInBounds j true) a' w') (fun _ _ h1 h2 => ⟨h1, h2⟩)
  have hinv := inv.set hj (hne.1.2 j hjr)
  have fin : ∀ a' w', w.Extends w' ∧ Left P l Q n f (listed.setIfInBounds j true) a' w' → w.Extends w' ∧ AnyE P .any l.toArray Q n _ w.Extends f (listed.setIfInBounds j true) a' w' :=
    fun a' w' hk => ⟨hk.1, AnyE.weaken (fun u hu => ext_trans hk.1 hu) _ _ _ _ (hk.2 hinv)⟩
  unfold wpOp
  simp only [hoa]
  split
  · rename_i hw; rw [if_pos hw] at h0; exact .inl (Oper.wp_mono fin h0)
  · rename_i hw; rw [if_neg hw] at h0; exact fin _ _ h0
theorem Left.one {l : List Oper} {n f i : Nat} {listed : Array Bool} {a : Act} {w : World} (hr : Region.ready .any l.toArray listed = [i]) (hne : (decide (i < n) && decide (i < l.length)) = true)
    (h : Step P l Q n f i listed a w) : Left P l Q n (f + 1) listed a w :=
  Left.some hr (by simpa using hne) (fun j hj => by obtain rfl : j = i := by simpa using hj
                                                    exact h)
theorem Left.two {l : List Oper} {n f i j : Nat} {listed : Array Bool} {a : Act} {w : World} (hr : Region.ready .any l.toArray listed = [i, j]) (hne : (decide (i < n) && decide (i < l.length) && decide (j < n) && decide (j < l.length)) = true)
    (h1 : Step P l Q n f i listed a w) (h2 : Step P l Q n f j listed a w) : Left P l Q n (f + 1) listed a w :=
  Left.some hr (by simp only [Bool.and_eq_true, decide_eq_true_eq] at hne; simp; omega) (fun k hk => by
    simp only [List.mem_cons, List.not_mem_nil, or_false] at hk
    rcases hk with rfl | rfl
    · exact h1
    · exact h2)
theorem Left.three {l : List Oper} {n f i j k : Nat} {listed : Array Bool} {a : Act} {w : World} (hr : Region.ready .any l.toArray listed = [i, j, k]) (hne : (decide (i < n) && decide (i < l.length) && decide (j < n) && decide (j < l.length) && decide (k < n) && decide (k < l.length)) = true)
    (h1 : Step P l Q n f i listed a w) (h2 : Step P l Q n f j listed a w) (h3 : Step P l Q n f k listed a w) : Left P l Q n (f + 1) listed a w :=
  Left.some hr (by simp only [Bool.and_eq_true, decide_eq_true_eq] at hne; simp; omega) (fun m hm => by
    simp only [List.mem_cons, List.not_mem_nil, or_false] at hm
    rcases hm with rfl | rfl | rfl
    · exact h1
    · exact h2
    · exact h3)
/-- The walk of a beginning; what is left is walked a step at a time. -/
def checkTo (md : Region.Mode) (ops : Array Oper) (n : Nat) : List (Bool × Nat) → Array Bool → Bool
  | [], _ => true
  | (c, i) :: rest, listed => decide (i < n) && (match c with | true => decide (Region.ready md ops listed = [i]) | false => (Region.ready md ops listed).contains i && Region.free md ops listed i)
      && checkTo md ops n rest (listed.setIfInBounds i true)
def lists : List (Bool × Nat) → Array Bool → Array Bool
  | [], listed => listed
  | (_, i) :: rest, listed => lists rest (listed.setIfInBounds i true)
def walkE (P : Program) (ops : Array Oper) (Q : Exit → Act → World → Prop) (E : Act → World → Prop) : List (Bool × Oper) → Act → World → Prop
  | [], a, w => E a w
  | (true, o) :: rest, a, w => if Region.wanted o (yielded ops a.tmps) = true then o.wp P a w (fun a' w' => w.Extends w' ∧ walkE P ops Q E rest a' w') Q else walkE P ops Q E rest (a.put o.dst undef) w
  | (false, o) :: rest, a, w => ∃ v, YieldsIf P ops w.Extends o v a ∧ walkE P ops Q E rest (a.put o.dst v) w
theorem walkE_nil {E : Act → World → Prop} {a : Act} {w : World} (h : E a w) : walkE P ops Q E [] a w := h
theorem walkE_t {E : Act → World → Prop} {rest : List (Bool × Oper)} {o : Oper} {a : Act} {w : World} (v : Value) (hy : YieldsIf P ops w.Extends o v a) (h : walkE P ops Q E rest (a.put o.dst v) w) :
    walkE P ops Q E ((false, o) :: rest) a w := ⟨v, hy, h⟩
theorem walkE_sound {l : List Oper} {n g : Nat} (hsel : Region.noSelect l.toArray = true) (hs : Region.sinkB .any l.toArray n = true) (hc : Region.chainB .any l.toArray n = true) (hn : n < l.toArray.size)
    (hQ : ∀ d v c a w, Q (.panic c) (Act.put a d v) w → Q (.panic c) a w) :
    ∀ (ord : List (Bool × Nat)) (listed : Array Bool) (a : Act) (w : World), checkTo .any l.toArray n ord listed = true →
      walkE P l.toArray Q (Left P l Q n g (lists ord listed)) (pick l ord) a w → Left P l Q n (ord.length + g) listed a w
  | [], listed, a, w, _, h => by rw [List.length_nil, Nat.zero_add]; exact h
  | (c, i) :: rest, listed, a, w, hB, h => fun inv => by
    simp only [checkTo, Bool.and_eq_true, decide_eq_true_eq] at hB
    obtain ⟨⟨hin, hr⟩, hB'⟩ := hB
    have hil : i < l.length := by have : l.toArray.size = l.length := by simp
                                  omega
    have ho : l[i]? = Option.some l[i] := List.getElem?_eq_getElem hil
    have hoa : l.toArray[i]? = Option.some l[i] := by simp
    have hlen : ((c, i) :: rest).length + g = (rest.length + g) + 1 := by simp; omega
    rw [hlen]
    simp only [pick, ho] at h
    cases c with
    | true =>
      simp only [decide_eq_true_eq] at hr
      refine ⟨(by rw [hr]; simp), fun j hj => ?_⟩
      rw [hr] at hj
      obtain rfl : j = i := by simpa using hj
      refine ⟨hin, ?_⟩
      have hrm : j ∈ Region.ready .any l.toArray listed := by rw [hr]; simp
      unfold walkE at h
      unfold wpOp
      simp only [hoa]
      split
      · rename_i hw
        rw [if_pos hw] at h
        exact .inl (Oper.wp_mono (fun a' w' hk => ⟨hk.1, AnyE.weaken (fun u hu => ext_trans hk.1 hu) _ _ _ _ (walkE_sound hsel hs hc hn hQ rest _ a' w' hB' hk.2 (inv.set hrm hin))⟩) h)
      · rename_i hw
        rw [if_neg hw] at h
        exact ⟨ext_refl w, walkE_sound hsel hs hc hn hQ rest _ _ w hB' h (inv.set hrm hin)⟩
    | false =>
      simp only [Bool.and_eq_true] at hr
      unfold walkE at h
      obtain ⟨v, hy, hK⟩ := h
      have hrm : i ∈ Region.ready .any l.toArray listed := by simpa using hr.1
      exact AnyE.first hoa (Region.noSelect_spec hsel) hs hc hn hin (fun c a w => hQ _ v c a w) (fun listed' a' w' hL => seqB_ready hL.1) (rest.length + g) listed a w inv (Region.free_spec hoa hr.2) hrm hy (ext_refl w)
        (walkE_sound hsel hs hc hn hQ rest _ _ w hB' hK (inv.set hrm hin))
theorem regionE {id : Nat} {a : Act} {w : World} {l : List Oper} (n g : Nat) (ord : List (Bool × Nat)) (hm : P.follows .mixedOrders = true)
    (hB : (Region.noSelect l.toArray && decide (n < l.toArray.size) && Region.sinkB .any l.toArray n && Region.chainB .any l.toArray n && decide (ord.length + g = n) && checkTo .any l.toArray n ord (Array.replicate l.toArray.size false)) = true)
    (hQ : ∀ d v c a w, Q (.panic c) (Act.put a d v) w → Q (.panic c) a w)
    (h : walkE P l.toArray Q (Left P l Q n g (lists ord (Array.replicate l.toArray.size false))) (pick l ord) a w.drew) : (Code.region id l.toArray true).wp P Q a w := by
  simp only [Bool.and_eq_true, decide_eq_true_eq] at hB
  obtain ⟨⟨⟨⟨⟨hsel, hn⟩, hs⟩, hc⟩, hlen⟩, hck⟩ := hB
  have hdl : (l.drop n).length = l.toArray.size - n := by simp
  have inv0 : HeadInv .any l.toArray n (Array.replicate l.toArray.size false) :=
    ⟨by simp, fun j oj _ hl => (by rw [getD_replicate_false] at hl; cases hl), fun t _ ht => getD_in (by simpa using ht) (getD_replicate_false _ _)⟩
  have H := walkE_sound hsel hs hc hn hQ ord _ a w.drew hck h inv0
  refine wp_region_any hm ?_
  have := AnyE.any (Q := Q) (g := l.toArray.size - n) (fun listed a' w' hL => by
    have := wpAny_of_seq (md := .any) (Q' := Q) (l.drop n) n listed a' w' (fun j => by simp [List.getElem?_drop]) (by rw [hdl]; exact hL.1) hL.2
    rwa [hdl] at this) _ _ _ _ H
  rw [hlen, show n + (l.toArray.size - n) = l.toArray.size by omega] at this
  exact this
end
end Gr
theorem ext_own {a b c : World} {r : Option Nat} (h : a.Extends b) (k : b.grownBy c r) (hr : ∀ x, r = some x → a.heap.size ≤ x) : a.Extends c :=
  Gr.ext_of ((Gr.below_of h).trans ⟨k.os, k.tape, k.output, k.size, fun i hi => k.block i (Nat.lt_of_lt_of_le hi h.size) (fun e => by have := hr i e.symm; omega)⟩)
end Go.Proofs.YtpfmmfapdcbnkaaDoor
namespace Go.Proofs.YtpfmmfapdcbnkaaDoor
set_option maxRecDepth 20000
open Go.RowKit Go.Deep
set_option linter.unusedVariables false
/-- A record: id, shape, block, number, gone, until, data. -/
structure Rc where
  p : Int
  n : Int
  b : Int
  s : Int
  m : Int
  k : Int
  e : Int
  g : Bool
  u : Int
  d : List Nat
def Rc.zero : Rc := ⟨0, 0, 0, 0, 0, 0, 0, false, 0, []⟩
/-- Its cells, and the record as a value; v: its data. -/
def Rc.cells (r : Rc) (v : Value) : List Value := [.int .i64 r.p, .int .i64 r.n, .int .i64 r.b, .int .i64 r.s, .int .i64 r.m, .int .i64 r.k, .int .i64 r.e, .bool r.g, .int .i64 r.u, v]
def Rc.val (r : Rc) (v : Value) : Value := .agg #[.int .i64 r.p, .int .i64 r.n, .int .i64 r.b, .int .i64 r.s, .int .i64 r.m, .int .i64 r.k, .int .i64 r.e, .bool r.g, .int .i64 r.u, v]
theorem recinfo : (Tryd.prog.info? 31).map (fun i => (i.zero, i.size, i.bytes)) = some (some (Rc.zero.val (.slice none 0 0)), 10, 96) := by kernel_rfl
/-- The record whose cells begin at b, off. -/
def RCell (w : World) (b off : Nat) (r : Rc) : Prop := ∃ a c, w.rangeAt b off (r.cells (.slice a r.d.length c)) ∧ U8s w (.slice a r.d.length c) r.d
theorem rangeAt_ext {w w' : World} {b off : Nat} {l : List Value} (h : w.rangeAt b off l) (hx : w.Extends w') : w'.rangeAt b off l := fun j v hv => hx.cell_of (h j v hv)
theorem RCell.ext {w w' : World} {b off : Nat} {r : Rc} (h : RCell w b off r) (hx : w.Extends w') : RCell w' b off r := by
  obtain ⟨a, c, h1, h2⟩ := h
  exact ⟨a, c, rangeAt_ext h1 hx, h2.ext hx⟩
/-- All of its cells, one by one. -/
theorem RCell.ten {w : World} {b off : Nat} {r : Rc} {v : Value} (h : w.rangeAt b off (r.cells v)) :
    w.cell? ⟨b, off, none⟩ = some (.int .i64 r.p) ∧ w.cell? ⟨b, off + 1, none⟩ = some (.int .i64 r.n) ∧ w.cell? ⟨b, off + 2, none⟩ = some (.int .i64 r.b) ∧ w.cell? ⟨b, off + 3, none⟩ = some (.int .i64 r.s) ∧ w.cell? ⟨b, off + 4, none⟩ = some (.int .i64 r.m) ∧
    w.cell? ⟨b, off + 5, none⟩ = some (.int .i64 r.k) ∧ w.cell? ⟨b, off + 6, none⟩ = some (.int .i64 r.e) ∧ w.cell? ⟨b, off + 7, none⟩ = some (.bool r.g) ∧ w.cell? ⟨b, off + 8, none⟩ = some (.int .i64 r.u) ∧ w.cell? ⟨b, off + 9, none⟩ = some v :=
  ⟨h 0 _ rfl, h 1 _ rfl, h 2 _ rfl, h 3 _ rfl, h 4 _ rfl, h 5 _ rfl, h 6 _ rfl, h 7 _ rfl, h 8 _ rfl, h 9 _ rfl⟩
theorem Rc.cells_lt (r : Rc) (u : Value) {i : Nat} {v : Value} (h : (r.cells u)[i]? = some v) : i < 10 := by
  rcases Nat.lt_or_ge i 10 with h' | h'
  · exact h'
  · rw [List.getElem?_eq_none (show (r.cells u).length ≤ i from h')] at h; cases h
/-- A variable that holds a record, just made. -/
theorem box_rec (w : World) (T : TypeId) (r : Rc) (u : Value) : (w.alloc (.cells (r.cells u).toArray T)).rangeAt w.heap.size 0 (r.cells u) := fun j v hv => by
  have h0 := heap_alloc_new w (.cells (r.cells u).toArray T)
  rw [cell_of_row _ _ _ _ _ _ h0, List.getElem?_toArray, Nat.zero_add]
  exact hv
end Go.Proofs.YtpfmmfapdcbnkaaDoor
namespace Go.Proofs.YtpfmmfapdcbnkaaDoor
set_option maxRecDepth 20000
set_option linter.unusedVariables false
namespace CM
/-- A right shape. -/
def Right (b s m : Int) : Prop := 1 ≤ b ∧ b ≤ 4000 ∧ 1 ≤ s ∧ s ≤ 64 ∧ 1 ≤ m ∧ m ≤ 40
instance (b s m : Int) : Decidable (Right b s m) := by unfold Right; infer_instance
/-- How many symbols; how many blocks; how many symbols block i has, and how many the blocks ahead of it. -/
def sy (b s : Nat) : Nat := (b - 1) / s + 1
def bl (b s m : Nat) : Nat := (sy b s - 1) / m + 1
def deal (y n i : Nat) : Nat := y / n + (if i < y % n then 1 else 0)
def ahead (y n i : Nat) : Nat := i * (y / n) + min i (y % n)
def kk (b s m i : Nat) : Nat := if i < bl b s m then deal (sy b s) (bl b s m) i else 0
theorem sy_pos (b s : Nat) : 1 ≤ sy b s := Nat.le_add_left _ _
theorem bl_pos (b s m : Nat) : 1 ≤ bl b s m := Nat.le_add_left _ _
theorem sy_le (b s : Nat) (hb : 1 ≤ b) : sy b s ≤ b := by
  have := Nat.div_le_self (b - 1) s
  unfold sy; omega
theorem bl_le (b s m : Nat) : bl b s m ≤ sy b s := by
  have h := Nat.div_le_self (sy b s - 1) m
  have := sy_pos b s
  unfold bl; omega
theorem sy_hi (b s : Nat) (hs : 1 ≤ s) : b ≤ sy b s * s := by
  have h := Nat.div_add_mod (b - 1) s
  have h2 := Nat.mod_lt (b - 1) (show s > 0 by omega)
  unfold sy
  rw [Nat.add_mul, Nat.one_mul, Nat.mul_comm]; omega
theorem bl_hi (b s m : Nat) (hm : 1 ≤ m) : sy b s ≤ bl b s m * m := sy_hi (sy b s) m hm
theorem up_eq (b s : Nat) (hb : 1 ≤ b) (hs : 1 ≤ s) : (b + s - 1) / s = sy b s := by
  unfold sy
  rw [show b + s - 1 = (b - 1) + s by omega, Nat.add_div_right _ (by omega)]
theorem deal_le (y n i m : Nat) (hn : 1 ≤ n) (hy : y ≤ n * m) : deal y n i ≤ m := by
  have h := Nat.div_add_mod y n
  unfold deal
  split
  · rename_i hi
    have : y / n < m := by
      rw [Nat.div_lt_iff_lt_mul (by omega)]
      rcases Nat.lt_or_ge y (m * n) with h' | h'
      · exact h'
      · rw [Nat.mul_comm] at h'
        have : y = n * m := by omega
        rw [this, Nat.mul_mod_right] at hi; omega
    omega
  · have := (Nat.div_le_iff_le_mul_add_pred (show 0 < n by omega) (b := n) (a := y) (c := m)).2 (by omega)
    omega
theorem ahead_zero (y n : Nat) : ahead y n 0 = 0 := by simp [ahead]
theorem ahead_succ (y n i : Nat) : ahead y n (i + 1) = ahead y n i + deal y n i := by
  unfold ahead deal
  rw [Nat.add_mul, Nat.one_mul]
  split <;> omega
theorem ahead_all (y n : Nat) (hn : 1 ≤ n) : ahead y n n = y := by
  have h := Nat.div_add_mod y n
  have := Nat.mod_lt y (show n > 0 by omega)
  unfold ahead
  rw [Nat.min_eq_right (by omega)]; omega
theorem kk_le (b s m i : Nat) (hm : 1 ≤ m) : kk b s m i ≤ m := by
  unfold kk
  split
  · exact deal_le _ _ _ _ (bl_pos b s m) (bl_hi b s m hm)
  · omega
theorem kk_in (b s m i : Nat) (h : i < bl b s m) : kk b s m i = deal (sy b s) (bl b s m) i := if_pos h
/-- Symbol i of size bytes: bytes 0 behind the data. -/
def sym (s : Nat) (xs : List Nat) (i : Nat) : List Nat := (List.range s).map fun x => xs.getD (i * s + x) 0
def blk (s : Nat) (xs : List Nat) (a k : Nat) : List (List Nat) := (List.range k).map fun i => sym s xs (a + i)
def cut (b s m : Nat) (xs : List Nat) : List (List (List Nat)) := (List.range (bl b s m)).map fun i => blk s xs (ahead (sy b s) (bl b s m) i) (kk b s m i)
theorem sym_length (s : Nat) (xs : List Nat) (i : Nat) : (sym s xs i).length = s := by simp [sym]
theorem sym_at (s : Nat) (xs : List Nat) (i x : Nat) (hx : x < s) : (sym s xs i).getD x 0 = xs.getD (i * s + x) 0 := by simp [sym, hx]
theorem blk_length (s : Nat) (xs : List Nat) (a k : Nat) : (blk s xs a k).length = k := by simp [blk]
theorem blk_snoc (s : Nat) (xs : List Nat) (a k : Nat) : blk s xs a k ++ [sym s xs (a + k)] = blk s xs a (k + 1) := by
  unfold blk; rw [List.range_succ, List.map_append]; rfl
theorem blk_at (s : Nat) (xs : List Nat) (a k i : Nat) (hi : i < k) : (blk s xs a k).getD i [] = sym s xs (a + i) := by simp [blk, hi]
theorem cut_length (b s m : Nat) (xs : List Nat) : (cut b s m xs).length = bl b s m := by simp [cut]
theorem cut_at (b s m : Nat) (xs : List Nat) (i : Nat) (hi : i < bl b s m) : (cut b s m xs).getD i [] = blk s xs (ahead (sy b s) (bl b s m) i) (kk b s m i) := by simp [cut, hi]
/-- The first i blocks. -/
theorem cut_snoc (b s m : Nat) (xs : List Nat) (i : Nat) (hi : i < bl b s m) :
    (cut b s m xs).take i ++ [blk s xs (ahead (sy b s) (bl b s m) i) (kk b s m i)] = (cut b s m xs).take (i + 1) := by
  rw [List.take_succ_eq_append_getElem (by rw [cut_length]; exact hi)]
  congr 2
  have := cut_at b s m xs i hi
  rw [List.getD_eq_getElem?_getD, List.getElem?_eq_getElem (by rw [cut_length]; exact hi)] at this
  exact this.symm
/-- All rows, one behind the other. -/
def flat (l : List (List (List Nat))) : List Nat := l.flatten.flatten
/-- Whether blocks have a shape. -/
def Fit (b s m : Nat) (l : List (List (List Nat))) : Prop := l.length = bl b s m ∧ ∀ i, i < l.length → (l.getD i []).length = kk b s m i ∧ ∀ j, j < (l.getD i []).length → ((l.getD i []).getD j []).length = s
theorem flat_nil : flat [] = [] := rfl
theorem flat_snoc (l : List (List (List Nat))) (r : List (List Nat)) : flat (l ++ [r]) = flat l ++ r.flatten := by simp [flat]
theorem flatten_snoc (l : List (List Nat)) (r : List Nat) : (l ++ [r]).flatten = l.flatten ++ r := by simp
theorem flatten_length (s : Nat) : ∀ (l : List (List Nat)), (∀ j, j < l.length → (l.getD j []).length = s) → l.flatten.length = l.length * s
  | [], _ => by simp
  | r :: l, h => by
    have h0 := h 0 (by simp)
    have ih := flatten_length s l fun j hj => by have := h (j + 1) (by simp; omega); simpa using this
    have h0' : r.length = s := by simpa using h0
    rw [List.flatten_cons, List.length_append, ih, List.length_cons, Nat.add_mul, h0', Nat.one_mul, Nat.add_comm]
/-- The bytes of the blocks ahead. -/
theorem flat_length (b s m : Nat) (l : List (List (List Nat))) (h : Fit b s m l) : ∀ i, i ≤ l.length → (flat (l.take i)).length = ahead (sy b s) (bl b s m) i * s
  | 0, _ => by rw [ahead_zero]; simp [flat]
  | i + 1, hi => by
    have ih := flat_length b s m l h i (by omega)
    have hfi := h.2 i (by omega)
    have e : l.take (i + 1) = l.take i ++ [l.getD i []] := by rw [List.take_succ_eq_append_getElem (by omega)]; simp [show i < l.length by omega]
    rw [e, flat_snoc, List.length_append, ih, flatten_length s _ hfi.2, hfi.1, kk_in _ _ _ _ (by rw [← h.1]; omega), ahead_succ, Nat.add_mul]
theorem flat_all (b s m : Nat) (l : List (List (List Nat))) (h : Fit b s m l) : (flat l).length = sy b s * s := by
  have := flat_length b s m l h l.length (Nat.le_refl _)
  rw [List.take_length, h.1, ahead_all _ _ (bl_pos b s m)] at this
  exact this
theorem cut_fit (b s m : Nat) (xs : List Nat) : Fit b s m (cut b s m xs) := by
  refine ⟨cut_length _ _ _ _, fun i hi => ?_⟩
  rw [cut_length] at hi
  rw [cut_at _ _ _ _ _ hi]
  refine ⟨blk_length _ _ _ _, fun j hj => ?_⟩
  rw [blk_length] at hj
  rw [blk_at _ _ _ _ _ hj, sym_length]
/-- The data with bytes 0 behind, to n bytes. -/
def pad (n : Nat) (xs : List Nat) : List Nat := (List.range n).map fun i => xs.getD i 0
theorem pad_length (n : Nat) (xs : List Nat) : (pad n xs).length = n := by simp [pad]
theorem pad_at (n : Nat) (xs : List Nat) (i : Nat) (h : i < n) : (pad n xs).getD i 0 = xs.getD i 0 := by simp [pad, h]
theorem list_eq {xs ys : List Nat} (hl : xs.length = ys.length) (h : ∀ i, i < xs.length → xs.getD i 0 = ys.getD i 0) : xs = ys := by
  apply List.ext_getElem hl
  intro i h1 h2
  have := h i h1
  simpa [h1, h2] using this
theorem pad_sym (s : Nat) (xs : List Nat) (n : Nat) : pad (n * s) xs ++ sym s xs n = pad ((n + 1) * s) xs := by
  refine list_eq (by rw [List.length_append, pad_length, pad_length, sym_length, Nat.add_mul, Nat.one_mul]) fun i hi => ?_
  rw [List.length_append, pad_length, sym_length] at hi
  rw [pad_at _ _ _ (by rw [Nat.add_mul, Nat.one_mul]; exact hi)]
  by_cases h : i < n * s
  · rw [List.getD_eq_getElem?_getD, List.getElem?_append_left (by rw [pad_length]; exact h), ← List.getD_eq_getElem?_getD, pad_at _ _ _ h]
  · rw [List.getD_eq_getElem?_getD, List.getElem?_append_right (by rw [pad_length]; omega), ← List.getD_eq_getElem?_getD, pad_length, sym_at _ _ _ _ (by omega), show n * s + (i - n * s) = i by omega]
theorem pad_blk (s : Nat) (xs : List Nat) (a : Nat) : ∀ k, pad (a * s) xs ++ (blk s xs a k).flatten = pad ((a + k) * s) xs
  | 0 => by simp [blk]
  | k + 1 => by rw [← blk_snoc, flatten_snoc, ← List.append_assoc, pad_blk s xs a k, pad_sym, Nat.add_assoc]
theorem pad_cut (b s m : Nat) (xs : List Nat) : ∀ i, i ≤ bl b s m → flat ((cut b s m xs).take i) = pad (ahead (sy b s) (bl b s m) i * s) xs
  | 0, _ => by rw [ahead_zero]; simp [flat, pad]
  | i + 1, h => by
    rw [← cut_snoc _ _ _ _ _ (by omega), flat_snoc, pad_cut b s m xs i (by omega), pad_blk, ahead_succ, kk_in _ _ _ _ (by omega)]
theorem flat_cut (b s m : Nat) (xs : List Nat) : flat (cut b s m xs) = pad (sy b s * s) xs := by
  have := pad_cut b s m xs _ (Nat.le_refl _)
  rw [← cut_length b s m xs, List.take_length, cut_length, ahead_all _ _ (bl_pos b s m)] at this
  exact this
/-- What is cut and joined is as it was. -/
theorem join_cut (s m : Nat) (xs : List Nat) (hs : 1 ≤ s) : (flat (cut xs.length s m xs)).take xs.length = xs := by
  have hh := sy_hi xs.length s hs
  rw [flat_cut]
  have hl : ((pad (sy xs.length s * s) xs).take xs.length).length = xs.length := by rw [List.length_take, pad_length]; omega
  refine list_eq hl fun i hi => ?_
  rw [hl] at hi
  rw [List.getD_eq_getElem?_getD, List.getElem?_take, if_pos hi, ← List.getD_eq_getElem?_getD, pad_at _ _ _ (by omega)]
instance fitDec (b s m : Nat) (l : List (List (List Nat))) : Decidable (Fit b s m l) := by unfold Fit; infer_instance
end CM
end Go.Proofs.YtpfmmfapdcbnkaaDoor
