/- Rows of bytes that a call makes (Own), and slices of rows of bytes (Rws): how they read, and that they stay. -/
import Derived.Test.YtdbdnfjgmdkneaaBytes
import Derived.Laws.AppendOwn
import Derived.Laws.MakeOwn
namespace Go.Proofs.Ytdbdnfjgmdkneaa
set_option maxRecDepth 20000
open Go.RowKit
/-- The byte n as a value. -/
def u8v (n : Nat) : Value := .int .u8 (n : Int)
/-- Block b of w is a row of the bytes xs, not frozen. -/
def Own (w : World) (b : Nat) (T : TypeId) (xs : List Nat) : Prop := w.rowIs b T xs.length (fun i => .int .u8 (xs.getD i 0 : Nat)) ∧ xs.length ≤ maxLen ∧ ∀ x ∈ xs, x < 256
theorem Own.lt {w : World} {b : Nat} {T : TypeId} {xs : List Nat} (h : Own w b T xs) : b < w.heap.size := h.1.lt
theorem Own.u8s {w : World} {b : Nat} {T : TypeId} {xs : List Nat} (h : Own w b T xs) : U8s w (.slice (some ⟨b, 0, none⟩) xs.length xs.length) xs :=
  .inr ⟨b, 0, xs.length, rfl, Nat.le_refl _, h.2.1, h.lt, fun k hk => by rw [Nat.zero_add]; exact h.1.cell hk, h.2.2⟩
theorem Own.block {w w' : World} {b : Nat} {T : TypeId} {xs : List Nat} (h : Own w b T xs) (e : w'.heap[b]? = w.heap[b]?) : Own w' b T xs := ⟨h.1.of_block e, h.2⟩
theorem Own.below {w w' : World} {b B : Nat} {T : TypeId} {xs : List Nat} (h : Own w b T xs) (hb : Below B w w') (hB : b < B) : Own w' b T xs := h.block (hb.block b hB)
theorem Own.alloc {w : World} {b : Nat} {T : TypeId} {xs : List Nat} (h : Own w b T xs) (o : Obj) : Own (w.alloc o) b T xs := ⟨h.1.alloc o, h.2⟩
theorem Own.grown {w w' : World} {b : Nat} {T : TypeId} {xs : List Nat} (h : Own w b T xs) {r : Option Nat} (hg : w.grownBy w' r) (hr : some b ≠ r) : Own w' b T xs := h.block (hg.block b h.lt hr)
theorem getD_set (xs : List Nat) (i v j : Nat) (hi : i < xs.length) : (xs.set i v).getD j 0 = if j = i then v else xs.getD j 0 := by
  by_cases h : j = i
  · subst h; simp [hi]
  · rw [if_neg h]; simp [List.getD_eq_getElem?_getD, Ne.symm h]
theorem Own.set {w : World} {b : Nat} {T : TypeId} {xs : List Nat} (h : Own w b T xs) (i v : Nat) (hi : i < xs.length) (hv : v < 256) : Own (w.setCell ⟨b, i, none⟩ (.int .u8 (v : Nat))) b T (xs.set i v) := by
  refine ⟨?_, by simpa using h.2.1, fun x hx => ?_⟩
  · rw [List.length_set]
    refine (h.1.set i _).congr fun j hj => ?_
    rw [getD_set xs i v j hi]
    split <;> rfl
  · rcases List.mem_or_eq_of_mem_set hx with h' | h'
    · exact h.2.2 x h'
    · subst h'; exact hv
theorem Own.made (w : World) (n : Nat) (T : TypeId) (hn : n ≤ maxLen) : Own (w.alloc (.cells (madeCells #[.int .u8 0] n) T)) w.heap.size T (List.replicate n 0) := by
  refine ⟨?_, by simpa using hn, fun x hx => ?_⟩
  · rw [List.length_replicate]
    refine (World.rowIs_made w (.int .u8 0) n T).congr fun i hi => ?_
    simp [List.getD_eq_getElem?_getD, hi]
  · rw [(List.mem_replicate.1 hx).2]; decide
theorem U8s.slice {w : World} {v : Value} {xs : List Nat} (h : U8s w v xs) : ∃ a cap, v = .slice a xs.length cap ∧ xs.length ≤ cap ∧ cap ≤ maxLen := by
  rcases h with ⟨rfl, a, cap, rfl, hm⟩ | ⟨b, off, cap, rfl, h1, h2, _⟩
  · exact ⟨a, cap, rfl, Nat.zero_le _, hm⟩
  · exact ⟨_, cap, rfl, h1, h2⟩
theorem U8s.len {w : World} {v : Value} {xs : List Nat} (h : U8s w v xs) : xs.length ≤ maxLen := by
  rcases h with ⟨rfl, _⟩ | ⟨b, off, cap, rfl, h1, h2, _⟩
  · simp [maxLen]
  · exact Nat.le_trans h1 h2
theorem U8s.lt {w : World} {v : Value} {xs : List Nat} (h : U8s w v xs) : ∀ x ∈ xs, x < 256 := by
  rcases h with ⟨rfl, _⟩ | ⟨b, off, cap, rfl, h1, h2, h3, h4, h5⟩
  · intro x hx; cases hx
  · exact h5
theorem U8s.ext {w w' : World} {v : Value} {xs : List Nat} (h : U8s w v xs) (hb : w.Extends w') : U8s w' v xs := by
  rcases h with h | ⟨b, off, cap, h1, h2, h2', h3, h4, h5⟩
  · exact .inl h
  · exact .inr ⟨b, off, cap, h1, h2, h2', Nat.lt_of_lt_of_le h3 hb.size, fun k hk => (hb.cell ⟨b, off + k, none⟩ h3).trans (h4 k hk), h5⟩
/-- It stays where block b alone may have changed, and is not that block. -/
theorem U8s.grown {w w' : World} {v : Value} {xs : List Nat} (h : U8s w v xs) {r : Option Nat} (hg : w.grownBy w' r) (hr : xs = [] ∨ v.ownBlock ≠ r) : U8s w' v xs := by
  rcases h with h | ⟨b, off, cap, h1, h2, h2', h3, h4, h5⟩
  · exact .inl h
  · rcases hr with rfl | hr
    · subst h1; exact .inl ⟨rfl, _, _, rfl, h2'⟩
    refine .inr ⟨b, off, cap, h1, h2, h2', Nat.lt_of_lt_of_le h3 hg.size, fun k hk => ?_, h5⟩
    refine (World.cell?_of_block (w := w) (hg.block b h3 ?_)).trans (h4 k hk)
    subst h1
    simpa [Value.ownBlock] using hr
theorem U8s.take {w : World} {a : Option Addr} {cap : Nat} {xs : List Nat} (h : U8s w (.slice a xs.length cap) xs) (n : Nat) : U8s w (.slice a (min n xs.length) cap) (xs.take n) := by
  rcases h with ⟨rfl, a', cap', hv, hm⟩ | ⟨b, off, cap', hv, h2, h2', h3, h4, h5⟩
  · cases hv; exact .inl ⟨by simp, a, cap, by simp, hm⟩
  · cases hv
    by_cases h0 : min n xs.length = 0
    · refine .inl ⟨?_, _, _, by rw [h0], h2'⟩
      apply List.eq_nil_of_length_eq_zero; rw [List.length_take]; exact h0
    · refine .inr ⟨b, off, cap, by rw [List.length_take], by rw [List.length_take]; omega, h2', h3, fun k hk => ?_, fun x hx => h5 x (List.mem_of_mem_take hx)⟩
      rw [List.length_take] at hk
      rw [h4 k (by omega)]
      simp [List.getD_eq_getElem?_getD, show k < n by omega]
theorem U8s.cell {w : World} {a : Option Addr} {n cap : Nat} {xs : List Nat} (h : U8s w (.slice a n cap) xs) : n = xs.length ∧ (0 < n → ∃ b off, a = some ⟨b, off, none⟩ ∧ b < w.heap.size ∧ ∀ k, k < n → w.cell? ⟨b, off + k, none⟩ = some (.int .u8 (xs.getD k 0 : Nat))) := by
  rcases h with ⟨rfl, a', cap', hv, _⟩ | ⟨b, off, cap', hv, h2, h2', h3, h4, h5⟩
  · cases hv; exact ⟨rfl, fun h => absurd h (Nat.lt_irrefl _)⟩
  · cases hv; exact ⟨rfl, fun _ => ⟨b, off, rfl, h3, h4⟩⟩
theorem grown_refl (w : World) (r : Option Nat) : w.grownBy w r := ⟨rfl, rfl, rfl, Nat.le_refl _, fun _ _ _ => rfl⟩
theorem grown_trans {a b c : World} {r : Option Nat} (h : a.grownBy b r) (k : b.grownBy c r) : a.grownBy c r :=
  ⟨k.os.trans h.os, k.tape.trans h.tape, k.output.trans h.output, Nat.le_trans h.size k.size, fun i hi hr => (k.block i (Nat.lt_of_lt_of_le hi h.size) hr).trans (h.block i hi hr)⟩
theorem grown_setCell {a b : World} {g : Nat} (h : a.grownBy b (some g)) (i : Nat) (v : Value) : a.grownBy (b.setCell ⟨g, i, none⟩ v) (some g) :=
  ⟨h.os, h.tape, h.output, by simpa using h.size, fun k hk hr => (Below.heap_setCell b ⟨g, i, none⟩ v k (fun e => hr (by rw [e]))).trans (h.block k hk hr)⟩
theorem grown_alloc {a b : World} {r : Option Nat} (h : a.grownBy b r) (o : Obj) : a.grownBy (b.alloc o) r := grown_trans h (World.grownBy_alloc b o r)
theorem grown_below {a b : World} {r : Option Nat} {B : Nat} (h : Below B a b) (hB : a.heap.size ≤ B) : a.grownBy b r := ⟨h.os, h.tape, h.output, h.size, fun k hk _ => h.block k (Nat.lt_of_lt_of_le hk hB)⟩
theorem grown_drew {a b : World} {r : Option Nat} (h : a.grownBy b r) : a.grownBy b.drew r := ⟨h.os, h.tape, h.output, h.size, h.block⟩
theorem below_grown {a b : World} {g B : Nat} (h : a.grownBy b (some g)) (hB : B ≤ g) (hB' : B ≤ a.heap.size) : Below B a b :=
  ⟨h.os, h.tape, h.output, h.size, fun k hk => h.block k (by omega) (by simp; omega)⟩
theorem U8s.old {w : World} {v : Value} {xs : List Nat} (h : U8s w v xs) {b : Nat} (hb : w.heap.size ≤ b) : xs = [] ∨ v.ownBlock ≠ some b := by
  rcases h with h | ⟨b', off, cap, rfl, h2, h2', h3, h4, h5⟩
  · exact .inl h.1
  · exact .inr (by simp [Value.ownBlock]; omega)
theorem U8s.drew {w : World} {v : Value} {xs : List Nat} (h : U8s w v xs) : U8s w.drew v xs := h.ext ⟨rfl, rfl, rfl, Nat.le_refl _, fun _ _ => rfl, fun _ _ => rfl, fun _ _ => rfl⟩
theorem below_undrew {a b : World} {B : Nat} (h : Below B a.drew b) : Below B a b := ⟨h.os, h.tape, h.output, h.size, h.block⟩
/-- A slice of rows of bytes. -/
def Rws (w : World) (v : Value) (l : List (List Nat)) : Prop :=
  (l = [] ∧ ∃ a cap, v = .slice a 0 cap) ∨
  ∃ b off cap, v = .slice (some ⟨b, off, none⟩) l.length cap ∧ l.length ≤ cap ∧ cap ≤ maxLen ∧ b < w.heap.size ∧ ∀ k, k < l.length → ∃ u, w.cell? ⟨b, off + k, none⟩ = some u ∧ U8s w u (l.getD k [])
theorem Rws.nil (w : World) (a : Option Addr) (cap : Nat) : Rws w (.slice a 0 cap) [] := .inl ⟨rfl, a, cap, rfl⟩
theorem Rws.ext {w w' : World} {v : Value} {l : List (List Nat)} (h : Rws w v l) (hb : w.Extends w') : Rws w' v l := by
  rcases h with h | ⟨b, off, cap, h1, h2, h2', h3, h4⟩
  · exact .inl h
  · refine .inr ⟨b, off, cap, h1, h2, h2', Nat.lt_of_lt_of_le h3 hb.size, fun k hk => ?_⟩
    obtain ⟨u, hu, hv⟩ := h4 k hk
    exact ⟨u, (hb.cell ⟨b, off + k, none⟩ h3).trans hu, hv.ext hb⟩
theorem ext_below {B : Nat} {w w' : World} (h : Below B w w') (hB : B = w.heap.size) : w.Extends w' := by
  subst hB
  exact ⟨h.os, h.tape, h.output, h.size, fun _ ha => World.cell?_of_block (w := w) (h.block _ ha), fun _ ha => World.frozen?_of_block (w := w) (h.block _ ha), h.block⟩
theorem Rws.below {w w' : World} {v : Value} {l : List (List Nat)} (h : Rws w v l) {B : Nat} (hb : Below B w w') (hB : B = w.heap.size) : Rws w' v l := h.ext (ext_below hb hB)
theorem Rws.slice {w : World} {v : Value} {l : List (List Nat)} (h : Rws w v l) : ∃ a cap, v = .slice a l.length cap ∧ l.length ≤ cap := by
  rcases h with ⟨rfl, a, cap, rfl⟩ | ⟨b, off, cap, rfl, h1, _⟩
  · exact ⟨a, cap, rfl, Nat.zero_le _⟩
  · exact ⟨_, cap, rfl, h1⟩
theorem Rws.len {w : World} {v : Value} {l : List (List Nat)} (h : Rws w v l) : l.length ≤ maxLen := by
  rcases h with ⟨rfl, _⟩ | ⟨b, off, cap, rfl, h1, h2, _⟩
  · simp [maxLen]
  · exact Nat.le_trans h1 h2
/-- Row k: its cell, and how it reads. -/
theorem Rws.at {w : World} {a : Option Addr} {n cap : Nat} {l : List (List Nat)} (h : Rws w (.slice a n cap) l) : n = l.length ∧ (0 < n → ∃ b off, a = some ⟨b, off, none⟩ ∧ b < w.heap.size ∧ ∀ k, k < n → ∃ a' c', w.cell? ⟨b, off + k, none⟩ = some (.slice a' (l.getD k []).length c') ∧ U8s w (.slice a' (l.getD k []).length c') (l.getD k [])) := by
  rcases h with ⟨rfl, a', cap', hv⟩ | ⟨b, off, cap', hv, h2, h2', h3, h4⟩
  · cases hv; exact ⟨rfl, fun h => absurd h (Nat.lt_irrefl _)⟩
  · cases hv
    refine ⟨rfl, fun _ => ⟨b, off, rfl, h3, fun k hk => ?_⟩⟩
    obtain ⟨u, hu, hs⟩ := h4 k hk
    obtain ⟨a', c', rfl, _, _⟩ := hs.slice
    exact ⟨a', c', hu, hs⟩
theorem Rws.row_lt {w : World} {v : Value} {l : List (List Nat)} (h : Rws w v l) (k i : Nat) : (l.getD k []).getD i 0 < 256 := by
  rcases h with ⟨rfl, _⟩ | ⟨b, off, cap, rfl, _, _, _, h4⟩
  · simp
  · by_cases hk : k < l.length
    · obtain ⟨u, _, hs⟩ := h4 k hk
      exact getD_lt _ hs.lt i
    · simp [List.getD_eq_getElem?_getD, List.getElem?_eq_none (Nat.le_of_not_lt hk)]
/-- A fresh literal of slices. -/
theorem rws_new (W : World) (s n c : Nat) (T : TypeId) (vs : Array Value) (l : List (List Nat)) (hs : s = W.heap.size) (hn : n = l.length) (hm : l.length ≤ maxLen)
    (h : ∀ k, k < l.length → ∃ u, vs[k]? = some u ∧ U8s W u (l.getD k [])) (hcn : c = n := by rfl) : Rws (W.alloc (.cells vs T)) (.slice (some ⟨s, 0, none⟩) n c) l := by
  subst hcn; subst hs; subst hn
  have hx : W.Extends (W.alloc (.cells vs T)) := ext_below ((Below.refl _ _).alloc (Nat.le_refl _) _) rfl
  refine .inr ⟨W.heap.size, 0, l.length, rfl, Nat.le_refl _, hm, by simp, fun k hk => ?_⟩
  obtain ⟨u, hu, hv⟩ := h k hk
  refine ⟨u, ?_, hv.ext hx⟩
  have := cell_of_row (W.alloc (.cells vs T)) W.heap.size k _ T (0, 0) (heap_alloc_new W _)
  rw [Nat.zero_add, this, hu]
theorem rws_one (W : World) (s : Nat) (T : TypeId) (u : Value) (a : List Nat) (hu : U8s W u a) (hs : s = W.heap.size := by rfl) : Rws (W.alloc (.cells #[u] T)) (.slice (some ⟨s, 0, none⟩) 1 1) [a] :=
  rws_new W s 1 1 T #[u] [a] hs rfl (by simp [maxLen]) fun k hk => by
    obtain rfl : k = 0 := by simp at hk; omega
    exact ⟨u, rfl, hu⟩
theorem rws_two (W : World) (s : Nat) (T : TypeId) (u v : Value) (a b : List Nat) (hu : U8s W u a) (hv : U8s W v b) (hs : s = W.heap.size := by rfl) : Rws (W.alloc (.cells #[u, v] T)) (.slice (some ⟨s, 0, none⟩) 2 2) [a, b] :=
  rws_new W s 2 2 T #[u, v] [a, b] hs rfl (by simp [maxLen]) fun k hk => by
    match k, hk with
    | 0, _ => exact ⟨u, rfl, hu⟩
    | 1, _ => exact ⟨v, rfl, hv⟩
theorem rws_three (W : World) (s : Nat) (T : TypeId) (u v x : Value) (a b c : List Nat) (hu : U8s W u a) (hv : U8s W v b) (hx : U8s W x c) (hs : s = W.heap.size := by rfl) : Rws (W.alloc (.cells #[u, v, x] T)) (.slice (some ⟨s, 0, none⟩) 3 3) [a, b, c] :=
  rws_new W s 3 3 T #[u, v, x] [a, b, c] hs rfl (by simp [maxLen]) fun k hk => by
    match k, hk with
    | 0, _ => exact ⟨u, rfl, hu⟩
    | 1, _ => exact ⟨v, rfl, hv⟩
    | 2, _ => exact ⟨x, rfl, hx⟩
theorem ext_alloc (w : World) (o : Obj) : w.Extends (w.alloc o) := ext_below ((Below.refl _ _).alloc (Nat.le_refl _) _) rfl
theorem Rws.drew {w : World} {v : Value} {l : List (List Nat)} (h : Rws w v l) : Rws w.drew v l := h.ext ⟨rfl, rfl, rfl, Nat.le_refl _, fun _ _ => rfl, fun _ _ => rfl, fun _ _ => rfl⟩
end Go.Proofs.Ytdbdnfjgmdkneaa
