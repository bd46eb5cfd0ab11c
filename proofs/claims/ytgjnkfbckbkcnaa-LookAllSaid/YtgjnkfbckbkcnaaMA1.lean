/- In one text: Bytes, Rws, Append, Ints, OpenI, Grow, RndMath, KeyMath, KeyAt. -/
import Derived.WalkKit
import Derived.Below
import Derived.OpenShut
import Derived.Laws.NewBlocks
import Derived.Deep.OwnRows
import Derived.Deep.MidRow
import Derived.Laws.AppendOwn
import Derived.Laws.MakeOwn
import Derived.Deep.AppendSrc
import Derived.Lib.Hide
import Derived.Handy
import Derived.Deep.Matrix
import Derived.SizedLaws
import Derived.OrdersHeld
import Derived.StillTail
import Derived.KernelRfl
import Derived.Deep.RegionHeld
import Derived.Laws.BitsAllLaws
import Derived.Laws.MathBits
import Derived.Lib.Bytealg
import Derived.Test.YtgjnkfbckbkcnaaRows
import Derived.IntWalk
import Derived.Laws.Rows
import Derived.Laws.Tables
import Derived.ChangeKeysEq
namespace Go.Proofs.Ytgjnkfbckbkcnaa
set_option maxRecDepth 20000
open Go.RowKit
/-- v is a slice of the bytes xs in w: empty; or its cells hold them. -/
def U8s (w : World) (v : Value) (xs : List Nat) : Prop :=
  (xs = [] ∧ ∃ a cap, v = .slice a 0 cap ∧ cap ≤ maxLen) ∨
  ∃ b off cap, v = .slice (some ⟨b, off, none⟩) xs.length cap ∧ xs.length ≤ cap ∧ cap ≤ maxLen ∧ b < w.heap.size ∧ (∀ k, k < xs.length → w.cell? ⟨b, off + k, none⟩ = some (.int .u8 (xs.getD k 0 : Nat))) ∧ ∀ x ∈ xs, x < 256
theorem U8s.below {w w' : World} {v : Value} {xs : List Nat} {B : Nat} (h : U8s w v xs) (hb : Below B w w') (hB : B = w.heap.size) : U8s w' v xs := by
  rcases h with h | ⟨b, off, cap, h1, h2, h2', h3, h4, h5⟩
  · exact .inl h
  · refine .inr ⟨b, off, cap, h1, h2, h2', Nat.lt_of_lt_of_le h3 hb.size, fun k hk => ?_, h5⟩
    rw [hb.cell (p := ⟨b, off + k, none⟩) (by show b < B; omega)]
    exact h4 k hk
theorem u8_nat {a : Int} (h : (Lit.int .u8 a).wf = true) : ∃ n : Nat, a = n ∧ n < 256 := by
  have := bounds_u8 h
  obtain ⟨n, rfl⟩ := Int.eq_ofNat_of_zero_le this.1
  exact ⟨n, rfl, by omega⟩
end Go.Proofs.Ytgjnkfbckbkcnaa
namespace Go.Proofs.Ytgjnkfbckbkcnaa
set_option maxRecDepth 20000
open Go.RowKit
/-- Block b of w is a row of the bytes xs, not frozen. -/
def Own (w : World) (b : Nat) (T : TypeId) (xs : List Nat) : Prop := w.rowIs b T xs.length (fun i => .int .u8 (xs.getD i 0 : Nat)) ∧ xs.length ≤ maxLen ∧ ∀ x ∈ xs, x < 256
theorem Own.lt {w : World} {b : Nat} {T : TypeId} {xs : List Nat} (h : Own w b T xs) : b < w.heap.size := h.1.lt
theorem Own.block {w w' : World} {b : Nat} {T : TypeId} {xs : List Nat} (h : Own w b T xs) (e : w'.heap[b]? = w.heap[b]?) : Own w' b T xs := ⟨h.1.of_block e, h.2⟩
theorem Own.below {w w' : World} {b B : Nat} {T : TypeId} {xs : List Nat} (h : Own w b T xs) (hb : Below B w w') (hB : b < B) : Own w' b T xs := h.block (hb.block b hB)
theorem Own.alloc {w : World} {b : Nat} {T : TypeId} {xs : List Nat} (h : Own w b T xs) (o : Obj) : Own (w.alloc o) b T xs := ⟨h.1.alloc o, h.2⟩
theorem Own.grown {w w' : World} {b : Nat} {T : TypeId} {xs : List Nat} (h : Own w b T xs) {r : Option Nat} (hg : w.grownBy w' r) (hr : some b ≠ r) : Own w' b T xs := h.block (hg.block b h.lt hr)
theorem getD_set (xs : List Nat) (i v j : Nat) (hi : i < xs.length) : (xs.set i v).getD j 0 = if j = i then v else xs.getD j 0 := by
  by_cases h : j = i
  · subst h; simp [hi]
  · rw [if_neg h]; simp [List.getD_eq_getElem?_getD, Ne.symm h]
theorem Own.set {w : World} {b : Nat} {T : TypeId} {xs : List Nat} (h : Own w b T xs) (i v : Nat) (hi : i < xs.length) (hv : v < 256) : Own (w.setCell ⟨b, i, none⟩ (.int .u8 (v : Nat))) b T (xs.set i v) := by
  refine ⟨?_, by simpa using h.2.1, fun x hx => ?_⟩
  · rw [List.length_set]
    refine (h.1.set i _).congr fun j hj => ?_
    rw [getD_set xs i v j hi]
    split <;> rfl
  · rcases List.mem_or_eq_of_mem_set hx with h' | h'
    · exact h.2.2 x h'
    · subst h'; exact hv
theorem Own.made (w : World) (n : Nat) (T : TypeId) (hn : n ≤ maxLen) : Own (w.alloc (.cells (madeCells #[.int .u8 0] n) T)) w.heap.size T (List.replicate n 0) := by
  refine ⟨?_, by simpa using hn, fun x hx => ?_⟩
  · rw [List.length_replicate]
    refine (World.rowIs_made w (.int .u8 0) n T).congr fun i hi => ?_
    simp [List.getD_eq_getElem?_getD, hi]
  · rw [(List.mem_replicate.1 hx).2]; decide
theorem U8s.slice {w : World} {v : Value} {xs : List Nat} (h : U8s w v xs) : ∃ a cap, v = .slice a xs.length cap ∧ xs.length ≤ cap ∧ cap ≤ maxLen := by
  rcases h with ⟨rfl, a, cap, rfl, hm⟩ | ⟨b, off, cap, rfl, h1, h2, _⟩
  · exact ⟨a, cap, rfl, Nat.zero_le _, hm⟩
  · exact ⟨_, cap, rfl, h1, h2⟩
theorem U8s.len {w : World} {v : Value} {xs : List Nat} (h : U8s w v xs) : xs.length ≤ maxLen := by
  rcases h with ⟨rfl, _⟩ | ⟨b, off, cap, rfl, h1, h2, _⟩
  · simp [maxLen]
  · exact Nat.le_trans h1 h2
theorem U8s.lt {w : World} {v : Value} {xs : List Nat} (h : U8s w v xs) : ∀ x ∈ xs, x < 256 := by
  rcases h with ⟨rfl, _⟩ | ⟨b, off, cap, rfl, h1, h2, h3, h4, h5⟩
  · intro x hx; cases hx
  · exact h5
theorem U8s.ext {w w' : World} {v : Value} {xs : List Nat} (h : U8s w v xs) (hb : w.Extends w') : U8s w' v xs := by
  rcases h with h | ⟨b, off, cap, h1, h2, h2', h3, h4, h5⟩
  · exact .inl h
  · exact .inr ⟨b, off, cap, h1, h2, h2', Nat.lt_of_lt_of_le h3 hb.size, fun k hk => (hb.cell ⟨b, off + k, none⟩ h3).trans (h4 k hk), h5⟩
/-- It stays where block b alone may have changed, and is not that block. -/
theorem U8s.grown {w w' : World} {v : Value} {xs : List Nat} (h : U8s w v xs) {r : Option Nat} (hg : w.grownBy w' r) (hr : xs = [] ∨ v.ownBlock ≠ r) : U8s w' v xs := by
  rcases h with h | ⟨b, off, cap, h1, h2, h2', h3, h4, h5⟩
  · exact .inl h
  · rcases hr with rfl | hr
    · subst h1; exact .inl ⟨rfl, _, _, rfl, h2'⟩
    refine .inr ⟨b, off, cap, h1, h2, h2', Nat.lt_of_lt_of_le h3 hg.size, fun k hk => ?_, h5⟩
    refine (World.cell?_of_block (w := w) (hg.block b h3 ?_)).trans (h4 k hk)
    subst h1
    simpa [Value.ownBlock] using hr
theorem U8s.take {w : World} {a : Option Addr} {cap : Nat} {xs : List Nat} (h : U8s w (.slice a xs.length cap) xs) (n : Nat) : U8s w (.slice a (min n xs.length) cap) (xs.take n) := by
  rcases h with ⟨rfl, a', cap', hv, hm⟩ | ⟨b, off, cap', hv, h2, h2', h3, h4, h5⟩
  · cases hv; exact .inl ⟨by simp, a, cap, by simp, hm⟩
  · cases hv
    by_cases h0 : min n xs.length = 0
    · refine .inl ⟨?_, _, _, by rw [h0], h2'⟩
      apply List.eq_nil_of_length_eq_zero; rw [List.length_take]; exact h0
    · refine .inr ⟨b, off, cap, by rw [List.length_take], by rw [List.length_take]; omega, h2', h3, fun k hk => ?_, fun x hx => h5 x (List.mem_of_mem_take hx)⟩
      rw [List.length_take] at hk
      rw [h4 k (by omega)]
      simp [List.getD_eq_getElem?_getD, show k < n by omega]
theorem U8s.cell {w : World} {a : Option Addr} {n cap : Nat} {xs : List Nat} (h : U8s w (.slice a n cap) xs) : n = xs.length ∧ (0 < n → ∃ b off, a = some ⟨b, off, none⟩ ∧ b < w.heap.size ∧ ∀ k, k < n → w.cell? ⟨b, off + k, none⟩ = some (.int .u8 (xs.getD k 0 : Nat))) := by
  rcases h with ⟨rfl, a', cap', hv, _⟩ | ⟨b, off, cap', hv, h2, h2', h3, h4, h5⟩
  · cases hv; exact ⟨rfl, fun h => absurd h (Nat.lt_irrefl _)⟩
  · cases hv; exact ⟨rfl, fun _ => ⟨b, off, rfl, h3, h4⟩⟩
theorem grown_refl (w : World) (r : Option Nat) : w.grownBy w r := ⟨rfl, rfl, rfl, Nat.le_refl _, fun _ _ _ => rfl⟩
theorem grown_trans {a b c : World} {r : Option Nat} (h : a.grownBy b r) (k : b.grownBy c r) : a.grownBy c r :=
  ⟨k.os.trans h.os, k.tape.trans h.tape, k.output.trans h.output, Nat.le_trans h.size k.size, fun i hi hr => (k.block i (Nat.lt_of_lt_of_le hi h.size) hr).trans (h.block i hi hr)⟩
theorem grown_setCell {a b : World} {g : Nat} (h : a.grownBy b (some g)) (i : Nat) (v : Value) : a.grownBy (b.setCell ⟨g, i, none⟩ v) (some g) :=
  ⟨h.os, h.tape, h.output, by simpa using h.size, fun k hk hr => (Below.heap_setCell b ⟨g, i, none⟩ v k (fun e => hr (by rw [e]))).trans (h.block k hk hr)⟩
theorem grown_below {a b : World} {r : Option Nat} {B : Nat} (h : Below B a b) (hB : a.heap.size ≤ B) : a.grownBy b r := ⟨h.os, h.tape, h.output, h.size, fun k hk _ => h.block k (Nat.lt_of_lt_of_le hk hB)⟩
theorem grown_drew {a b : World} {r : Option Nat} (h : a.grownBy b r) : a.grownBy b.drew r := ⟨h.os, h.tape, h.output, h.size, h.block⟩
theorem U8s.old {w : World} {v : Value} {xs : List Nat} (h : U8s w v xs) {b : Nat} (hb : w.heap.size ≤ b) : xs = [] ∨ v.ownBlock ≠ some b := by
  rcases h with h | ⟨b', off, cap, rfl, h2, h2', h3, h4, h5⟩
  · exact .inl h.1
  · exact .inr (by simp [Value.ownBlock]; omega)
theorem U8s.drew {w : World} {v : Value} {xs : List Nat} (h : U8s w v xs) : U8s w.drew v xs := h.ext ⟨rfl, rfl, rfl, Nat.le_refl _, fun _ _ => rfl, fun _ _ => rfl, fun _ _ => rfl⟩
/-- A slice of rows of bytes. -/
def Rws (w : World) (v : Value) (l : List (List Nat)) : Prop :=
  (l = [] ∧ ∃ a cap, v = .slice a 0 cap) ∨
  ∃ b off cap, v = .slice (some ⟨b, off, none⟩) l.length cap ∧ l.length ≤ cap ∧ cap ≤ maxLen ∧ b < w.heap.size ∧ ∀ k, k < l.length → ∃ u, w.cell? ⟨b, off + k, none⟩ = some u ∧ U8s w u (l.getD k [])
theorem Rws.nil (w : World) (a : Option Addr) (cap : Nat) : Rws w (.slice a 0 cap) [] := .inl ⟨rfl, a, cap, rfl⟩
theorem Rws.ext {w w' : World} {v : Value} {l : List (List Nat)} (h : Rws w v l) (hb : w.Extends w') : Rws w' v l := by
  rcases h with h | ⟨b, off, cap, h1, h2, h2', h3, h4⟩
  · exact .inl h
  · refine .inr ⟨b, off, cap, h1, h2, h2', Nat.lt_of_lt_of_le h3 hb.size, fun k hk => ?_⟩
    obtain ⟨u, hu, hv⟩ := h4 k hk
    exact ⟨u, (hb.cell ⟨b, off + k, none⟩ h3).trans hu, hv.ext hb⟩
theorem ext_below {B : Nat} {w w' : World} (h : Below B w w') (hB : B = w.heap.size) : w.Extends w' := by
  subst hB
  exact ⟨h.os, h.tape, h.output, h.size, fun _ ha => World.cell?_of_block (w := w) (h.block _ ha), fun _ ha => World.frozen?_of_block (w := w) (h.block _ ha), h.block⟩
theorem Rws.below {w w' : World} {v : Value} {l : List (List Nat)} (h : Rws w v l) {B : Nat} (hb : Below B w w') (hB : B = w.heap.size) : Rws w' v l := h.ext (ext_below hb hB)
theorem Rws.slice {w : World} {v : Value} {l : List (List Nat)} (h : Rws w v l) : ∃ a cap, v = .slice a l.length cap ∧ l.length ≤ cap := by
  rcases h with ⟨rfl, a, cap, rfl⟩ | ⟨b, off, cap, rfl, h1, _⟩
  · exact ⟨a, cap, rfl, Nat.zero_le _⟩
  · exact ⟨_, cap, rfl, h1⟩
theorem Rws.len {w : World} {v : Value} {l : List (List Nat)} (h : Rws w v l) : l.length ≤ maxLen := by
  rcases h with ⟨rfl, _⟩ | ⟨b, off, cap, rfl, h1, h2, _⟩
  · simp [maxLen]
  · exact Nat.le_trans h1 h2
/-- Row k: its cell, and how it reads. -/
theorem Rws.at {w : World} {a : Option Addr} {n cap : Nat} {l : List (List Nat)} (h : Rws w (.slice a n cap) l) : n = l.length ∧ (0 < n → ∃ b off, a = some ⟨b, off, none⟩ ∧ b < w.heap.size ∧ ∀ k, k < n → ∃ a' c', w.cell? ⟨b, off + k, none⟩ = some (.slice a' (l.getD k []).length c') ∧ U8s w (.slice a' (l.getD k []).length c') (l.getD k [])) := by
  rcases h with ⟨rfl, a', cap', hv⟩ | ⟨b, off, cap', hv, h2, h2', h3, h4⟩
  · cases hv; exact ⟨rfl, fun h => absurd h (Nat.lt_irrefl _)⟩
  · cases hv
    refine ⟨rfl, fun _ => ⟨b, off, rfl, h3, fun k hk => ?_⟩⟩
    obtain ⟨u, hu, hs⟩ := h4 k hk
    obtain ⟨a', c', rfl, _, _⟩ := hs.slice
    exact ⟨a', c', hu, hs⟩
theorem ext_alloc (w : World) (o : Obj) : w.Extends (w.alloc o) := ext_below ((Below.refl _ _).alloc (Nat.le_refl _) _) rfl
theorem Rws.drew {w : World} {v : Value} {l : List (List Nat)} (h : Rws w v l) : Rws w.drew v l := h.ext ⟨rfl, rfl, rfl, Nat.le_refl _, fun _ _ => rfl, fun _ _ => rfl, fun _ _ => rfl⟩
end Go.Proofs.Ytgjnkfbckbkcnaa
namespace Go.Proofs.Ytgjnkfbckbkcnaa
set_option maxRecDepth 20000
open Go.RowKit Go.Deep
section
variable {P : Program} (w : World)
end
/-- Bytes as values. -/
def u8vs (xs : List Nat) : List Value := xs.map fun (x : Nat) => Value.int .u8 (x : Int)
theorem u8vs_length (xs : List Nat) : (u8vs xs).length = xs.length := by simp [u8vs]
theorem u8vs_at (xs : List Nat) (j : Nat) (u : Value) (h : (u8vs xs)[j]? = some u) : j < xs.length ∧ u = .int .u8 (xs.getD j 0 : Nat) := by
  have hj : j < xs.length := by
    rcases Nat.lt_or_ge j xs.length with h' | h'
    · exact h'
    · rw [List.getElem?_eq_none (by rw [u8vs_length]; exact h')] at h; cases h
  refine ⟨hj, ?_⟩
  simp [u8vs, hj] at h
  simp [hj, ← h]
/-- A slice of bytes as a source of append. -/
theorem U8s.src {P : Program} {w : World} {v : Value} {xs : List Nat} (h : U8s w v xs) {tx e' : TypeId} (hk : P.underlying tx = some (.slice e')) : Src P 1 tx v xs.length (u8vs xs) w := by
  obtain ⟨a, cap, rfl, _, _⟩ := h.slice
  by_cases h0 : xs.length = 0
  · have : xs = [] := List.eq_nil_of_length_eq_zero h0
    subst this
    cases a with
    | none => exact Src.ofNil w hk cap
    | some a => exact Src.ofSlice w hk a 0 cap [] rfl (by simp) (by simp)
  · obtain ⟨b, off, rfl, _, hc⟩ := h.cell.2 (by omega)
    refine Src.ofSlice w hk ⟨b, off, none⟩ xs.length cap (u8vs xs) (by rw [u8vs_length, Nat.mul_one]) (fun j u hu => ?_) (fun u hu => ?_)
    · obtain ⟨hj, rfl⟩ := u8vs_at xs j u hu
      rw [Addr.add_mid]; exact hc j hj
    · obtain ⟨x, _, rfl⟩ := List.mem_map.1 hu; rfl
end Go.Proofs.Ytgjnkfbckbkcnaa
namespace Go.Proofs.Ytgjnkfbckbkcnaa
set_option maxRecDepth 20000
open Go.RowKit
/-- Ints as values. -/
def i64vs (xs : List Int) : List Value := xs.map fun (x : Int) => Value.int .i64 x
theorem i64vs_length (xs : List Int) : (i64vs xs).length = xs.length := by simp [i64vs]
/-- v is a slice of the ints xs in w: empty; or its cells hold them. -/
def Ints (w : World) (v : Value) (xs : List Int) : Prop :=
  (xs = [] ∧ ∃ a cap, v = .slice a 0 cap ∧ cap ≤ maxLen) ∨
  ∃ b off cap, v = .slice (some ⟨b, off, none⟩) xs.length cap ∧ xs.length ≤ cap ∧ cap ≤ maxLen ∧ b < w.heap.size ∧ ∀ k, k < xs.length → w.cell? ⟨b, off + k, none⟩ = some (.int .i64 (xs.getD k 0))
theorem Ints.ext {w w' : World} {v : Value} {xs : List Int} (h : Ints w v xs) (hb : w.Extends w') : Ints w' v xs := by
  rcases h with h | ⟨b, off, cap, h1, h2, h2', h3, h4⟩
  · exact .inl h
  · exact .inr ⟨b, off, cap, h1, h2, h2', Nat.lt_of_lt_of_le h3 hb.size, fun k hk => (hb.cell ⟨b, off + k, none⟩ h3).trans (h4 k hk)⟩
theorem Ints.slice {w : World} {v : Value} {xs : List Int} (h : Ints w v xs) : ∃ a cap, v = .slice a xs.length cap ∧ xs.length ≤ cap ∧ cap ≤ maxLen := by
  rcases h with ⟨rfl, a, cap, rfl, hm⟩ | ⟨b, off, cap, rfl, h1, h2, _⟩
  · exact ⟨a, cap, rfl, Nat.zero_le _, hm⟩
  · exact ⟨_, cap, rfl, h1, h2⟩
theorem Ints.len {w : World} {v : Value} {xs : List Int} (h : Ints w v xs) : xs.length ≤ maxLen := by
  obtain ⟨_, _, _, h1, h2⟩ := h.slice; exact Nat.le_trans h1 h2
theorem Ints.cell {w : World} {a : Option Addr} {n cap : Nat} {xs : List Int} (h : Ints w (.slice a n cap) xs) : n = xs.length ∧ (0 < n → ∃ b off, a = some ⟨b, off, none⟩ ∧ b < w.heap.size ∧ ∀ k, k < n → w.cell? ⟨b, off + k, none⟩ = some (.int .i64 (xs.getD k 0))) := by
  rcases h with ⟨rfl, a', cap', hv, _⟩ | ⟨b, off, cap', hv, h2, h2', h3, h4⟩
  · cases hv; exact ⟨rfl, fun h => absurd h (Nat.lt_irrefl _)⟩
  · cases hv; exact ⟨rfl, fun _ => ⟨b, off, rfl, h3, h4⟩⟩
theorem nil_ints (w : World) (a : Option Addr) (cap : Nat) (h : cap ≤ maxLen := by decide) : Ints w (.slice a 0 cap) [] := .inl ⟨rfl, a, cap, rfl, h⟩
/-- A slice of ints that the call has appended together. -/
theorem owns_ints {w : World} {base : Nat} {T : TypeId} {v : Value} {n : Nat} {xs : List Int} (h : w.ownsRow base T 1 v n (i64vs xs)) : Ints w v xs := by
  have hn : xs.length = n := by have := h.1; rw [i64vs_length, Nat.mul_one] at this; exact this
  rcases h.2 with ⟨rfl, rfl⟩ | ⟨g, cap, cur, rfl, hbg, hg, hnc, hcm, hcs, htake⟩
  · exact .inl ⟨List.eq_nil_of_length_eq_zero hn, none, 0, rfl, Nat.zero_le _⟩
  · refine .inr ⟨g, 0, cap, by rw [hn], by omega, hcm, ?_, fun k hk => ?_⟩
    · exact (Array.getElem?_eq_some_iff.1 hg).1
    · have := h.cells (g := g) rfl k (.int .i64 (xs.getD k 0)) (by simp [i64vs, hk])
      rw [Addr.add_mid] at this
      exact this
theorem owns_ext {w w' : World} {B : Nat} {e : TypeId} {s : Nat} {v : Value} {n : Nat} {xs : List Value} (h : w.ownsRow B e s v n xs) (hx : w.Extends w') : w'.ownsRow B e s v n xs :=
  h.kept (row := none) ⟨hx.os, hx.tape, hx.output, hx.size, fun i hi _ => hx.block i hi⟩ (by cases v.ownBlock <;> simp)
theorem owns_base {w : World} {B B' : Nat} {e : TypeId} {s : Nat} {v : Value} {n : Nat} {xs : List Value} (h : w.ownsRow B e s v n xs) (hb : B' ≤ B) : w.ownsRow B' e s v n xs :=
  by
  rcases h.2 with h' | ⟨g, cap, cur, h1, h2, h3⟩
  · exact ⟨h.1, .inl h'⟩
  · exact ⟨h.1, .inr ⟨g, cap, cur, h1, Nat.le_trans hb h2, h3⟩⟩
end Go.Proofs.Ytgjnkfbckbkcnaa
namespace Go.Proofs.Ytgjnkfbckbkcnaa
set_option maxRecDepth 20000
open Go.RowKit Go.Deep Go.ChangeShapes Go.WideShapes
theorem i64wf {z : Int} (h : (Lit.int .i64 z).wf = true) : -9223372036854775808 ≤ z ∧ z ≤ 9223372036854775807 := by simpa [Lit.wf, IntKind.min, IntKind.max, IntKind.bits, IntKind.signed] using h
theorem ints_row {w : World} {x : Addr} {len cap : Nat} {zs : List Int} (hl : len ≤ cap) (hm : cap ≤ maxLen) (hz : zs.length = cap) (hc : ∀ i, i < zs.length → w.cell? (x.add i) = some (.int .i64 (zs.getD i 0))) : Ints w (.slice (some x) len cap) (zs.take len) := by
  by_cases h0 : len = 0
  · subst h0; exact .inl ⟨rfl, some x, cap, rfl, hm⟩
  · have hlen : (zs.take len).length = len := by simp; omega
    refine .inr ?_
    obtain ⟨b, off, rfl, hc'⟩ := ints_at hc (by omega)
    refine ⟨b, off, cap, by rw [hlen], by omega, hm, ?_, fun k hk => ?_⟩
    · exact World.block_lt_of_cell? w _ (hc' 0 (by omega))
    · rw [hlen] at hk
      rw [hc' k (by omega)]
      simp [List.getD_eq_getElem?_getD, hk]
section
variable {H : Type} {enc : TypeId × Value → H} {P : Program} {w : World} {base : Nat} {held : Bool}
theorem open_i64s {t e : TypeId} {fuel : Nat} {v : Value} {x : DataW H × List MemPlace} (ht : P.underlying t = some (.slice e)) (he : P.underlying e = some (.int .i64)) (hc : P.cellsOf e = 1)
    (hv : ∃ a len cap, v = .slice a len cap) (h : DataW.trod enc P w base (fun _ => true) held fuel t v.cells.toList = some x) : ∃ xs, Ints w v xs ∧ ∀ y ∈ xs, -9223372036854775808 ≤ y ∧ y ≤ 9223372036854775807 := by
  obtain ⟨a, len, cap, rfl⟩ := hv
  rcases open_ints ht he hc h with ⟨hcs, _⟩ | ⟨a', len', cap', zs, hcs, _, hl, hm, hz, _, hcell, hwz⟩
  · simp [Value.cells] at hcs
    obtain ⟨rfl, rfl, rfl⟩ := hcs
    exact ⟨[], .inl ⟨rfl, none, 0, rfl, Nat.zero_le _⟩, fun y hy => by cases hy⟩
  · simp [Value.cells] at hcs
    obtain ⟨rfl, rfl, rfl⟩ := hcs
    simp only [if_true] at hz
    exact ⟨zs.take len, ints_row hl hm hz hcell, fun y hy => i64wf (hwz y (List.mem_of_mem_take hy))⟩
end
end Go.Proofs.Ytgjnkfbckbkcnaa
namespace Go.Proofs.Ytgjnkfbckbkcnaa
set_option maxRecDepth 20000
open Go.RowKit
namespace Gr
theorem ext_refl (w : World) : w.Extends w := ⟨rfl, rfl, rfl, Nat.le_refl _, fun _ _ => rfl, fun _ _ => rfl, fun _ _ => rfl⟩
theorem ext_trans {a b c : World} (h : a.Extends b) (k : b.Extends c) : a.Extends c :=
  ⟨k.os.trans h.os, k.tape.trans h.tape, k.output.trans h.output, Nat.le_trans h.size k.size,
    fun x hx => (k.cell x (Nat.lt_of_lt_of_le hx h.size)).trans (h.cell x hx), fun x hx => (k.frozen x (Nat.lt_of_lt_of_le hx h.size)).trans (h.frozen x hx),
    fun i hi => (k.block i (Nat.lt_of_lt_of_le hi h.size)).trans (h.block i hi)⟩
theorem ext_of {w w' : World} (h : Below w.heap.size w w') : w.Extends w' :=
  ⟨h.os, h.tape, h.output, h.size, fun _ ha => World.cell?_of_block (w := w) (h.block _ ha), fun _ ha => World.frozen?_of_block (w := w) (h.block _ ha), h.block⟩
theorem below_of {w w' : World} (h : w.Extends w') : Below w.heap.size w w' := ⟨h.os, h.tape, h.output, h.size, h.block⟩
theorem ext_drew {w w' : World} (h : w.Extends w') : w.Extends w'.drew := ⟨h.os, h.tape, h.output, h.size, h.cell, h.frozen, h.block⟩

theorem of_drew {w w' : World} (h : w.drew.Extends w') : w.Extends w' := ⟨h.os, h.tape, h.output, h.size, h.cell, h.frozen, h.block⟩

section
variable {P : Program} {ops : Array Oper} {Q : Exit → Act → World → Prop} {md : Region.Mode} {S : World → Prop}
/-- Whatever order is picked, till 'fuel' operations have come up; then L. -/
def AnyE (P : Program) (md : Region.Mode) (ops : Array Oper) (Q : Exit → Act → World → Prop) (n : Nat) (L : Array Bool → Act → World → Prop) (S : World → Prop) : Nat → Array Bool → Act → World → Prop
  | 0, listed, a, w => L listed a w
  | f + 1, listed, a, w => Region.ready md ops listed ≠ [] ∧ ∀ i ∈ Region.ready md ops listed, i < n ∧ wpOp P ops Q i (fun a' w' => S w' ∧ AnyE P md ops Q n L S f (listed.setIfInBounds i true) a' w') a w
theorem AnyE.weaken {n : Nat} {L : Array Bool → Act → World → Prop} {S S' : World → Prop} (hS : ∀ w, S' w → S w) :
    ∀ (f : Nat) (listed : Array Bool) (a : Act) (w : World), AnyE P md ops Q n L S' f listed a w → AnyE P md ops Q n L S f listed a w
  | 0, _, _, _, h => h
  | f + 1, _, _, _, h => ⟨h.1, fun i hi => ⟨(h.2 i hi).1, wpOp_mono (fun a' w' hk => ⟨hS _ hk.1, AnyE.weaken hS f _ a' w' hk.2⟩) (h.2 i hi).2⟩⟩
theorem AnyE.any {n g : Nat} {L : Array Bool → Act → World → Prop} (hL : ∀ listed a w, L listed a w → wpAny P md ops Q g listed a w) :
    ∀ (f : Nat) (listed : Array Bool) (a : Act) (w : World), AnyE P md ops Q n L S f listed a w → wpAny P md ops Q (f + g) listed a w
  | 0, listed, a, w, h => by rw [Nat.zero_add]; exact hL _ _ _ h
  | f + 1, listed, a, w, h => by
    rw [show f + 1 + g = (f + g) + 1 by omega]
    exact ⟨fun h0 => absurd h0 h.1, fun i hi => wpOp_mono (fun a' w' h' => AnyE.any hL f _ a' w' h'.2) (h.2 i hi).2⟩
theorem AnyE.first {n i : Nat} {oi : Oper} {v : Value} {L : Array Bool → Act → World → Prop} (hi : ops[i]? = some oi) (hsel : ∀ (j : Nat) (o : Oper) cs b, ops[j]? = some o → o.op ≠ .select cs b)
    (hs : Region.sinkB md ops n = true) (hc : Region.chainB md ops n = true) (hn : n < ops.size) (hin : i < n)
    (hQ : ∀ c a w, Q (.panic c) (a.put oi.dst v) w → Q (.panic c) a w)
    (hdone : ∀ listed a w, L listed a w → ∀ j ∈ Region.ready md ops listed, n ≤ j) :
    ∀ (f : Nat) (listed : Array Bool) (a : Act) (w : World), HeadInv md ops n listed →
      (∀ j oj, ops[j]? = some oj → j ≠ i → listed.getD j true = false → (∀ e ∈ oj.after, Region.binds md e = true → e.on ≠ i) → oi.apart ops oj = true) →
      i ∈ Region.ready md ops listed → YieldsIf P ops S oi v a → S w →
      AnyE P md ops Q n L S f (listed.setIfInBounds i true) (a.put oi.dst v) w → AnyE P md ops Q n L S (f + 1) listed a w := by
  intro f
  induction f with
  | zero =>
    intro listed a w inv _ hr hy hS H
    have hun := (mem_ready.1 hr).1
    refine ⟨fun h => (by rw [h] at hr; cases hr), fun j hj => ?_⟩
    have hjn : j < n := by
      rcases Nat.lt_or_ge j n with h | h
      · exact h
      · exact absurd hj (tail_waits hs hc hn inv _ i rfl hin hun j h)
    refine ⟨hjn, ?_⟩
    by_cases hji : j = i
    · subst hji; exact hy.wpOp hi hS ⟨hS, H⟩
    · have := hdone _ _ _ H j (ready_mono hj hji)
      omega
  | succ f ih =>
    intro listed a w inv hfree hr hy hS H
    have hun := (mem_ready.1 hr).1
    refine ⟨fun h => (by rw [h] at hr; cases hr), fun j hj => ?_⟩
    have hjn : j < n := by
      rcases Nat.lt_or_ge j n with h | h
      · exact h
      · exact absurd hj (tail_waits hs hc hn inv _ i rfl hin hun j h)
    refine ⟨hjn, ?_⟩
    by_cases hji : j = i
    · subst hji; exact hy.wpOp hi hS ⟨hS, H⟩
    · have h1 := (H.2 j (ready_mono hj hji)).2
      obtain ⟨hjun, oj, hoj, hall⟩ := mem_ready.1 hj
      have hnot : ∀ e ∈ oj.after, Region.binds md e = true → e.on ≠ i := fun e he hb heq => by
        have h1 := hall e he hb
        rw [heq, getD_both hun] at h1
        cases h1
      have h2 := wpOp_putIf hoj (hfree j oj hoj hji hjun hnot) (fun cs b => hsel i oi cs b hi) (fun cs b => hsel j oj cs b hoj) hQ hy h1
      have hfree' : ∀ k ok, ops[k]? = some ok → k ≠ i → (listed.setIfInBounds j true).getD k true = false →
          (∀ e ∈ ok.after, Region.binds md e = true → e.on ≠ i) → oi.apart ops ok = true := fun k ok hk hki hun hno => by
        refine hfree k ok hk hki ?_ hno
        by_cases hjk : j = k
        · subst hjk; exact hjun
        · rw [getD_set_ne true hjk] at hun; exact hun
      refine wpOp_mono (fun a' w' h3 => ⟨h3.2.1, ih (listed.setIfInBounds j true) a' w' (inv.set hj hjn) hfree' (ready_mono hr (Ne.symm hji)) h3.1 h3.2.1 ?_⟩) h2
      rw [Array.setIfInBounds_comm _ _ hji]
      exact h3.2.2

/-- The order of the walk: of each operation whether it is carried out (else it is taken), and its number. -/
def check (md : Region.Mode) (ops : Array Oper) (n g : Nat) : List (Bool × Nat) → Array Bool → Bool
  | [], listed => Region.seqB md ops g n listed
  | (c, i) :: rest, listed => decide (i < n) && (match c with | true => decide (Region.ready md ops listed = [i]) | false => (Region.ready md ops listed).contains i && Region.free md ops listed i)
      && check md ops n g rest (listed.setIfInBounds i true)
def growB (md : Region.Mode) (ops : Array Oper) (n : Nat) (ord : List (Bool × Nat)) : Bool :=
  Region.noSelect ops && decide (n < ops.size) && Region.sinkB md ops n && Region.chainB md ops n && decide (ord.length + (ops.size - n) = ops.size) && check md ops n (ops.size - n) ord (Array.replicate ops.size false)
/-- The operations in that order. -/
def pick (l : List Oper) : List (Bool × Nat) → List (Bool × Oper)
  | [] => []
  | (c, i) :: r => match l[i]? with | some o => (c, o) :: pick l r | none => []
def walk (P : Program) (ops : Array Oper) (Q : Exit → Act → World → Prop) (tail : List Oper) : List (Bool × Oper) → Act → World → Prop
  | [], a, w => wpList P ops Q tail a w
  | (true, o) :: rest, a, w => if Region.wanted o (yielded ops a.tmps) = true then o.wp P a w (fun a' w' => w.Extends w' ∧ walk P ops Q tail rest a' w') Q else walk P ops Q tail rest (a.put o.dst undef) w
  | (false, o) :: rest, a, w => ∃ v, YieldsIf P ops w.Extends o v a ∧ walk P ops Q tail rest (a.put o.dst v) w
theorem walk_nil {tail : List Oper} {a : Act} {w : World} (h : wpList P ops Q tail a w) : walk P ops Q tail [] a w := h
/-- An operation that is taken. -/
theorem walk_t {tail : List Oper} {rest : List (Bool × Oper)} {o : Oper} {a : Act} {w : World} (v : Value) (hy : YieldsIf P ops w.Extends o v a) (h : walk P ops Q tail rest (a.put o.dst v) w) :
    walk P ops Q tail ((false, o) :: rest) a w := ⟨v, hy, h⟩
/-- An operation that is carried out. -/
theorem walk_c {tail : List Oper} {rest : List (Bool × Oper)} {o : Oper} {a : Act} {w : World}
    (h : ∀ K : Act → World → Prop, Shut (∀ a' w', w.Extends w' → walk P ops Q tail rest a' w' → K a' w') → if Region.wanted o (yielded ops a.tmps) = true then o.wp P a w K Q else K (a.put o.dst undef) w) :
    walk P ops Q tail ((true, o) :: rest) a w := by
  have h0 := h (fun a' w' => w.Extends w' ∧ walk P ops Q tail rest a' w') (fun _ _ h1 h2 => ⟨h1, h2⟩)
  unfold walk
  split
  · rename_i hw; rw [if_pos hw] at h0; exact h0
  · rename_i hw; rw [if_neg hw] at h0; exact h0.2

theorem walk_sound {l : List Oper} {n : Nat} (hsel : Region.noSelect l.toArray = true) (hs : Region.sinkB md l.toArray n = true) (hc : Region.chainB md l.toArray n = true) (hn : n < l.toArray.size)
    (hQ : ∀ d v c a w, Q (.panic c) (Act.put a d v) w → Q (.panic c) a w) :
    ∀ (ord : List (Bool × Nat)) (listed : Array Bool) (a : Act) (w : World), HeadInv md l.toArray n listed → check md l.toArray n (l.toArray.size - n) ord listed = true →
      walk P l.toArray Q (l.drop n) (pick l ord) a w →
      AnyE P md l.toArray Q n (fun listed' a' w' => Region.seqB md l.toArray (l.toArray.size - n) n listed' = true ∧ wpList P l.toArray Q (l.drop n) a' w') w.Extends ord.length listed a w
  | [], listed, a, w, _, hB, h => ⟨hB, h⟩
  | (c, i) :: rest, listed, a, w, inv, hB, h => by
    simp only [check, Bool.and_eq_true, decide_eq_true_eq] at hB
    obtain ⟨⟨hin, hr⟩, hB'⟩ := hB
    have hil : i < l.length := by have : l.toArray.size = l.length := by simp
                                  omega
    have ho : l[i]? = some l[i] := List.getElem?_eq_getElem hil
    have hoa : l.toArray[i]? = some l[i] := by simp
    simp only [pick, ho] at h
    cases c with
    | true =>
      simp only [decide_eq_true_eq] at hr
      refine ⟨(by rw [hr]; simp), fun j hj => ?_⟩
      rw [hr] at hj
      obtain rfl : j = i := by simpa using hj
      refine ⟨hin, ?_⟩
      have hrm : j ∈ Region.ready md l.toArray listed := by rw [hr]; simp
      unfold walk at h
      unfold wpOp
      simp only [hoa]
      split
      · rename_i hw
        rw [if_pos hw] at h
        exact .inl (Oper.wp_mono (fun a' w' hk => ⟨hk.1, AnyE.weaken (fun u hu => ext_trans hk.1 hu) _ _ _ _ (walk_sound hsel hs hc hn hQ rest _ a' w' (inv.set hrm hin) hB' hk.2)⟩) h)
      · rename_i hw
        rw [if_neg hw] at h
        exact ⟨ext_refl w, walk_sound hsel hs hc hn hQ rest _ _ w (inv.set hrm hin) hB' h⟩
    | false =>
      simp only [Bool.and_eq_true] at hr
      unfold walk at h
      obtain ⟨v, hy, hK⟩ := h
      have hrm : i ∈ Region.ready md l.toArray listed := by simpa using hr.1
      exact AnyE.first hoa (Region.noSelect_spec hsel) hs hc hn hin (fun c a w => hQ _ v c a w) (fun listed' a' w' hL => seqB_ready hL.1) rest.length listed a w inv (Region.free_spec hoa hr.2) hrm hy (ext_refl w)
        (walk_sound hsel hs hc hn hQ rest _ _ w (inv.set hrm hin) hB' hK)

theorem region {id : Nat} {a : Act} {w : World} {l : List Oper} (n : Nat) (ord : List (Bool × Nat)) (hm : P.follows .mixedOrders = true) (hB : growB .any l.toArray n ord = true)
    (hQ : ∀ d v c a w, Q (.panic c) (Act.put a d v) w → Q (.panic c) a w)
    (h : walk P l.toArray Q (l.drop n) (pick l ord) a w.drew) : (Code.region id l.toArray true).wp P Q a w := by
  simp only [growB, Bool.and_eq_true, decide_eq_true_eq] at hB
  obtain ⟨⟨⟨⟨⟨hsel, hn⟩, hs⟩, hc⟩, hlen⟩, hck⟩ := hB
  have hdl : (l.drop n).length = l.toArray.size - n := by simp
  have inv0 : HeadInv .any l.toArray n (Array.replicate l.toArray.size false) :=
    ⟨by simp, fun j oj _ hl => (by rw [getD_replicate_false] at hl; cases hl), fun t _ ht => getD_in (by simpa using ht) (getD_replicate_false _ _)⟩
  have H := walk_sound (md := .any) hsel hs hc hn hQ ord _ a w.drew inv0 hck h
  refine wp_region_any hm ?_
  have := AnyE.any (Q := Q) (g := l.toArray.size - n) (fun listed a' w' hL => by
    have := wpAny_of_seq (md := .any) (Q' := Q) (l.drop n) n listed a' w' (fun j => by simp [List.getElem?_drop]) (by rw [hdl]; exact hL.1) hL.2
    rwa [hdl] at this) _ _ _ _ H
  rw [hlen] at this
  exact this
/-! Where more than one operation that is carried out may come up: the walk goes a step at a time. -/
/-- What is left: 'f' operations of the head, then the tail. -/
def Left (P : Program) (l : List Oper) (Q : Exit → Act → World → Prop) (n f : Nat) (listed : Array Bool) (a : Act) (w : World) : Prop :=
  HeadInv .any l.toArray n listed → AnyE P .any l.toArray Q n (fun listed' a' w' => Region.seqB .any l.toArray (l.toArray.size - n) n listed' = true ∧ wpList P l.toArray Q (l.drop n) a' w') w.Extends f listed a w
theorem Left.done {l : List Oper} {n : Nat} {listed : Array Bool} {a : Act} {w : World} (hB : Region.seqB .any l.toArray (l.toArray.size - n) n listed = true) (h : wpList P l.toArray Q (l.drop n) a w) : Left P l Q n 0 listed a w := fun _ => ⟨hB, h⟩
theorem Left.take {l : List Oper} {n f i : Nat} {o : Oper} {listed : Array Bool} {a : Act} {w : World} (hi : l[i]? = some o)
    (hk : (Region.noSelect l.toArray && decide (n < l.toArray.size) && Region.sinkB .any l.toArray n && Region.chainB .any l.toArray n && decide (i < n) && (Region.ready .any l.toArray listed).contains i && Region.free .any l.toArray listed i) = true)
    (hQ : ∀ d v c a w, Q (.panic c) (Act.put a d v) w → Q (.panic c) a w) (v : Value) (hy : YieldsIf P l.toArray w.Extends o v a)
    (h : Left P l Q n f (listed.setIfInBounds i true) (a.put o.dst v) w) : Left P l Q n (f + 1) listed a w := fun inv => by
  simp only [Bool.and_eq_true, decide_eq_true_eq] at hk
  obtain ⟨⟨⟨⟨⟨⟨hsel, hn⟩, hs⟩, hc⟩, hin⟩, hr⟩, hf⟩ := hk
  have hoa : l.toArray[i]? = some o := by simpa using hi
  have hrm : i ∈ Region.ready .any l.toArray listed := by simpa using hr
  exact AnyE.first hoa (Region.noSelect_spec hsel) hs hc hn hin (fun c a w => hQ _ v c a w) (fun listed' a' w' hL => seqB_ready hL.1) f listed a w inv (Region.free_spec hoa hf) hrm hy (ext_refl w) (h (inv.set hrm hin))
/-- One step of an operation that is carried out. -/
def Step (P : Program) (l : List Oper) (Q : Exit → Act → World → Prop) (n f i : Nat) (listed : Array Bool) (a : Act) (w : World) : Prop :=
  ∀ o, l[i]? = some o → ∀ K : Act → World → Prop, Shut (∀ a' w', w.Extends w' → Left P l Q n f (listed.setIfInBounds i true) a' w' → K a' w') → if Region.wanted o (yielded l.toArray a.tmps) = true then o.wp P a w K Q else K (a.put o.dst undef) w
theorem Step.mk {l : List Oper} {n f i : Nat} {o : Oper} {listed : Array Bool} {a : Act} {w : World} (hi : l[i]? = some o)
    (h : ∀ K : Act → World → Prop, Shut (∀ a' w', w.Extends w' → Left P l Q n f (listed.setIfInBounds i true) a' w' → K a' w') → if Region.wanted o (yielded l.toArray a.tmps) = true then o.wp P a w K Q else K (a.put o.dst undef) w) : Step P l Q n f i listed a w := fun o' ho' => by
  rw [hi] at ho'; cases ho'; exact h
theorem Left.some {l : List Oper} {n f : Nat} {rs : List Nat} {listed : Array Bool} {a : Act} {w : World} (hr : Region.ready .any l.toArray listed = rs) (hne : (!rs.isEmpty && rs.all (· < n) && rs.all (· < l.length)) = true)
    (h : ∀ i ∈ rs, Step P l Q n f i listed a w) : Left P l Q n (f + 1) listed a w := fun inv => by
  simp only [Bool.and_eq_true, List.all_eq_true, decide_eq_true_eq] at hne
  refine ⟨(by rw [hr]; intro h0; rw [h0] at hne; simp at hne), fun j hj => ?_⟩
  have hjr : j ∈ rs := hr ▸ hj
  refine ⟨hne.1.2 j hjr, ?_⟩
  have hjl := hne.2 j hjr
  have hoa : l.toArray[j]? = Option.some l[j] := by simp
  have h0 := h j hjr l[j] (List.getElem?_eq_getElem hjl) (fun a' w' => w.Extends w' ∧ Left P l Q n f (listed.setIfInBounds j true) a' w') (fun _ _ h1 h2 => ⟨h1, h2⟩)
  have hinv := inv.set hj (hne.1.2 j hjr)
  have fin : ∀ a' w', w.Extends w' ∧ Left P l Q n f (listed.setIfInBounds j true) a' w' → w.Extends w' ∧ AnyE P .any l.toArray Q n _ w.Extends f (listed.setIfInBounds j true) a' w' :=
    fun a' w' hk => ⟨hk.1, AnyE.weaken (fun u hu => ext_trans hk.1 hu) _ _ _ _ (hk.2 hinv)⟩
  unfold wpOp
  simp only [hoa]
  split
  · rename_i hw; rw [if_pos hw] at h0; exact .inl (Oper.wp_mono fin h0)
  · rename_i hw; rw [if_neg hw] at h0; exact fin _ _ h0
theorem Left.one {l : List Oper} {n f i : Nat} {listed : Array Bool} {a : Act} {w : World} (hr : Region.ready .any l.toArray listed = [i]) (hne : (decide (i < n) && decide (i < l.length)) = true)
    (h : Step P l Q n f i listed a w) : Left P l Q n (f + 1) listed a w :=
  Left.some hr (by simpa using hne) (fun j hj => by obtain rfl : j = i := by simpa using hj
                                                    exact h)
theorem Left.two {l : List Oper} {n f i j : Nat} {listed : Array Bool} {a : Act} {w : World} (hr : Region.ready .any l.toArray listed = [i, j]) (hne : (decide (i < n) && decide (i < l.length) && decide (j < n) && decide (j < l.length)) = true)
    (h1 : Step P l Q n f i listed a w) (h2 : Step P l Q n f j listed a w) : Left P l Q n (f + 1) listed a w :=
  Left.some hr (by simp only [Bool.and_eq_true, decide_eq_true_eq] at hne; simp; omega) (fun k hk => by
    simp only [List.mem_cons, List.not_mem_nil, or_false] at hk
    rcases hk with rfl | rfl
    · exact h1
    · exact h2)
/-- The walk of a beginning; what is left is walked a step at a time. -/
def checkTo (md : Region.Mode) (ops : Array Oper) (n : Nat) : List (Bool × Nat) → Array Bool → Bool
  | [], _ => true
  | (c, i) :: rest, listed => decide (i < n) && (match c with | true => decide (Region.ready md ops listed = [i]) | false => (Region.ready md ops listed).contains i && Region.free md ops listed i)
      && checkTo md ops n rest (listed.setIfInBounds i true)
def lists : List (Bool × Nat) → Array Bool → Array Bool
  | [], listed => listed
  | (_, i) :: rest, listed => lists rest (listed.setIfInBounds i true)
def walkE (P : Program) (ops : Array Oper) (Q : Exit → Act → World → Prop) (E : Act → World → Prop) : List (Bool × Oper) → Act → World → Prop
  | [], a, w => E a w
  | (true, o) :: rest, a, w => if Region.wanted o (yielded ops a.tmps) = true then o.wp P a w (fun a' w' => w.Extends w' ∧ walkE P ops Q E rest a' w') Q else walkE P ops Q E rest (a.put o.dst undef) w
  | (false, o) :: rest, a, w => ∃ v, YieldsIf P ops w.Extends o v a ∧ walkE P ops Q E rest (a.put o.dst v) w
theorem walkE_nil {E : Act → World → Prop} {a : Act} {w : World} (h : E a w) : walkE P ops Q E [] a w := h
theorem walkE_t {E : Act → World → Prop} {rest : List (Bool × Oper)} {o : Oper} {a : Act} {w : World} (v : Value) (hy : YieldsIf P ops w.Extends o v a) (h : walkE P ops Q E rest (a.put o.dst v) w) :
    walkE P ops Q E ((false, o) :: rest) a w := ⟨v, hy, h⟩
theorem walkE_sound {l : List Oper} {n g : Nat} (hsel : Region.noSelect l.toArray = true) (hs : Region.sinkB .any l.toArray n = true) (hc : Region.chainB .any l.toArray n = true) (hn : n < l.toArray.size)
    (hQ : ∀ d v c a w, Q (.panic c) (Act.put a d v) w → Q (.panic c) a w) :
    ∀ (ord : List (Bool × Nat)) (listed : Array Bool) (a : Act) (w : World), checkTo .any l.toArray n ord listed = true →
      walkE P l.toArray Q (Left P l Q n g (lists ord listed)) (pick l ord) a w → Left P l Q n (ord.length + g) listed a w
  | [], listed, a, w, _, h => by rw [List.length_nil, Nat.zero_add]; exact h
  | (c, i) :: rest, listed, a, w, hB, h => fun inv => by
    simp only [checkTo, Bool.and_eq_true, decide_eq_true_eq] at hB
    obtain ⟨⟨hin, hr⟩, hB'⟩ := hB
    have hil : i < l.length := by have : l.toArray.size = l.length := by simp
                                  omega
    have ho : l[i]? = Option.some l[i] := List.getElem?_eq_getElem hil
    have hoa : l.toArray[i]? = Option.some l[i] := by simp
    have hlen : ((c, i) :: rest).length + g = (rest.length + g) + 1 := by simp; omega
    rw [hlen]
    simp only [pick, ho] at h
    cases c with
    | true =>
      simp only [decide_eq_true_eq] at hr
      refine ⟨(by rw [hr]; simp), fun j hj => ?_⟩
      rw [hr] at hj
      obtain rfl : j = i := by simpa using hj
      refine ⟨hin, ?_⟩
      have hrm : j ∈ Region.ready .any l.toArray listed := by rw [hr]; simp
      unfold walkE at h
      unfold wpOp
      simp only [hoa]
      split
      · rename_i hw
        rw [if_pos hw] at h
        exact .inl (Oper.wp_mono (fun a' w' hk => ⟨hk.1, AnyE.weaken (fun u hu => ext_trans hk.1 hu) _ _ _ _ (walkE_sound hsel hs hc hn hQ rest _ a' w' hB' hk.2 (inv.set hrm hin))⟩) h)
      · rename_i hw
        rw [if_neg hw] at h
        exact ⟨ext_refl w, walkE_sound hsel hs hc hn hQ rest _ _ w hB' h (inv.set hrm hin)⟩
    | false =>
      simp only [Bool.and_eq_true] at hr
      unfold walkE at h
      obtain ⟨v, hy, hK⟩ := h
      have hrm : i ∈ Region.ready .any l.toArray listed := by simpa using hr.1
      exact AnyE.first hoa (Region.noSelect_spec hsel) hs hc hn hin (fun c a w => hQ _ v c a w) (fun listed' a' w' hL => seqB_ready hL.1) (rest.length + g) listed a w inv (Region.free_spec hoa hr.2) hrm hy (ext_refl w)
        (walkE_sound hsel hs hc hn hQ rest _ _ w hB' hK (inv.set hrm hin))
theorem regionE {id : Nat} {a : Act} {w : World} {l : List Oper} (n g : Nat) (ord : List (Bool × Nat)) (hm : P.follows .mixedOrders = true)
    (hB : (Region.noSelect l.toArray && decide (n < l.toArray.size) && Region.sinkB .any l.toArray n && Region.chainB .any l.toArray n && decide (ord.length + g = n) && checkTo .any l.toArray n ord (Array.replicate l.toArray.size false)) = true)
    (hQ : ∀ d v c a w, Q (.panic c) (Act.put a d v) w → Q (.panic c) a w)
    (h : walkE P l.toArray Q (Left P l Q n g (lists ord (Array.replicate l.toArray.size false))) (pick l ord) a w.drew) : (Code.region id l.toArray true).wp P Q a w := by
  simp only [Bool.and_eq_true, decide_eq_true_eq] at hB
  obtain ⟨⟨⟨⟨⟨hsel, hn⟩, hs⟩, hc⟩, hlen⟩, hck⟩ := hB
  have hdl : (l.drop n).length = l.toArray.size - n := by simp
  have inv0 : HeadInv .any l.toArray n (Array.replicate l.toArray.size false) :=
    ⟨by simp, fun j oj _ hl => (by rw [getD_replicate_false] at hl; cases hl), fun t _ ht => getD_in (by simpa using ht) (getD_replicate_false _ _)⟩
  have H := walkE_sound hsel hs hc hn hQ ord _ a w.drew hck h inv0
  refine wp_region_any hm ?_
  have := AnyE.any (Q := Q) (g := l.toArray.size - n) (fun listed a' w' hL => by
    have := wpAny_of_seq (md := .any) (Q' := Q) (l.drop n) n listed a' w' (fun j => by simp [List.getElem?_drop]) (by rw [hdl]; exact hL.1) hL.2
    rwa [hdl] at this) _ _ _ _ H
  rw [hlen, show n + (l.toArray.size - n) = l.toArray.size by omega] at this
  exact this
end
end Gr
theorem ext_own {a b c : World} {r : Option Nat} (h : a.Extends b) (k : b.grownBy c r) (hr : ∀ x, r = some x → a.heap.size ≤ x) : a.Extends c :=
  Gr.ext_of ((Gr.below_of h).trans ⟨k.os, k.tape, k.output, k.size, fun i hi => k.block i (Nat.lt_of_lt_of_le hi h.size) (fun e => by have := hr i e.symm; omega)⟩)
end Go.Proofs.Ytgjnkfbckbkcnaa
namespace Go.Proofs.Ytgjnkfbckbkcnaa.RM
/-- A number stirred. -/
def mixed (k x : Nat) : Nat := x ^^^ (x / 2 ^ k)
def stir (x : Nat) : Nat := mixed 16 (mixed 15 (mixed 16 x * 2146121005 % 4294967296) * 2221713035 % 4294967296)
theorem mixed_lt (k x : Nat) (hx : x < 4294967296) : mixed k x < 4294967296 := by
  have e : (4294967296 : Nat) = 2 ^ 32 := by decide +kernel
  rw [e] at hx ⊢
  exact Nat.xor_lt_two_pow hx (Nat.lt_of_le_of_lt (Nat.div_le_self _ _) hx)
theorem stir_lt (x : Nat) : stir x < 4294967296 :=
  mixed_lt _ _ (Nat.mod_lt _ (by decide))
/-- Number i of those that are drawn for y. -/
def drawn (y i : Nat) : Nat := stir ((stir y + i * 2654435769) % 4294967296)
def rand (y i : Nat) (m : Int) : Int := if m < 1 then 0 else (drawn y i : Int) % m
theorem rand_below (y i : Nat) (m : Int) (h : ¬ m < 1) : 0 ≤ rand y i m ∧ rand y i m < m := by
  unfold rand; rw [if_neg h]
  exact ⟨Int.emod_nonneg _ (by omega), Int.emod_lt_of_pos _ (by omega)⟩
end Go.Proofs.Ytgjnkfbckbkcnaa.RM
namespace Go.Proofs.Ytgjnkfbckbkcnaa.KY
theorem get_in (k : List Nat) (i : Nat) (h : i < k.length) : k.getD i 0 = k[i] := by simp [List.getD, List.getElem?_eq_getElem h]
theorem get_out (k : List Nat) (i : Nat) (h : k.length ≤ i) : k.getD i 0 = 0 := by simp [List.getD, List.getElem?_eq_none h]
/-- A key. -/
def Ok (k : List Nat) : Prop := k.length = 20 ∧ ∀ x ∈ k, x < 256
def zero : List Nat := List.replicate 20 0
theorem zero_ok : Ok zero := by unfold Ok zero; decide
theorem Ok.lt {k : List Nat} (h : Ok k) (i : Nat) : k.getD i 0 < 256 := by
  by_cases hi : i < k.length
  · rw [get_in _ _ hi]; exact h.2 _ (List.getElem_mem hi)
  · rw [get_out _ _ (by omega)]; decide
/-- Two keys that are the same byte by byte. -/
theorem ext {a b : List Nat} (ha : a.length = 20) (hb : b.length = 20) (h : ∀ i, i < 20 → a.getD i 0 = b.getD i 0) : a = b := by
  apply List.ext_getElem (by rw [ha, hb])
  intro i h1 h2
  have := h i (by omega)
  rwa [get_in _ _ h1, get_in _ _ h2] at this
/-- How far two are from each other. -/
def dist (a b : List Nat) : List Nat := List.zipWith (· ^^^ ·) a b
theorem dist_len {a b : List Nat} (ha : a.length = 20) (hb : b.length = 20) : (dist a b).length = 20 := by simp [dist, ha, hb]
theorem dist_get {a b : List Nat} (ha : a.length = 20) (hb : b.length = 20) (i : Nat) : (dist a b).getD i 0 = a.getD i 0 ^^^ b.getD i 0 := by
  by_cases hi : i < 20
  · rw [get_in _ _ (by rw [dist_len ha hb]; exact hi), get_in _ _ (by omega), get_in _ _ (by omega)]
    simp [dist]
  · rw [get_out _ _ (by rw [dist_len ha hb]; omega), get_out _ _ (by omega), get_out _ _ (by omega)]
    rfl
theorem xor_lt {x y : Nat} (hx : x < 256) (hy : y < 256) : x ^^^ y < 256 := Nat.xor_lt_two_pow (n := 8) hx hy
theorem dist_ok {a b : List Nat} (ha : Ok a) (hb : Ok b) : Ok (dist a b) := by
  refine ⟨dist_len ha.1 hb.1, fun x hx => ?_⟩
  obtain ⟨i, hi, rfl⟩ := List.mem_iff_getElem.1 hx
  rw [← get_in _ _ hi, dist_get ha.1 hb.1]
  exact xor_lt (ha.lt i) (hb.lt i)
theorem zero_get (i : Nat) : zero.getD i 0 = 0 := by
  by_cases hi : i < 20
  · rw [get_in _ _ (by show i < (List.replicate 20 0).length; rw [List.length_replicate]; exact hi)]; exact List.getElem_replicate ..
  · rw [get_out _ _ (by simp [zero]; omega)]
/-- Whether one is ahead of the other. -/
def lt : List Nat → List Nat → Bool
  | x :: a, y :: b => if x < y then true else if y < x then false else lt a b
  | _, _ => false
theorem lt_self : ∀ a, lt a a = false
  | [] => rfl
  | x :: a => by simp [lt, lt_self a]
theorem lt_other : ∀ (a b : List Nat), a.length = b.length → a ≠ b → lt a b = !lt b a
  | [], [], _, h => absurd rfl h
  | [], _ :: _, h, _ => by cases h
  | _ :: _, [], h, _ => by cases h
  | x :: a, y :: b, h, hn => by
    unfold lt
    by_cases h1 : x < y
    · simp [h1, show ¬ y < x by omega]
    · by_cases h2 : y < x
      · simp [h1, h2]
      · obtain rfl : x = y := by omega
        simp [lt_other a b (by simpa using h) (fun e => hn (by rw [e]))]
theorem lt_trans : ∀ (a b c : List Nat), lt a b = true → lt b c = true → lt a c = true
  | [], _, _, h, _ => by simp [lt] at h
  | _ :: _, [], _, h, _ => by simp [lt] at h
  | _ :: _, _ :: _, [], _, h => by simp [lt] at h
  | x :: a, y :: b, z :: c, h1, h2 => by
    unfold lt at h1 h2 ⊢
    by_cases p1 : x < y
    · by_cases p2 : y < z
      · simp [show x < z by omega]
      · by_cases p3 : z < y
        · simp [p2, p3] at h2
        · simp [show x < z by omega]
    · by_cases p2 : y < x
      · simp [p1, p2] at h1
      · obtain rfl : x = y := by omega
        simp only [p1, if_false] at h1
        by_cases p3 : x < z
        · simp [p3]
        · by_cases p4 : z < x
          · simp [p3, p4] at h2
          · simp only [p3, p4, if_false] at h2 ⊢
            exact lt_trans a b c h1 h2
theorem lt_drop {a b : List Nat} {k : Nat} (ha : k < a.length) (hb : k < b.length) : lt (a.drop k) (b.drop k) = if a.getD k 0 < b.getD k 0 then true else if b.getD k 0 < a.getD k 0 then false else lt (a.drop (k + 1)) (b.drop (k + 1)) := by
  rw [List.drop_eq_getElem_cons ha, List.drop_eq_getElem_cons hb, get_in _ _ ha, get_in _ _ hb]
  rfl
/-- The comparison of bytes, which package bytes makes. -/
theorem compare_lt : ∀ (a b : List Nat), a.length = b.length → (∀ x ∈ a, x < 256) → (∀ x ∈ b, x < 256) →
    decide (Lib.compareBytes (a.map fun x => UInt8.ofNat x) (b.map fun x => UInt8.ofNat x) < 0) = lt a b
  | [], [], _, _, _ => rfl
  | [], _ :: _, h, _, _ => by cases h
  | _ :: _, [], h, _, _ => by cases h
  | x :: a, y :: b, h, ha, hb => by
    have hx : x < 256 := ha x (by simp)
    have hy : y < 256 := hb y (by simp)
    have e : ∀ u v, u < 256 → v < 256 → ((UInt8.ofNat u < UInt8.ofNat v) ↔ u < v) := by
      intro u v hu hv
      rw [UInt8.lt_iff_toNat_lt, UInt8.toNat_ofNat', UInt8.toNat_ofNat']
      omega
    simp only [List.map_cons, Lib.compareBytes, lt, e x y hx hy, e y x hy hx]
    by_cases p1 : x < y
    · simp [p1]
    · by_cases p2 : y < x
      · simp [p1, p2]
      · simp only [p1, p2, if_false]
        exact compare_lt a b (by simpa using h) (fun z hz => ha z (by simp [hz])) (fun z hz => hb z (by simp [hz]))
/-- How many bits are 0 ahead of the first 1. -/
def lead : List Nat → Nat
  | [] => 0
  | d :: l => if d = 0 then 8 + lead l else 8 - bitLen d
/-- What two have in common. -/
def pre (a b : List Nat) : Nat := lead (dist a b)
/-- What one more number makes of those before. -/
def step (y : Nat) (x : Int) : Nat := RM.stir ((y + (x % 4294967296).toNat) % 4294967296)
def stirred (xs : List Int) : Nat := xs.foldl step 0
/-- The key of numbers. -/
def byteOf (y i : Nat) : Nat := RM.drawn y i % 256
def keyOf (y : Nat) : List Nat := (List.range 20).map (byteOf y)
def of (xs : List Int) : List Nat := keyOf (stirred xs)
theorem keyOf_len (y : Nat) : (keyOf y).length = 20 := by simp [keyOf]
theorem keyOf_get (y i : Nat) (hi : i < 20) : (keyOf y).getD i 0 = byteOf y i := by
  rw [get_in _ _ (by rw [keyOf_len]; exact hi)]; simp [keyOf]
theorem keyOf_ok (y : Nat) : Ok (keyOf y) := by
  refine ⟨keyOf_len y, fun x hx => ?_⟩
  simp only [keyOf, List.mem_map] at hx
  obtain ⟨i, _, rfl⟩ := hx
  exact Nat.mod_lt _ (by decide)
theorem of_ok (xs : List Int) : Ok (of xs) := keyOf_ok _
theorem mod256 (d : Nat) : (d : Int) % 256 = ((d % 256 : Nat) : Int) := by omega
theorem rand_mod (y i : Nat) (m : Int) (h : ¬ m < 1) : RM.rand y i m = (RM.drawn y i : Int) % m := if_neg h
theorem rand256 (y i : Nat) : RM.rand y i 256 = (byteOf y i : Nat) := by
  have h := rand_mod y i 256 (by decide)
  rw [h]
  unfold byteOf
  generalize RM.drawn y i = d
  exact mod256 d
theorem fold_snoc (f : Nat → Int → Nat) (y : Nat) (xs : List Int) (x : Int) : (xs ++ [x]).foldl f y = f (xs.foldl f y) x := by simp
theorem stirred_snoc (xs : List Int) (x : Int) : stirred (xs ++ [x]) = step (stirred xs) x := fold_snoc step 0 xs x
theorem step_lt (y : Nat) (x : Int) : step y x < 4294967296 := RM.stir_lt _
theorem foldl_lt : ∀ (xs : List Int) (y : Nat), y < 4294967296 → xs.foldl step y < 4294967296
  | [], _, h => h
  | x :: xs, y, _ => foldl_lt xs _ (step_lt y x)
theorem stirred_lt (xs : List Int) : stirred xs < 4294967296 := foldl_lt xs 0 (by decide)
end Go.Proofs.Ytgjnkfbckbkcnaa.KY
namespace Go.Proofs.Ytgjnkfbckbkcnaa
set_option maxRecDepth 20000
open Go.RowKit
set_option linter.unusedVariables false
/-- The cells of a key. -/
def KC (k : List Nat) : Array Value := (k.map fun x => Value.int .u8 (x : Nat)).toArray
/-- A key as a value. -/
abbrev KV (k : List Nat) : Value := .agg (KC k)
theorem KC_size (k : List Nat) : (KC k).size = k.length := by simp [KC]
theorem KC_get {k : List Nat} (h : k.length = 20) (i : Nat) (hi : i < 20) : (KC k)[i]? = some (.int .u8 (k.getD i 0 : Nat)) := by
  rw [KY.get_in _ _ (by omega)]
  simp [KC, List.getElem?_eq_getElem (show i < k.length by omega)]
theorem KC_of {cs : Array Value} {k : List Nat} (h : k.length = 20) (hs : cs.size = 20) (hc : ∀ i, i < 20 → cs[i]? = some (.int .u8 (k.getD i 0 : Nat))) : cs = KC k := by
  apply Array.ext_getElem?
  intro i
  by_cases hi : i < 20
  · rw [hc i hi, KC_get h i hi]
  · rw [Array.getElem?_eq_none (by omega), Array.getElem?_eq_none (by rw [KC_size]; omega)]
theorem KC_one {k : List Nat} : (KC k).all (·.oneCell') = true := by
  rw [Array.all_eq_true]
  intro i hi
  simp [KC, Value.oneCell']
/-- Block b holds the key k. -/
abbrev KAt (w : World) (b : Nat) (k : List Nat) : Prop := w.rowIs b 23 20 (fun i => .int .u8 (k.getD i 0 : Nat))
theorem KAt.new (w : World) {k : List Nat} (h : k.length = 20) : KAt (w.alloc (.cells (KC k) 23)) w.heap.size k := by
  have := World.rowIs_alloc w (KC k) 23 (fun i => .int .u8 (k.getD i 0 : Nat)) (fun i hi => by rw [KC_size, h] at hi; exact KC_get h i hi)
  rwa [KC_size, h] at this
theorem KC_zero : KC KY.zero = #[.int .u8 0, .int .u8 0, .int .u8 0, .int .u8 0, .int .u8 0, .int .u8 0, .int .u8 0, .int .u8 0, .int .u8 0, .int .u8 0, .int .u8 0, .int .u8 0, .int .u8 0, .int .u8 0, .int .u8 0, .int .u8 0, .int .u8 0, .int .u8 0, .int .u8 0, .int .u8 0] := by
  rfl
theorem KAt.block {w : World} {b : Nat} {k : List Nat} (h : KAt w b k) (hl : k.length = 20) : w.heap[b]? = some (.cells (KC k) 23 (0, 0)) := by
  obtain ⟨c, h1, h2, h3⟩ := h
  rw [h1, KC_of hl h2 h3]
theorem KAt.ext {w w' : World} {b : Nat} {k : List Nat} (h : KAt w b k) (hx : w.Extends w') : KAt w' b k := World.rowIs.of_block h (hx.block b h.lt)
/-- Two keys are held against each other. -/
theorem run_key_items (w : World) (d : Nat) (a b : List Nat) (ha : a.length = 20) (hb : b.length = 20) : ∀ (is : List Nat), (∀ i ∈ is, i < 20) →
    (Op.eqItems (d + 1) 5 1 (KC a) (KC b) is).run Try.prog w = .ok (is.all fun i => a.getD i 0 == b.getD i 0) w
  | [], _ => by simp [Op.eqItems]
  | i :: is, h => by
    have hi := h i (by simp)
    have p1 := run_part_plain w (P := Try.prog) (e := 5) (by kernel_rfl) (KC_get ha i hi)
    have p2 := run_part_plain w (P := Try.prog) (e := 5) (by kernel_rfl) (KC_get hb i hi)
    have p3 := run_equalIn_int w (P := Try.prog) d 5 .u8 .u8 (a.getD i 0 : Nat) (b.getD i 0 : Nat) Try.underlying5
    have ih := run_key_items w d a b ha hb is (fun j hj => h j (by simp [hj]))
    have e : (((a.getD i 0 : Nat) : Int) == ((b.getD i 0 : Nat) : Int)) = (a.getD i 0 == b.getD i 0) := by
      rw [Bool.eq_iff_iff, beq_iff_eq, beq_iff_eq]; omega
    simp only [Op.eqItems, Sem.run_bind, Nat.mul_one, p1, p2, p3, Result.andThen_ok, List.all_cons, e]
    cases (a.getD i 0 == b.getD i 0)
    · simp
    · simpa using ih
theorem run_key_eq {a b : List Nat} (ha : a.length = 20) (hb : b.length = 20) (w : World) : (Op.equalIn 10000 23 (KV a) (KV b)).run Try.prog w = .ok (decide (a = b)) w := by
  obtain ⟨i, hi⟩ : ∃ i, Try.prog.info? 5 = some i := info_of_underlying Try.underlying5
  rw [run_equalIn_array w 9999 (KC a) (KC b) Try.underlying23 hi, show Try.prog.cellsOf 5 = 1 by kernel_rfl, run_key_items w 9998 a b ha hb (List.range 20) (fun j hj => List.mem_range.1 hj)]
  congr 1
  rw [Bool.eq_iff_iff]
  simp only [List.all_eq_true, List.mem_range, beq_iff_eq, decide_eq_true_eq]
  exact ⟨fun h => KY.ext ha hb h, fun h i _ => by rw [h]⟩
/-- The operation that reads a key out of its block. -/
theorem KAt.yields {w : World} {b : Nat} {k : List Nat} (h : KAt w b k) (hl : k.length = 20) {a : Act} {o : Oper} {x : Operand} (ho : o.op = .load 23 x) (hx : a.eval x = .pointer (some ⟨b, 0, none⟩)) :
    (execOp a.eval o).run Try.prog w = .ok (.value (KV k)) w := by
  unfold execOp
  simp only [ho, hx, Instr.loadAt, Instr.sureAddr, Sem.run_bind, Sem.run_pure, Result.andThen_ok, run_loadVar_row w b 23 23 (KC k) (0, 0) _ (h.block hl) Try.underlying23 rfl (by rw [KC_size, hl]; kernel_rfl)]
/-- A row of twenty zeros, as 'var k api.Key' lays it. -/
abbrev Z20 : Array Value := #[.int .u8 0, .int .u8 0, .int .u8 0, .int .u8 0, .int .u8 0, .int .u8 0, .int .u8 0, .int .u8 0, .int .u8 0, .int .u8 0, .int .u8 0, .int .u8 0, .int .u8 0, .int .u8 0, .int .u8 0, .int .u8 0, .int .u8 0, .int .u8 0, .int .u8 0, .int .u8 0]
theorem KAt.zeros (w : World) : KAt (w.alloc (.cells Z20 23)) w.heap.size KY.zero := by
  have := KAt.new w (k := KY.zero) rfl
  rwa [KC_zero] at this
/-- A key of which the first i bytes are there. -/
def KTo (k : List Nat) (i j : Nat) : Value := .int .u8 ((if j < i then k.getD j 0 else 0 : Nat))
theorem KTo.start {w : World} {b : Nat} (k : List Nat) (h : KAt w b KY.zero) : w.rowIs b 23 20 (KTo k 0) :=
  h.congr fun j _ => by show Value.int .u8 ((KY.zero.getD j 0 : Nat) : Int) = _; rw [KY.zero_get]; rfl
theorem KTo.next {w : World} {b : Nat} {k : List Nat} {i : Nat} (h : w.rowIs b 23 20 (KTo k i)) {v : Value} (hv : v = .int .u8 (k.getD i 0 : Nat)) : (w.setCell ⟨b, i, none⟩ v).rowIs b 23 20 (KTo k (i + 1)) :=
  (h.set i v).congr fun j _ => by
    subst hv
    unfold KTo
    by_cases e : j = i
    · subst e; rw [if_pos rfl, if_pos (by omega)]
    · rw [if_neg e]
      by_cases e2 : j < i
      · rw [if_pos e2, if_pos (by omega)]
      · rw [if_neg e2, if_neg (by omega)]
theorem KTo.done {w : World} {b : Nat} {k : List Nat} (h : w.rowIs b 23 20 (KTo k 20)) : KAt w b k := h.congr fun j hj => by unfold KTo; rw [if_pos hj]
theorem key_info {k : List Nat} (h : k.length = 20) : (Try.prog.info? 23).map (·.size) = some (KC k).size := by rw [KC_size, h]; kernel_rfl
/-- What a call that answers a key of a variable of its own leaves. -/
theorem key_left {w wr : World} {r : Nat} {k : List Nat} (hr : w.heap.size ≤ r) (hb : Below w.heap.size w wr) (h0 : ∃ z, wr.heap[r]? = some (.cells z 23 (0, 0)) ∧ z.size = 20) : Below w.heap.size w (wr.setRow r (KC k)) ∧ (wr.setRow r (KC k)).heap[r]? = some (.cells (KC k) 23 (0, 0)) := by
  obtain ⟨z, hz, _⟩ := h0
  exact ⟨hb.trans ⟨rfl, rfl, rfl, by simp, fun i hi => setRow_other wr r i (KC k) (by omega)⟩, setRow_heap wr r z (KC k) _ _ hz⟩
theorem key_block {w : World} {b : Nat} {f : Nat → Value} (h : w.rowIs b 23 20 f) : ∃ z, w.heap[b]? = some (.cells z 23 (0, 0)) ∧ z.size = 20 := by
  obtain ⟨c, h1, h2, _⟩ := h
  exact ⟨c, h1, h2⟩
/-- A key is read out of its block, as the walk spells it. -/
theorem KAt.load {w : World} {b : Nat} {k : List Nat} (h : KAt w b k) (hl : k.length = 20) : (loadCellsFrom ⟨b, 0, none⟩ 0 20 #[]).run Try.prog w = .ok (KC k) w := by
  have := run_loadCells_list (P := Try.prog) w ⟨b, 0, none⟩ (KC k).toList (fun j v hv => by
    have hadd : (⟨b, 0, none⟩ : Addr).add j = ⟨b, j, none⟩ := by unfold Addr.add; split <;> simp_all
    rw [hadd, cell_of_row _ _ j (KC k) 23 (0, 0) (h.block hl)]
    simpa using hv)
  rw [Array.length_toList, KC_size, hl] at this
  simpa [loadCells] using this
end Go.Proofs.Ytgjnkfbckbkcnaa
