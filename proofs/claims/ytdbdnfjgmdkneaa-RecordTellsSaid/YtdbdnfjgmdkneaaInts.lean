/- Slices of ints: what a slice value reads as; those that a call has appended together; slices.Index and slices.Contains over them. -/
import Derived.Test.YtdbdnfjgmdkneaaAppend
import Derived.Lib.Hide
import Derived.Handy
namespace Go.Proofs.Ytdbdnfjgmdkneaa
set_option maxRecDepth 20000
open Go.RowKit
/-- Ints as values. -/
def i64vs (xs : List Int) : List Value := xs.map fun (x : Int) => Value.int .i64 x
theorem i64vs_length (xs : List Int) : (i64vs xs).length = xs.length := by simp [i64vs]
theorem i64vs_snoc (xs : List Int) (x : Int) : i64vs (xs ++ [x]) = i64vs xs ++ [.int .i64 x] := by simp [i64vs]
/-- v is a slice of the ints xs in w: empty; or its cells hold them. -/
def Ints (w : World) (v : Value) (xs : List Int) : Prop :=
  (xs = [] ∧ ∃ a cap, v = .slice a 0 cap ∧ cap ≤ maxLen) ∨
  ∃ b off cap, v = .slice (some ⟨b, off, none⟩) xs.length cap ∧ xs.length ≤ cap ∧ cap ≤ maxLen ∧ b < w.heap.size ∧ ∀ k, k < xs.length → w.cell? ⟨b, off + k, none⟩ = some (.int .i64 (xs.getD k 0))
theorem Ints.ext {w w' : World} {v : Value} {xs : List Int} (h : Ints w v xs) (hb : w.Extends w') : Ints w' v xs := by
  rcases h with h | ⟨b, off, cap, h1, h2, h2', h3, h4⟩
  · exact .inl h
  · exact .inr ⟨b, off, cap, h1, h2, h2', Nat.lt_of_lt_of_le h3 hb.size, fun k hk => (hb.cell ⟨b, off + k, none⟩ h3).trans (h4 k hk)⟩
theorem Ints.slice {w : World} {v : Value} {xs : List Int} (h : Ints w v xs) : ∃ a cap, v = .slice a xs.length cap ∧ xs.length ≤ cap ∧ cap ≤ maxLen := by
  rcases h with ⟨rfl, a, cap, rfl, hm⟩ | ⟨b, off, cap, rfl, h1, h2, _⟩
  · exact ⟨a, cap, rfl, Nat.zero_le _, hm⟩
  · exact ⟨_, cap, rfl, h1, h2⟩
theorem Ints.len {w : World} {v : Value} {xs : List Int} (h : Ints w v xs) : xs.length ≤ maxLen := by
  obtain ⟨_, _, _, h1, h2⟩ := h.slice; exact Nat.le_trans h1 h2
theorem Ints.cell {w : World} {a : Option Addr} {n cap : Nat} {xs : List Int} (h : Ints w (.slice a n cap) xs) : n = xs.length ∧ (0 < n → ∃ b off, a = some ⟨b, off, none⟩ ∧ b < w.heap.size ∧ ∀ k, k < n → w.cell? ⟨b, off + k, none⟩ = some (.int .i64 (xs.getD k 0))) := by
  rcases h with ⟨rfl, a', cap', hv, _⟩ | ⟨b, off, cap', hv, h2, h2', h3, h4⟩
  · cases hv; exact ⟨rfl, fun h => absurd h (Nat.lt_irrefl _)⟩
  · cases hv; exact ⟨rfl, fun _ => ⟨b, off, rfl, h3, h4⟩⟩
theorem nil_ints (w : World) (a : Option Addr) (cap : Nat) (h : cap ≤ maxLen := by decide) : Ints w (.slice a 0 cap) [] := .inl ⟨rfl, a, cap, rfl, h⟩
/-- A slice of ints that the call has appended together. -/
theorem owns_ints {w : World} {base : Nat} {T : TypeId} {v : Value} {n : Nat} {xs : List Int} (h : w.ownsRow base T 1 v n (i64vs xs)) : Ints w v xs := by
  have hn : xs.length = n := by have := h.1; rw [i64vs_length, Nat.mul_one] at this; exact this
  rcases h.2 with ⟨rfl, rfl⟩ | ⟨g, cap, cur, rfl, hbg, hg, hnc, hcm, hcs, htake⟩
  · exact .inl ⟨List.eq_nil_of_length_eq_zero hn, none, 0, rfl, Nat.zero_le _⟩
  · refine .inr ⟨g, 0, cap, by rw [hn], by omega, hcm, ?_, fun k hk => ?_⟩
    · exact (Array.getElem?_eq_some_iff.1 hg).1
    · have := h.cells (g := g) rfl k (.int .i64 (xs.getD k 0)) (by simp [i64vs, hk])
      rw [Addr.add_mid] at this
      exact this
theorem owns_ext {w w' : World} {B : Nat} {e : TypeId} {s : Nat} {v : Value} {n : Nat} {xs : List Value} (h : w.ownsRow B e s v n xs) (hx : w.Extends w') : w'.ownsRow B e s v n xs :=
  h.kept (row := none) ⟨hx.os, hx.tape, hx.output, hx.size, fun i hi _ => hx.block i hi⟩ (by cases v.ownBlock <;> simp)
theorem owns_base {w : World} {B B' : Nat} {e : TypeId} {s : Nat} {v : Value} {n : Nat} {xs : List Value} (h : w.ownsRow B e s v n xs) (hb : B' ≤ B) : w.ownsRow B' e s v n xs :=
  by
  rcases h.2 with h' | ⟨g, cap, cur, h1, h2, h3⟩
  · exact ⟨h.1, .inl h'⟩
  · exact ⟨h.1, .inr ⟨g, cap, cur, h1, Nat.le_trans hb h2, h3⟩⟩
end Go.Proofs.Ytdbdnfjgmdkneaa
