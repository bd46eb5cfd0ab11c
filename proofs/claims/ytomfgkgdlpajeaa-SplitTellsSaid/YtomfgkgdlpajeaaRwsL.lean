/- Slices of slices of rows of bytes: how they read (RwsL), and such a slice that a call has appended together (Mts). -/
import Derived.Test.YtomfgkgdlpajeaaMatsBy
namespace Go.Proofs.Ytomfgkgdlpajeaa
open Go.RowKit Go.Deep
set_option linter.unusedVariables false
def RwsL (w : World) (v : Value) (L : List (List (List Nat))) : Prop :=
  (L = [] ∧ ∃ a cap, v = .slice a 0 cap) ∨
  ∃ b off cap, v = .slice (some ⟨b, off, none⟩) L.length cap ∧ L.length ≤ cap ∧ cap ≤ maxLen ∧ b < w.heap.size ∧ ∀ k, k < L.length → ∃ u, w.cell? ⟨b, off + k, none⟩ = some u ∧ Rws w u (L.getD k [])
theorem RwsL.nil (w : World) (a : Option Addr) (cap : Nat) : RwsL w (.slice a 0 cap) [] := .inl ⟨rfl, a, cap, rfl⟩
theorem RwsL.ext {w w' : World} {v : Value} {L : List (List (List Nat))} (h : RwsL w v L) (hb : w.Extends w') : RwsL w' v L := by
  rcases h with h | ⟨b, off, cap, h1, h2, h2', h3, h4⟩
  · exact .inl h
  · refine .inr ⟨b, off, cap, h1, h2, h2', Nat.lt_of_lt_of_le h3 hb.size, fun k hk => ?_⟩
    obtain ⟨u, hu, hv⟩ := h4 k hk
    exact ⟨u, (hb.cell ⟨b, off + k, none⟩ h3).trans hu, hv.ext hb⟩
theorem RwsL.slice {w : World} {v : Value} {L : List (List (List Nat))} (h : RwsL w v L) : ∃ a cap, v = .slice a L.length cap ∧ L.length ≤ cap := by
  rcases h with ⟨rfl, a, cap, rfl⟩ | ⟨b, off, cap, rfl, h1, _⟩
  · exact ⟨a, cap, rfl, Nat.zero_le _⟩
  · exact ⟨_, cap, rfl, h1⟩
theorem RwsL.len {w : World} {v : Value} {L : List (List (List Nat))} (h : RwsL w v L) : L.length ≤ maxLen := by
  rcases h with ⟨rfl, _⟩ | ⟨b, off, cap, rfl, h1, h2, _⟩
  · simp [maxLen]
  · exact Nat.le_trans h1 h2
theorem RwsL.at {w : World} {a : Option Addr} {n cap : Nat} {L : List (List (List Nat))} (h : RwsL w (.slice a n cap) L) : n = L.length ∧ (0 < n → ∃ b off, a = some ⟨b, off, none⟩ ∧ b < w.heap.size ∧ ∀ k, k < n → ∃ a' c', w.cell? ⟨b, off + k, none⟩ = some (.slice a' (L.getD k []).length c') ∧ Rws w (.slice a' (L.getD k []).length c') (L.getD k [])) := by
  rcases h with ⟨rfl, a', cap', hv⟩ | ⟨b, off, cap', hv, h2, h2', h3, h4⟩
  · cases hv; exact ⟨rfl, fun h => absurd h (Nat.lt_irrefl _)⟩
  · cases hv
    refine ⟨rfl, fun _ => ⟨b, off, rfl, h3, fun k hk => ?_⟩⟩
    obtain ⟨u, hu, hs⟩ := h4 k hk
    obtain ⟨a', c', rfl, _⟩ := hs.slice
    exact ⟨a', c', hu, hs⟩
/-- A row of slices of rows. -/
theorem RwsL.row {w : World} {g n : Nat} {T : TypeId} {f : Nat → Value} {L : List (List (List Nat))} (h : w.rowIs g T n f) (hn : n ≤ maxLen) (hL : L.length = n) (hr : ∀ k, k < n → Rws w (f k) (L.getD k [])) : RwsL w (.slice (some ⟨g, 0, none⟩) n n) L := by
  subst hL
  exact .inr ⟨g, 0, L.length, rfl, Nat.le_refl _, hn, h.lt, fun k hk => ⟨f k, by rw [Nat.zero_add]; exact h.cell hk, hr k hk⟩⟩
/-- v is the call's own slice of slices of rows, all in memory of the call's own. -/
def Mts (w : World) (B : Nat) (T2 T1 : TypeId) (v : Value) (k : Nat) (L : List (List (List Nat))) : Prop :=
  ∃ vs, w.ownsRow B T2 1 v k vs ∧ ∀ j, j < k → ∃ u, vs[j]? = some u ∧ Mats w B B T1 u (L.getD j []).length (L.getD j [])
theorem Mts.nil (w : World) (B : Nat) (T2 T1 : TypeId) : Mts w B T2 T1 (.slice none 0 0) 0 [] := ⟨[], World.ownsRow_nil _ _ _ _, fun j hj => absurd hj (Nat.not_lt_zero _)⟩
theorem Mts.ext {w w' : World} {B : Nat} {T2 T1 : TypeId} {v : Value} {k : Nat} {L : List (List (List Nat))} (h : Mts w B T2 T1 v k L) (hx : w.Extends w') : Mts w' B T2 T1 v k L := by
  obtain ⟨vs, ho, hr⟩ := h
  have hg : w.grownBy w' none := ⟨hx.os, hx.tape, hx.output, hx.size, fun i hi _ => hx.block i hi⟩
  refine ⟨vs, ho.kept hg (by cases v.ownBlock <;> simp), fun j hj => ?_⟩
  obtain ⟨u, h1, h2⟩ := hr j hj
  exact ⟨u, h1, h2.ext hx⟩
theorem Mts.slice {w : World} {B : Nat} {T2 T1 : TypeId} {v : Value} {k : Nat} {L : List (List (List Nat))} (h : Mts w B T2 T1 v k L) : ∃ a cap, v = .slice a k cap := by
  obtain ⟨vs, ho, hr⟩ := h
  exact owns_slice ho
theorem Mts.rws {w : World} {B : Nat} {T2 T1 : TypeId} {v : Value} {k : Nat} {L : List (List (List Nat))} (h : Mts w B T2 T1 v k L) (hk : k = L.length) : RwsL w v L := by
  subst hk
  obtain ⟨vs, hown, hrow⟩ := h
  rcases hown.2 with ⟨rfl, h0⟩ | ⟨g, cap, cur, rfl, hbg, hg, hnc, hcm, hcs, htake⟩
  · exact .inl ⟨List.eq_nil_of_length_eq_zero h0, none, 0, rfl⟩
  · refine .inr ⟨g, 0, cap, rfl, hnc, hcm, (Array.getElem?_eq_some_iff.1 hg).1, fun j hj => ?_⟩
    obtain ⟨u, hu, ho⟩ := hrow j hj
    refine ⟨u, ?_, ho.rws rfl⟩
    have := hown.cells (g := g) rfl j u hu
    rw [Addr.add_mid] at this
    exact this
theorem mats_one {w : World} {B R : Nat} {T : TypeId} {v : Value} {k : Nat} {l : List (List Nat)} (h : Mats w B R T v k l) : v.oneCell' = true := by
  obtain ⟨vs, ho, _⟩ := h; exact owns_one ho
theorem Mts.snoc {w w' : World} {B : Nat} {T2 T1 : TypeId} {v v' u : Value} {k : Nat} {L : List (List (List Nat))} {vs : List Value} {r : List (List Nat)} (hT : T1 ≠ T2) (hT2 : T2 ≠ 5) (hk : k = L.length) (hown : w.ownsRow B T2 1 v k vs)
    (hr : ∀ j, j < k → ∃ u, vs[j]? = some u ∧ Mats w B B T1 u (L.getD j []).length (L.getD j [])) (hu : Mats w B B T1 u r.length r)
    (hg : w.grownBy w' v.ownBlock) (ho : w'.ownsRow B T2 1 v' (k + 1) (vs ++ [u])) : Mts w' B T2 T1 v' (k + 1) (L ++ [r]) := by
  have hl : vs.length = k := by have := hown.1; omega
  refine ⟨vs ++ [u], ho, fun j hj => ?_⟩
  by_cases hjk : j < k
  · obtain ⟨u', hu', ho'⟩ := hr j hjk
    refine ⟨u', by rw [List.getElem?_append_left (by omega)]; exact hu', ?_⟩
    rw [show (L ++ [r]).getD j [] = L.getD j [] by simp [List.getD_eq_getElem?_getD, List.getElem?_append_left (show j < L.length by omega)]]
    exact ho'.by_row hown hT hT2 (Nat.le_refl _) hg
  · obtain rfl : j = k := by omega
    refine ⟨u, by rw [List.getElem?_append_right (by omega), hl]; simp, ?_⟩
    rw [show (L ++ [r]).getD j [] = r by simp [hk]]
    exact hu.by_row hown hT hT2 (Nat.le_refl _) hg
/-- Rows that law 2's To has made. -/
theorem ToInv.mats {w : World} {B : Nat} {T : TypeId} {v : Value} {l : List (List Nat)} (h : ToInv B T w v l.length l) (hlt : ∀ r ∈ l, ∀ x ∈ r, x < 256) : Mats w B 0 T v l.length l := by
  obtain ⟨vs, ho, hr⟩ := h
  refine ⟨vs, ho, fun j hj => ?_⟩
  obtain ⟨u, h1, h2⟩ := hr j hj
  refine ⟨u, h1, owns_rowok h2 fun x hx => ?_⟩
  refine hlt (l.getD j []) ?_ x hx
  rw [List.getD_eq_getElem?_getD, List.getElem?_eq_getElem hj]; exact List.getElem_mem hj
end Go.Proofs.Ytomfgkgdlpajeaa
