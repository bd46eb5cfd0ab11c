/- A slice of rows that a call has appended together: a slice of its own of rows of bytes, each of which lies in memory from before, or in a block of bytes. -/
import Derived.Test.YteogahofcmgddaaRows
import Derived.Test.YteogahofcmgddaaAppend
import Derived.Laws.OwnMore
namespace Go.Proofs.Yteogahofcmgddaa
set_option maxRecDepth 20000
open Go.RowKit Go.Deep
set_option linter.unusedVariables false
/-- u reads as xs, and lies in memory from before B, or in a row of bytes. -/
def RowOk (w : World) (B : Nat) (u : Value) (xs : List Nat) : Prop := U8s w u xs ∧ (xs = [] ∨ ∀ g, u.ownBlock = some g → g < w.heap.size ∧ (g < B ∨ ∃ cs, w.heap[g]? = some (.cells cs 5 (0, 0))))
theorem bytesinfo : (Try.prog.info? 29).map (fun i => (i.zero, i.size, i.bytes)) = some (some (.slice none 0 0), 1, 24) := by kernel_rfl
theorem RowOk.old {w : World} {u : Value} {xs : List Nat} (h : U8s w u xs) {B : Nat} (hB : w.heap.size ≤ B) : RowOk w B u xs := by
  refine ⟨h, ?_⟩
  rcases h with h | ⟨b, off, cap, rfl, h1, h2, h3, h4, h5⟩
  · exact .inl h.1
  · refine .inr fun g hg => ?_
    simp only [Value.ownBlock, Option.some.injEq] at hg
    subst hg
    exact ⟨h3, .inl (by omega)⟩
theorem RowOk.own {w : World} {b n c : Nat} {xs : List Nat} (h : Own w b 5 xs) (B : Nat) (hn : n = xs.length) (hc : c = xs.length) : RowOk w B (.slice (some ⟨b, 0, none⟩) n c) xs := by
  subst hn; subst hc
  refine ⟨h.u8s, .inr fun g hg => ?_⟩
  simp only [Value.ownBlock, Option.some.injEq] at hg
  subst hg
  obtain ⟨cs, hcs, _⟩ := h.1
  exact ⟨h.lt, .inr ⟨cs, hcs⟩⟩
theorem RowOk.apart {w : World} {B B' : Nat} {u v : Value} {xs : List Nat} {n : Nat} {vs : List Value} {T : TypeId} (h : RowOk w B u xs) (ho : w.ownsRow B T 1 v n vs) (hT : T ≠ 5) (hne : v.ownBlock ≠ none) : xs = [] ∨ u.ownBlock ≠ v.ownBlock := by
  rcases h.2 with h0 | h0
  · exact .inl h0
  · refine .inr fun e => ?_
    cases hv : v.ownBlock with
    | none => exact hne hv
    | some g =>
      rw [hv] at e
      obtain ⟨_, h1⟩ := h0 g e
      have hb := (ho.lt g hv).1
      rcases h1 with h1 | ⟨cs, hcs⟩
      · omega
      · rcases ho.2 with ⟨rfl, _⟩ | ⟨g', cap, cur, rfl, hbg, hg, _⟩
        · cases hv
        · simp only [Value.ownBlock, Option.some.injEq] at hv
          subst hv
          rw [hg] at hcs
          simp only [Option.some.injEq, Obj.cells.injEq] at hcs
          exact hT hcs.2.1
theorem RowOk.grown {w w' : World} {B : Nat} {u : Value} {xs : List Nat} {r : Option Nat} (h : RowOk w B u xs) (hg : w.grownBy w' r) (hr : xs = [] ∨ u.ownBlock ≠ r) : RowOk w' B u xs := by
  refine ⟨h.1.grown hg hr, ?_⟩
  rcases h.2 with h0 | h0
  · exact .inl h0
  · rcases hr with hr | hr
    · exact .inl hr
    · refine .inr fun g hgu => ?_
      obtain ⟨h1, h2⟩ := h0 g hgu
      have he : w'.heap[g]? = w.heap[g]? := hg.block g h1 (by rw [← hgu]; exact hr)
      exact ⟨Nat.lt_of_lt_of_le h1 hg.size, (by rcases h2 with h2 | ⟨cs, hcs⟩; exact .inl h2; exact .inr ⟨cs, he.trans hcs⟩)⟩
theorem RowOk.ext {w w' : World} {B : Nat} {u : Value} {xs : List Nat} (h : RowOk w B u xs) (hx : w.Extends w') : RowOk w' B u xs := by
  refine ⟨h.1.ext hx, ?_⟩
  rcases h.2 with h0 | h0
  · exact .inl h0
  refine .inr fun g hgu => ?_
  obtain ⟨h1, h2⟩ := h0 g hgu
  refine ⟨Nat.lt_of_lt_of_le h1 hx.size, ?_⟩
  rcases h2 with h2 | ⟨cs, hcs⟩
  · exact .inl h2
  · exact .inr ⟨cs, (hx.block g h1).trans hcs⟩
theorem list_of {n : Nat} {R : Nat → Value → Prop} (h : ∀ k, k < n → ∃ u, R k u) : ∃ vs : List Value, vs.length = n ∧ ∀ k, k < n → ∃ u, vs[k]? = some u ∧ R k u := by
  induction n with
  | zero => exact ⟨[], rfl, fun k hk => absurd hk (Nat.not_lt_zero _)⟩
  | succ n ih =>
    obtain ⟨vs, hl, hv⟩ := ih fun k hk => h k (by omega)
    obtain ⟨u, hu⟩ := h n (by omega)
    refine ⟨vs ++ [u], by simp [hl], fun k hk => ?_⟩
    by_cases hkn : k < n
    · obtain ⟨u', h1, h2⟩ := hv k hkn
      exact ⟨u', by rw [List.getElem?_append_left (by omega)]; exact h1, h2⟩
    · obtain rfl : k = n := by omega
      exact ⟨u, by rw [List.getElem?_append_right (by omega), hl]; simp, hu⟩
theorem u8s_one {w : World} {v : Value} {xs : List Nat} (h : U8s w v xs) : v.oneCell' = true := by
  obtain ⟨a, c, rfl, _⟩ := h.slice; rfl
/-- A slice of rows as a source of append. -/
theorem Rws.srcs {P : Program} {w : World} {v : Value} {l : List (List Nat)} (h : Rws w v l) {tx e' : TypeId} (hk : P.underlying tx = some (.slice e')) :
    ∃ vs, Src P 1 tx v l.length vs w ∧ ∀ j, j < l.length → ∃ u, vs[j]? = some u ∧ U8s w u (l.getD j []) := by
  rcases h with ⟨rfl, a, cap, rfl⟩ | ⟨b, off, cap, rfl, h1, h2, h3, h4⟩
  · refine ⟨[], ?_, fun j hj => absurd hj (Nat.not_lt_zero _)⟩
    cases a with
    | none => exact Src.ofNil w hk cap
    | some a => exact Src.ofSlice w hk a 0 cap [] rfl (by simp) (by simp)
  · obtain ⟨vs, hl, hv⟩ := list_of h4
    refine ⟨vs, Src.ofSlice w hk ⟨b, off, none⟩ l.length cap vs (by rw [hl, Nat.mul_one]) (fun j u hu => ?_) (fun u hu => ?_), fun j hj => ?_⟩
    · have hj : j < l.length := by
        rcases Nat.lt_or_ge j l.length with h | h
        · exact h
        · rw [List.getElem?_eq_none (by omega)] at hu; cases hu
      obtain ⟨u', h5, h6, _⟩ := hv j hj
      rw [hu] at h5; cases h5
      rw [Addr.add_mid]; exact h6
    · obtain ⟨j, hj, rfl⟩ := List.mem_iff_getElem.1 hu
      obtain ⟨u', h5, _, h7⟩ := hv j (by omega)
      rw [List.getElem?_eq_getElem hj] at h5
      rw [Option.some.inj h5]; exact u8s_one h7
    · obtain ⟨u, h5, _, h7⟩ := hv j hj
      exact ⟨u, h5, h7⟩
theorem RowOk.mono {w : World} {B B' : Nat} {u : Value} {xs : List Nat} (h : RowOk w B u xs) (hB : B ≤ B') : RowOk w B' u xs := by
  refine ⟨h.1, ?_⟩
  rcases h.2 with h0 | h0
  · exact .inl h0
  · exact .inr fun g hg => ⟨(h0 g hg).1, (h0 g hg).2.imp (fun h => Nat.lt_of_lt_of_le h hB) id⟩
/-- v is the call's own slice (of elements of type T, in memory from B on) of values that read as the first k of l, and lie in memory from before R or in blocks of bytes. -/
def Mats (w : World) (B R : Nat) (T : TypeId) (v : Value) (k : Nat) (l : List (List Nat)) : Prop := ∃ vs, w.ownsRow B T 1 v k vs ∧ ∀ j, j < k → ∃ u, vs[j]? = some u ∧ RowOk w R u (l.getD j [])
theorem Mats.nil (w : World) (B R : Nat) (T : TypeId) (l : List (List Nat)) : Mats w B R T (.slice none 0 0) 0 l := ⟨[], World.ownsRow_nil _ _ _ _, fun j hj => absurd hj (Nat.not_lt_zero _)⟩
theorem Mats.rws {w : World} {B R : Nat} {T : TypeId} {v : Value} {k : Nat} {l : List (List Nat)} (h : Mats w B R T v k l) (hk : k = l.length) : Rws w v l := by
  subst hk
  obtain ⟨vs, hown, hrow⟩ := h
  rcases hown.2 with ⟨rfl, h0⟩ | ⟨g, cap, cur, rfl, hbg, hg, hnc, hcm, hcs, htake⟩
  · exact .inl ⟨List.eq_nil_of_length_eq_zero h0, none, 0, rfl⟩
  · refine .inr ⟨g, 0, cap, rfl, hnc, hcm, (Array.getElem?_eq_some_iff.1 hg).1, fun j hj => ?_⟩
    obtain ⟨u, hu, ho⟩ := hrow j hj
    refine ⟨u, ?_, ho.1⟩
    have := hown.cells (g := g) rfl j u hu
    rw [Addr.add_mid] at this
    exact this
theorem Mats.grow {w w' : World} {B R : Nat} {T : TypeId} {v v' : Value} {k m : Nat} {l r : List (List Nat)} {vs us : List Value} (hR : R ≤ B) (hT : T ≠ 5) (hk : k = l.length) (hm : m = r.length) (hown : w.ownsRow B T 1 v k vs) (hr : ∀ j, j < k → ∃ u, vs[j]? = some u ∧ RowOk w R u (l.getD j [])) (hu : ∀ j, j < m → ∃ u, us[j]? = some u ∧ RowOk w R u (r.getD j []))
    (hg : w.grownBy w' v.ownBlock) (ho : w'.ownsRow B T 1 v' (k + m) (vs ++ us)) : Mats w' B R T v' (k + m) (l ++ r) := by
  have hl : vs.length = k := by have := hown.1; omega
  have keep : ∀ {x : Value} {xs : List Nat}, RowOk w R x xs → RowOk w' R x xs := fun {x xs} h => by
    by_cases hn : v.ownBlock = none
    · rw [hn] at hg
      exact h.ext (ext_below ⟨hg.os, hg.tape, hg.output, hg.size, fun i hi => hg.block i hi (by simp)⟩ rfl)
    · exact h.grown hg ((h.mono hR).apart (B' := B) hown hT hn)
  refine ⟨vs ++ us, ho, fun j hj => ?_⟩
  by_cases hjk : j < k
  · obtain ⟨u', hu', ho'⟩ := hr j hjk
    refine ⟨u', by rw [List.getElem?_append_left (by omega)]; exact hu', ?_⟩
    rw [show (l ++ r).getD j [] = l.getD j [] by simp [List.getD_eq_getElem?_getD, List.getElem?_append_left (show j < l.length by omega)]]
    exact keep ho'
  · obtain ⟨u', hu', ho'⟩ := hu (j - k) (by omega)
    refine ⟨u', by rw [List.getElem?_append_right (by omega), hl]; exact hu', ?_⟩
    rw [show (l ++ r).getD j [] = r.getD (j - k) [] by simp [List.getD_eq_getElem?_getD, List.getElem?_append_right (show l.length ≤ j by omega), hk]]
    exact keep ho'
theorem Mats.snoc {w w' : World} {B R : Nat} {T : TypeId} {v v' u : Value} {k : Nat} {l : List (List Nat)} {vs : List Value} {r : List Nat} (hR : R ≤ B) (hT : T ≠ 5) (hk : k = l.length) (hown : w.ownsRow B T 1 v k vs) (hr : ∀ j, j < k → ∃ u, vs[j]? = some u ∧ RowOk w R u (l.getD j [])) (hu : RowOk w R u r)
    (hg : w.grownBy w' v.ownBlock) (ho : w'.ownsRow B T 1 v' (k + 1) (vs ++ [u])) : Mats w' B R T v' (k + 1) (l ++ [r]) :=
  Mats.grow hR hT hk rfl hown hr (fun j hj => by
    obtain rfl : j = 0 := by omega
    exact ⟨u, rfl, hu⟩) hg ho
theorem Mats.ext {w w' : World} {B R : Nat} {T : TypeId} {v : Value} {k : Nat} {l : List (List Nat)} (h : Mats w B R T v k l) (hx : w.Extends w') : Mats w' B R T v k l := by
  obtain ⟨vs, ho, hr⟩ := h
  have hg : w.grownBy w' none := ⟨hx.os, hx.tape, hx.output, hx.size, fun i hi _ => hx.block i hi⟩
  refine ⟨vs, ho.kept hg (by cases v.ownBlock <;> simp), fun j hj => ?_⟩
  obtain ⟨u, h1, h2⟩ := hr j hj
  exact ⟨u, h1, h2.ext hx⟩
/-- Such a slice as a source of append. -/
theorem Mats.srcs {P : Program} {w : World} {B R : Nat} {T : TypeId} {v : Value} {k : Nat} {l : List (List Nat)} (h : Mats w B R T v k l) {tx e' : TypeId} (hk : P.underlying tx = some (.slice e')) :
    ∃ vs, Src P 1 tx v k vs w ∧ ∀ j, j < k → ∃ u, vs[j]? = some u ∧ RowOk w R u (l.getD j []) := by
  obtain ⟨vs, hown, hrow⟩ := h
  have hl : vs.length = k := by have := hown.1; omega
  refine ⟨vs, ?_, hrow⟩
  have hone : ∀ u ∈ vs, u.oneCell' = true := fun u hu => by
    obtain ⟨j, hj, rfl⟩ := List.mem_iff_getElem.1 hu
    obtain ⟨u', h5, h6⟩ := hrow j (by omega)
    rw [List.getElem?_eq_getElem hj] at h5
    rw [Option.some.inj h5]; exact u8s_one h6.1
  rcases id hown.2 with ⟨rfl, rfl⟩ | ⟨g, cap, cur, rfl, _⟩
  · obtain rfl : vs = [] := List.eq_nil_of_length_eq_zero hl
    exact Src.ofNil w hk 0
  · exact Src.ofSlice w hk ⟨g, 0, none⟩ k cap vs (by rw [hl, Nat.mul_one]) (fun j u hu => hown.cells (g := g) rfl j u hu) hone
theorem Mats.base {w : World} {B B' R : Nat} {T : TypeId} {v : Value} {k : Nat} {l : List (List Nat)} (h : Mats w B R T v k l) (hB : B' ≤ B) : Mats w B' R T v k l := by
  obtain ⟨vs, ho, hr⟩ := h
  refine ⟨vs, ⟨ho.1, ?_⟩, hr⟩
  rcases ho.2 with h' | ⟨g, cap, cur, h1, h2, h3⟩
  · exact .inl h'
  · exact .inr ⟨g, cap, cur, h1, Nat.le_trans hB h2, h3⟩
theorem Mats.slice {w : World} {B R : Nat} {T : TypeId} {v : Value} {k : Nat} {l : List (List Nat)} (h : Mats w B R T v k l) : ∃ a cap, v = .slice a k cap := by
  obtain ⟨vs, ho, hr⟩ := h
  rcases ho.2 with ⟨rfl, rfl⟩ | ⟨g, cap, cur, rfl, _⟩
  · exact ⟨_, _, rfl⟩
  · exact ⟨_, _, rfl⟩
end Go.Proofs.Yteogahofcmgddaa
