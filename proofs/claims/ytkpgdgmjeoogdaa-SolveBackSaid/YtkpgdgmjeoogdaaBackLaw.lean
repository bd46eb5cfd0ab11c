/- SolveBack: of what is mixed of some rows these are told, if the rank is their number, and else that it is too little. -/
import Derived.Test.YtkpgdgmjeoogdaaSolveLaw
import Derived.Test.YtkpgdgmjeoogdaaAppend2
import Derived.Test.YtkpgdgmjeoogdaaRankLaw
namespace Go.Proofs.Ytkpgdgmjeoogdaa
open Go.RowKit Go.Deep
set_option linter.unusedVariables false
namespace LA
/-- A vector cut to W places. -/
def trunc (W : Nat) (v : V) : V := fun i => if i < W then v i else 0
theorem trunc_add (W : Nat) (u v : V) : trunc W (add u v) = add (trunc W u) (trunc W v) := funext fun i => by
  show (if i < W then u i ^^^ v i else 0) = (if i < W then u i else 0) ^^^ (if i < W then v i else 0)
  split <;> rfl
theorem trunc_scl (W c : Nat) (v : V) : trunc W (scl c v) = scl c (trunc W v) := funext fun i => by
  show (if i < W then FM.tm c (v i) else 0) = FM.tm c (if i < W then v i else 0)
  split
  · rfl
  · exact (FM.tm_zero_right c).symm
theorem span_trunc {W : Nat} {P : Nat → Prop} {f g : Nat → V} (e : ∀ j, P j → g j = trunc W (f j)) {v : V} (h : Span P f v) : Span P g (trunc W v) := by
  induction h using Span.ind with
  | zero =>
    have : trunc W zero = zero := funext fun i => by show (if i < W then 0 else 0) = 0; split <;> rfl
    rw [this]; exact .zero
  | more c j v hc hj _ ih => rw [trunc_add, trunc_scl, ← e j hj]; exact .more c j _ hc hj ih
theorem span_untrunc {W : Nat} {P : Nat → Prop} {f g : Nat → V} (e : ∀ j, P j → g j = trunc W (f j)) {u : V} (h : Span P g u) : ∃ v, Span P f v ∧ u = trunc W v := by
  induction h using Span.ind with
  | zero => exact ⟨zero, .zero, funext fun i => by show 0 = (if i < W then 0 else 0); split <;> rfl⟩
  | more c j u hc hj _ ih =>
    obtain ⟨v, h1, rfl⟩ := ih
    exact ⟨_, .more c j v hc hj h1, by rw [trunc_add, trunc_scl, ← e j hj]⟩
theorem lead_trunc {W : Nat} {P : Nat → Prop} {f g : Nat → V} (e : ∀ j, P j → g j = trunc W (f j)) (c : Nat) (hc : c < W) : Lead P f c ↔ Lead P g c := by
  constructor
  · rintro ⟨v, h1, h2, h3⟩
    exact ⟨_, span_trunc e h1, by show (if c < W then v c else 0) ≠ 0; rw [if_pos hc]; exact h2, fun i hi => by show (if i < W then v i else 0) = 0; rw [if_pos (by omega)]; exact h3 i hi⟩
  · rintro ⟨u, h1, h2, h3⟩
    obtain ⟨v, hv, rfl⟩ := span_untrunc e h1
    have h2' : (if c < W then v c else 0) ≠ 0 := h2
    rw [if_pos hc] at h2'
    refine ⟨v, hv, h2', fun i hi => ?_⟩
    have h3' : (if i < W then v i else 0) = 0 := h3 i hi
    rwa [if_pos (by omega)] at h3'
end LA
theorem rowsF_trunc (W S : Nat) (m d : List (List Nat)) (j : Nat) : rowsF W 0 m [] j = LA.trunc W (rowsF W S m d j) := funext fun i => by
  show (if i < W then (RM.sum W [m.getD j []]).getD i 0 else (RM.sum 0 [[]]).getD (i - W) 0) = (if i < W then (if i < W then (RM.sum W [m.getD j []]).getD i 0 else (RM.sum S [d.getD j []]).getD (i - W) 0) else 0)
  split
  · rfl
  · exact RM.getD_far _ _ (by rw [RM.sum_length]; omega)
/-- What is mixed of rows. -/
def mixRows (S : Nat) (c l : List (List Nat)) : List (List Nat) := c.map fun r => RM.mix S r l
theorem mixRows_at (S : Nat) (c l : List (List Nat)) (j : Nat) (h : j < c.length) : (mixRows S c l).getD j [] = RM.mix S (c.getD j []) l := by simp [mixRows, List.getD_eq_getElem?_getD, h]
theorem mixRows_snoc (S : Nat) (c l : List (List Nat)) (k : Nat) (h : k < c.length) : (mixRows S c l).take k ++ [RM.mix S (c.getD k []) l] = (mixRows S c l).take (k + 1) := by
  rw [List.take_succ_eq_append_getElem (by simpa [mixRows] using h)]
  simp [mixRows, h]
theorem mixRows_lt (S : Nat) {c : List (List Nat)} (l : List (List Nat)) (h : ∀ r ∈ c, ∀ x ∈ r, x < 256) : ∀ r ∈ mixRows S c l, ∀ x ∈ r, x < 256 := by
  intro r hr
  obtain ⟨q, hq, rfl⟩ := List.mem_map.1 hr
  exact mix_lt S _ q l (h q hq)
theorem cutRows_length (W : Nat) (m : List (List Nat)) : (cutRows W m).length = m.length := by simp [cutRows]
theorem cutRows_lt (W : Nat) {m : List (List Nat)} (h : ∀ r ∈ m, ∀ x ∈ r, x < 256) : ∀ r ∈ cutRows W m, ∀ x ∈ r, x < 256 := by
  intro r hr
  obtain ⟨q, hq, rfl⟩ := List.mem_map.1 hr
  exact LA.sum_lt _ _ (by intro s hs; simp at hs; rw [hs]; exact h q hq)
/-- The rows that were mixed solve. -/
theorem back_sol (W S : Nat) {m x : List (List Nat)} (hx : ∀ r ∈ x, ∀ y ∈ r, y < 256) (hW : x.length = W) : LA.Sol W S (· < (cutRows W m).length) (rowsF W S (cutRows W m) (mixRows S (cutRows W m) (cutRows S x))) (xOf (cutRows S x)) := by
  refine ⟨fun k i => getD_lt _ (getD_mem_lt' (cutRows_lt S hx) i) k, fun j hj k hk => ?_⟩
  have h1 : ((cutRows W m).getD j []).length = W := by rw [cutRows_at W m j (by rwa [cutRows_length] at hj), RM.sum_length]
  have e1 : rowsF W S (cutRows W m) (mixRows S (cutRows W m) (cutRows S x)) j (W + k) = (RM.mix S ((cutRows W m).getD j []) (cutRows S x)).getD k 0 := by
    unfold rowsF
    rw [vec_high]
    show (RM.sum S [(mixRows S (cutRows W m) (cutRows S x)).getD j []]).getD k 0 = _
    rw [LA.sum1_getD S _ k hk, mixRows_at S _ _ j hj]
  rw [e1]
  show (RM.mixTo S (min ((cutRows W m).getD j []).length (cutRows S x).length) _ _).getD k 0 = _
  rw [mixTo_at S _ _ _ k hk, h1, cutRows_length, hW, Nat.min_self]
  refine LA.dots_congr W _ _ _ _ fun i hi => ?_
  show FM.tm _ _ = FM.tm (rowsF W S (cutRows W m) (mixRows S (cutRows W m) (cutRows S x)) j i) (((cutRows S x).getD i []).getD k 0)
  unfold rowsF
  rw [vec_low W _ i hi]
  show _ = FM.tm ((RM.sum W [(cutRows W m).getD j []]).getD i 0) _
  rw [LA.sum1_getD W _ i hi]
theorem back_res {W S r : Nat} {m x X : List (List Nat)} {err : Nat} (hm : ∀ r ∈ m, ∀ y ∈ r, y < 256) (hx : ∀ r ∈ x, ∀ y ∈ r, y < 256) (hW : x.length = W) (h1 : 1 ≤ W) (h2 : W ≤ 300) (h3 : 1 ≤ S) (h4 : S ≤ 1000)
    (h : AllRes W S (cutRows W m) (mixRows S (cutRows W m) (cutRows S x)) X err) (hr : LA.RankIs W (· < (cutRows W m).length) (rowsF W 0 (cutRows W m) []) r) :
    (r < W → X = [] ∧ err = 4) ∧ (¬ r < W → X = cutRows S x ∧ err = 0) := by
  have hlen : (mixRows S (cutRows W m) (cutRows S x)).length = (cutRows W m).length := by simp [mixRows]
  have hb : ¬ BadArgs W S (cutRows W m).length (mixRows S (cutRows W m) (cutRows S x)).length := by unfold BadArgs; rw [hlen]; omega
  rcases h with ⟨hbad, _⟩ | ⟨_, res, hres, rfl, rfl⟩
  · exact absurd hbad hb
  rw [Int.toNat_natCast, Int.toNat_natCast] at hres
  have hsol := back_sol W S (m := m) hx hW
  have hlead : ∀ c, c < W → (LA.Lead (· < (cutRows W m).length) (rowsF W S (cutRows W m) (mixRows S (cutRows W m) (cutRows S x))) c ↔ LA.Lead (· < (cutRows W m).length) (rowsF W 0 (cutRows W m) []) c) := fun c hc => LA.lead_trunc (fun j _ => rowsF_trunc W S _ _ j) c hc
  constructor
  · intro hrW
    cases res with
    | none => exact ⟨rfl, rfl⟩
    | some Y => exact absurd (fun c hc => (hlead c hc).1 (hres.2.2.1 c hc)) (hr.notfull hrW)
  · intro hrW
    have hrW' : r = W := by have := hr.le; omega
    rw [hrW'] at hr
    have hgood : SolveRes W S (· < (cutRows W m).length) (rowsF W S (cutRows W m) (mixRows S (cutRows W m) (cutRows S x))) (some (cutRows S x)) :=
      ⟨by rw [cutRows_length, hW], fun i hi => by rw [cutRows_at S x i (by omega), RM.sum_length], fun c hc => (hlead c hc).2 (hr.full c hc), hsol⟩
    rw [hres.uniq (fun j _ => rowsF_bd W S (cutRows_lt W hm) (mixRows_lt S _ (cutRows_lt W hm)) j) hgood]
    exact ⟨rfl, rfl⟩
end Go.Proofs.Ytkpgdgmjeoogdaa
