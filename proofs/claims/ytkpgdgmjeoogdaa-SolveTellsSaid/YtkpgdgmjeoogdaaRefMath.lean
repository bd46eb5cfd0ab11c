/- The reference's steps: rows brought to steps all together. -/
import Derived.Test.YtkpgdgmjeoogdaaSysMath
namespace Go.Proofs.Ytkpgdgmjeoogdaa
set_option linter.unusedVariables false
namespace LA
open FM
/-- Row j as a vector. -/
def rv (l : List (List Nat)) (j : Nat) : V := fun i => (l.getD j []).getD i 0
structure RefInv (c r n : Nat) (has : Nat → Bool) (u u0 : Nat → V) : Prop where
  req : r = cnt has c
  rn : r ≤ n
  piv : ∀ q, q < c → has q = true → u (cnt has q) q = 1 ∧ (∀ i, i < q → u (cnt has q) i = 0) ∧ ∀ j, j < n → j ≠ cnt has q → u j q = 0
  low : ∀ j, r ≤ j → j < n → ∀ i, i < c → u j i = 0
  bd : ∀ j, j < n → Bd (u j)
  bd0 : ∀ j, j < n → Bd (u0 j)
  to : ∀ j, j < n → Span (· < n) u0 (u j)
  from_ : ∀ j, j < n → Span (· < n) u (u0 j)
theorem RefInv.start (n : Nat) (u0 : Nat → V) (hb : ∀ j, j < n → Bd (u0 j)) : RefInv 0 0 n (fun _ => false) u0 u0 :=
  ⟨rfl, Nat.zero_le _, fun q hq => absurd hq (Nat.not_lt_zero _), fun j _ _ i hi => absurd hi (Nat.not_lt_zero _), hb, hb, fun j hj => Span.mem hb hj, fun j hj => Span.mem hb hj⟩
def setH (has : Nat → Bool) (c : Nat) (b : Bool) : Nat → Bool := fun q => if q = c then b else has q
theorem cnt_setH (has : Nat → Bool) (c : Nat) (b : Bool) : ∀ q, q ≤ c → cnt (setH has c b) q = cnt has q
  | 0, _ => rfl
  | q + 1, h => by
    rw [cnt, cnt, cnt_setH has c b q (by omega)]
    have : setH has c b q = has q := by unfold setH; rw [if_neg (by omega)]
    rw [this]
theorem cnt_mono (has : Nat → Bool) (c : Nat) : ∀ d, cnt has c ≤ cnt has (c + d)
  | 0 => Nat.le_refl _
  | d + 1 => by have := cnt_mono has c d; rw [← Nat.add_assoc, cnt]; omega
theorem cnt_pos {has : Nat → Bool} {q c : Nat} (h : q < c) (hq : has q = true) : cnt has q < cnt has c := by
  have h1 := cnt_mono has (q + 1) (c - (q + 1))
  rw [show q + 1 + (c - (q + 1)) = c by omega, cnt, hq] at h1
  simp at h1; omega
theorem cnt_onto {has : Nat → Bool} : ∀ c j, j < cnt has c → ∃ q, q < c ∧ has q = true ∧ j = cnt has q
  | 0, j, h => absurd h (Nat.not_lt_zero _)
  | c + 1, j, h => by
    rw [cnt] at h
    by_cases hj : j < cnt has c
    · obtain ⟨q, h1, h2, h3⟩ := cnt_onto c j hj
      exact ⟨q, by omega, h2, h3⟩
    · cases hc : has c with
      | false => rw [hc] at h; simp at h; omega
      | true => rw [hc] at h; simp at h; exact ⟨c, by omega, hc, by omega⟩
/-- No row from r on has anything in column c. -/
theorem RefInv.skip {c r n : Nat} {has : Nat → Bool} {u u0 : Nat → V} (h : RefInv c r n has u u0) (hz : ∀ j, r ≤ j → j < n → u j c = 0) : RefInv (c + 1) r n (setH has c false) u u0 := by
  refine ⟨?_, h.rn, fun q hq hh => ?_, fun j h1 h2 i hi => ?_, h.bd, h.bd0, h.to, h.from_⟩
  · rw [cnt, cnt_setH _ _ _ _ (Nat.le_refl _), show setH has c false c = false by unfold setH; rw [if_pos rfl]]
    have := h.req
    simpa using this
  · have hqc : q ≠ c := fun e => by subst e; unfold setH at hh; rw [if_pos rfl] at hh; cases hh
    have hh' : has q = true := by unfold setH at hh; rwa [if_neg hqc] at hh
    rw [cnt_setH _ _ _ _ (by omega)]
    exact h.piv q (by omega) hh'
  · by_cases hic : i < c
    · exact h.low j h1 h2 i hic
    · rw [show i = c by omega]; exact hz j h1 h2
/-- The rows with row p scaled into place r, and row r in place p. -/
def put (u : Nat → V) (r p c : Nat) (j : Nat) : V := if j = r then scl (inv (u p c)) (u p) else if j = p then u r else u j
/-- .. and with row r taken from all others. -/
def clear (u : Nat → V) (r c : Nat) (j : Nat) : V := if j = r then u r else add (u j) (scl (u j c) (u r))
theorem RefInv.step {c r n p : Nat} {has : Nat → Bool} {u u0 : Nat → V} (h : RefInv c r n has u u0) (hp : r ≤ p) (hpn : p < n) (hne : u p c ≠ 0) : RefInv (c + 1) (r + 1) n (setH has c true) (clear (put u r p c) r c) u0 := by
  have hrn : r < n := by omega
  have hx := h.bd p hpn c
  have hi := inv_lt _ hx
  have p_r : put u r p c r = scl (inv (u p c)) (u p) := if_pos rfl
  have p_lt : ∀ j, j < r → put u r p c j = u j := fun j hj => by unfold put; rw [if_neg (by omega), if_neg (by omega)]
  -- what each row is made of
  have hput : ∀ j, j < n → Bd (put u r p c j) := fun j hj => by
    unfold put; split
    · exact scl_bd hi _
    · split
      · exact h.bd r hrn
      · exact h.bd j hj
  have p_one : put u r p c r c = 1 := by rw [p_r]; show tm (inv (u p c)) (u p c) = 1; rw [tm_comm _ _ hi hx]; exact tm_inv _ hx hne
  have p_low : ∀ i, i < c → put u r p c r i = 0 := fun i hic => by rw [p_r]; show tm _ (u p i) = 0; rw [h.low p hp hpn i hic, tm_zero_right]
  have p_zero : ∀ j, r ≤ j → j < n → ∀ i, i < c → put u r p c j i = 0 := fun j h1 h2 i hic => by
    by_cases hjr : j = r
    · subst hjr; exact p_low i hic
    · unfold put; rw [if_neg hjr]
      split
      · exact h.low r (Nat.le_refl _) hrn i hic
      · exact h.low j h1 h2 i hic
  have c_r : clear (put u r p c) r c r = put u r p c r := if_pos rfl
  have c_at : ∀ j i, j ≠ r → clear (put u r p c) r c j i = put u r p c j i ^^^ tm (put u r p c j c) (put u r p c r i) := fun j i hj => by unfold clear; rw [if_neg hj]; rfl
  have c_low : ∀ j i, i < c → clear (put u r p c) r c j i = put u r p c j i := fun j i hic => by
    by_cases hj : j = r
    · subst hj; rw [c_r]
    · rw [c_at j i hj, p_low i hic, tm_zero_right, Nat.xor_zero]
  have c_c : ∀ j, j < n → j ≠ r → clear (put u r p c) r c j c = 0 := fun j hjn hj => by
    rw [c_at j c hj, p_one, tm_one_right _ (hput j hjn c), Nat.xor_self]
  have cbd : ∀ j, j < n → Bd (clear (put u r p c) r c j) := fun j hj => by
    unfold clear; split
    · exact hput r hrn
    · exact add_bd (hput j hj) (scl_bd (hput j hj c) _)
  -- the spans
  have to1 : ∀ j, j < n → Span (· < n) u (put u r p c j) := fun j hj => by
    unfold put; split
    · exact (Span.mem h.bd hpn).scl h.bd hi
    · split
      · exact Span.mem h.bd hrn
      · exact Span.mem h.bd hj
  have to2 : ∀ j, j < n → Span (· < n) u (clear (put u r p c) r c j) := fun j hj => by
    unfold clear; split
    · exact to1 r hrn
    · exact (to1 j hj).add ((to1 r hrn).scl h.bd (hput j hj c))
  have fr2 : ∀ j, j < n → Span (· < n) (clear (put u r p c) r c) (put u r p c j) := fun j hj => by
    have hr : Span (· < n) (clear (put u r p c) r c) (put u r p c r) := by have := Span.mem (P := (· < n)) cbd hrn; rwa [c_r] at this
    by_cases hjr : j = r
    · subst hjr; exact hr
    · have h1 := (Span.mem (P := (· < n)) cbd hj).add (hr.scl cbd (hput j hj c))
      have e : add (clear (put u r p c) r c j) (scl (put u r p c j c) (put u r p c r)) = put u r p c j := by
        unfold clear; rw [if_neg hjr, add_add_self]
      rwa [e] at h1
  have fr1 : ∀ j, j < n → Span (· < n) (clear (put u r p c) r c) (u j) := fun j hj => by
    by_cases hjp : j = p
    · subst hjp
      have h1 := (fr2 r hrn).scl cbd (c := u j c) hx
      rwa [p_r, scl_scl hx hi (h.bd j hj), tm_inv _ hx hne, scl_one (h.bd j hj)] at h1
    · by_cases hjr : j = r
      · subst hjr
        have h1 := fr2 p hpn
        have e : put u j p c p = u j := by unfold put; rw [if_neg (Ne.symm hjp), if_pos rfl]
        rwa [e] at h1
      · have h1 := fr2 j hj
        have e : put u r p c j = u j := by unfold put; rw [if_neg hjr, if_neg hjp]
        rwa [e] at h1
  refine ⟨?_, hrn, fun q hq hh => ?_, fun j h1 h2 i hi' => ?_, cbd, h.bd0, fun j hj => (to2 j hj).sub h.bd0 h.to, fun j hj => (h.from_ j hj).sub cbd fr1⟩
  · rw [cnt, cnt_setH _ _ _ _ (Nat.le_refl _), show setH has c true c = true by unfold setH; rw [if_pos rfl], ← h.req]; rfl
  · rw [cnt_setH _ _ _ _ (by omega)]
    by_cases hqc : q = c
    · subst hqc
      rw [← h.req, c_r]
      exact ⟨p_one, p_low, fun j hj hne' => c_c j hj hne'⟩
    · have hh' : has q = true := by unfold setH at hh; rwa [if_neg hqc] at hh
      have hqc' : q < c := by omega
      have hlt : cnt has q < r := by rw [h.req]; exact cnt_pos hqc' hh'
      obtain ⟨g1, g2, g3⟩ := h.piv q hqc' hh'
      refine ⟨by rw [c_low _ q hqc', p_lt _ hlt]; exact g1, fun i hiq => by rw [c_low _ i (by omega), p_lt _ hlt]; exact g2 i hiq, fun j hj hne' => ?_⟩
      rw [c_low j q hqc']
      by_cases hjr : r ≤ j
      · exact p_zero j hjr hj q hqc'
      · rw [p_lt j (by omega)]; exact g3 j hj hne'
  · by_cases hic : i < c
    · rw [c_low j i hic]; exact p_zero j (by omega) h2 i hic
    · rw [show i = c by omega]; exact c_c j h2 (by omega)
theorem RefInv.congr {c r n : Nat} {has : Nat → Bool} {u u' u0 : Nat → V} (h : RefInv c r n has u u0) (e : ∀ j, j < n → u' j = u j) : RefInv c r n has u' u0 := by
  have hc : ∀ q, q < c → has q = true → cnt has q < n := fun q hq hh => by have := cnt_pos hq hh; have := h.rn; have := h.req; omega
  refine ⟨h.req, h.rn, fun q hq hh => ?_, fun j h1 h2 i hi => by rw [e j h2]; exact h.low j h1 h2 i hi, fun j hj => by rw [e j hj]; exact h.bd j hj, h.bd0, fun j hj => by rw [e j hj]; exact h.to j hj, fun j hj => ?_⟩
  · obtain ⟨g1, g2, g3⟩ := h.piv q hq hh
    rw [e _ (hc q hq hh)]
    exact ⟨g1, g2, fun j hj hne => by rw [e j hj]; exact g3 j hj hne⟩
  · refine (h.from_ j hj).sub (fun i hi => by rw [e i hi]; exact h.bd i hi) fun i hi => ?_
    rw [← e i hi]
    exact Span.mem (fun i hi => by rw [e i hi]; exact h.bd i hi) hi
/-- At the end the rows are in steps. -/
theorem RefInv.ech {W r n : Nat} {has : Nat → Bool} {u u0 : Nat → V} (h : RefInv W r n has u u0) : Ech W (· < n) u has (cnt has) := by
  refine ⟨fun q hq hh => ?_, fun j hj => ?_, h.bd⟩
  · obtain ⟨g1, g2, _⟩ := h.piv q hq hh
    have := cnt_pos hq hh
    exact ⟨by have := h.rn; have := h.req; omega, by rw [g1]; omega, g2⟩
  · by_cases hjr : j < r
    · obtain ⟨q, h1, h2, h3⟩ := cnt_onto W j (by rw [← h.req]; exact hjr)
      exact .inl ⟨q, h1, h2, h3⟩
    · exact .inr fun i hi => h.low j (by omega) hj i hi
theorem RefInv.rankIs {W r n : Nat} {has : Nat → Bool} {u u0 : Nat → V} (h : RefInv W r n has u u0) : RankIs W (· < n) u0 r := by
  rw [h.req]
  exact h.ech.rank.of_span (fun v hv => hv.sub h.bd0 h.to) fun v hv => hv.sub h.bd h.from_
/-- With all columns: row q has 1 at q alone, the rows behind have 0. -/
theorem RefInv.unit {W r n : Nat} {has : Nat → Bool} {u u0 : Nat → V} (h : RefInv W r n has u u0) (hr : r = W) : ∀ j, j < n → ∀ i, i < W → u j i = if j = i then 1 else 0 := by
  have hall : ∀ q, q < W → has q = true := cnt_all W (by rw [← h.req, hr])
  have hc : ∀ q, q ≤ W → cnt has q = q := fun q hq => cnt_full q fun c hc => hall c (by omega)
  intro j hj i hi
  obtain ⟨g1, _, g3⟩ := h.piv i hi (hall i hi)
  rw [hc i (by omega)] at g1 g3
  by_cases hji : j = i
  · subst hji; rw [if_pos rfl]; exact g1
  · rw [if_neg hji]; exact g3 j hj hji
end LA
end Go.Proofs.Ytkpgdgmjeoogdaa
