/- In one text: RefMath, RefMem, FldRaise, FldInv, Eqn, EqnPlus, Sys. -/
import Derived.Laws.OwnMore
import Derived.Laws.Rows
import Derived.WalkSpells
import Derived.Test.YtpfmmfapdcbnkaaDoorMA5
import Derived.Test.YtpfmmfapdcbnkaaDoorMA6
namespace Go.Proofs.YtpfmmfapdcbnkaaDoor
set_option maxRecDepth 20000
set_option linter.unusedVariables false
namespace LA
open FM
structure RefInv (c r n : Nat) (has : Nat → Bool) (u u0 : Nat → V) : Prop where
  req : r = cnt has c
  rn : r ≤ n
  piv : ∀ q, q < c → has q = true → u (cnt has q) q = 1 ∧ (∀ i, i < q → u (cnt has q) i = 0) ∧ ∀ j, j < n → j ≠ cnt has q → u j q = 0
  low : ∀ j, r ≤ j → j < n → ∀ i, i < c → u j i = 0
  bd : ∀ j, j < n → Bd (u j)
  bd0 : ∀ j, j < n → Bd (u0 j)
  onto : ∀ j, j < n → Span (· < n) u0 (u j)
  from_ : ∀ j, j < n → Span (· < n) u (u0 j)
theorem RefInv.start (n : Nat) (u0 : Nat → V) (hb : ∀ j, j < n → Bd (u0 j)) : RefInv 0 0 n (fun _ => false) u0 u0 :=
  ⟨rfl, Nat.zero_le _, fun q hq => absurd hq (Nat.not_lt_zero _), fun j _ _ i hi => absurd hi (Nat.not_lt_zero _), hb, hb, fun j hj => Span.mem hb hj, fun j hj => Span.mem hb hj⟩
def setH (has : Nat → Bool) (c : Nat) (b : Bool) : Nat → Bool := fun q => if q = c then b else has q
theorem cnt_setH (has : Nat → Bool) (c : Nat) (b : Bool) : ∀ q, q ≤ c → cnt (setH has c b) q = cnt has q
  | 0, _ => rfl
  | q + 1, h => by
    rw [cnt, cnt, cnt_setH has c b q (by omega)]
    have : setH has c b q = has q := by unfold setH; rw [if_neg (by omega)]
    rw [this]
theorem cnt_mono (has : Nat → Bool) (c : Nat) : ∀ d, cnt has c ≤ cnt has (c + d)
  | 0 => Nat.le_refl _
  | d + 1 => by have := cnt_mono has c d; rw [← Nat.add_assoc, cnt]; omega
theorem cnt_pos {has : Nat → Bool} {q c : Nat} (h : q < c) (hq : has q = true) : cnt has q < cnt has c := by
  have h1 := cnt_mono has (q + 1) (c - (q + 1))
  rw [show q + 1 + (c - (q + 1)) = c by omega, cnt, hq] at h1
  simp at h1; omega
theorem cnt_onto {has : Nat → Bool} : ∀ c j, j < cnt has c → ∃ q, q < c ∧ has q = true ∧ j = cnt has q
  | 0, j, h => absurd h (Nat.not_lt_zero _)
  | c + 1, j, h => by
    rw [cnt] at h
    by_cases hj : j < cnt has c
    · obtain ⟨q, h1, h2, h3⟩ := cnt_onto c j hj
      exact ⟨q, by omega, h2, h3⟩
    · cases hc : has c with
      | false => rw [hc] at h; simp at h; omega
      | true => rw [hc] at h; simp at h; exact ⟨c, by omega, hc, by omega⟩
/-- No row from r on has anything in column c. -/
theorem RefInv.skip {c r n : Nat} {has : Nat → Bool} {u u0 : Nat → V} (h : RefInv c r n has u u0) (hz : ∀ j, r ≤ j → j < n → u j c = 0) : RefInv (c + 1) r n (setH has c false) u u0 := by
  refine ⟨?_, h.rn, fun q hq hh => ?_, fun j h1 h2 i hi => ?_, h.bd, h.bd0, h.onto, h.from_⟩
  · rw [cnt, cnt_setH _ _ _ _ (Nat.le_refl _), show setH has c false c = false by unfold setH; rw [if_pos rfl]]
    have := h.req
    simpa using this
  · have hqc : q ≠ c := fun e => by subst e; unfold setH at hh; rw [if_pos rfl] at hh; cases hh
    have hh' : has q = true := by unfold setH at hh; rwa [if_neg hqc] at hh
    rw [cnt_setH _ _ _ _ (by omega)]
    exact h.piv q (by omega) hh'
  · by_cases hic : i < c
    · exact h.low j h1 h2 i hic
    · rw [show i = c by omega]; exact hz j h1 h2
/-- The rows with row p scaled into place r, and row r in place p. -/
def put (u : Nat → V) (r p c : Nat) (j : Nat) : V := if j = r then scl (inv (u p c)) (u p) else if j = p then u r else u j
/-- .. and with row r taken from all others. -/
def clear (u : Nat → V) (r c : Nat) (j : Nat) : V := if j = r then u r else add (u j) (scl (u j c) (u r))
theorem RefInv.step {c r n p : Nat} {has : Nat → Bool} {u u0 : Nat → V} (h : RefInv c r n has u u0) (hp : r ≤ p) (hpn : p < n) (hne : u p c ≠ 0) : RefInv (c + 1) (r + 1) n (setH has c true) (clear (put u r p c) r c) u0 := by
  have hrn : r < n := by omega
  have hx := h.bd p hpn c
  have hi := inv_lt _ hx
  have p_r : put u r p c r = scl (inv (u p c)) (u p) := if_pos rfl
  have p_lt : ∀ j, j < r → put u r p c j = u j := fun j hj => by unfold put; rw [if_neg (by omega), if_neg (by omega)]
  -- what each row is made of
  have hput : ∀ j, j < n → Bd (put u r p c j) := fun j hj => by
    unfold put; split
    · exact scl_bd hi _
    · split
      · exact h.bd r hrn
      · exact h.bd j hj
  have p_one : put u r p c r c = 1 := by rw [p_r]; show tm (inv (u p c)) (u p c) = 1; rw [tm_comm _ _ hi hx]; exact tm_inv _ hx hne
  have p_low : ∀ i, i < c → put u r p c r i = 0 := fun i hic => by rw [p_r]; show tm _ (u p i) = 0; rw [h.low p hp hpn i hic, tm_zero_right]
  have p_zero : ∀ j, r ≤ j → j < n → ∀ i, i < c → put u r p c j i = 0 := fun j h1 h2 i hic => by
    by_cases hjr : j = r
    · subst hjr; exact p_low i hic
    · unfold put; rw [if_neg hjr]
      split
      · exact h.low r (Nat.le_refl _) hrn i hic
      · exact h.low j h1 h2 i hic
  have c_r : clear (put u r p c) r c r = put u r p c r := if_pos rfl
  have c_at : ∀ j i, j ≠ r → clear (put u r p c) r c j i = put u r p c j i ^^^ tm (put u r p c j c) (put u r p c r i) := fun j i hj => by unfold clear; rw [if_neg hj]; rfl
  have c_low : ∀ j i, i < c → clear (put u r p c) r c j i = put u r p c j i := fun j i hic => by
    by_cases hj : j = r
    · subst hj; rw [c_r]
    · rw [c_at j i hj, p_low i hic, tm_zero_right, Nat.xor_zero]
  have c_c : ∀ j, j < n → j ≠ r → clear (put u r p c) r c j c = 0 := fun j hjn hj => by
    rw [c_at j c hj, p_one, tm_one_right _ (hput j hjn c), Nat.xor_self]
  have cbd : ∀ j, j < n → Bd (clear (put u r p c) r c j) := fun j hj => by
    unfold clear; split
    · exact hput r hrn
    · exact add_bd (hput j hj) (scl_bd (hput j hj c) _)
  -- the spans
  have to1 : ∀ j, j < n → Span (· < n) u (put u r p c j) := fun j hj => by
    unfold put; split
    · exact (Span.mem h.bd hpn).scl h.bd hi
    · split
      · exact Span.mem h.bd hrn
      · exact Span.mem h.bd hj
  have to2 : ∀ j, j < n → Span (· < n) u (clear (put u r p c) r c j) := fun j hj => by
    unfold clear; split
    · exact to1 r hrn
    · exact (to1 j hj).add ((to1 r hrn).scl h.bd (hput j hj c))
  have fr2 : ∀ j, j < n → Span (· < n) (clear (put u r p c) r c) (put u r p c j) := fun j hj => by
    have hr : Span (· < n) (clear (put u r p c) r c) (put u r p c r) := by have := Span.mem (P := (· < n)) cbd hrn; rwa [c_r] at this
    by_cases hjr : j = r
    · subst hjr; exact hr
    · have h1 := (Span.mem (P := (· < n)) cbd hj).add (hr.scl cbd (hput j hj c))
      have e : add (clear (put u r p c) r c j) (scl (put u r p c j c) (put u r p c r)) = put u r p c j := by
        unfold clear; rw [if_neg hjr, add_add_self]
      rwa [e] at h1
  have fr1 : ∀ j, j < n → Span (· < n) (clear (put u r p c) r c) (u j) := fun j hj => by
    by_cases hjp : j = p
    · subst hjp
      have h1 := (fr2 r hrn).scl cbd (c := u j c) hx
      rwa [p_r, scl_scl hx hi (h.bd j hj), tm_inv _ hx hne, scl_one (h.bd j hj)] at h1
    · by_cases hjr : j = r
      · subst hjr
        have h1 := fr2 p hpn
        have e : put u j p c p = u j := by unfold put; rw [if_neg (Ne.symm hjp), if_pos rfl]
        rwa [e] at h1
      · have h1 := fr2 j hj
        have e : put u r p c j = u j := by unfold put; rw [if_neg hjr, if_neg hjp]
        rwa [e] at h1
  refine ⟨?_, hrn, fun q hq hh => ?_, fun j h1 h2 i hi' => ?_, cbd, h.bd0, fun j hj => (to2 j hj).sub h.bd0 h.onto, fun j hj => (h.from_ j hj).sub cbd fr1⟩
  · rw [cnt, cnt_setH _ _ _ _ (Nat.le_refl _), show setH has c true c = true by unfold setH; rw [if_pos rfl], ← h.req]; rfl
  · rw [cnt_setH _ _ _ _ (by omega)]
    by_cases hqc : q = c
    · subst hqc
      rw [← h.req, c_r]
      exact ⟨p_one, p_low, fun j hj hne' => c_c j hj hne'⟩
    · have hh' : has q = true := by unfold setH at hh; rwa [if_neg hqc] at hh
      have hqc' : q < c := by omega
      have hlt : cnt has q < r := by rw [h.req]; exact cnt_pos hqc' hh'
      obtain ⟨g1, g2, g3⟩ := h.piv q hqc' hh'
      refine ⟨by rw [c_low _ q hqc', p_lt _ hlt]; exact g1, fun i hiq => by rw [c_low _ i (by omega), p_lt _ hlt]; exact g2 i hiq, fun j hj hne' => ?_⟩
      rw [c_low j q hqc']
      by_cases hjr : r ≤ j
      · exact p_zero j hjr hj q hqc'
      · rw [p_lt j (by omega)]; exact g3 j hj hne'
  · by_cases hic : i < c
    · rw [c_low j i hic]; exact p_zero j (by omega) h2 i hic
    · rw [show i = c by omega]; exact c_c j h2 (by omega)
theorem RefInv.congr {c r n : Nat} {has : Nat → Bool} {u u' u0 : Nat → V} (h : RefInv c r n has u u0) (e : ∀ j, j < n → u' j = u j) : RefInv c r n has u' u0 := by
  have hc : ∀ q, q < c → has q = true → cnt has q < n := fun q hq hh => by have := cnt_pos hq hh; have := h.rn; have := h.req; omega
  refine ⟨h.req, h.rn, fun q hq hh => ?_, fun j h1 h2 i hi => by rw [e j h2]; exact h.low j h1 h2 i hi, fun j hj => by rw [e j hj]; exact h.bd j hj, h.bd0, fun j hj => by rw [e j hj]; exact h.onto j hj, fun j hj => ?_⟩
  · obtain ⟨g1, g2, g3⟩ := h.piv q hq hh
    rw [e _ (hc q hq hh)]
    exact ⟨g1, g2, fun j hj hne => by rw [e j hj]; exact g3 j hj hne⟩
  · refine (h.from_ j hj).sub (fun i hi => by rw [e i hi]; exact h.bd i hi) fun i hi => ?_
    rw [← e i hi]
    exact Span.mem (fun i hi => by rw [e i hi]; exact h.bd i hi) hi
/-- At the end the rows are in steps. -/
theorem RefInv.ech {W r n : Nat} {has : Nat → Bool} {u u0 : Nat → V} (h : RefInv W r n has u u0) : Ech W (· < n) u has (cnt has) := by
  refine ⟨fun q hq hh => ?_, fun j hj => ?_, h.bd⟩
  · obtain ⟨g1, g2, _⟩ := h.piv q hq hh
    have := cnt_pos hq hh
    exact ⟨by have := h.rn; have := h.req; omega, by rw [g1]; omega, g2⟩
  · by_cases hjr : j < r
    · obtain ⟨q, h1, h2, h3⟩ := cnt_onto W j (by rw [← h.req]; exact hjr)
      exact .inl ⟨q, h1, h2, h3⟩
    · exact .inr fun i hi => h.low j (by omega) hj i hi
theorem RefInv.rankIs {W r n : Nat} {has : Nat → Bool} {u u0 : Nat → V} (h : RefInv W r n has u u0) : RankIs W (· < n) u0 r := by
  rw [h.req]
  exact h.ech.rank.of_span (fun v hv => hv.sub h.bd0 h.onto) fun v hv => hv.sub h.bd h.from_
/-- With all columns: row q has 1 at q alone, the rows behind have 0. -/
theorem RefInv.unit {W r n : Nat} {has : Nat → Bool} {u u0 : Nat → V} (h : RefInv W r n has u u0) (hr : r = W) : ∀ j, j < n → ∀ i, i < W → u j i = if j = i then 1 else 0 := by
  have hall : ∀ q, q < W → has q = true := cnt_all W (by rw [← h.req, hr])
  have hc : ∀ q, q ≤ W → cnt has q = q := fun q hq => cnt_full q fun c hc => hall c (by omega)
  intro j hj i hi
  obtain ⟨g1, _, g3⟩ := h.piv i hi (hall i hi)
  rw [hc i (by omega)] at g1 g3
  by_cases hji : j = i
  · subst hji; rw [if_pos rfl]; exact g1
  · rw [if_neg hji]; exact g3 j hj hji
end LA
end Go.Proofs.YtpfmmfapdcbnkaaDoor
namespace Go.Proofs.YtpfmmfapdcbnkaaDoor
set_option maxRecDepth 20000
open Go.RowKit Go.Deep
set_option linter.unusedVariables false
/-- v is the call's own slice of values that read as the first k of l. -/
def MatInv (w : World) (B : Nat) (v : Value) (k : Nat) (l : List (List Nat)) : Prop := ∃ vs, w.ownsRow B 29 1 v k vs ∧ ∀ j, j < k → ∃ u, vs[j]? = some u ∧ RowOk w B u (l.getD j [])
theorem MatInv.rws {w : World} {B : Nat} {v : Value} {k : Nat} {l : List (List Nat)} (h : MatInv w B v k l) (hk : k = l.length) : Rws w v l := by
  subst hk
  obtain ⟨vs, hown, hrow⟩ := h
  rcases hown.2 with ⟨rfl, h0⟩ | ⟨g, cap, cur, rfl, hbg, hg, hnc, hcm, hcs, htake⟩
  · exact .inl ⟨List.eq_nil_of_length_eq_zero h0, none, 0, rfl⟩
  · refine .inr ⟨g, 0, cap, rfl, hnc, hcm, (Array.getElem?_eq_some_iff.1 hg).1, fun j hj => ?_⟩
    obtain ⟨u, hu, ho⟩ := hrow j hj
    refine ⟨u, ?_, ho.1⟩
    have := hown.cells (g := g) rfl j u hu
    rw [Addr.add_mid] at this
    exact this
theorem MatInv.snoc {w w' : World} {B : Nat} {v v' u : Value} {k : Nat} {l : List (List Nat)} {vs : List Value} {r : List Nat} (hk : k = l.length) (hown : w.ownsRow B 29 1 v k vs) (hr : ∀ j, j < k → ∃ u, vs[j]? = some u ∧ RowOk w B u (l.getD j [])) (hu : RowOk w B u r)
    (hg : w.grownBy w' v.ownBlock) (ho : w'.ownsRow B 29 1 v' (k + 1) (vs ++ [u])) : MatInv w' B v' (k + 1) (l ++ [r]) := by
  have hl : vs.length = k := by have := hown.1; omega
  have keep : ∀ {x : Value} {xs : List Nat}, RowOk w B x xs → RowOk w' B x xs := fun {x xs} h => by
    by_cases hn : v.ownBlock = none
    · rw [hn] at hg
      exact h.ext (ext_below ⟨hg.os, hg.tape, hg.output, hg.size, fun i hi => hg.block i hi (by simp)⟩ rfl)
    · exact h.grown hg (h.apart (B' := B) hown (by decide) hn)
  refine ⟨vs ++ [u], ho, fun j hj => ?_⟩
  by_cases hjk : j < k
  · obtain ⟨u', hu', ho'⟩ := hr j hjk
    refine ⟨u', by rw [List.getElem?_append_left (by omega)]; exact hu', ?_⟩
    rw [show (l ++ [r]).getD j [] = l.getD j [] by simp [List.getD_eq_getElem?_getD, List.getElem?_append_left (show j < l.length by omega)]]
    exact keep ho'
  · obtain rfl : j = k := by omega
    refine ⟨u, by rw [List.getElem?_append_right (by omega), hl]; simp, ?_⟩
    rw [show (l ++ [r]).getD j [] = r by simp [hk]]
    exact keep hu
theorem MatInv.ext {w w' : World} {B : Nat} {v : Value} {k : Nat} {l : List (List Nat)} (h : MatInv w B v k l) (hx : w.Extends w') : MatInv w' B v k l := by
  obtain ⟨vs, ho, hr⟩ := h
  have hg : w.grownBy w' none := ⟨hx.os, hx.tape, hx.output, hx.size, fun i hi _ => hx.block i hi⟩
  refine ⟨vs, ho.kept hg (by cases v.ownBlock <;> simp), fun j hj => ?_⟩
  obtain ⟨u, h1, h2⟩ := hr j hj
  exact ⟨u, h1, h2.ext hx⟩
theorem MatInv.at {w : World} {B g n cap : Nat} {l : List (List Nat)} (h : MatInv w B (.slice (some ⟨g, 0, none⟩) n cap) n l) {j : Nat} (hj : j < n) :
    ∃ a c, w.cell? ⟨g, j, none⟩ = some (.slice a (l.getD j []).length c) ∧ RowOk w B (.slice a (l.getD j []).length c) (l.getD j []) := by
  obtain ⟨vs, ho, hr⟩ := h
  obtain ⟨u, h1, h2⟩ := hr j hj
  obtain ⟨a, c, rfl, _⟩ := h2.1.slice
  exact ⟨a, c, (ho.cellAt j (by omega)).trans h1, h2⟩
theorem MatInv.frozen {w : World} {B g n cap : Nat} {l : List (List Nat)} (h : MatInv w B (.slice (some ⟨g, 0, none⟩) n cap) n l) (j : Nat) : w.frozen? ⟨g, j, none⟩ = false := by
  obtain ⟨vs, ho, _⟩ := h; exact ho.frozenAt j
theorem MatInv.lt {w : World} {B g n cap : Nat} {l : List (List Nat)} (h : MatInv w B (.slice (some ⟨g, 0, none⟩) n cap) n l) : B ≤ g ∧ g < w.heap.size := by
  obtain ⟨vs, ho, _⟩ := h; exact ho.lt g rfl
theorem MatInv.set {w : World} {B g n cap : Nat} {l : List (List Nat)} {u : Value} {xs : List Nat} (h : MatInv w B (.slice (some ⟨g, 0, none⟩) n cap) n l) {j : Nat} (hj : j < n) (hl : l.length = n) (hu : RowOk w B u xs) :
    MatInv (w.setCell ⟨g, j, none⟩ u) B (.slice (some ⟨g, 0, none⟩) n cap) n (l.set j xs) := by
  obtain ⟨vs, ho, hr⟩ := h
  have hvl : vs.length = n := by have := ho.1; omega
  obtain ⟨ho', hg⟩ := ho.stored j u
  have keep : ∀ {x : Value} {ys : List Nat}, RowOk w B x ys → RowOk (w.setCell ⟨g, j, none⟩ u) B x ys := fun {x ys} h => h.grown hg (h.apart (B' := B) ho (by decide) (by simp [Value.ownBlock]))
  refine ⟨vs.set j u, ho', fun i hi => ?_⟩
  by_cases hij : i = j
  · subst hij
    refine ⟨u, by simp [hvl, hi], ?_⟩
    rw [show (l.set i xs).getD i [] = xs by simp [List.getD_eq_getElem?_getD, hl, hi]]
    exact keep hu
  · obtain ⟨x, h1, h2⟩ := hr i hi
    refine ⟨x, by simp [Ne.symm hij, h1], ?_⟩
    rw [show (l.set j xs).getD i [] = l.getD i [] by simp [List.getD_eq_getElem?_getD, Ne.symm hij]]
    exact keep h2
theorem MatInv.congr {w : World} {B n : Nat} {v : Value} {l l' : List (List Nat)} (h : MatInv w B v n l) (e : l = l') : MatInv w B v n l' := e ▸ h
/-- All rows of one length, of bytes. -/
def Rect (n L : Nat) (l : List (List Nat)) : Prop := l.length = n ∧ (∀ j, j < n → (l.getD j []).length = L) ∧ ∀ r ∈ l, ∀ x ∈ r, x < 256
theorem getD_set_rows (l : List (List Nat)) (i j : Nat) (x : List Nat) (hi : i < l.length) : (l.set i x).getD j [] = if j = i then x else l.getD j [] := by
  by_cases h : j = i
  · subst h; simp [hi]
  · rw [if_neg h]; simp [List.getD_eq_getElem?_getD, Ne.symm h]
theorem Rect.set {n L : Nat} {l : List (List Nat)} (h : Rect n L l) {i : Nat} (hi : i < n) {x : List Nat} (hx : x.length = L) (hb : ∀ y ∈ x, y < 256) : Rect n L (l.set i x) := by
  refine ⟨by simp [h.1], fun j hj => ?_, fun r hr => ?_⟩
  · rw [getD_set_rows l i j x (by rw [h.1]; exact hi)]
    split
    · exact hx
    · exact h.2.1 j hj
  · rcases List.mem_or_eq_of_mem_set hr with h' | h'
    · exact h.2.2 r h'
    · subst h'; exact hb
theorem getD_mem_lt' {l : List (List Nat)} (h : ∀ r ∈ l, ∀ x ∈ r, x < 256) (j : Nat) : ∀ x ∈ l.getD j [], x < 256 := by
  by_cases hj : j < l.length
  · rw [List.getD_eq_getElem?_getD, List.getElem?_eq_getElem hj]; exact h _ (List.getElem_mem hj)
  · rw [List.getD_eq_getElem?_getD, List.getElem?_eq_none (by omega)]; intro x hx; cases hx
theorem Rect.row_lt {n L : Nat} {l : List (List Nat)} (h : Rect n L l) (j : Nat) : ∀ x ∈ l.getD j [], x < 256 := getD_mem_lt' h.2.2 j
/-- Row p, scaled, in place r, and row r in place p. -/
def putL (l : List (List Nat)) (r p c : Nat) : List (List Nat) := (l.set p (l.getD r [])).set r (RM.scale (FM.inv ((l.getD p []).getD c 0)) (l.getD p []))
theorem Rect.put {n L r p c : Nat} {l : List (List Nat)} (h : Rect n L l) (hr : r < n) (hp : p < n) : Rect n L (putL l r p c) :=
  (h.set hp (h.2.1 r hr) (h.row_lt r)).set hr (by rw [RM.scale_length]; exact h.2.1 p hp) (RM.scale_lt _ _ (FM.inv_lt _ (getD_lt _ (h.row_lt p) c)))
end Go.Proofs.YtpfmmfapdcbnkaaDoor
namespace Go.Proofs.YtpfmmfapdcbnkaaDoor
set_option maxRecDepth 20000
open Go.RowKit
set_option maxHeartbeats 400000 in
theorem raise_any (a n : Nat) (ha : a < 256) (hn : n < 256) (w : World) :
    Calls Tryd.prog 73 #[.int .u8 a, .int .i64 n] w fun e w' => e = .returned (.int .u8 (FM.pw a n : Nat)) ∧ w = w' := by
  have HF : Hid (FM.rloop 8 1 a n = FM.pw a n) := by
    show _ = _
    rw [FM.rloop_eq 8 1 a n (by omega) ha hn, FM.tm_one_left _ (FM.pw_lt a _ ha)]
  go_enter Tryd.func73, Tryd.ntmps73
  go_wp2
  go_loop [0, 1, 5] (fun x y z => ∃ k p a' n' : Nat, k ≤ 8 ∧ p < 256 ∧ a' < 256 ∧ n' < 2 ^ k ∧ x = .int .u8 a' ∧ y = .int .i64 n' ∧ z = .int .u8 p ∧ Hid (FM.rloop k p a' n' = FM.rloop 8 1 a n)) (fun _ y _ => (intOf y).toNat)
  case atStart => exact ⟨8, 1, a, n, by omega, by omega, ha, hn, rfl, rfl, rfl, rfl⟩
  case round =>
    obtain ⟨k, p, a', n', hk, hp, ha', hn', rfl, rfl, rfl, H⟩ := hrel
    by_cases h0 : n' = 0
    · subst h0
      go_wp2
      go_ret
      exact ⟨retu8 (by rw [← HF.out, ← H.out, FM.rloop_zero]), rfl⟩
    · have e0 : 0 < n' := by omega
      obtain ⟨k, rfl⟩ : ∃ j, k = j + 1 := ⟨k - 1, by
        have : k ≠ 0 := by intro h; subst h; simp at hn'; omega
        omega⟩
      have hb256 : n' < 256 := Nat.lt_of_lt_of_le hn' (Nat.pow_le_pow_right (by omega) hk)
      have hb2 : Hid (n' / 2 < 2 ^ k) := by rw [Nat.pow_succ] at hn'; show _ < _; omega
      have e1 := i64_and1 n' (by omega)
      have hd := FM.tm_lt a' a' ha'
      have hx := FM.tm_lt p a' hp
      clear hn'
      by_cases h1 : n' % 2 = 1
      · rw [h1] at e1
        go_wp2_with fail
        refine (times_any _ _ hp ha' _).mono ?_
        rintro e w' ⟨rfl, rfl⟩
        go_wp2_with fail
        refine (times_any _ _ ha' ha' _).mono ?_
        rintro e w' ⟨rfl, rfl⟩
        go_wp2
        go_round
        case rel => exact ⟨k, FM.tm p a', FM.tm a' a', n' / 2, by omega, hx, hd, hb2.out, rfl, by go_num, rfl, by rw [← H.out]; simp [FM.rloop, h1, Hid]⟩
        case measure => simp [intOf]; omega
      · have h2 : n' % 2 = 0 := by omega
        rw [h2] at e1
        go_wp2_with fail
        refine (times_any _ _ ha' ha' _).mono ?_
        rintro e w' ⟨rfl, rfl⟩
        go_wp2
        go_round
        case rel => exact ⟨k, p, FM.tm a' a', n' / 2, by omega, hp, hd, hb2.out, rfl, by go_num, rfl, by rw [← H.out]; simp [FM.rloop, h1, Hid]⟩
        case measure => simp [intOf]; omega
end Go.Proofs.YtpfmmfapdcbnkaaDoor
namespace Go.Proofs.YtpfmmfapdcbnkaaDoor
set_option maxRecDepth 20000
open Go.RowKit
set_option maxHeartbeats 400000 in
theorem inv_any (a : Nat) (ha : a < 256) (w : World) :
    Calls Tryd.prog 65 #[.int .u8 a] w fun e w' => e = .returned (.int .u8 (FM.inv a : Nat)) ∧ w = w' := by
  go_enter Tryd.func65, Tryd.ntmps65
  go_wp2_with fail
  refine (raise_any a 254 ha (by omega) _).mono ?_
  rintro e w' ⟨rfl, rfl⟩
  go_wp2
  go_ret
  exact ⟨rfl, rfl⟩
end Go.Proofs.YtpfmmfapdcbnkaaDoor
namespace Go.Proofs.YtpfmmfapdcbnkaaDoor
set_option maxRecDepth 20000
open Go.RowKit
set_option linter.unusedVariables false
/-- A pair of new rows: what a call answers. -/
def MadeEqn (w : World) (l r : List Nat) (e : Ending) (w' : World) : Prop :=
  ∃ b1 b2, e = .returned (.agg #[.slice (some ⟨b1, 0, none⟩) l.length l.length, .slice (some ⟨b2, 0, none⟩) r.length r.length]) ∧ Own w' b1 5 l ∧ Own w' b2 5 r ∧ Below w.heap.size w w'
theorem eqinfo2 (a b : Value) : (Tryd.prog.info? 121).map (·.size) = some (#[a, b] : Array Value).size := by show _ = some 2; kernel_rfl
theorem one2 (a b : Option Addr) (n m c d : Nat) : (#[Value.slice a n c, Value.slice b m d] : Array Value).all (·.oneCell') = true := by simp [Value.oneCell']
theorem two_cells (w : World) (o : Obj) (T : TypeId) (u v : Value) (c d : Value) : ((w.alloc (.cells #[u, v] T)).alloc (.cells #[c, d] T)).cell? ⟨w.heap.size, 0, none⟩ = some u ∧ ((w.alloc (.cells #[u, v] T)).alloc (.cells #[c, d] T)).cell? ⟨w.heap.size, 1, none⟩ = some v := by
  have h := (heap_alloc_new w (.cells #[u, v] T))
  have h2 : ((w.alloc (.cells #[u, v] T)).alloc (.cells #[c, d] T)).heap[w.heap.size]? = some (.cells #[u, v] T) := by rw [Go.heap_alloc_old (w := _) (o := _) (h := by simp), h]
  exact ⟨by rw [cell_of_row _ _ _ _ _ _ h2]; rfl, by rw [cell_of_row _ _ _ _ _ _ h2]; rfl⟩
set_option maxHeartbeats 1000000 in
theorem eqTimes_any (c : Nat) (u v : Value) (l r : List Nat) (w : World) (hc : c < 256) (hu : U8s w u l) (hv : U8s w v r) (hl : l.length ≤ 281474976710656) (hr : r.length ≤ 281474976710656) :
    Calls Tryd.prog 64 #[.agg #[u, v], .int .u8 c] w (MadeEqn w (RM.scale c l) (RM.scale c r)) := by
  have HU := Lib.hid hu
  have HV := Lib.hid hv
  obtain ⟨ua, uc, rfl, _, _⟩ := hu.slice
  obtain ⟨va, vc, rfl, _, _⟩ := hv.slice
  clear hu hv
  generalize hln : l.length = ln at *
  generalize hrn : r.length = rn at *
  have HLN := Lib.hid hln; clear hln
  have HRN := Lib.hid hrn; clear hrn
  go_enter Tryd.func64, Tryd.ntmps64
  go_wp2_with fail
  generalize hw2 : World.alloc (World.alloc w _) _ = w2
  have hx2 : w.Extends w2 := by subst hw2; exact Gr.ext_trans (ext_alloc _ _) (ext_alloc _ _)
  have hc2 : w2.cell? ⟨w.heap.size, 0, none⟩ = some (.slice ua ln uc) ∧ w2.cell? ⟨w.heap.size, 1, none⟩ = some (.slice va rn vc) := by subst hw2; exact two_cells w (.cells #[] 0) _ _ _ _ _
  have hs2 : w2.heap.size = w.heap.size + 2 := by subst hw2; simp
  have hg2 : w2.heap[w.heap.size + 1]? = some (.cells #[.slice none 0 0, .slice none 0 0] 121) := by subst hw2; exact heap_alloc2_new _ _ _
  obtain ⟨b, hb⟩ : ∃ b, b = w.heap.size := ⟨_, rfl⟩
  rw [← hb] at hc2 hs2 hg2 ⊢
  have hbs : b + 1 < w2.heap.size := by omega
  have HB := Lib.hid hb; clear hb
  have HL1 : Hid (∀ w', w2.Extends w' → w'.cell? ⟨b, 0, none⟩ = some (.slice ua ln uc)) := fun w' hw' => hw'.cell_of hc2.1
  have HL2 : Hid (∀ w', w2.Extends w' → w'.cell? ⟨b, 1, none⟩ = some (.slice va rn vc)) := fun w' hw' => hw'.cell_of hc2.2
  have HX2 := Lib.hid hx2
  have HG2 := Lib.hid hg2
  have HS2 := Lib.hid hs2
  clear hw2 hc2 hx2 hg2 hs2
  refine Gr.region 9 [(false,0),(false,1),(false,2),(false,4),(false,5),(false,6),(true,3),(true,7),(false,8)] (by kernel_rfl) (by kernel_rfl) (fun d _ _ _ _ h => by cases d <;> exact h) ?_
  simp only [Gr.pick, List.getElem?_cons_zero, List.getElem?_cons_succ, List.drop_succ_cons, List.drop_zero]
  iterate 6
    refine Gr.walk_t ?_ (Or.inl ⟨by rfl, ?_⟩) ?_
    rotate_left
    · intro w' hw'
      have hc1 := HL1.out w' (Gr.of_drew hw')
      have hc2 := HL2.out w' (Gr.of_drew hw')
      clear hw'
      go_simp
      try with_reducible rfl
    simp only [Act.put, List.setIfInBounds_toArray, List.set_cons_zero, List.set_cons_succ]
  refine Gr.walk_c (fun K hK => ?_)
  go_simp
  refine (scale_any c _ l _ hc (HU.out.ext (Gr.ext_drew HX2.out)) (by rw [HLN.out]; exact hl)).mono ?_
  rintro e w3 ⟨rfl, hb3, ho3⟩
  rw [HLN.out]
  have hx3 := ext_below hb3 rfl
  have HO3 := Lib.hid ho3
  have HX3 := Lib.hid (Gr.ext_trans (Gr.ext_drew HX2.out) hx3)
  have HY3 := Lib.hid (Gr.of_drew hx3)
  clear ho3 hb3
  try go_simp
  refine hK.out _ _ hx3 ?_
  clear hK K hx3
  refine Gr.walk_c (fun K hK => ?_)
  go_simp
  refine (scale_any c _ r _ hc (HV.out.ext HX3.out) (by rw [HRN.out]; exact hr)).mono ?_
  rintro e w4 ⟨rfl, hb4, ho4⟩
  rw [HRN.out]
  have hx4 := ext_below hb4 rfl
  have HO4 := Lib.hid ho4
  have HP4 := Lib.hid (HO3.out.below hb4 HO3.out.lt)
  have HX4 := Lib.hid (Gr.ext_trans HX3.out hx4)
  have HY4 := Lib.hid (Gr.ext_trans HY3.out hx4)
  have hlt3 := Nat.lt_of_lt_of_le hbs HY3.out.size
  clear ho4 hb4
  try go_simp
  refine hK.out _ _ hx4 ?_
  clear hK K hx4
  refine Gr.walk_t ?_ (Or.inl ⟨by rfl, ?_⟩) ?_
  rotate_left
  · intro w' hw'
    clear hw'
    go_simp
    try with_reducible rfl
  simp only [Act.put, List.setIfInBounds_toArray, List.set_cons_zero, List.set_cons_succ]
  refine Gr.walk_nil ?_
  have hg4 := (HY4.out.block (b + 1) hbs).trans HG2.out
  have HFIN : Hid (∀ cs : Array Value, Own (w4.setRow (b + 1) cs) w2.heap.size 5 (RM.scale c l) ∧ Own (w4.setRow (b + 1) cs) w3.heap.size 5 (RM.scale c r) ∧ Below b w (w4.setRow (b + 1) cs)) := fun cs =>
    ⟨HP4.out.block (setRow_other _ _ _ _ (by show w2.heap.size ≠ b + 1; omega)), HO4.out.block (setRow_other _ _ _ _ (by omega)), by
      have h := Gr.below_of HX4.out
      rw [← HB.out] at h
      exact h.trans ⟨rfl, rfl, rfl, by simp, fun i hi => setRow_other _ _ i _ (by omega)⟩⟩
  have hres : (w4.setRow (b + 1) #[.slice (some ⟨w2.heap.size, 0, none⟩) ln ln, .slice (some ⟨w3.heap.size, 0, none⟩) rn rn]).heap[b + 1]? = some (.cells #[.slice (some ⟨w2.heap.size, 0, none⟩) ln ln, .slice (some ⟨w3.heap.size, 0, none⟩) rn rn] 121 (0, 0)) := setRow_heap _ _ _ _ _ _ hg4
  refine wpList_store_row rfl 121 (.tmp 4) (.tmp 13) rfl (b + 1) _ rfl rfl 121 _ hg4 (eqinfo2 _ _) rfl (one2 _ _ _ _ _ _) ?_
  go_wp2
  refine bodyPost_ret (v := .agg #[.slice (some ⟨w2.heap.size, 0, none⟩) ln ln, .slice (some ⟨w3.heap.size, 0, none⟩) rn rn]) (results_cell_row rfl _ _ (b + 1) 121 _ (0, 0) _ rfl hres Tryd.underlying121 rfl (eqinfo2 _ _)) rfl ⟨w2.heap.size, w3.heap.size, ?_, (HFIN.out _).1, (HFIN.out _).2.1, ?_⟩
  · rw [RM.scale_length, RM.scale_length, HLN.out, HRN.out]
  · rw [← HB.out]; exact (HFIN.out _).2.2
end Go.Proofs.YtpfmmfapdcbnkaaDoor
namespace Go.Proofs.YtpfmmfapdcbnkaaDoor
set_option maxRecDepth 20000
open Go.RowKit
set_option linter.unusedVariables false
theorem Own.ext {w w' : World} {b : Nat} {T : TypeId} {xs : List Nat} (h : Own w b T xs) (hx : w.Extends w') : Own w' b T xs := h.block (hx.block b h.lt)
/-- A new row of a call's own. -/
def MadeOwn (w : World) (xs : List Nat) (e : Ending) (w' : World) : Prop := ∃ b, e = .returned (.slice (some ⟨b, 0, none⟩) xs.length xs.length) ∧ w.Extends w' ∧ Own w' b 5 xs
theorem cut_nat (m : Nat) (h : m ≤ 1000) : RM.cut (m : Int) = m := by unfold RM.cut; omega
theorem sum_own (m : Nat) (v : Value) (l : List (List Nat)) (w : World) (hm : m ≤ 1000) (hv : Rws w v l) : Calls Tryd.prog 45 #[.int .i64 m, v] w (MadeOwn w (RM.sum m l)) :=
  (sum_any m v l w hv).mono fun e w' ⟨he, hb, ho⟩ => by
    rw [cut_nat m hm] at he ho
    exact ⟨w.heap.size, by rw [RM.sum_length]; exact he, Gr.ext_of hb, ho⟩
theorem own_not {w : World} {b : Nat} {T T' : TypeId} {xs : List Nat} {cs : Array Value} (h : Own w b T xs) (hT : T ≠ T') : ¬ w.heap[b]? = some (.cells cs T' (0, 0)) := fun h' => by
  obtain ⟨c, hc, _⟩ := h.1
  rw [hc] at h'
  simp only [Option.some.injEq, Obj.cells.injEq] at h'
  exact hT h'.2.1
theorem eqn_fin (w4 w : World) (b bl br ln rn : Nat) (xs ys : List Nat) (cs : Array Value) (h1 : Own w4 bl 5 xs) (h2 : Own w4 br 5 ys) (n1 : bl ≠ b + 2) (n2 : br ≠ b + 2) (hx : w.Extends w4) (hb : w.heap.size ≤ b + 2) :
    Own (w4.setRow (b + 2) cs) bl 5 xs ∧ Own (w4.setRow (b + 2) cs) br 5 ys ∧ Below w.heap.size w (w4.setRow (b + 2) cs) :=
  ⟨h1.block (setRow_other _ _ _ _ n1), h2.block (setRow_other _ _ _ _ n2), (Gr.below_of hx).trans ⟨rfl, rfl, rfl, by simp, fun i hi => setRow_other _ _ i _ (by omega)⟩⟩
theorem three_cells (w : World) (T : TypeId) (u v x y : Value) (c d : Value) : (((w.alloc (.cells #[u, v] T)).alloc (.cells #[x, y] T)).alloc (.cells #[c, d] T)).cell? ⟨w.heap.size, 0, none⟩ = some u ∧ (((w.alloc (.cells #[u, v] T)).alloc (.cells #[x, y] T)).alloc (.cells #[c, d] T)).cell? ⟨w.heap.size, 1, none⟩ = some v ∧
    (((w.alloc (.cells #[u, v] T)).alloc (.cells #[x, y] T)).alloc (.cells #[c, d] T)).cell? ⟨w.heap.size + 1, 0, none⟩ = some x ∧ (((w.alloc (.cells #[u, v] T)).alloc (.cells #[x, y] T)).alloc (.cells #[c, d] T)).cell? ⟨w.heap.size + 1, 1, none⟩ = some y ∧
    (((w.alloc (.cells #[u, v] T)).alloc (.cells #[x, y] T)).alloc (.cells #[c, d] T)).heap[w.heap.size + 2]? = some (.cells #[c, d] T) := by
  have h := (heap_alloc_new w (.cells #[u, v] T))
  have h2 : ((w.alloc (.cells #[u, v] T)).alloc (.cells #[x, y] T)).heap[w.heap.size]? = some (.cells #[u, v] T) := by rw [Go.heap_alloc_old (w := _) (o := _) (h := by simp), h]
  have h3 : (((w.alloc (.cells #[u, v] T)).alloc (.cells #[x, y] T)).alloc (.cells #[c, d] T)).heap[w.heap.size]? = some (.cells #[u, v] T) := by rw [Go.heap_alloc_old (w := _) (o := _) (h := by simp; omega), h2]
  have h4 : (((w.alloc (.cells #[u, v] T)).alloc (.cells #[x, y] T)).alloc (.cells #[c, d] T)).heap[w.heap.size + 1]? = some (.cells #[x, y] T) := by rw [Go.heap_alloc_old (w := _) (o := _) (h := by simp), heap_alloc2_new]
  have h5 := heap_alloc_new ((w.alloc (.cells #[u, v] T)).alloc (.cells #[x, y] T)) (.cells #[c, d] T)
  exact ⟨by rw [cell_of_row _ _ _ _ _ _ h3]; rfl, by rw [cell_of_row _ _ _ _ _ _ h3]; rfl, by rw [cell_of_row _ _ _ _ _ _ h4]; rfl, by rw [cell_of_row _ _ _ _ _ _ h4]; rfl, by simpa using h5⟩
set_option maxHeartbeats 2000000 in
theorem eqPlus_any (u v p q : Value) (l1 r1 l2 r2 : List Nat) (w : World) (hu : U8s w u l1) (hv : U8s w v r1) (hp : U8s w p l2) (hq : U8s w q r2) (hl : l1.length ≤ 1000) (hr : r1.length ≤ 1000) :
    Calls Tryd.prog 66 #[.agg #[u, v], .agg #[p, q]] w (MadeEqn w (RM.sum l1.length [l1, l2]) (RM.sum r1.length [r1, r2])) := by
  have HU := Lib.hid hu
  have HV := Lib.hid hv
  have HP := Lib.hid hp
  have HQ := Lib.hid hq
  obtain ⟨ua, uc, rfl, _, _⟩ := hu.slice
  obtain ⟨va, vc, rfl, _, _⟩ := hv.slice
  obtain ⟨pa, pc, rfl, _, _⟩ := hp.slice
  obtain ⟨qa, qc, rfl, _, _⟩ := hq.slice
  clear hu hv hp hq
  generalize hln : l1.length = ln at *
  generalize hrn : r1.length = rn at *
  have HLN := Lib.hid hln; clear hln
  have HRN := Lib.hid hrn; clear hrn
  go_enter Tryd.func66, Tryd.ntmps66
  go_wp2_with fail
  generalize hw2 : World.alloc (World.alloc (World.alloc w _) _) _ = w2
  have hx2 : w.Extends w2 := by subst hw2; exact Gr.ext_trans (Gr.ext_trans (ext_alloc _ _) (ext_alloc _ _)) (ext_alloc _ _)
  have hc2 := three_cells w 121 (.slice ua ln uc) (.slice va rn vc) (.slice pa l2.length pc) (.slice qa r2.length qc) (.slice none 0 0) (.slice none 0 0)
  rw [hw2] at hc2
  have hs2 : w2.heap.size = w.heap.size + 3 := by subst hw2; simp
  obtain ⟨b, hb⟩ : ∃ b, b = w.heap.size := ⟨_, rfl⟩
  rw [← hb] at hc2 hs2 ⊢
  have hbs : b + 2 < w2.drew.heap.size := by show b + 2 < w2.heap.size; omega
  have HBB := Lib.hid hb; clear hb
  have HL1 : Hid (∀ w', w2.Extends w' → w'.cell? ⟨b, 0, none⟩ = some (.slice ua ln uc)) := fun w' hw' => hw'.cell_of hc2.1
  have HL2 : Hid (∀ w', w2.Extends w' → w'.cell? ⟨b, 1, none⟩ = some (.slice va rn vc)) := fun w' hw' => hw'.cell_of hc2.2.1
  have HL3 : Hid (∀ w', w2.Extends w' → w'.cell? ⟨b + 1, 0, none⟩ = some (.slice pa l2.length pc)) := fun w' hw' => hw'.cell_of hc2.2.2.1
  have HL4 : Hid (∀ w', w2.Extends w' → w'.cell? ⟨b + 1, 1, none⟩ = some (.slice qa r2.length qc)) := fun w' hw' => hw'.cell_of hc2.2.2.2.1
  have HX2 := Lib.hid (Gr.ext_drew hx2)
  have HG2 : Hid (w2.drew.heap[b + 2]? = _) := hc2.2.2.2.2
  have HS2 := Lib.hid hs2
  clear hw2 hc2 hx2 hs2
  refine Gr.regionE 19 5 [(false,0),(false,1),(false,2),(false,3),(false,4),(false,5),(false,6),(false,9),(false,10),(false,11),(false,12),(false,13),(false,14),(false,15)] (by kernel_rfl) (by kernel_rfl) (fun d _ _ _ _ h => by cases d <;> exact h) ?_
  simp only [Gr.pick, List.getElem?_cons_zero, List.getElem?_cons_succ]
  obtain ⟨wd, hwd⟩ : ∃ x, x = w2.drew := ⟨_, rfl⟩
  have hT : ∀ {w'}, wd.Extends w' → w2.Extends w' := fun h => Gr.of_drew (hwd ▸ h)
  rw [← hwd] at HX2 HG2 hbs ⊢
  clear hwd
  iterate 14
    refine Gr.walkE_t ?_ (Or.inl ⟨by rfl, ?_⟩) ?_
    rotate_left
    · intro w' hw'
      have hc1 := HL1.out w' (hT hw')
      have hc2 := HL2.out w' (hT hw')
      have hc3 := HL3.out w' (hT hw')
      have hc4 := HL4.out w' (hT hw')
      clear hw'
      go_simp
      try with_reducible rfl
    simp only [Act.put, List.setIfInBounds_toArray, List.set_cons_zero, List.set_cons_succ]
  refine Gr.walkE_nil ?_
  have HX := Lib.hid (Gr.ext_refl wd)
  clear hT HL1 HL2 HL3 HL4
  refine Gr.Left.two (i := 7) (j := 16) (by kernel_rfl) (by kernel_rfl) (Gr.Step.mk rfl (fun K hK => ?_)) (Gr.Step.mk rfl (fun K hK => ?_))
  · skip
    go_simp
    generalize hw : World.alloc _ _ = w1_
    have hx : wd.Extends w1_ := by subst hw; exact ext_alloc _ _
    have HA0 : Rws w1_ (.slice (some ⟨wd.heap.size, 0, none⟩) 2 2) [l1, l2] := by subst hw; exact rws_two _ _ _ _ _ _ _ (HU.out.ext (Gr.ext_trans HX2.out HX.out)) (HP.out.ext (Gr.ext_trans HX2.out HX.out))
    clear hw
    refine hK.out _ _ hx ?_
    clear hK K
    have HA := Lib.hid HA0
    clear HA0
    have HX := Lib.hid (Gr.ext_trans HX.out hx)
    clear hx
    refine Gr.Left.two (i := 8) (j := 16) (by kernel_rfl) (by kernel_rfl) (Gr.Step.mk rfl (fun K hK => ?_)) (Gr.Step.mk rfl (fun K hK => ?_))
    · skip
      go_simp
      refine (sum_own ln _ [l1, l2] _ hl HA.out).mono ?_
      rintro e w2_ ⟨bl, he, hx, ho⟩
      rw [RM.sum_length] at he
      subst he
      have HL0 := ho
      clear ho
      try go_simp
      refine hK.out _ _ hx ?_
      clear hK K
      have HA := Lib.hid (HA.out.ext hx)
      have HL := Lib.hid HL0
      clear HL0
      have HX := Lib.hid (Gr.ext_trans HX.out hx)
      clear hx
      refine Gr.Left.one (i := 16) (by kernel_rfl) (by kernel_rfl) (Gr.Step.mk rfl (fun K hK => ?_))
      go_simp
      generalize hw : World.alloc _ _ = w3_
      have hx : w2_.Extends w3_ := by subst hw; exact ext_alloc _ _
      have HB0 : Rws w3_ (.slice (some ⟨w2_.heap.size, 0, none⟩) 2 2) [r1, r2] := by subst hw; exact rws_two _ _ _ _ _ _ _ (HV.out.ext (Gr.ext_trans HX2.out HX.out)) (HQ.out.ext (Gr.ext_trans HX2.out HX.out))
      clear hw
      refine hK.out _ _ hx ?_
      clear hK K
      have HA := Lib.hid (HA.out.ext hx)
      have HL := Lib.hid (HL.out.ext hx)
      have HB := Lib.hid HB0
      clear HB0
      have HX := Lib.hid (Gr.ext_trans HX.out hx)
      clear hx
      refine Gr.Left.one (i := 17) (by kernel_rfl) (by kernel_rfl) (Gr.Step.mk rfl (fun K hK => ?_))
      go_simp
      refine (sum_own rn _ [r1, r2] _ hr HB.out).mono ?_
      rintro e w4_ ⟨br, he, hx, ho⟩
      rw [RM.sum_length] at he
      subst he
      have HR0 := ho
      clear ho
      try go_simp
      refine hK.out _ _ hx ?_
      clear hK K
      have HA := Lib.hid (HA.out.ext hx)
      have HL := Lib.hid (HL.out.ext hx)
      have HB := Lib.hid (HB.out.ext hx)
      have HR := Lib.hid HR0
      clear HR0
      have HX := Lib.hid (Gr.ext_trans HX.out hx)
      clear hx
      refine Gr.Left.take (i := 18) rfl (by kernel_rfl) (fun d _ _ _ _ h => by cases d <;> exact h) ?_ (Or.inl ⟨by rfl, ?_⟩) ?_
      rotate_left
      · intro w' hw'
        clear hw'
        go_simp
        try with_reducible rfl
      simp only [Act.put, List.setIfInBounds_toArray, List.set_cons_zero, List.set_cons_succ]
      refine Gr.Left.done (by kernel_rfl) ?_
      simp only [List.drop_succ_cons, List.drop_zero]
      have hg4 := (HX.out.block (b + 2) hbs).trans HG2.out
      have hnl : bl ≠ b + 2 := fun h => own_not HL.out (by decide) (h ▸ hg4)
      have hnr : br ≠ b + 2 := fun h => own_not HR.out (by decide) (h ▸ hg4)
      have HX0 := Lib.hid (Gr.ext_trans HX2.out HX.out)
      have HFIN := Lib.hid (eqn_fin w4_ w b bl br ln rn (RM.sum ln [l1, l2]) (RM.sum rn [r1, r2]) #[.slice (some ⟨bl, 0, none⟩) ln ln, .slice (some ⟨br, 0, none⟩) rn rn] HL.out HR.out hnl hnr HX0.out (by rw [← HBB.out]; exact Nat.le_add_right _ _))
      have hres : (w4_.setRow (b + 2) #[.slice (some ⟨bl, 0, none⟩) ln ln, .slice (some ⟨br, 0, none⟩) rn rn]).heap[b + 2]? = some (.cells #[.slice (some ⟨bl, 0, none⟩) ln ln, .slice (some ⟨br, 0, none⟩) rn rn] 121 (0, 0)) := setRow_heap _ _ _ _ _ _ hg4
      refine wpList_store_row rfl 121 (.tmp 4) (.tmp 23) rfl (b + 2) _ rfl rfl 121 _ hg4 (eqinfo2 _ _) rfl (one2 _ _ _ _ _ _) ?_
      go_wp2
      exact bodyPost_ret (v := .agg #[.slice (some ⟨bl, 0, none⟩) ln ln, .slice (some ⟨br, 0, none⟩) rn rn]) (results_cell_row rfl _ _ (b + 2) 121 _ (0, 0) _ rfl hres Tryd.underlying121 rfl (eqinfo2 _ _)) rfl ⟨bl, br, by rw [RM.sum_length, RM.sum_length], HFIN.out⟩
    · skip
      go_simp
      generalize hw : World.alloc _ _ = w5_
      have hx : w1_.Extends w5_ := by subst hw; exact ext_alloc _ _
      have HB0 : Rws w5_ (.slice (some ⟨w1_.heap.size, 0, none⟩) 2 2) [r1, r2] := by subst hw; exact rws_two _ _ _ _ _ _ _ (HV.out.ext (Gr.ext_trans HX2.out HX.out)) (HQ.out.ext (Gr.ext_trans HX2.out HX.out))
      clear hw
      refine hK.out _ _ hx ?_
      clear hK K
      have HA := Lib.hid (HA.out.ext hx)
      have HB := Lib.hid HB0
      clear HB0
      have HX := Lib.hid (Gr.ext_trans HX.out hx)
      clear hx
      refine Gr.Left.one (i := 8) (by kernel_rfl) (by kernel_rfl) (Gr.Step.mk rfl (fun K hK => ?_))
      go_simp
      refine (sum_own ln _ [l1, l2] _ hl HA.out).mono ?_
      rintro e w6_ ⟨bl, he, hx, ho⟩
      rw [RM.sum_length] at he
      subst he
      have HL0 := ho
      clear ho
      try go_simp
      refine hK.out _ _ hx ?_
      clear hK K
      have HA := Lib.hid (HA.out.ext hx)
      have HB := Lib.hid (HB.out.ext hx)
      have HL := Lib.hid HL0
      clear HL0
      have HX := Lib.hid (Gr.ext_trans HX.out hx)
      clear hx
      refine Gr.Left.one (i := 17) (by kernel_rfl) (by kernel_rfl) (Gr.Step.mk rfl (fun K hK => ?_))
      go_simp
      refine (sum_own rn _ [r1, r2] _ hr HB.out).mono ?_
      rintro e w7_ ⟨br, he, hx, ho⟩
      rw [RM.sum_length] at he
      subst he
      have HR0 := ho
      clear ho
      try go_simp
      refine hK.out _ _ hx ?_
      clear hK K
      have HA := Lib.hid (HA.out.ext hx)
      have HB := Lib.hid (HB.out.ext hx)
      have HL := Lib.hid (HL.out.ext hx)
      have HR := Lib.hid HR0
      clear HR0
      have HX := Lib.hid (Gr.ext_trans HX.out hx)
      clear hx
      refine Gr.Left.take (i := 18) rfl (by kernel_rfl) (fun d _ _ _ _ h => by cases d <;> exact h) ?_ (Or.inl ⟨by rfl, ?_⟩) ?_
      rotate_left
      · intro w' hw'
        clear hw'
        go_simp
        try with_reducible rfl
      simp only [Act.put, List.setIfInBounds_toArray, List.set_cons_zero, List.set_cons_succ]
      refine Gr.Left.done (by kernel_rfl) ?_
      simp only [List.drop_succ_cons, List.drop_zero]
      have hg4 := (HX.out.block (b + 2) hbs).trans HG2.out
      have hnl : bl ≠ b + 2 := fun h => own_not HL.out (by decide) (h ▸ hg4)
      have hnr : br ≠ b + 2 := fun h => own_not HR.out (by decide) (h ▸ hg4)
      have HX0 := Lib.hid (Gr.ext_trans HX2.out HX.out)
      have HFIN := Lib.hid (eqn_fin w7_ w b bl br ln rn (RM.sum ln [l1, l2]) (RM.sum rn [r1, r2]) #[.slice (some ⟨bl, 0, none⟩) ln ln, .slice (some ⟨br, 0, none⟩) rn rn] HL.out HR.out hnl hnr HX0.out (by rw [← HBB.out]; exact Nat.le_add_right _ _))
      have hres : (w7_.setRow (b + 2) #[.slice (some ⟨bl, 0, none⟩) ln ln, .slice (some ⟨br, 0, none⟩) rn rn]).heap[b + 2]? = some (.cells #[.slice (some ⟨bl, 0, none⟩) ln ln, .slice (some ⟨br, 0, none⟩) rn rn] 121 (0, 0)) := setRow_heap _ _ _ _ _ _ hg4
      refine wpList_store_row rfl 121 (.tmp 4) (.tmp 23) rfl (b + 2) _ rfl rfl 121 _ hg4 (eqinfo2 _ _) rfl (one2 _ _ _ _ _ _) ?_
      go_wp2
      exact bodyPost_ret (v := .agg #[.slice (some ⟨bl, 0, none⟩) ln ln, .slice (some ⟨br, 0, none⟩) rn rn]) (results_cell_row rfl _ _ (b + 2) 121 _ (0, 0) _ rfl hres Tryd.underlying121 rfl (eqinfo2 _ _)) rfl ⟨bl, br, by rw [RM.sum_length, RM.sum_length], HFIN.out⟩
  · skip
    go_simp
    generalize hw : World.alloc _ _ = w8_
    have hx : wd.Extends w8_ := by subst hw; exact ext_alloc _ _
    have HB0 : Rws w8_ (.slice (some ⟨wd.heap.size, 0, none⟩) 2 2) [r1, r2] := by subst hw; exact rws_two _ _ _ _ _ _ _ (HV.out.ext (Gr.ext_trans HX2.out HX.out)) (HQ.out.ext (Gr.ext_trans HX2.out HX.out))
    clear hw
    refine hK.out _ _ hx ?_
    clear hK K
    have HB := Lib.hid HB0
    clear HB0
    have HX := Lib.hid (Gr.ext_trans HX.out hx)
    clear hx
    refine Gr.Left.one (i := 7) (by kernel_rfl) (by kernel_rfl) (Gr.Step.mk rfl (fun K hK => ?_))
    go_simp
    generalize hw : World.alloc _ _ = w9_
    have hx : w8_.Extends w9_ := by subst hw; exact ext_alloc _ _
    have HA0 : Rws w9_ (.slice (some ⟨w8_.heap.size, 0, none⟩) 2 2) [l1, l2] := by subst hw; exact rws_two _ _ _ _ _ _ _ (HU.out.ext (Gr.ext_trans HX2.out HX.out)) (HP.out.ext (Gr.ext_trans HX2.out HX.out))
    clear hw
    refine hK.out _ _ hx ?_
    clear hK K
    have HB := Lib.hid (HB.out.ext hx)
    have HA := Lib.hid HA0
    clear HA0
    have HX := Lib.hid (Gr.ext_trans HX.out hx)
    clear hx
    refine Gr.Left.one (i := 8) (by kernel_rfl) (by kernel_rfl) (Gr.Step.mk rfl (fun K hK => ?_))
    go_simp
    refine (sum_own ln _ [l1, l2] _ hl HA.out).mono ?_
    rintro e w10_ ⟨bl, he, hx, ho⟩
    rw [RM.sum_length] at he
    subst he
    have HL0 := ho
    clear ho
    try go_simp
    refine hK.out _ _ hx ?_
    clear hK K
    have HB := Lib.hid (HB.out.ext hx)
    have HA := Lib.hid (HA.out.ext hx)
    have HL := Lib.hid HL0
    clear HL0
    have HX := Lib.hid (Gr.ext_trans HX.out hx)
    clear hx
    refine Gr.Left.one (i := 17) (by kernel_rfl) (by kernel_rfl) (Gr.Step.mk rfl (fun K hK => ?_))
    go_simp
    refine (sum_own rn _ [r1, r2] _ hr HB.out).mono ?_
    rintro e w11_ ⟨br, he, hx, ho⟩
    rw [RM.sum_length] at he
    subst he
    have HR0 := ho
    clear ho
    try go_simp
    refine hK.out _ _ hx ?_
    clear hK K
    have HB := Lib.hid (HB.out.ext hx)
    have HA := Lib.hid (HA.out.ext hx)
    have HL := Lib.hid (HL.out.ext hx)
    have HR := Lib.hid HR0
    clear HR0
    have HX := Lib.hid (Gr.ext_trans HX.out hx)
    clear hx
    refine Gr.Left.take (i := 18) rfl (by kernel_rfl) (fun d _ _ _ _ h => by cases d <;> exact h) ?_ (Or.inl ⟨by rfl, ?_⟩) ?_
    rotate_left
    · intro w' hw'
      clear hw'
      go_simp
      try with_reducible rfl
    simp only [Act.put, List.setIfInBounds_toArray, List.set_cons_zero, List.set_cons_succ]
    refine Gr.Left.done (by kernel_rfl) ?_
    simp only [List.drop_succ_cons, List.drop_zero]
    have hg4 := (HX.out.block (b + 2) hbs).trans HG2.out
    have hnl : bl ≠ b + 2 := fun h => own_not HL.out (by decide) (h ▸ hg4)
    have hnr : br ≠ b + 2 := fun h => own_not HR.out (by decide) (h ▸ hg4)
    have HX0 := Lib.hid (Gr.ext_trans HX2.out HX.out)
    have HFIN := Lib.hid (eqn_fin w11_ w b bl br ln rn (RM.sum ln [l1, l2]) (RM.sum rn [r1, r2]) #[.slice (some ⟨bl, 0, none⟩) ln ln, .slice (some ⟨br, 0, none⟩) rn rn] HL.out HR.out hnl hnr HX0.out (by rw [← HBB.out]; exact Nat.le_add_right _ _))
    have hres : (w11_.setRow (b + 2) #[.slice (some ⟨bl, 0, none⟩) ln ln, .slice (some ⟨br, 0, none⟩) rn rn]).heap[b + 2]? = some (.cells #[.slice (some ⟨bl, 0, none⟩) ln ln, .slice (some ⟨br, 0, none⟩) rn rn] 121 (0, 0)) := setRow_heap _ _ _ _ _ _ hg4
    refine wpList_store_row rfl 121 (.tmp 4) (.tmp 23) rfl (b + 2) _ rfl rfl 121 _ hg4 (eqinfo2 _ _) rfl (one2 _ _ _ _ _ _) ?_
    go_wp2
    exact bodyPost_ret (v := .agg #[.slice (some ⟨bl, 0, none⟩) ln ln, .slice (some ⟨br, 0, none⟩) rn rn]) (results_cell_row rfl _ _ (b + 2) 121 _ (0, 0) _ rfl hres Tryd.underlying121 rfl (eqinfo2 _ _)) rfl ⟨bl, br, by rw [RM.sum_length, RM.sum_length], HFIN.out⟩
end Go.Proofs.YtpfmmfapdcbnkaaDoor
namespace Go.Proofs.YtpfmmfapdcbnkaaDoor
set_option maxRecDepth 20000
open Go.RowKit
set_option linter.unusedVariables false
abbrev nilS : Value := .slice none 0 0
/-- What the head of a system holds. -/
def sysHead (g W S r : Nat) (i : Nat) : Value := if i = 0 then .int .i64 S else if i = 1 then .slice (some ⟨g, 0, none⟩) W W else .int .i64 r
/-- The two sides of an equation in memory. -/
def EqAt (w : World) (W S : Nat) (u v : Value) (s : List Nat × List Nat) : Prop :=
  ∃ b1 b2, u = .slice (some ⟨b1, 0, none⟩) W W ∧ v = .slice (some ⟨b2, 0, none⟩) S S ∧ Own w b1 5 s.1 ∧ s.1.length = W ∧ Own w b2 5 s.2 ∧ s.2.length = S
/-- Column c of the steps in memory. -/
def StepAt (w : World) (W S : Nat) (vs : Nat → Value) (c : Nat) : Option (List Nat × List Nat) → Prop
  | none => vs (c * 2) = nilS ∧ vs (c * 2 + 1) = nilS
  | some s => EqAt w W S (vs (c * 2)) (vs (c * 2 + 1)) s
/-- The system at p, its steps at g. -/
structure Sys (w : World) (p g W S r : Nat) (st : Nat → Option (List Nat × List Nat)) : Prop where
  head : w.rowIs p 116 3 (sysHead g W S r)
  steps : ∃ vs, w.rowIs g 121 (W * 2) vs ∧ ∀ c, c < W → StepAt w W S vs c (st c)
  hW : W ≤ 300
  hS : S ≤ 1000
theorem EqAt.block {w w' : World} {W S : Nat} {u v : Value} {s : List Nat × List Nat} (h : EqAt w W S u v s) (hb : ∀ b, b < w.heap.size → (∀ cs T, w.heap[b]? = some (.cells cs T (0, 0)) → T = 5) → w'.heap[b]? = w.heap[b]?) : EqAt w' W S u v s := by
  obtain ⟨b1, b2, h1, h2, h3, h4, h5, h6⟩ := h
  have key : ∀ {b : Nat} {xs : List Nat}, Own w b 5 xs → w'.heap[b]? = w.heap[b]? := fun {b xs} ho => hb b ho.lt fun cs T hT => by
    obtain ⟨c, hc, _⟩ := ho.1
    rw [hc] at hT
    simp only [Option.some.injEq, Obj.cells.injEq] at hT
    exact hT.2.1.symm
  exact ⟨b1, b2, h1, h2, h3.block (key h3), h4, h5.block (key h5), h6⟩
theorem StepAt.block {w w' : World} {W S : Nat} {vs : Nat → Value} {c : Nat} {s : Option (List Nat × List Nat)} (h : StepAt w W S vs c s) (hb : ∀ b, b < w.heap.size → (∀ cs T, w.heap[b]? = some (.cells cs T (0, 0)) → T = 5) → w'.heap[b]? = w.heap[b]?) : StepAt w' W S vs c s := by
  cases s with
  | none => exact h
  | some s => exact EqAt.block h hb
theorem Sys.block {w w' : World} {p g W S r : Nat} {st : Nat → Option (List Nat × List Nat)} (h : Sys w p g W S r st) (hp : w'.heap[p]? = w.heap[p]?) (hg : w'.heap[g]? = w.heap[g]?)
    (hb : ∀ b, b < w.heap.size → (∀ cs T, w.heap[b]? = some (.cells cs T (0, 0)) → T = 5) → w'.heap[b]? = w.heap[b]?) : Sys w' p g W S r st := by
  obtain ⟨vs, h1, h2⟩ := h.steps
  exact ⟨h.head.of_block hp, ⟨vs, h1.of_block hg, fun c hc => (h2 c hc).block hb⟩, h.hW, h.hS⟩
theorem Sys.ext {w w' : World} {p g W S r : Nat} {st : Nat → Option (List Nat × List Nat)} (h : Sys w p g W S r st) (hx : w.Extends w') : Sys w' p g W S r st := by
  obtain ⟨vs, h1, _⟩ := h.steps
  exact h.block (hx.block _ h.head.lt) (hx.block _ h1.lt) fun b hb _ => hx.block b hb
theorem Sys.pg {w : World} {p g W S r : Nat} {st : Nat → Option (List Nat × List Nat)} (h : Sys w p g W S r st) : p < w.heap.size ∧ g < w.heap.size ∧ p ≠ g := by
  obtain ⟨vs, h1, _⟩ := h.steps
  refine ⟨h.head.lt, h1.lt, fun e => ?_⟩
  subst e
  obtain ⟨c, hc, _⟩ := h.head
  obtain ⟨d, hd, _⟩ := h1
  rw [hc] at hd
  simp only [Option.some.injEq, Obj.cells.injEq] at hd
  exact absurd hd.2.1 (by decide)
/-- Over a change of one block of two cells of an equation that is not the steps. -/
theorem Sys.grown {w w' : World} {p g W S r be : Nat} {st : Nat → Option (List Nat × List Nat)} (h : Sys w p g W S r st) (hg : w.grownBy w' (some be)) {f : Nat → Value} {n : Nat} (hbe : w.rowIs be 121 n f) (hne : g ≠ be) : Sys w' p g W S r st := by
  obtain ⟨hp, hgl, _⟩ := h.pg
  obtain ⟨c0, hc0, _⟩ := hbe
  have key : ∀ b cs T, w.heap[b]? = some (.cells cs T (0, 0)) → T ≠ 121 → b ≠ be := fun b cs T hb hT e => by
    subst e
    rw [hb] at hc0
    simp only [Option.some.injEq, Obj.cells.injEq] at hc0
    exact hT hc0.2.1
  obtain ⟨c1, hc1, _⟩ := h.head
  refine h.block (hg.block p hp fun e => key p _ _ hc1 (by decide) (Option.some.inj e)) (hg.block g hgl fun e => hne (Option.some.inj e)) fun b hb hT => hg.block b hb fun e => ?_
  have e' := Option.some.inj e
  subst e'
  exact absurd (hT _ _ hc0) (by decide)
theorem sysinfo : (Tryd.prog.info? 121).map (fun i => (i.zero, i.size, i.bytes)) = some (some (.agg #[.slice none 0 0, .slice none 0 0]), 2, 48) := by kernel_rfl
theorem makeSteps (k : Nat) (hk : k ≤ 300) (w : World) : (Instr.makeSlice 114 (.int .i64 (k : Int)) (.int .i64 (k : Int))).run Tryd.prog w = .ok (.slice (some ⟨w.heap.size, 0, none⟩) k k) (w.alloc (.cells (madeCells #[nilS, nilS] (k * 2)) 121)) := by
  obtain ⟨i, hi, hz, hs, hb⟩ := info_parts sysinfo
  have := run_make (P := Tryd.prog) w 114 121 i _ Tryd.underlying114 hi hz .i64 .i64 k k (by omega) (Int.le_refl _) (by rw [hb]; omega) (by omega)
  rw [hs] at this
  simpa [Value.cells] using this
/-- A new system. -/
def MadeSys (w : World) (W S : Nat) (e : Ending) (w' : World) : Prop := ∃ p g, e = .returned (.pointer (some ⟨p, 0, none⟩)) ∧ Sys w' p g W S 0 (fun _ => none) ∧ w.Extends w' ∧ w.heap.size ≤ p ∧ w.heap.size ≤ g
theorem sys_new (w : World) (W S : Nat) (hW : W ≤ 300) (hS : S ≤ 1000) : Sys ((w.alloc (.cells (madeCells #[nilS, nilS] (W * 2)) 121)).alloc (.cells #[.int .i64 S, .slice (some ⟨w.heap.size, 0, none⟩) W W, .int .i64 0] 116)) (w.heap.size + 1) w.heap.size W S 0 (fun _ => none) := by
  refine ⟨?_, ⟨fun _ => nilS, ?_, fun c hc => ⟨rfl, rfl⟩⟩, hW, hS⟩
  · have := World.rowIs_alloc (w.alloc (.cells (madeCells #[nilS, nilS] (W * 2)) 121)) #[.int .i64 S, .slice (some ⟨w.heap.size, 0, none⟩) W W, .int .i64 0] 116 (sysHead w.heap.size W S 0) (fun i hi => by
      match i, hi with
      | 0, _ => rfl
      | 1, _ => rfl
      | 2, _ => rfl)
    simpa using this
  · refine World.rowIs.alloc ?_ _
    have := World.rowIs_alloc w (madeCells #[nilS, nilS] (W * 2)) 121 (fun _ => nilS) (fun i hi => by
      rw [size_madeCells] at hi
      have h2 : i % 2 < 2 := Nat.mod_lt _ (by omega)
      have : ∀ j, j < 2 → ([nilS, nilS] : List Value)[j]?.getD default = nilS := by intro j hj; match j, hj with | 0, _ => rfl | 1, _ => rfl
      simp [madeCells, hi]
      exact this _ h2)
    rwa [size_madeCells] at this
set_option maxHeartbeats 400000 in
theorem newSystem_any (W S : Nat) (hW : W ≤ 300) (hS : S ≤ 1000) (w : World) : Calls Tryd.prog 52 #[.int .i64 W, .int .i64 S] w (MadeSys w W S) := by
  have hmk := makeSteps W hW
  have HF : Hid (MadeSys w W S (.returned (.pointer (some ⟨w.heap.size + 1, 0, none⟩))) ((w.alloc (.cells (madeCells #[nilS, nilS] (W * 2)) 121)).alloc (.cells #[.int .i64 S, .slice (some ⟨w.heap.size, 0, none⟩) W W, .int .i64 0] 116))) :=
    ⟨_, _, rfl, sys_new w W S hW hS, Gr.ext_trans (ext_alloc _ _) (ext_alloc _ _), Nat.le_succ _, Nat.le_refl _⟩
  go_enter Tryd.func52, Tryd.ntmps52
  go_wp2
  go_ret
  exact HF.out
theorem Sys.cells {w : World} {p g W S r : Nat} {st : Nat → Option (List Nat × List Nat)} (h : Sys w p g W S r st) : w.cell? ⟨p, 0, none⟩ = some (.int .i64 S) ∧ w.cell? ⟨p, 1, none⟩ = some (.slice (some ⟨g, 0, none⟩) W W) ∧ w.cell? ⟨p, 2, none⟩ = some (.int .i64 r) :=
  ⟨h.head.cell (i := 0) (by omega), h.head.cell (i := 1) (by omega), h.head.cell (i := 2) (by omega)⟩
set_option maxHeartbeats 400000 in
theorem full_any (p g W S r : Nat) (st : Nat → Option (List Nat × List Nat)) (w : World) (hs : Sys w p g W S r st) :
    Calls Tryd.prog 54 #[.pointer (some ⟨p, 0, none⟩)] w fun e w' => e = .returned (.bool (decide (r = W))) ∧ w.drew = w' := by
  obtain ⟨_, h1, h2⟩ := hs.cells
  have HD : Hid ((((r : Int) == (W : Int))) = decide (r = W)) := by
    show _ = _
    by_cases h : r = W <;> simp [h]; omega
  go_enter Tryd.func54, Tryd.ntmps54
  go_wp2
  refine Gr.region 10 [(false,0),(false,1),(false,2),(false,3),(false,4),(false,5),(false,6),(false,7),(false,8),(false,9)] (by kernel_rfl) (by kernel_rfl) (fun d _ _ _ _ h => by cases d <;> exact h) ?_
  simp only [Gr.pick, List.getElem?_cons_zero, List.getElem?_cons_succ, List.drop_succ_cons, List.drop_zero]
  iterate 10
    refine Gr.walk_t ?_ (Or.inl ⟨by rfl, ?_⟩) ?_
    rotate_left
    · intro w' hw'
      have hc1 := (Gr.of_drew hw').cell_of h1
      have hc2 := (Gr.of_drew hw').cell_of h2
      clear hw'
      go_simp
      try with_reducible rfl
    simp only [Act.put, List.setIfInBounds_toArray, List.set_cons_zero, List.set_cons_succ]
  refine Gr.walk_nil ?_
  rw [HD.out]
  go_wp2
  go_ret
  exact ⟨rfl, rfl⟩
/-- Whether all are 0. -/
def allZ (xs : List Nat) : Bool := xs.all (· == 0)
theorem allZ_iff (xs : List Nat) : allZ xs = true ↔ ∀ k, k < xs.length → xs.getD k 0 = 0 := by
  unfold allZ
  rw [List.all_eq_true]
  constructor
  · intro h k hk
    have := h _ (List.getElem_mem hk)
    simpa [hk] using this
  · intro h x hx
    obtain ⟨k, hk, rfl⟩ := List.mem_iff_getElem.1 hx
    have := h k hk
    simpa [hk] using this
set_option maxHeartbeats 400000 in
theorem isZero_any (v : Value) (xs : List Nat) (w : World) (hv : U8s w v xs) :
    Calls Tryd.prog 67 #[v] w fun e w' => e = .returned (.bool (allZ xs)) ∧ w = w' := by
  have hm := hv.len
  obtain ⟨a, cap, rfl, _, _⟩ := hv.slice
  have HC := Lib.hid hv.cell.2
  have HZ := Lib.hid (allZ_iff xs)
  clear hv
  generalize xs.length = n at *
  unfold maxLen at hm
  go_enter Tryd.func67, Tryd.ntmps67
  go_wp2
  go_loop [7] (fun i => ∃ k : Nat, k ≤ n ∧ i = .int .i64 k ∧ Hid (∀ j, j < k → xs.getD j 0 = 0)) (fun i => (n - intOf i).toNat)
  case atStart => exact ⟨0, by omega, rfl, fun j hj => absurd hj (Nat.not_lt_zero _)⟩
  case round =>
    obtain ⟨k, hk, rfl, hz⟩ := hrel
    by_cases h1 : k < n
    · obtain ⟨b, off, rfl, _, hc⟩ := HC.out (by omega)
      have hc1 := hc k h1
      clear hc
      by_cases h0 : xs.getD k 0 = 0
      · have hz' : Hid (∀ j, j < k + 1 → xs.getD j 0 = 0) := fun j hj => by
          by_cases h : j < k
          · exact hz.out j h
          · rw [show j = k by omega]; exact h0
        rw [h0] at hc1
        go_wp2
        go_round
        case rel => exact ⟨k + 1, by omega, by go_num, hz'⟩
        case measure => simp [intOf]; omega
      · have hne : Hid (allZ xs = false) := by
          show _ = _
          cases h : allZ xs with
          | false => rfl
          | true => exact absurd (HZ.out.1 h k h1) h0
        have hx : (((xs.getD k 0 : Nat) : Int) != 0) = true := by simp only [bne_iff_ne, ne_eq]; omega
        generalize xs.getD k 0 = x at *
        go_wp2
        go_ret
        exact ⟨by rw [hne.out]; rfl, rfl⟩
    · obtain rfl : k = n := by omega
      have hy : Hid (allZ xs = true) := HZ.out.2 hz.out
      go_wp2
      go_ret
      exact ⟨by rw [hy.out]; rfl, rfl⟩
end Go.Proofs.YtpfmmfapdcbnkaaDoor
