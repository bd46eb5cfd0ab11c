/- Equations as vectors: what reducing one by the steps does. -/
import Derived.Test.YtkpgdgmjeoogdaaLin
import Derived.Test.YtkpgdgmjeoogdaaRowMath
namespace Go.Proofs.Ytkpgdgmjeoogdaa
set_option linter.unusedVariables false
namespace LA
open FM
abbrev Eqn := List Nat × List Nat
/-- An equation as one vector: the left side below W, the right side from W on. -/
def vec (W : Nat) (s : Eqn) : V := fun i => if i < W then s.1.getD i 0 else s.2.getD (i - W) 0
/-- Of W and S elements, each below 256. -/
def Dim (W S : Nat) (s : Eqn) : Prop := s.1.length = W ∧ s.2.length = S ∧ (∀ x ∈ s.1, x < 256) ∧ ∀ x ∈ s.2, x < 256
theorem vec_bd {W S : Nat} {s : Eqn} (h : Dim W S s) : Bd (vec W s) := fun i => by
  unfold vec; split
  · exact getD_lt _ h.2.2.1 _
  · exact getD_lt _ h.2.2.2 _
theorem sum2_getD (n : Nat) (a b : List Nat) (ha : a.length = n) (hb : b.length = n) (i : Nat) : (RM.sum n [a, b]).getD i 0 = a.getD i 0 ^^^ b.getD i 0 := by
  by_cases h : i < n
  · rw [RM.sum_at n _ i h]; simp
  · rw [RM.getD_far _ i (by rw [RM.sum_length]; omega), RM.getD_far a i (by omega), RM.getD_far b i (by omega)]; rfl
theorem sum1_getD (n : Nat) (a : List Nat) (i : Nat) (h : i < n) : (RM.sum n [a]).getD i 0 = a.getD i 0 := by
  rw [RM.sum_at n _ i h]; simp
theorem sum_lt (n : Nat) (l : List (List Nat)) (h : ∀ r ∈ l, ∀ x ∈ r, x < 256) : ∀ x ∈ RM.sum n l, x < 256 := by
  have key : ∀ (l : List (List Nat)) (s : List Nat), (∀ x ∈ s, x < 256) → (∀ r ∈ l, ∀ x ∈ r, x < 256) → ∀ x ∈ l.foldl RM.xr s, x < 256 := by
    intro l
    induction l with
    | nil => intro s hs _; exact hs
    | cons r l ih => intro s hs h; exact ih _ (RM.xr_lt s r hs (h r (by simp))) fun q hq => h q (by simp [hq])
  exact key l (RM.zeros n) (fun x hx => by rw [(List.mem_replicate.1 hx).2]; decide) h
theorem dim_sum {W S : Nat} {a b : Eqn} (ha : Dim W S a) (hb : Dim W S b) : Dim W S (RM.sum W [a.1, b.1], RM.sum S [a.2, b.2]) :=
  ⟨RM.sum_length _ _, RM.sum_length _ _, sum_lt _ _ (by intro r hr; simp at hr; rcases hr with rfl | rfl; exact ha.2.2.1; exact hb.2.2.1), sum_lt _ _ (by intro r hr; simp at hr; rcases hr with rfl | rfl; exact ha.2.2.2; exact hb.2.2.2)⟩
theorem dim_scale {W S c : Nat} {a : Eqn} (hc : c < 256) (ha : Dim W S a) : Dim W S (RM.scale c a.1, RM.scale c a.2) :=
  ⟨by rw [RM.scale_length]; exact ha.1, by rw [RM.scale_length]; exact ha.2.1, RM.scale_lt c _ hc, RM.scale_lt c _ hc⟩
theorem dim_cut (W S : Nat) (a : Eqn) (h1 : ∀ x ∈ a.1, x < 256) (h2 : ∀ x ∈ a.2, x < 256) : Dim W S (RM.sum W [a.1], RM.sum S [a.2]) :=
  ⟨RM.sum_length _ _, RM.sum_length _ _, sum_lt _ _ (by intro r hr; simp at hr; subst hr; exact h1), sum_lt _ _ (by intro r hr; simp at hr; subst hr; exact h2)⟩
theorem vec_sum {W S : Nat} {a b : Eqn} (ha : Dim W S a) (hb : Dim W S b) : vec W (RM.sum W [a.1, b.1], RM.sum S [a.2, b.2]) = add (vec W a) (vec W b) := funext fun i => by
  show (if i < W then (RM.sum W [a.1, b.1]).getD i 0 else (RM.sum S [a.2, b.2]).getD (i - W) 0) = (if i < W then a.1.getD i 0 else a.2.getD (i - W) 0) ^^^ (if i < W then b.1.getD i 0 else b.2.getD (i - W) 0)
  split
  · exact sum2_getD W _ _ ha.1 hb.1 i
  · exact sum2_getD S _ _ ha.2.1 hb.2.1 _
theorem vec_scale (W c : Nat) (a : Eqn) : vec W (RM.scale c a.1, RM.scale c a.2) = scl c (vec W a) := funext fun i => by
  show (if i < W then (RM.scale c a.1).getD i 0 else (RM.scale c a.2).getD (i - W) 0) = tm c (if i < W then a.1.getD i 0 else a.2.getD (i - W) 0)
  split <;> rw [RM.scale_getD]
/-- The steps as vectors. -/
def stF (W : Nat) (st : Nat → Option Eqn) (c : Nat) : V := match st c with | some s => vec W s | none => zero
def has (st : Nat → Option Eqn) (c : Nat) : Bool := (st c).isSome
def SpanS (W : Nat) (st : Nat → Option Eqn) : V → Prop := Span (fun c => c < W ∧ has st c = true) (stF W st)
/-- The steps are steps. -/
def Good (W S : Nat) (st : Nat → Option Eqn) : Prop := ∀ c, c < W → ∀ s, st c = some s → Dim W S s ∧ s.1.getD c 0 = 1 ∧ ∀ i, i < c → s.1.getD i 0 = 0
theorem Good.bd {W S : Nat} {st : Nat → Option Eqn} (h : Good W S st) : ∀ c, (c < W ∧ has st c = true) → Bd (stF W st c) := fun c hc => by
  unfold stF
  cases hs : st c with
  | none => exact zero_bd
  | some s => exact vec_bd (h c hc.1 s hs).1
/-- e0 is brought to e, that has 0 below k, by the steps. -/
def Red (W S : Nat) (st : Nat → Option Eqn) (e0 e : Eqn) (k : Nat) : Prop := Dim W S e ∧ SpanS W st (add (vec W e0) (vec W e)) ∧ ∀ i, i < k → e.1.getD i 0 = 0
theorem Red.start {W S : Nat} {st : Nat → Option Eqn} {e0 : Eqn} (h : Dim W S e0) : Red W S st e0 e0 0 := ⟨h, by rw [add_self]; exact .zero, fun i hi => absurd hi (Nat.not_lt_zero _)⟩
theorem Red.skip {W S : Nat} {st : Nat → Option Eqn} {e0 e : Eqn} {k : Nat} (h : Red W S st e0 e k) (h0 : e.1.getD k 0 = 0) : Red W S st e0 e (k + 1) :=
  ⟨h.1, h.2.1, fun i hi => by
    by_cases hk : i < k
    · exact h.2.2 i hk
    · rw [show i = k by omega]; exact h0⟩
theorem Red.step {W S : Nat} {st : Nat → Option Eqn} {e0 e s : Eqn} {k : Nat} (hg : Good W S st) (h : Red W S st e0 e k) (hk : k < W) (hs : st k = some s) :
    Red W S st e0 (RM.sum W [e.1, RM.scale (e.1.getD k 0) s.1], RM.sum S [e.2, RM.scale (e.1.getD k 0) s.2]) (k + 1) := by
  obtain ⟨hd, h1, h0⟩ := hg k hk s hs
  have hc : e.1.getD k 0 < 256 := getD_lt _ h.1.2.2.1 k
  have hd2 := dim_scale (c := e.1.getD k 0) hc hd
  refine ⟨dim_sum h.1 hd2, ?_, fun i hi => ?_⟩
  · rw [vec_sum h.1 hd2, vec_scale, ← add_assoc]
    have hf : stF W st k = vec W s := by unfold stF; rw [hs]
    rw [← hf]
    exact .more _ k _ hc ⟨hk, by unfold has; rw [hs]; rfl⟩ h.2.1
  · show (RM.sum W [e.1, RM.scale (e.1.getD k 0) s.1]).getD i 0 = 0
    rw [sum2_getD W _ _ h.1.1 hd2.1 i, RM.scale_getD]
    by_cases hik : i < k
    · rw [h.2.2 i hik, h0 i hik, tm_zero_right]; rfl
    · rw [show i = k by omega, h1, tm_one_right _ hc, Nat.xor_self]
def upd (st : Nat → Option Eqn) (k : Nat) (s : Eqn) : Nat → Option Eqn := fun c => if c = k then some s else st c
/-- The steps say what the rows of P say. -/
structure Inv (W S r : Nat) (st : Nat → Option Eqn) (P : Nat → Prop) (f : Nat → V) : Prop where
  good : Good W S st
  rank : r = cnt (has st) W
  to : ∀ v, SpanS W st v → Span P f v
  from_ : ∀ v, Span P f v → SpanS W st v
theorem Inv.start (W S : Nat) (f : Nat → V) : Inv W S 0 (fun _ => none) (fun _ => False) f := by
  refine ⟨(fun c _ s h => by cases h), ?_, fun v hv => ?_, fun v hv => ?_⟩
  · have : ∀ n, cnt (has fun _ => none) n = 0 := fun n => by induction n with | zero => rfl | succ n ih => rw [cnt, ih]; rfl
    exact (this W).symm
  · exact hv.sub (fun j hj => hj.elim) fun j hj => by have := hj.2; cases this
  · exact hv.sub (fun j hj => by have := hj.2; cases this) fun j hj => hj.elim
theorem cnt_upd {st : Nat → Option Eqn} {k : Nat} (s : Eqn) (h : st k = none) : ∀ n, cnt (has (upd st k s)) n = cnt (has st) n + if k < n then 1 else 0
  | 0 => rfl
  | n + 1 => by
    rw [cnt, cnt, cnt_upd s h n]
    by_cases hk : n = k
    · subst hk
      have h1 : has (upd st n s) n = true := by unfold has upd; rw [if_pos rfl]; rfl
      have h2 : has st n = false := by unfold has; rw [h]; rfl
      rw [h1, h2]; simp
    · have h1 : has (upd st k s) n = has st n := by unfold has upd; rw [if_neg hk]
      rw [h1]
      by_cases h2 : k < n
      · rw [if_pos h2, if_pos (show k < n + 1 by omega)]; omega
      · rw [if_neg h2, if_neg (show ¬ k < n + 1 by omega)]; omega
/-- A row more that leaves nothing new. -/
theorem Inv.same {W S r k : Nat} {st : Nat → Option Eqn} {P : Nat → Prop} {f : Nat → V} {e0 e : Eqn} (h : Inv W S r st P f) (hr : Red W S st e0 e k) (hz : vec W e = zero) (n : Nat) (hn : ∀ j, P j → j < n) (hf : ∀ j, P j → Bd (f j)) (hfn : f n = vec W e0) (h0 : Dim W S e0) :
    Inv W S r st (fun j => P j ∨ j = n) f := by
  have he : SpanS W st (vec W e0) := by have := hr.2.1; rwa [hz, add_zero] at this
  refine ⟨h.good, h.rank, fun v hv => (h.to v hv).mono fun j hj => .inl hj, fun v hv => ?_⟩
  refine hv.sub h.good.bd fun j hj => ?_
  rcases hj with hj | rfl
  · exact h.from_ _ (Span.mem hf hj)
  · rw [hfn]; exact he
/-- A row more that leaves a new step. -/
theorem Inv.more {W S r k : Nat} {st : Nat → Option Eqn} {P : Nat → Prop} {f : Nat → V} {e0 e : Eqn} (h : Inv W S r st P f) (hr : Red W S st e0 e k) (hk : k < W) (hs : st k = none) (hne : e.1.getD k 0 ≠ 0) (n : Nat) (hf : ∀ j, (P j ∨ j = n) → Bd (f j)) (hfn : f n = vec W e0) (h0 : Dim W S e0) :
    Inv W S (r + 1) (upd st k (RM.scale (inv (e.1.getD k 0)) e.1, RM.scale (inv (e.1.getD k 0)) e.2)) (fun j => P j ∨ j = n) f := by
  have hc : e.1.getD k 0 < 256 := getD_lt _ hr.1.2.2.1 k
  have hi := inv_lt _ hc
  have hd2 := dim_scale (c := inv (e.1.getD k 0)) hi hr.1
  have hgood : Good W S (upd st k (RM.scale (inv (e.1.getD k 0)) e.1, RM.scale (inv (e.1.getD k 0)) e.2)) := fun c hcW s hcs => by
    unfold upd at hcs
    by_cases hck : c = k
    · subst hck
      rw [if_pos rfl] at hcs
      obtain rfl := Option.some.inj hcs
      refine ⟨hd2, ?_, fun i hi' => ?_⟩
      · show (RM.scale _ _).getD c 0 = 1
        rw [RM.scale_getD, tm_comm _ _ hi hc]; exact tm_inv _ hc hne
      · show (RM.scale _ _).getD i 0 = 0
        rw [RM.scale_getD, hr.2.2 i hi', tm_zero_right]
    · rw [if_neg hck] at hcs
      exact h.good c hcW s hcs
  have hold : ∀ c, c < W → has st c = true → c ≠ k ∧ stF W (upd st k (RM.scale (inv (e.1.getD k 0)) e.1, RM.scale (inv (e.1.getD k 0)) e.2)) c = stF W st c := fun c hcW hcs => by
    have hck : c ≠ k := fun hck => by subst hck; unfold has at hcs; rw [hs] at hcs; cases hcs
    exact ⟨hck, by unfold stF upd; rw [if_neg hck]⟩
  have hnew : stF W (upd st k (RM.scale (inv (e.1.getD k 0)) e.1, RM.scale (inv (e.1.getD k 0)) e.2)) k = scl (inv (e.1.getD k 0)) (vec W e) := by
    unfold stF upd; rw [if_pos rfl]; exact vec_scale W _ e
  have hhas : has (upd st k (RM.scale (inv (e.1.getD k 0)) e.1, RM.scale (inv (e.1.getD k 0)) e.2)) k = true := by unfold has upd; rw [if_pos rfl]; rfl
  have hup : ∀ v, SpanS W st v → SpanS W (upd st k (RM.scale (inv (e.1.getD k 0)) e.1, RM.scale (inv (e.1.getD k 0)) e.2)) v := fun v hv => by
    refine hv.sub hgood.bd fun j hj => ?_
    obtain ⟨hjk, hjf⟩ := hold j hj.1 hj.2
    rw [← hjf]
    exact Span.mem hgood.bd ⟨hj.1, by have := hj.2; unfold has upd at *; rw [if_neg hjk]; exact this⟩
  refine ⟨hgood, by rw [h.rank, cnt_upd _ hs, if_pos hk], fun v hv => ?_, fun v hv => ?_⟩
  · refine hv.sub hf fun j hj => ?_
    have hto : ∀ v, SpanS W st v → Span (fun j => P j ∨ j = n) f v := fun v hv => (h.to v hv).mono fun j hj => .inl hj
    have he : Span (fun j => P j ∨ j = n) f (vec W e) := by
      have h1 := hto _ hr.2.1
      have h2 : Span (fun j => P j ∨ j = n) f (vec W e0) := by rw [← hfn]; exact Span.mem hf (.inr rfl)
      have h3 := h2.add h1
      rwa [← add_assoc, add_self, zero_add] at h3
    by_cases hjk : j = k
    · subst hjk; rw [hnew]; exact he.scl hf hi
    · have hj2 := hj.2
      have hhj : has st j = true := by unfold has upd at *; rw [if_neg hjk] at hj2; exact hj2
      rw [(hold j hj.1 hhj).2]
      exact hto _ (Span.mem h.good.bd ⟨hj.1, hhj⟩)
  · refine hv.sub hgood.bd fun j hj => ?_
    rcases hj with hj | rfl
    · exact hup _ (h.from_ _ (Span.mem (fun j hj => hf j (.inl hj)) hj))
    · rw [hfn]
      have h1 := hup _ hr.2.1
      have h2 : SpanS W (upd st k (RM.scale (inv (e.1.getD k 0)) e.1, RM.scale (inv (e.1.getD k 0)) e.2)) (vec W e) := by
        have := (Span.mem hgood.bd (j := k) ⟨hk, hhas⟩).scl hgood.bd (c := e.1.getD k 0) hc
        rwa [hnew, scl_scl hc hi (vec_bd hr.1), tm_inv _ hc hne, scl_one (vec_bd hr.1)] at this
      have h3 := h1.add h2
      rwa [add_add_self] at h3
theorem Inv.congrP {W S r : Nat} {st : Nat → Option Eqn} {P Q : Nat → Prop} {f : Nat → V} (h : Inv W S r st P f) (hpq : ∀ j, P j ↔ Q j) : Inv W S r st Q f :=
  ⟨h.good, h.rank, fun v hv => (h.to v hv).mono fun j hj => (hpq j).1 hj, fun v hv => h.from_ v (hv.mono fun j hj => (hpq j).2 hj)⟩
theorem vec_zero {W S : Nat} {e : Eqn} (hd : Dim W S e) (h1 : ∀ i, i < W → e.1.getD i 0 = 0) (h2 : ∀ k, k < S → e.2.getD k 0 = 0) : vec W e = zero := funext fun i => by
  show (if i < W then e.1.getD i 0 else e.2.getD (i - W) 0) = 0
  split
  · rename_i h; exact h1 i h
  · by_cases h : i - W < S
    · exact h2 _ h
    · exact RM.getD_far _ _ (by rw [hd.2.1]; omega)
/-- The steps are in steps. -/
theorem Inv.ech {W S r : Nat} {st : Nat → Option Eqn} {P : Nat → Prop} {f : Nat → V} (h : Inv W S r st P f) : Ech W (fun c => c < W ∧ has st c = true) (stF W st) (has st) id := by
  refine ⟨fun q hq hh => ⟨⟨hq, hh⟩, ?_⟩, fun j hj => .inl ⟨j, hj.1, hj.2, rfl⟩, h.good.bd⟩
  unfold has at hh
  obtain ⟨s, hs⟩ := Option.isSome_iff_exists.1 hh
  obtain ⟨_, h1, h0⟩ := h.good q hq s hs
  have hf : stF W st q = vec W s := by unfold stF; rw [hs]
  show stF W st q q ≠ 0 ∧ ∀ i, i < q → stF W st q i = 0
  rw [hf]
  exact ⟨by unfold vec; rw [if_pos hq, h1]; omega, fun i hi => by unfold vec; rw [if_pos (by omega)]; exact h0 i hi⟩
theorem Inv.rankIs {W S r : Nat} {st : Nat → Option Eqn} {P : Nat → Prop} {f : Nat → V} (h : Inv W S r st P f) : RankIs W P f r := by
  rw [h.rank]
  exact (h.ech.rank).of_span h.to h.from_
end LA
end Go.Proofs.Ytkpgdgmjeoogdaa
