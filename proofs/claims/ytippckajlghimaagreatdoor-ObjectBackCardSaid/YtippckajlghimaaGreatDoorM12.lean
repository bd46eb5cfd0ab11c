/- In one text: BlkMath, Law3, RankLaw, DecMath, MatsOld, DecAt. -/
import Derived.Deep.MidRow
import Derived.Test.YtippckajlghimaaGreatDoorM1
import Derived.Test.YtippckajlghimaaGreatDoorM3
import Derived.Test.YtippckajlghimaaGreatDoorM4
import Derived.Test.YtippckajlghimaaGreatDoorM8
import Derived.Test.YtippckajlghimaaGreatDoorM10
import Derived.Test.YtippckajlghimaaGreatDoorM11
/- The parts of a block: there are some where the rows settle all, and no others; the first symbols are the source; the parts of summed sources are the summed parts. -/
namespace Go.Proofs.YtippckajlghimaaGreatDoor
set_option maxRecDepth 20000
set_option linter.unusedVariables false
namespace LA
open FM
/-- Rows can be brought to steps, column by column. -/
theorem ref_exists {n : Nat} {u0 : Nat → V} (hb : ∀ j, j < n → Bd (u0 j)) : ∀ c, ∃ r has u, RefInv c r n has u u0
  | 0 => ⟨0, _, _, RefInv.start n u0 hb⟩
  | c + 1 => by
    obtain ⟨r, has, u, h⟩ := ref_exists hb c
    by_cases hp : ∃ p, r ≤ p ∧ p < n ∧ u p c ≠ 0
    · obtain ⟨p, h1, h2, h3⟩ := hp
      exact ⟨_, _, _, h.step h1 h2 h3⟩
    · exact ⟨_, _, _, h.skip fun j h1 h2 => Decidable.byContradiction fun h3 => hp ⟨j, h1, h2, h3⟩⟩
/-- As many rows as columns, which all lead: some unknowns solve. -/
theorem square {W S : Nat} {f : Nat → V} (hf : ∀ j, j < W → Bd (f j)) (hl : RankIs W (· < W) f W) : ∃ x, Sol W S (· < W) f x := by
  obtain ⟨r, has, u, h⟩ := ref_exists hf W
  have hr : r = W := h.rankIs.uniq hl
  have hu := h.unit hr
  refine ⟨fun k i => if i < W then u i (W + k) else 0, ?_⟩
  have hs : Sol W S (· < W) u (fun k i => if i < W then u i (W + k) else 0) := by
    have hbx : ∀ k, Bd (fun i => if i < W then u i (W + k) else 0) := fun k i => by
      show (if i < W then u i (W + k) else 0) < 256
      split
      · rename_i hi; exact h.bd i hi _
      · omega
    refine ⟨hbx, fun j hj k hk => ?_⟩
    rw [dots_one W j _ _ hj fun i hi hne => by rw [hu j hj i hi, if_neg (Ne.symm hne), tm_zero_left], hu j hj j hj, if_pos rfl, tm_one_left _ (hbx k j)]
    show _ = (if j < W then u j (W + k) else 0)
    rw [if_pos hj]
  exact hs.sub h.bd h.from_
/-- A list of unknowns as rows. -/
theorem sol_rows {W S : Nat} {P : Nat → Prop} {f : Nat → V} {x : Nat → V} (hl : ∀ c, c < W → Lead P f c) (hs : Sol W S P f x) : ∃ X, SolveRes W S P f (some X) := by
  refine ⟨(List.range W).map fun i => (List.range S).map fun k => x k i, by simp, fun i hi => by simp [hi], hl, ?_⟩
  have hx : ∀ i k, i < W → k < S → xOf ((List.range W).map fun i => (List.range S).map fun k => x k i) k i = x k i := fun i k hi hk => by
    unfold xOf; simp [hi, hk]
  have hb : ∀ i k, xOf ((List.range W).map fun i => (List.range S).map fun k => x k i) k i < 256 := fun i k => by
    by_cases hi : i < W
    · by_cases hk : k < S
      · rw [hx i k hi hk]; exact hs.1 k i
      · unfold xOf; simp [hi, hk]
    · unfold xOf; simp [hi]
  refine ⟨fun k i => hb i k, fun j hj k hk => ?_⟩
  rw [hs.2 j hj k hk]
  exact dots_congr W _ _ _ _ fun i hi => by rw [hx i k hi hk]
/-- Where l are unlike places: the products with the row that has 1 at these. -/
def ind (l : List Nat) : V := fun i => if i ∈ l then 1 else 0
theorem fold_start (p : List Nat) (f : Nat → Nat) : ∀ s : Nat, p.foldl (fun x q => x ^^^ f q) s = s ^^^ p.foldl (fun x q => x ^^^ f q) 0 := by
  induction p with
  | nil => intro s; simp
  | cons q p ih => intro s; rw [List.foldl_cons, List.foldl_cons, ih, ih (0 ^^^ f q), Nat.zero_xor, Nat.xor_assoc]
theorem dots_ind (n : Nat) (y : V) (hy : Bd y) : ∀ l : List Nat, l.Nodup → (∀ q ∈ l, q < n) → dots n (ind l) y = l.foldl (fun x q => x ^^^ y q) 0
  | [], _, _ => dots_zero n _ _ fun i _ => by
      show tm (if i ∈ ([] : List Nat) then 1 else 0) _ = 0
      rw [if_neg (by simp), tm_zero_left]
  | q :: l, hn, hlt => by
    rw [List.nodup_cons] at hn
    have hb : ∀ l, Bd (ind l) := fun l i => by show (if i ∈ l then 1 else 0) < 256; split <;> omega
    have e : ind (q :: l) = LA.add (ind l) (ind [q]) := funext fun i => by
      show (if i ∈ q :: l then 1 else 0) = (if i ∈ l then 1 else 0) ^^^ (if i ∈ [q] then 1 else 0)
      by_cases h1 : i = q
      · subst h1; rw [if_pos (by simp), if_neg hn.1, if_pos (by simp)]; rfl
      · by_cases h2 : i ∈ l
        · rw [if_pos (by simp [h2]), if_pos h2, if_neg (by simp [h1])]; rfl
        · rw [if_neg (by simp [h1, h2]), if_neg h2, if_neg (by simp [h1])]; rfl
    rw [e, dots_add n _ _ y (hb _) (hb _), dots_ind n y hy l hn.2 (fun p hp => hlt p (by simp [hp])), List.foldl_cons, fold_start l y (0 ^^^ y q), Nat.zero_xor, Nat.xor_comm]
    congr 1
    rw [dots_one n q _ y (hlt q (by simp)) fun i hi hne => by
      show tm (if i ∈ [q] then 1 else 0) _ = 0
      rw [if_neg (by simpa using hne), tm_zero_left]]
    show tm (if q ∈ [q] then 1 else 0) _ = _
    rw [if_pos (by simp), tm_one_left _ (hy q)]
end LA
theorem TM.marks_at (n : Nat) (l : List Nat) (i : Nat) (h : i < n) : (TM.marks n l).getD i 0 = LA.ind l i := by
  have key : ∀ (l r : List Nat), i < r.length → (l.foldl (fun r p => r.set p 1) r).getD i 0 = if i ∈ l then 1 else r.getD i 0 := by
    intro l
    induction l with
    | nil => intro r _; simp
    | cons p l ih =>
      intro r hr
      rw [List.foldl_cons, ih _ (by rw [List.length_set]; exact hr)]
      by_cases h1 : i ∈ l
      · rw [if_pos h1, if_pos (by simp [h1])]
      · rw [if_neg h1]
        by_cases h2 : i = p
        · subst h2; rw [if_pos (by simp)]; simp [hr]
        · rw [if_neg (by simp [h1, h2])]; simp [Ne.symm h2]
  unfold TM.marks
  rw [key l _ (by simpa using h)]
  show _ = (if i ∈ l then 1 else 0)
  split
  · rfl
  · simp [h]
namespace BM
/-- What the rows are to be mixed to: nothing for the low and the high ones, then the source. -/
def mixed (k : Nat) (src : List (List Nat)) : List (List Nat) := List.replicate (PM.s k + 2) [] ++ src
theorem mixed_length (k : Nat) (src : List (List Nat)) : (mixed k src).length = PM.s k + 2 + src.length := by simp [mixed]
theorem mixed_low (k : Nat) (src : List (List Nat)) (i : Nat) (h : i < PM.s k + 2) : (mixed k src).getD i [] = [] := by
  unfold mixed
  rw [List.getD_eq_getElem?_getD, List.getElem?_append_left (by rw [List.length_replicate]; exact h), List.getElem?_replicate, if_pos h]; rfl
theorem mixed_src (k : Nat) (src : List (List Nat)) (i : Nat) : (mixed k src).getD (PM.s k + 2 + i) [] = src.getD i [] := by
  unfold mixed
  rw [List.getD_eq_getElem?_getD, List.getElem?_append_right (by simp), List.getD_eq_getElem?_getD]; simp
theorem mixed_lt (k : Nat) {src : List (List Nat)} (h : ∀ r ∈ src, ∀ x ∈ r, x < 256) : ∀ r ∈ mixed k src, ∀ x ∈ r, x < 256 := by
  intro r hr x hx
  rcases List.mem_append.1 hr with h' | h'
  · rw [(List.mem_replicate.1 h').2] at hx; cases hx
  · exact h r h' x hx
/-- The rows and what they are mixed to, as vectors. -/
def F (k j size : Nat) (src : List (List Nat)) : Nat → LA.V := rowsF (PM.l k) size (SM.rows k j) (mixed k src)
def PartsIs (k j size : Nat) (src c : List (List Nat)) : Prop := SolveRes (PM.l k) size (· < PM.l k) (F k j size src) (some c)
theorem rows_l (k j : Nat) : (SM.rows k j).length = PM.l k := by rw [SM.rows_length]; unfold PM.l PM.w; omega
theorem rows_lt (k j : Nat) : ∀ r ∈ SM.rows k j, ∀ x ∈ r, x < 256 := by
  intro r hr x hx
  unfold SM.rows QM.mat at hr
  rcases List.mem_append.1 hr with h | h
  · rcases List.mem_append.1 h with h | h
    · obtain ⟨i, _, rfl⟩ := List.mem_map.1 h
      exact QM.tab_lt (fun x _ => QM.lowE_lt _ _ _) x hx
    · obtain ⟨i, _, rfl⟩ := List.mem_map.1 h
      exact QM.tab_lt (fun x _ => QM.hiE_lt _ _ _) x hx
  · obtain ⟨e, _, rfl⟩ := List.mem_map.1 h
    exact TM.marks_lt _ _ x hx
theorem F_bd (k j size : Nat) {src : List (List Nat)} (h : ∀ r ∈ src, ∀ x ∈ r, x < 256) (i : Nat) : LA.Bd (F k j size src i) := rowsF_bd _ _ (rows_lt k j) (mixed_lt k h) i
theorem F_low (k j size : Nat) (src : List (List Nat)) (i x : Nat) (h : x < PM.l k) : F k j size src i x = (RM.sum (PM.l k) [(SM.rows k j).getD i []]).getD x 0 := if_pos h
theorem F_high (k j size : Nat) (src : List (List Nat)) (i x : Nat) (h : x < size) : F k j size src i (PM.l k + x) = ((mixed k src).getD i []).getD x 0 := by
  unfold F rowsF
  rw [vec_high]
  exact LA.sum1_getD size _ x h
theorem PartsIs.uniq {k j size : Nat} {src c c' : List (List Nat)} (hs : ∀ r ∈ src, ∀ x ∈ r, x < 256) (h : PartsIs k j size src c) (h' : PartsIs k j size src c') : c = c' :=
  Option.some.inj (SolveRes.uniq (fun i _ => F_bd k j size hs i) h h')
theorem lead_of {k j : Nat} (size : Nat) (src : List (List Nat)) (g : SM.Good k j) : ∀ c, c < PM.l k → LA.Lead (· < PM.l k) (F k j size src) c := fun c hc => by
  unfold SM.Good at g
  rw [rows_l] at g
  exact (LA.lead_trunc (fun i _ => rowsF_trunc (PM.l k) size (SM.rows k j) (mixed k src) i) c hc).2 (g.full c hc)
/-- There are parts. -/
theorem parts_exist {k j : Nat} (size : Nat) {src : List (List Nat)} (g : SM.Good k j) (hs : ∀ r ∈ src, ∀ x ∈ r, x < 256) : ∃ c, PartsIs k j size src c := by
  have hl := lead_of size src g
  obtain ⟨x, hx⟩ := LA.square (S := size) (fun i _ => F_bd k j size hs i) (LA.RankIs.of_full hl)
  exact LA.sol_rows hl hx
/-- Whatever solving answers, it is these. -/
theorem res_some {k j size : Nat} {src : List (List Nat)} {res : Option (List (List Nat))} (g : SM.Good k j) (hs : ∀ r ∈ src, ∀ x ∈ r, x < 256) (h : SolveRes (PM.l k) size (· < PM.l k) (F k j size src) res) : ∃ c, res = some c ∧ PartsIs k j size src c := by
  obtain ⟨c, hc⟩ := parts_exist size g hs
  exact ⟨c, SolveRes.uniq (fun i _ => F_bd k j size hs i) h hc, hc⟩
theorem PartsIs.len {k j size : Nat} {src c : List (List Nat)} (h : PartsIs k j size src c) : c.length = PM.l k := h.1
theorem append_map_at {X : Type} (A : List X) (g : Nat → X) (l : List Int) (n i e : Nat) (d : X) (hA : A.length = n) (hl : l[i]? = some (e : Int)) : (A ++ l.map fun x => g x.toNat).getD (n + i) d = g e := by
  rw [List.getD_eq_getElem?_getD, List.getElem?_append_right (by omega), show n + i - A.length = i by omega, List.getElem?_map, hl]
  rfl
theorem iota_some (k i : Nat) (hi : i < k) : (SM.iota k)[i]? = some (i : Int) := by
  have := SM.iota_at k i hi
  rw [List.getD_eq_getElem?_getD, List.getElem?_eq_getElem (by rw [SM.iota_length]; exact hi)] at this
  rw [List.getElem?_eq_getElem (by rw [SM.iota_length]; exact hi)]
  simpa using this
theorem row_sym (k j i : Nat) (hi : i < k) : (SM.rows k j).getD (PM.s k + 2 + i) [] = TM.row k j i := by
  have hA : (QM.low k ++ QM.high k).length = PM.s k + 2 := by rw [List.length_append]; unfold QM.low QM.high; rw [QM.grid_length, QM.grid_length]
  have hI := iota_some k i hi
  unfold SM.rows QM.mat QM.syms
  generalize QM.low k ++ QM.high k = A at *
  generalize TM.row k j = g at *
  exact append_map_at A g _ _ i i [] hA hI
/-- The symbols of the first numbers are the source. -/
theorem PartsIs.source {k j size : Nat} {src c : List (List Nat)} (h : PartsIs k j size src c) (i : Nat) (hi : i < k) (hl : (src.getD i []).length = size) : DM.drop k j size c i = src.getD i [] := by
  refine RM.list_ext (by rw [DM.drop_length, hl]) fun x hx => ?_
  rw [DM.drop_length] at hx
  have hrow : PM.s k + 2 + i < PM.l k := by unfold PM.l PM.w; omega
  have h1 := h.2.2.2.2 (PM.s k + 2 + i) hrow x hx
  rw [F_high k j size src _ x hx, mixed_src] at h1
  rw [h1]
  unfold DM.drop
  rw [DM.sum_pick_at _ _ _ _ hx]
  have hnd : (TM.parts k j i).Nodup := TM.partsW_once _ _
  have hlt : ∀ q ∈ TM.parts k j i, q < PM.l k := fun q hq => TM.partsW_lt _ _ q hq
  have hr : ∀ q, q < PM.l k → F k j size src (PM.s k + 2 + i) q = LA.ind (TM.parts k j i) q := fun q hq => by
    rw [F_low k j size src _ q hq, LA.sum1_getD _ _ q hq, row_sym k j i hi]
    exact TM.marks_at _ _ _ hq
  generalize TM.parts k j i = p at *
  rw [LA.dots_congr (PM.l k) _ _ (LA.ind p) (xOf c x) (fun q hq => by rw [hr q hq]), LA.dots_ind (PM.l k) _ (h.2.2.2.1 x) p hnd hlt]
  rfl
/-- The parts of summed sources are the sums of their parts. -/
theorem PartsIs.both {k j size : Nat} {a b ca cb : List (List Nat)} (ha : PartsIs k j size a ca) (hb : PartsIs k j size b cb) (hl : a.length = k) : PartsIs k j size (DM.both size a b) (DM.both size ca cb) := by
  have hlow : ∀ s s' i x, x < PM.l k → F k j size s i x = F k j size s' i x := fun s s' i x hx => by rw [F_low _ _ _ _ _ _ hx, F_low _ _ _ _ _ _ hx]
  have hx : ∀ x q, x < size → q < PM.l k → xOf (DM.both size ca cb) x q = LA.add (xOf ca x) (xOf cb x) q := fun x q hx hq => by
    show ((DM.both size ca cb).getD q []).getD x 0 = (ca.getD q []).getD x 0 ^^^ (cb.getD q []).getD x 0
    rw [DM.both_at size ca cb q (by rw [ha.len]; exact hq), RM.sum_at _ _ _ hx]
    show (0 ^^^ _) ^^^ _ = _
    rw [Nat.zero_xor]
  have hbd : ∀ x, LA.Bd (xOf (DM.both size ca cb) x) := fun x q => by
    by_cases hq : q < PM.l k
    · by_cases hxs : x < size
      · rw [hx x q hxs hq]; exact LA.add_bd (ha.2.2.2.1 x) (hb.2.2.2.1 x) q
      · unfold xOf; rw [DM.both_at size ca cb q (by rw [ha.len]; exact hq), RM.getD_far _ _ (by rw [RM.sum_length]; omega)]; omega
    · unfold xOf
      have : (DM.both size ca cb).getD q [] = [] := by rw [List.getD_eq_getElem?_getD, List.getElem?_eq_none (by rw [DM.both_length, ha.len]; omega)]; rfl
      rw [this]; exact (by decide : 0 < 256)
  refine ⟨by rw [DM.both_length, ha.len], fun q hq => by rw [DM.both_at size ca cb q (by rw [ha.len]; exact hq), RM.sum_length], fun c hc => ?_, hbd, fun i hi x hxs => ?_⟩
  · have h1 := (LA.lead_trunc (fun i _ => rowsF_trunc (PM.l k) size (SM.rows k j) (mixed k a) i) c hc).1 (ha.2.2.1 c hc)
    exact (LA.lead_trunc (fun i _ => rowsF_trunc (PM.l k) size (SM.rows k j) (mixed k (DM.both size a b)) i) c hc).2 h1
  · rw [LA.dots_congr (PM.l k) _ _ (F k j size a i) (LA.add (xOf ca x) (xOf cb x)) (fun q hq => by rw [hlow _ a i q hq, hx x q hxs hq]), LA.dots_add_right, ← ha.2.2.2.2 i hi x hxs,
      LA.dots_congr (PM.l k) (F k j size a i) (xOf cb x) (F k j size b i) (xOf cb x) (fun q hq => by rw [hlow a b i q hq]), ← hb.2.2.2.2 i hi x hxs, F_high _ _ _ _ _ _ hxs, F_high _ _ _ _ _ _ hxs, F_high _ _ _ _ _ _ hxs]
    by_cases hlo : i < PM.s k + 2
    · rw [mixed_low _ _ _ hlo, mixed_low _ _ _ hlo, mixed_low _ _ _ hlo]; simp
    · obtain ⟨q, rfl⟩ : ∃ q, i = PM.s k + 2 + q := ⟨i - (PM.s k + 2), by omega⟩
      rw [mixed_src, mixed_src, mixed_src, DM.both_at size a b q (by rw [hl]; unfold PM.l PM.w at hi; omega), RM.sum_at _ _ _ hxs]
      show (0 ^^^ _) ^^^ _ = _
      rw [Nat.zero_xor]
/-- The reference's rows of 0 say the same. -/
def mixed0 (k size : Nat) (src : List (List Nat)) : List (List Nat) := List.replicate (PM.s k + 2) (RM.zeros size) ++ src
theorem mixed0_at (k size : Nat) (src : List (List Nat)) (i x : Nat) (h : x < size) : ((mixed0 k size src).getD i []).getD x 0 = ((mixed k src).getD i []).getD x 0 := by
  by_cases hi : i < PM.s k + 2
  · rw [mixed_low _ _ _ hi]
    unfold mixed0
    have : (List.replicate (PM.s k + 2) (RM.zeros size) ++ src).getD i [] = RM.zeros size := by
      rw [List.getD_eq_getElem?_getD, List.getElem?_append_left (by rw [List.length_replicate]; exact hi), List.getElem?_replicate, if_pos hi]; rfl
    rw [this, RM.zeros_getD]; simp
  · obtain ⟨q, rfl⟩ : ∃ q, i = PM.s k + 2 + q := ⟨i - (PM.s k + 2), by omega⟩
    rw [mixed_src]
    unfold mixed0
    congr 1
    rw [List.getD_eq_getElem?_getD, List.getElem?_append_right (by simp), List.getD_eq_getElem?_getD]; simp
theorem F_mixed0 (k j size : Nat) (src : List (List Nat)) : rowsF (PM.l k) size (SM.rows k j) (mixed0 k size src) = F k j size src := funext fun i => by
  unfold F rowsF
  congr 2
  refine RM.list_ext (by rw [RM.sum_length, RM.sum_length]) fun x hx => ?_
  rw [RM.sum_length] at hx
  rw [LA.sum1_getD _ _ _ hx, LA.sum1_getD _ _ _ hx, mixed0_at k size src i x hx]
end BM
end Go.Proofs.YtippckajlghimaaGreatDoor
/- The third law's helpers: num, alive. -/
namespace Go.Proofs.YtippckajlghimaaGreatDoor
set_option maxRecDepth 20000
open Go.RowKit
set_option linter.unusedVariables false
theorem example_res : SolveRes 1 1 (· < 1) (rowsF 1 1 [[2]] [[29]]) (some [[128]]) := by
  have hbd : ∀ j, LA.Bd (rowsF 1 1 [[2]] [[29]] j) := rowsF_bd 1 1 (by decide) (by decide)
  have h0 : rowsF 1 1 [[2]] [[29]] 0 0 = 2 := by decide
  have h1 : rowsF 1 1 [[2]] [[29]] 0 (1 + 0) = 29 := by decide
  refine ⟨rfl, fun i hi => by obtain rfl : i = 0 := by omega
                              rfl, fun c hc => ?_, fun k i => ?_, fun j hj k hk => ?_⟩
  · obtain rfl : c = 0 := by omega
    exact ⟨_, LA.Span.mem (fun j _ => hbd j) (j := 0) (by omega), by rw [h0]; decide, fun i hi => absurd hi (Nat.not_lt_zero _)⟩
  · unfold xOf
    refine getD_lt _ ?_ k
    match i with
    | 0 => decide
    | i + 1 => intro x hx; simp at hx
  · obtain rfl : j = 0 := by omega
    obtain rfl : k = 0 := by omega
    rw [h1, LA.dots_succ, h0]
    decide +kernel
theorem rws_at {w : World} {v : Value} {l : List (List Nat)} (h : Rws w v l) : ∃ a cap, v = .slice a l.length cap := by obtain ⟨a, c, h, _⟩ := h.slice; exact ⟨a, c, h⟩
theorem one_one (W : World) (x s t : Nat) (T T' : TypeId) (hx : x < 256) (hs : s = W.heap.size) (ht : t = W.heap.size + 1) : Rws ((W.alloc (.cells #[.int .u8 x] T)).alloc (.cells #[.slice (some ⟨s, 0, none⟩) 1 1] T')) (.slice (some ⟨t, 0, none⟩) 1 1) [[x]] := by
  subst hs; subst ht
  exact rws_one (W.alloc (.cells #[.int .u8 x] T)) (W.heap.size + 1) T' _ [x] (u8s_new W W.heap.size 1 1 T _ [x] rfl rfl rfl (by simp [maxLen]) (by simp [hx])) (by simp)
theorem rank_none (w : World) (f : Nat → LA.V) (W r : Nat) (h : LA.RankIs W (· < ([] : List (List Nat)).length) f r) : r = 0 := h.uniq (LA.RankIs.none fun j hj => absurd hj (Nat.not_lt_zero _))
end Go.Proofs.YtippckajlghimaaGreatDoor
/- SolveRank: a rank is at most how many rows and places there are, a row more raises it by one or not, and one that is made of others does not. -/
namespace Go.Proofs.YtippckajlghimaaGreatDoor
set_option maxRecDepth 20000
open Go.RowKit
set_option linter.unusedVariables false
theorem wid_small (W : Nat) (h : W ≤ 300) : wid (W : Int) = W := by unfold wid; omega
/-- The rank of rows. -/
def Rk (W : Nat) (l : List (List Nat)) (r : Nat) : Prop := LA.RankIs W (· < l.length) (rowsF W 0 l []) r
theorem rows_snoc (W : Nat) (l : List (List Nat)) (t : List Nat) (j : Nat) (h : j < (l ++ [t]).length) : (j < l.length ∧ rowsF W 0 (l ++ [t]) [] j = rowsF W 0 l [] j) ∨ rowsF W 0 (l ++ [t]) [] j = LA.vec W (RM.sum W [t], RM.sum 0 [[]]) := by
  by_cases hj : j < l.length
  · refine .inl ⟨hj, ?_⟩
    unfold rowsF
    rw [show (l ++ [t]).getD j [] = l.getD j [] by simp [List.getD_eq_getElem?_getD, List.getElem?_append_left hj]]
  · refine .inr ?_
    have hj' : j = l.length := by simp at h; omega
    subst hj'
    unfold rowsF
    rw [show (l ++ [t]).getD l.length [] = t by simp]; rfl
theorem rows_bd (W : Nat) {l : List (List Nat)} (h : ∀ r ∈ l, ∀ x ∈ r, x < 256) : ∀ j, j < l.length → LA.Bd (rowsF W 0 l [] j) := fun j _ => rowsF_bd W 0 h (by intro r hr; cases hr) j
theorem span_snoc (W : Nat) (l : List (List Nat)) (t : List Nat) (h : ∀ r ∈ l ++ [t], ∀ x ∈ r, x < 256) (v : LA.V) (hv : LA.Span (· < l.length) (rowsF W 0 l []) v) : LA.Span (· < (l ++ [t]).length) (rowsF W 0 (l ++ [t]) []) v := by
  refine hv.sub (rows_bd W h) fun j hj => ?_
  have hj' : j < (l ++ [t]).length := by simp; omega
  rcases rows_snoc W l t j hj' with ⟨_, he⟩ | he
  · rw [← he]; exact LA.Span.mem (rows_bd W h) hj'
  · have : rowsF W 0 (l ++ [t]) [] j = rowsF W 0 l [] j := by
      unfold rowsF
      rw [show (l ++ [t]).getD j [] = l.getD j [] by simp [List.getD_eq_getElem?_getD, List.getElem?_append_left hj]]
    rw [← this]; exact LA.Span.mem (rows_bd W h) hj'
theorem snoc_lt {l : List (List Nat)} {t : List Nat} (h : ∀ r ∈ l, ∀ x ∈ r, x < 256) (ht : ∀ x ∈ t, x < 256) : ∀ r ∈ l ++ [t], ∀ x ∈ r, x < 256 := by
  intro r hr
  rcases List.mem_append.1 hr with hr | hr
  · exact h r hr
  · simp at hr; subst hr; exact ht
/-- One row more: by one or not. -/
theorem Rk.more {W a b : Nat} {l : List (List Nat)} {t : List Nat} (hl : ∀ r ∈ l, ∀ x ∈ r, x < 256) (ht : ∀ x ∈ t, x < 256) (h : Rk W l a) (h' : Rk W (l ++ [t]) b) : a ≤ b ∧ b ≤ a + 1 :=
  LA.RankIs.one_more (t := LA.vec W (RM.sum W [t], RM.sum 0 [[]])) (rows_bd W hl) (LA.vec_bd (LA.dim_cut W 0 (t, []) ht (by intro x hx; cases hx))) h h' (rows_snoc W l t) (span_snoc W l t (snoc_lt hl ht))
theorem Rk.le {W a : Nat} {l : List (List Nat)} (h : Rk W l a) : a ≤ W := LA.RankIs.le h
theorem cnt_exists (W : Nat) (P : Nat → Prop) (f : Nat → LA.V) : ∃ r, LA.RankIs W P f r := by
  obtain ⟨has, h⟩ : ∃ has : Nat → Bool, ∀ c, has c = true ↔ LA.Lead P f c := ⟨fun c => @decide (LA.Lead P f c) (Classical.propDecidable _), fun c => @decide_eq_true_iff _ (Classical.propDecidable _)⟩
  exact ⟨_, has, fun c _ => h c, rfl⟩
theorem Rk.count {W : Nat} : ∀ (k : Nat) (l : List (List Nat)) (a : Nat), l.length = k → (∀ r ∈ l, ∀ x ∈ r, x < 256) → Rk W l a → a ≤ l.length
  | 0, l, a, hk, _, h => by
    obtain rfl := List.eq_nil_of_length_eq_zero hk
    have := LA.RankIs.uniq h (LA.RankIs.none fun j hj => absurd hj (Nat.not_lt_zero _))
    omega
  | k + 1, l, a, hk, hl, h => by
    have hne : l ≠ [] := by intro e; subst e; simp at hk
    have hsplit := List.dropLast_concat_getLast hne
    have hlen : l.dropLast.length = k := by simp [hk]
    have h1 : ∀ r ∈ l.dropLast, ∀ x ∈ r, x < 256 := fun r hr => hl r (List.dropLast_subset l hr)
    have h2 : ∀ x ∈ l.getLast hne, x < 256 := hl _ (List.getLast_mem hne)
    obtain ⟨b, hb⟩ := cnt_exists W (· < l.dropLast.length) (rowsF W 0 l.dropLast [])
    have ih := Rk.count k l.dropLast b hlen h1 hb
    have h3 := Rk.more h1 h2 hb (by rw [hsplit]; exact h)
    omega
/-- A mixture of the rows is made of them. -/
theorem mix_span (W : Nat) (c : List Nat) (l : List (List Nat)) (hc : ∀ x ∈ c, x < 256) (hl : ∀ r ∈ l, ∀ x ∈ r, x < 256) : LA.Span (· < l.length) (rowsF W 0 l []) (LA.vec W (RM.sum W [RM.mix W c l], RM.sum 0 [[]])) := by
  have h0 : ∀ i : Nat, (RM.sum 0 [[]]).getD i 0 = 0 := fun i => RM.getD_far _ _ (by rw [RM.sum_length]; omega)
  have key : ∀ k, k ≤ l.length → LA.Span (· < l.length) (rowsF W 0 l []) (LA.vec W (RM.sum W [RM.mixTo W k c l], RM.sum 0 [[]])) := by
    intro k
    induction k with
    | zero =>
      intro _
      have : LA.vec W (RM.sum W [RM.mixTo W 0 c l], RM.sum 0 [[]]) = LA.zero := funext fun i => by
        show (if i < W then (RM.sum W [RM.mixTo W 0 c l]).getD i 0 else (RM.sum 0 [[]]).getD (i - W) 0) = 0
        split
        · rename_i hi
          rw [LA.sum1_getD W _ i hi]
          show (RM.zeros W).getD i 0 = 0
          exact RM.zeros_getD W i
        · exact h0 _
      rw [this]; exact .zero
    | succ k ih =>
      intro hk
      have : LA.vec W (RM.sum W [RM.mixTo W (k + 1) c l], RM.sum 0 [[]]) = LA.add (LA.vec W (RM.sum W [RM.mixTo W k c l], RM.sum 0 [[]])) (LA.scl (c.getD k 0) (rowsF W 0 l [] k)) := funext fun i => by
        show (if i < W then (RM.sum W [RM.mixTo W (k + 1) c l]).getD i 0 else (RM.sum 0 [[]]).getD (i - W) 0) = (if i < W then (RM.sum W [RM.mixTo W k c l]).getD i 0 else (RM.sum 0 [[]]).getD (i - W) 0) ^^^ FM.tm (c.getD k 0) (if i < W then (RM.sum W [l.getD k []]).getD i 0 else (RM.sum 0 [[]]).getD (i - W) 0)
        split
        · rename_i hi
          rw [LA.sum1_getD W _ i hi, LA.sum1_getD W _ i hi, LA.sum1_getD W _ i hi, RM.mixTo_succ, RM.xr_at _ _ _ (by rw [RM.mixTo_length]; exact hi), RM.scale_getD]
        · rw [h0, FM.tm_zero_right]; rfl
      rw [this]
      exact .more _ k _ (getD_lt _ hc k) (by omega) (ih (by omega))
  exact key _ (Nat.min_le_right _ _)
theorem mix_lt (W k : Nat) (c : List Nat) (l : List (List Nat)) (hc : ∀ x ∈ c, x < 256) : ∀ x ∈ RM.mixTo W k c l, x < 256 := by
  induction k with
  | zero => intro x hx; rw [(List.mem_replicate.1 (show x ∈ List.replicate W 0 from hx)).2]; decide
  | succ k ih => rw [RM.mixTo_succ]; exact RM.xr_lt _ _ ih (RM.scale_lt _ _ (getD_lt _ hc k))
/-- A row that is made of the others does not raise the rank. -/
theorem Rk.mixed {W a b : Nat} {c : List Nat} {l : List (List Nat)} (hc : ∀ x ∈ c, x < 256) (hl : ∀ r ∈ l, ∀ x ∈ r, x < 256) (h : Rk W l a) (h' : Rk W (l ++ [RM.mix W c l]) b) : b = a := by
  have hm : ∀ x ∈ RM.mix W c l, x < 256 := mix_lt W _ c l hc
  refine LA.RankIs.uniq h' (LA.RankIs.of_span h (span_snoc W l _ (snoc_lt hl hm)) fun v hv => hv.sub (rows_bd W hl) fun j hj => ?_)
  rcases rows_snoc W l (RM.mix W c l) j hj with ⟨hjl, he⟩ | he
  · rw [he]; exact LA.Span.mem (rows_bd W hl) hjl
  · rw [he]; exact mix_span W c l hc hl
end Go.Proofs.YtippckajlghimaaGreatDoor
/- Symbols: the first of each number; the rows that they and a block's ties are; what these rows tell. -/
namespace Go.Proofs.YtippckajlghimaaGreatDoor
set_option maxRecDepth 20000
set_option linter.unusedVariables false
namespace DC
/-- A symbol: its number and its elements. -/
abbrev Dp := Int × List Nat
def esis (l : List Dp) : List Int := l.map fun p => p.1
def data (l : List Dp) : List (List Nat) := l.map fun p => p.2
theorem esis_length (l : List Dp) : (esis l).length = l.length := by simp [esis]
theorem data_length (l : List Dp) : (data l).length = l.length := by simp [data]
theorem esis_at (l : List Dp) (i : Nat) : (esis l).getD i 0 = (l.getD i (0, [])).1 := by
  unfold esis; rw [List.getD_eq_getElem?_getD, List.getD_eq_getElem?_getD, List.getElem?_map]; cases l[i]? <;> rfl
theorem data_at (l : List Dp) (i : Nat) : (data l).getD i [] = (l.getD i (0, [])).2 := by
  unfold data; rw [List.getD_eq_getElem?_getD, List.getD_eq_getElem?_getD, List.getElem?_map]; cases l[i]? <;> rfl
theorem at_mem (l : List Dp) (i : Nat) (h : i < l.length) : l.getD i (0, []) ∈ l := by
  rw [List.getD_eq_getElem?_getD, List.getElem?_eq_getElem h]; exact List.getElem_mem h
theorem esis_snoc (l : List Dp) (p : Dp) : esis (l ++ [p]) = esis l ++ [p.1] := by simp [esis]
theorem data_snoc (l : List Dp) (p : Dp) : data (l ++ [p]) = data l ++ [p.2] := by simp [data]
theorem take_snoc (l : List Dp) (k : Nat) (h : k < l.length) : l.take k ++ [l.getD k (0, [])] = l.take (k + 1) := by
  rw [List.take_succ_eq_append_getElem h]; simp [h]
theorem allOk_iff (l : List Dp) : AllOk (esis l) ↔ ∀ p ∈ l, EsiOk p.1 := by
  constructor
  · intro h p hp
    obtain ⟨i, hi, rfl⟩ := List.mem_iff_getElem.1 hp
    have := h i (by rw [esis_length]; exact hi)
    rw [esis_at, List.getD_eq_getElem?_getD, List.getElem?_eq_getElem hi] at this
    exact this
  · intro h i hi
    rw [esis_length] at hi
    rw [esis_at]
    exact h _ (at_mem l i hi)
/-! The first of each number. -/
def step (acc : List Dp) (p : Dp) : List Dp := if p.1 ∈ esis acc then acc else acc ++ [p]
def first (l : List Dp) : List Dp := l.foldl step []
theorem first_succ (l : List Dp) (k : Nat) (h : k < l.length) : first (l.take (k + 1)) = step (first (l.take k)) (l.getD k (0, [])) := by
  rw [← take_snoc l k h]; unfold first; rw [List.foldl_append]; rfl
theorem first_old (l : List Dp) (k : Nat) (h : k < l.length) (hm : (l.getD k (0, [])).1 ∈ esis (first (l.take k))) : first (l.take (k + 1)) = first (l.take k) := by
  rw [first_succ l k h]; exact if_pos hm
theorem first_new (l : List Dp) (k : Nat) (h : k < l.length) (hm : (l.getD k (0, [])).1 ∉ esis (first (l.take k))) : first (l.take (k + 1)) = first (l.take k) ++ [l.getD k (0, [])] := by
  rw [first_succ l k h]; exact if_neg hm
theorem fold_mem : ∀ (l acc : List Dp) (q : Dp), q ∈ l.foldl step acc → q ∈ acc ∨ q ∈ l
  | [], _, _, h => .inl h
  | p :: l, acc, q, h => by
    rcases fold_mem l _ q h with h | h
    · unfold step at h
      split at h
      · exact .inl h
      · rcases List.mem_append.1 h with h | h
        · exact .inl h
        · rw [List.mem_singleton.1 h]; exact .inr (by simp)
    · exact .inr (by simp [h])
theorem first_mem (l : List Dp) : ∀ q ∈ first l, q ∈ l := fun q h => by
  rcases fold_mem l [] q h with h | h
  · cases h
  · exact h
theorem step_keep (acc : List Dp) (p q : Dp) (h : q ∈ acc) : q ∈ step acc p := by
  unfold step
  split
  · exact h
  · exact List.mem_append.2 (.inl h)
theorem fold_keep : ∀ (l acc : List Dp) (q : Dp), q ∈ acc → q ∈ l.foldl step acc
  | [], _, _, h => h
  | p :: l, acc, q, h => fold_keep l _ q (step_keep acc p q h)
theorem step_has (acc : List Dp) (p : Dp) : p.1 ∈ esis (step acc p) := by
  unfold step
  split
  · assumption
  · rw [esis_snoc]; simp
theorem fold_has : ∀ (l acc : List Dp) (p : Dp), p ∈ l → p.1 ∈ esis (l.foldl step acc)
  | q :: l, acc, p, h => by
    rcases List.mem_cons.1 h with rfl | h
    · obtain ⟨x, hx, he⟩ := List.mem_map.1 (step_has acc p)
      rw [← he]
      exact List.mem_map.2 ⟨x, fold_keep l _ x hx, rfl⟩
    · exact fold_has l _ p h
theorem first_esis (l : List Dp) (e : Int) : e ∈ esis (first l) ↔ e ∈ esis l := by
  constructor
  · intro h
    obtain ⟨x, hx, rfl⟩ := List.mem_map.1 h
    exact List.mem_map.2 ⟨x, first_mem l x hx, rfl⟩
  · intro h
    obtain ⟨x, hx, rfl⟩ := List.mem_map.1 h
    exact fold_has l [] x hx
theorem fold_length : ∀ (l acc : List Dp), (l.foldl step acc).length ≤ acc.length + l.length
  | [], _ => Nat.le_refl _
  | p :: l, acc => by
    have := fold_length l (step acc p)
    have h2 : (step acc p).length ≤ acc.length + 1 := by
      unfold step
      split
      · omega
      · simp
    rw [List.foldl_cons, List.length_cons]; omega
theorem first_length (l : List Dp) : (first l).length ≤ l.length := by
  have := fold_length l []
  rw [List.length_nil, Nat.zero_add] at this
  exact this
theorem fold_id : ∀ (l acc : List Dp), (esis (acc ++ l)).Nodup → l.foldl step acc = acc ++ l
  | [], acc, _ => by simp
  | p :: l, acc, h => by
    have hn : p.1 ∉ esis acc := fun hm => by
      unfold esis at h hm
      rw [List.map_append, List.nodup_append] at h
      exact h.2.2 _ hm _ (by simp) rfl
    have e : step acc p = acc ++ [p] := if_neg hn
    rw [List.foldl_cons, e, fold_id l (acc ++ [p]) (by rw [List.append_assoc]; exact h), List.append_assoc]; rfl
theorem first_id (l : List Dp) (h : (esis l).Nodup) : first l = l := fold_id l [] h
theorem first_twice (l : List Dp) (p : Dp) (h : (esis l).Nodup) (hp : p.1 ∈ esis l) : first (l ++ [p]) = l := by
  have h1 := first_id l h
  unfold first at h1 ⊢
  rw [List.foldl_append, h1]
  exact if_pos hp
theorem first_all {l : List Dp} {P : Dp → Prop} (h : ∀ p ∈ l, P p) : ∀ p ∈ first l, P p := fun p hp => h p (first_mem l p hp)
/-! Numbers and elements side by side. -/
def pairsTo (es : List Int) (ds : List (List Nat)) (m : Nat) : List Dp := (List.range m).map fun i => (es.getD i 0, ds.getD i [])
def pairs (es : List Int) (ds : List (List Nat)) : List Dp := pairsTo es ds es.length
theorem pairsTo_length (es : List Int) (ds : List (List Nat)) (m : Nat) : (pairsTo es ds m).length = m := by simp [pairsTo]
theorem pairs_length (es : List Int) (ds : List (List Nat)) : (pairs es ds).length = es.length := pairsTo_length _ _ _
theorem pairsTo_succ (es : List Int) (ds : List (List Nat)) (m : Nat) : pairsTo es ds m ++ [(es.getD m 0, ds.getD m [])] = pairsTo es ds (m + 1) := by simp [pairsTo, List.range_succ]
theorem pairs_at (es : List Int) (ds : List (List Nat)) (i : Nat) (h : i < es.length) : (pairs es ds).getD i (0, []) = (es.getD i 0, ds.getD i []) := by simp [pairs, pairsTo, h]
theorem esis_pairs (es : List Int) (ds : List (List Nat)) : esis (pairs es ds) = es := by
  apply List.ext_getElem (by rw [esis_length, pairs_length])
  intro i h1 h2
  simp [esis, pairs, pairsTo, h2]
theorem data_pairs (es : List Int) (ds : List (List Nat)) (h : es.length = ds.length) : data (pairs es ds) = ds := by
  apply List.ext_getElem (by rw [data_length, pairs_length, h])
  intro i h1 h2
  simp [data, pairs, pairsTo, h2]
theorem pairs_mem {es : List Int} {ds : List (List Nat)} {P : Dp → Prop} (h : ∀ i, i < es.length → P (es.getD i 0, ds.getD i [])) : ∀ p ∈ pairs es ds, P p := fun p hp => by
  obtain ⟨i, hi, rfl⟩ := List.mem_map.1 hp
  exact h i (List.mem_range.1 hi)
theorem pairs_of {es : List Int} {ds : List (List Nat)} {P : Dp → Prop} (h : ∀ p ∈ pairs es ds, P p) (i : Nat) (hi : i < es.length) : P (es.getD i 0, ds.getD i []) :=
  h _ (List.mem_map.2 ⟨i, List.mem_range.2 hi, rfl⟩)
/-! What keeps symbols from being such. -/
def fault (size : Int) (l : List Dp) : Int := if ∀ p ∈ l, EsiOk p.1 then (if ∀ p ∈ l, (p.2.length : Int) = size then 0 else 10) else 1
theorem fault_esi {size : Int} {l : List Dp} (h : ¬ ∀ p ∈ l, EsiOk p.1) : fault size l = 1 := if_neg h
theorem fault_size {size : Int} {l : List Dp} (h : ∀ p ∈ l, EsiOk p.1) (h2 : ¬ ∀ p ∈ l, (p.2.length : Int) = size) : fault size l = 10 := by unfold fault; rw [if_pos h, if_neg h2]
theorem fault_ok {size : Int} {l : List Dp} (h : ∀ p ∈ l, EsiOk p.1) (h2 : ∀ p ∈ l, (p.2.length : Int) = size) : fault size l = 0 := by unfold fault; rw [if_pos h, if_pos h2]
/-! The rows. -/
theorem mat_mem (k j : Nat) (es : List Int) (r : List Nat) : r ∈ QM.mat k j es ↔ r ∈ QM.low k ++ QM.high k ∨ ∃ e ∈ es, TM.row k j e.toNat = r := by
  unfold QM.mat QM.syms; rw [List.mem_append, List.mem_map]
theorem mat_lt (k j : Nat) (es : List Int) : ∀ r ∈ QM.mat k j es, ∀ x ∈ r, x < 256 := by
  intro r hr x hx
  rcases (mat_mem k j es r).1 hr with h | ⟨e, _, rfl⟩
  · rcases List.mem_append.1 h with h | h
    · obtain ⟨i, _, rfl⟩ := List.mem_map.1 h
      exact QM.tab_lt (fun x _ => QM.lowE_lt _ _ _) x hx
    · obtain ⟨i, _, rfl⟩ := List.mem_map.1 h
      exact QM.tab_lt (fun x _ => QM.hiE_lt _ _ _) x hx
  · exact TM.marks_lt _ _ x hx
theorem ties_length (k : Nat) : (QM.low k ++ QM.high k).length = PM.s k + 2 := by rw [List.length_append]; unfold QM.low QM.high; rw [QM.grid_length, QM.grid_length]
theorem mat_low (k j : Nat) (es es' : List Int) (i : Nat) (hi : i < PM.s k + 2) : (QM.mat k j es).getD i [] = (QM.mat k j es').getD i [] := by
  have hA := ties_length k
  unfold QM.mat
  generalize QM.low k ++ QM.high k = A at *
  rw [List.getD_eq_getElem?_getD, List.getD_eq_getElem?_getD, List.getElem?_append_left (by omega), List.getElem?_append_left (by omega)]
theorem append_map_any {X : Type} (A : List X) (g : Nat → X) (l : List Int) (n i : Nat) (d : X) (hA : A.length = n) (hi : i < l.length) : (A ++ l.map fun x => g x.toNat).getD (n + i) d = g (l.getD i 0).toNat := by
  rw [List.getD_eq_getElem?_getD, List.getElem?_append_right (by omega), show n + i - A.length = i by omega, List.getElem?_map, List.getElem?_eq_getElem hi, List.getD_eq_getElem?_getD, List.getElem?_eq_getElem hi]
  rfl
theorem mat_sym (k j : Nat) (es : List Int) (i : Nat) (hi : i < es.length) : (QM.mat k j es).getD (PM.s k + 2 + i) [] = TM.row k j (es.getD i 0).toNat := by
  have hA := ties_length k
  unfold QM.mat QM.syms
  generalize QM.low k ++ QM.high k = A at *
  generalize TM.row k j = g at *
  exact append_map_any A g es _ i [] hA hi
/-- Of rows alone: is their rank the number of all parts? -/
def Full (k j : Nat) (es : List Int) : Prop := LA.RankIs (PM.l k) (· < (QM.mat k j es).length) (rowsF (PM.l k) 0 (QM.mat k j es) []) (PM.l k)
theorem full_iff {k j r : Nat} {es : List Int} (h : LA.RankIs (PM.l k) (· < (QM.mat k j es).length) (rowsF (PM.l k) 0 (QM.mat k j es) []) r) : r = PM.l k ↔ Full k j es :=
  ⟨fun e => by subst e; exact h, fun g => h.uniq g⟩
theorem eq_full {k j r : Nat} {es : List Int} (h : LA.RankIs (PM.l k) (· < (QM.mat k j es).length) (rowsF (PM.l k) 0 (QM.mat k j es) []) r) : ((r : Int) == (PM.l k : Int)) = true ↔ Full k j es := by
  rw [beq_iff_eq, ← full_iff h]; omega
theorem full_good (k j : Nat) : Full k j (SM.iota k) ↔ SM.Good k j := Iff.rfl
theorem nil_lt : ∀ r ∈ ([] : List (List Nat)), ∀ x ∈ r, x < 256 := fun r hr => by cases hr
theorem rows_span {W : Nat} {m m' : List (List Nat)} (hl : ∀ r ∈ m', ∀ x ∈ r, x < 256) (h : ∀ r ∈ m, r ∈ m') (v : LA.V) (hv : LA.Span (· < m.length) (rowsF W 0 m []) v) : LA.Span (· < m'.length) (rowsF W 0 m' []) v := by
  refine LA.Span.sub (fun i _ => rowsF_bd W 0 hl nil_lt i) (fun i hi => ?_) hv
  have hi : i < m.length := hi
  obtain ⟨q, hq, he⟩ := List.mem_iff_getElem.1 (h m[i] (List.getElem_mem hi))
  have e : rowsF W 0 m [] i = rowsF W 0 m' [] q := by
    unfold rowsF
    rw [show m.getD i [] = m[i] by simp [hi], show m'.getD q [] = m'[q] by simp [hq], he]
    rfl
  rw [e]
  exact LA.Span.mem (P := (· < m'.length)) (fun i _ => rowsF_bd W 0 hl nil_lt i) hq
theorem Full.mono {k j : Nat} {es es' : List Int} (h : ∀ e ∈ es, e ∈ es') (hf : Full k j es) : Full k j es' := by
  unfold Full at hf ⊢
  refine LA.RankIs.of_full fun c hc => (hf.full c hc).mono ?_
  refine rows_span (mat_lt k j es') fun r hr => ?_
  rw [mat_mem] at hr ⊢
  rcases hr with hr | ⟨e, he, hr⟩
  · exact .inl hr
  · exact .inr ⟨e, h e he, hr⟩
theorem full_same {k j : Nat} {es es' : List Int} (h : ∀ e, e ∈ es ↔ e ∈ es') : Full k j es ↔ Full k j es' := ⟨Full.mono fun e => (h e).1, Full.mono fun e => (h e).2⟩
theorem full_few {k j : Nat} {es : List Int} (h : es.length < k) : ¬ Full k j es := fun hf => by
  have := Rk.count _ (QM.mat k j es) (PM.l k) rfl (mat_lt k j es) hf
  rw [QM.mat_length] at this
  unfold PM.l PM.w at this
  omega
/-- The rows and what they are mixed to, as vectors. -/
def F (k j size : Nat) (l : List Dp) : Nat → LA.V := rowsF (PM.l k) size (QM.mat k j (esis l)) (BM.mixed k (data l))
def Res (k j size : Nat) (l : List Dp) (res : Option (List (List Nat))) : Prop := SolveRes (PM.l k) size (· < (QM.mat k j (esis l)).length) (F k j size l) res
theorem F_bd (k j size : Nat) {l : List Dp} (h : ∀ p ∈ l, ∀ x ∈ p.2, x < 256) (i : Nat) : LA.Bd (F k j size l i) :=
  rowsF_bd _ _ (mat_lt k j _) (BM.mixed_lt k fun r hr => by obtain ⟨p, hp, rfl⟩ := List.mem_map.1 hr; exact h p hp) i
theorem Res.uniq {k j size : Nat} {l : List Dp} {a b : Option (List (List Nat))} (h : ∀ p ∈ l, ∀ x ∈ p.2, x < 256) (ha : Res k j size l a) (hb : Res k j size l b) : a = b :=
  SolveRes.uniq (fun i _ => F_bd k j size h i) ha hb
theorem res_exists (k j size : Nat) (l : List Dp) : ∃ res, Res k j size l res := by
  by_cases h : Solvable (PM.l k) size (· < (QM.mat k j (esis l)).length) (F k j size l)
  · obtain ⟨hl, x, hx⟩ := h
    obtain ⟨X, hX⟩ := LA.sol_rows hl hx
    exact ⟨_, hX⟩
  · exact ⟨none, h⟩
theorem lead_iff (k j size : Nat) (l : List Dp) : Full k j (esis l) ↔ ∀ c, c < PM.l k → LA.Lead (· < (QM.mat k j (esis l)).length) (F k j size l) c := by
  have ht : ∀ c, c < PM.l k → (LA.Lead (· < (QM.mat k j (esis l)).length) (F k j size l) c ↔ LA.Lead (· < (QM.mat k j (esis l)).length) (rowsF (PM.l k) 0 (QM.mat k j (esis l)) []) c) := fun c hc =>
    LA.lead_trunc (fun i _ => rowsF_trunc (PM.l k) size (QM.mat k j (esis l)) (BM.mixed k (data l)) i) c hc
  exact ⟨fun h c hc => (ht c hc).2 (LA.RankIs.full h c hc), fun h => LA.RankIs.of_full fun c hc => (ht c hc).1 (h c hc)⟩
theorem F_low (k j size : Nat) (l : List Dp) (i x : Nat) (h : x < PM.l k) : F k j size l i x = ((QM.mat k j (esis l)).getD i []).getD x 0 := by
  have : F k j size l i x = (RM.sum (PM.l k) [(QM.mat k j (esis l)).getD i []]).getD x 0 := if_pos h
  rw [this, LA.sum1_getD _ _ x h]
theorem F_high (k j size : Nat) (l : List Dp) (i x : Nat) (h : x < size) : F k j size l i (PM.l k + x) = ((BM.mixed k (data l)).getD i []).getD x 0 := by
  unfold F rowsF
  rw [vec_high]
  exact LA.sum1_getD size _ x h
/-- The symbol of a number as a mixture of the parts. -/
theorem sym_dots {k j size e x : Nat} {c : List (List Nat)} {f : LA.V} (hc : LA.Bd (xOf c x)) (hf : ∀ q, q < PM.l k → f q = LA.ind (TM.parts k j e) q) (hx : x < size) : LA.dots (PM.l k) f (xOf c x) = (DM.drop k j size c e).getD x 0 := by
  have hnd : (TM.parts k j e).Nodup := TM.partsW_once _ _
  have hlt : ∀ q ∈ TM.parts k j e, q < PM.l k := fun q hq => TM.partsW_lt _ _ q hq
  unfold DM.drop
  rw [DM.sum_pick_at _ _ _ _ hx]
  generalize TM.parts k j e = p at *
  rw [LA.dots_congr (PM.l k) _ _ (LA.ind p) (xOf c x) (fun q hq => by rw [hf q hq]), LA.dots_ind (PM.l k) _ hc p hnd hlt]
  rfl
/-- Parts of a block solve the rows of any of its symbols. -/
theorem sol_of {k j size : Nat} {src c : List (List Nat)} {l : List Dp} (h : BM.PartsIs k j size src c) (hd : ∀ p ∈ l, p.2 = DM.drop k j size c p.1.toNat) : LA.Sol (PM.l k) size (· < (QM.mat k j (esis l)).length) (F k j size l) (xOf c) := by
  refine ⟨h.2.2.2.1, fun i hi x hx => ?_⟩
  have hi : i < (QM.mat k j (esis l)).length := hi
  rw [QM.mat_length, esis_length] at hi
  rw [F_high k j size l i x hx]
  by_cases hlo : i < PM.s k + 2
  · have h1 := h.2.2.2.2 i (by unfold PM.l PM.w; omega) x hx
    rw [BM.F_high k j size src i x hx, BM.mixed_low k src i hlo] at h1
    rw [BM.mixed_low k (data l) i hlo, h1]
    refine LA.dots_congr (PM.l k) _ _ _ _ fun q hq => ?_
    rw [BM.F_low k j size src i q hq, LA.sum1_getD _ _ q hq, F_low k j size l i q hq, mat_low k j (esis l) (SM.iota k) i hlo]
    rfl
  · obtain ⟨q, rfl⟩ : ∃ q, i = PM.s k + 2 + q := ⟨i - (PM.s k + 2), by omega⟩
    have hq : q < l.length := by omega
    rw [BM.mixed_src, data_at, hd _ (at_mem l q hq)]
    refine (sym_dots (h.2.2.2.1 x) (fun y hy => ?_) hx).symm
    rw [F_low k j size l _ y hy, mat_sym k j (esis l) q (by rw [esis_length]; exact hq), esis_at]
    exact TM.marks_at _ _ _ hy
theorem back_some {k j size : Nat} {src c : List (List Nat)} {l : List Dp} (h : BM.PartsIs k j size src c) (hd : ∀ p ∈ l, p.2 = DM.drop k j size c p.1.toNat) (hf : Full k j (esis l)) : Res k j size l (some c) :=
  ⟨h.1, h.2.1, (lead_iff k j size l).1 hf, sol_of h hd⟩
theorem back_none {k j size : Nat} {l : List Dp} (hf : ¬ Full k j (esis l)) : Res k j size l none := fun h => hf ((lead_iff k j size l).2 h.1)
/-- Of the first numbers: the parts of the block that has this source. -/
theorem res_parts {k j size : Nat} {src c : List (List Nat)} {l : List Dp} (he : esis l = SM.iota k) (hd : data l = src) (h : BM.PartsIs k j size src c) : Res k j size l (some c) := by
  unfold Res F
  rw [he, hd]
  have hl : (QM.mat k j (SM.iota k)).length = PM.l k := BM.rows_l k j
  rw [hl]
  exact h
/-- The source that parts have. -/
def out (k j size : Nat) (c : List (List Nat)) : List (List Nat) := (List.range k).map fun i => DM.drop k j size c i
theorem out_length (k j size : Nat) (c : List (List Nat)) : (out k j size c).length = k := by simp [out]
theorem out_src {k j size : Nat} {src c : List (List Nat)} (h : BM.PartsIs k j size src c) (hl : src.length = k) (hr : ∀ i, i < k → (src.getD i []).length = size) : out k j size c = src := by
  apply List.ext_getElem (by rw [out_length, hl])
  intro i h1 h2
  rw [out_length] at h1
  have := h.source i h1 (hr i h1)
  rw [show src.getD i [] = src[i] by simp [h2]] at this
  rw [← this]
  simp [out]
/-- What Block tells of the first numbers. -/
def sym (k j size : Nat) (c : List (List Nat)) (e : Int) : List Nat := if EsiOk e then DM.drop k j size c e.toNat else []
theorem all_out (k j size : Nat) (c : List (List Nat)) (hk : k ≤ 1000) (hs : 1 ≤ size) : DM.all (sym k j size c) (SM.iota k) = out k j size c := by
  have hs' : ∀ i, i < k → sym k j size c ((SM.iota k).getD i 0) = DM.drop k j size c i := fun i hi => by
    rw [SM.iota_at k i hi]
    exact if_pos ⟨by omega, by omega⟩
  rw [DM.all_yes _ _ fun i hi => by rw [SM.iota_length] at hi; rw [hs' i hi, DM.drop_length]; exact hs]
  apply List.ext_getElem (by rw [List.length_map, SM.iota_length, out_length])
  intro i h1 h2
  rw [out_length] at h2
  have := hs' i h2
  rw [show (SM.iota k).getD i 0 = (SM.iota k)[i]'(by rw [SM.iota_length]; exact h2) by simp [SM.iota_length, h2]] at this
  simp only [List.getElem_map, out, List.getElem_range]
  exact this
end DC
end Go.Proofs.YtippckajlghimaaGreatDoor
/- A slice of rows from before as a source of append in a later world; slices of nil rows. -/
namespace Go.Proofs.YtippckajlghimaaGreatDoor
set_option maxRecDepth 20000
open Go.RowKit Go.Deep
set_option linter.unusedVariables false
theorem Rws.srcs_old {P : Program} {w0 w : World} {v : Value} {l : List (List Nat)} (h : Rws w0 v l) (hx : w0.Extends w) {tx e' : TypeId} (hk : P.underlying tx = some (.slice e')) :
    ∃ vs, Src P 1 tx v l.length vs w ∧ ∀ j, j < l.length → ∃ u, vs[j]? = some u ∧ RowOk w w0.heap.size u (l.getD j []) := by
  rcases h with ⟨rfl, a, cap, rfl⟩ | ⟨b, off, cap, rfl, h1, h2, h3, h4⟩
  · refine ⟨[], ?_, fun j hj => absurd hj (Nat.not_lt_zero _)⟩
    cases a with
    | none => exact Src.ofNil w hk cap
    | some a => exact Src.ofSlice w hk a 0 cap [] rfl (by simp) (by simp)
  · obtain ⟨vs, hl, hv⟩ := list_of h4
    refine ⟨vs, Src.ofSlice w hk ⟨b, off, none⟩ l.length cap vs (by rw [hl, Nat.mul_one]) (fun j u hu => ?_) (fun u hu => ?_), fun j hj => ?_⟩
    · have hj : j < l.length := by
        rcases Nat.lt_or_ge j l.length with h | h
        · exact h
        · rw [List.getElem?_eq_none (by omega)] at hu; cases hu
      obtain ⟨u', h5, h6, _⟩ := hv j hj
      rw [hu] at h5; cases h5
      rw [Addr.add_mid]; exact hx.cell_of h6
    · obtain ⟨j, hj, rfl⟩ := List.mem_iff_getElem.1 hu
      obtain ⟨u', h5, _, h7⟩ := hv j (by omega)
      rw [List.getElem?_eq_getElem hj] at h5
      rw [Option.some.inj h5]; exact u8s_one h7
    · obtain ⟨u, h5, _, h7⟩ := hv j hj
      exact ⟨u, h5, (RowOk.old h7 (Nat.le_refl _)).ext hx⟩
theorem nil_ok (w : World) (B : Nat) : RowOk w B (.slice none 0 0) [] := ⟨nil_u8s _ _ _, .inl rfl⟩
/-- A slice of rows that are nil, just made. -/
theorem nils_mats (w : World) (B R : Nat) (T : TypeId) (n : Nat) (hn : n ≤ 1000) (hB : B ≤ w.heap.size) : Mats (w.alloc (.cells (madeCells #[.slice none 0 0] n) T)) B R T (.slice (some ⟨w.heap.size, 0, none⟩) n n) n (List.replicate n []) := by
  obtain ⟨c, hc, hs, hi⟩ := World.rowIs_made w (.slice none 0 0) n T
  refine ⟨List.replicate n (.slice none 0 0), ⟨by simp, .inr ⟨w.heap.size, n, c, rfl, hB, hc, Nat.le_refl _, by unfold maxLen; omega, by rw [hs, Nat.mul_one], ?_⟩⟩, fun j hj => ⟨.slice none 0 0, by simp [hj], ?_⟩⟩
  · rw [Nat.mul_one]
    apply List.ext_getElem?
    intro i
    by_cases hix : i < n
    · rw [List.getElem?_take, if_pos hix, Array.getElem?_toList, hi i hix]
      simp [hix]
    · rw [List.getElem?_take, if_neg hix, List.getElem?_eq_none (by simp; omega)]
  · rw [show (List.replicate n ([] : List Nat)).getD j [] = [] by simp [hj]]
    exact nil_ok _ _
end Go.Proofs.YtippckajlghimaaGreatDoor
/- Slices of symbols: what a slice value reads as; those that a call has appended together. -/
namespace Go.Proofs.YtippckajlghimaaGreatDoor
set_option maxRecDepth 20000
open Go.RowKit Go.Deep
set_option linter.unusedVariables false
theorem dropinfo : (Tryz.prog.info? 117).map (fun i => (i.zero, i.size, i.bytes)) = some (some (.agg #[.int .i64 0, .slice none 0 0]), 2, 32) := by kernel_rfl
/-- Element k of the row of symbols at b, off. -/
def DCell (w : World) (b off : Nat) (p : DC.Dp) : Prop := ∃ a c, w.cell? ⟨b, off, none⟩ = some (.int .i64 p.1) ∧ w.cell? ⟨b, off + 1, none⟩ = some (.slice a p.2.length c) ∧ U8s w (.slice a p.2.length c) p.2
theorem DCell.ext {w w' : World} {b off : Nat} {p : DC.Dp} (h : DCell w b off p) (hx : w.Extends w') : DCell w' b off p := by
  obtain ⟨a, c, h1, h2, h3⟩ := h
  exact ⟨a, c, hx.cell_of h1, hx.cell_of h2, h3.ext hx⟩
theorem DCell.range {w : World} {b off : Nat} {p : DC.Dp} (h : DCell w b off p) : ∃ a c, w.rangeAt b off [.int .i64 p.1, .slice a p.2.length c] ∧ U8s w (.slice a p.2.length c) p.2 := by
  obtain ⟨a, c, h1, h2, h3⟩ := h
  refine ⟨a, c, fun j v hv => ?_, h3⟩
  match j, hv with
  | 0, hv => simp at hv; subst hv; exact h1
  | 1, hv => simp at hv; subst hv; exact h2
  | n + 2, hv => simp at hv
/-- v is a slice of the symbols l in w. -/
def Drps (w : World) (v : Value) (l : List DC.Dp) : Prop :=
  (l = [] ∧ ∃ a cap, v = .slice a 0 cap) ∨
  ∃ b off cap, v = .slice (some ⟨b, off, none⟩) l.length cap ∧ l.length ≤ cap ∧ l.length ≤ maxLen ∧ b < w.heap.size ∧ ∀ k, k < l.length → DCell w b (off + k * 2) (l.getD k (0, []))
theorem Drps.ext {w w' : World} {v : Value} {l : List DC.Dp} (h : Drps w v l) (hx : w.Extends w') : Drps w' v l := by
  rcases h with h | ⟨b, off, cap, h1, h2, h3, h4, h5⟩
  · exact .inl h
  · exact .inr ⟨b, off, cap, h1, h2, h3, Nat.lt_of_lt_of_le h4 hx.size, fun k hk => (h5 k hk).ext hx⟩
theorem Drps.slice {w : World} {v : Value} {l : List DC.Dp} (h : Drps w v l) : ∃ a cap, v = .slice a l.length cap := by
  rcases h with ⟨rfl, a, cap, rfl⟩ | ⟨b, off, cap, rfl, _⟩
  · exact ⟨a, cap, rfl⟩
  · exact ⟨_, cap, rfl⟩
theorem Drps.len {w : World} {v : Value} {l : List DC.Dp} (h : Drps w v l) : l.length ≤ maxLen := by
  rcases h with ⟨rfl, _⟩ | ⟨b, off, cap, _, _, h, _⟩
  · exact Nat.zero_le _
  · exact h
theorem Drps.at {w : World} {a : Option Addr} {n cap : Nat} {l : List DC.Dp} (h : Drps w (.slice a n cap) l) : n = l.length ∧ (0 < n → ∃ b off, a = some ⟨b, off, none⟩ ∧ b < w.heap.size ∧ ∀ k, k < n → DCell w b (off + k * 2) (l.getD k (0, []))) := by
  rcases h with ⟨rfl, a', cap', hv⟩ | ⟨b, off, cap', hv, h2, h3, h4, h5⟩
  · cases hv; exact ⟨rfl, fun h => absurd h (Nat.lt_irrefl _)⟩
  · cases hv; exact ⟨rfl, fun _ => ⟨b, off, rfl, h4, h5⟩⟩
theorem Drps.all_lt {w : World} {v : Value} {l : List DC.Dp} (h : Drps w v l) : ∀ p ∈ l, ∀ x ∈ p.2, x < 256 := by
  rcases h with ⟨rfl, _⟩ | ⟨b, off, cap, _, _, _, _, h5⟩
  · intro p hp; cases hp
  · intro p hp
    obtain ⟨k, hk, rfl⟩ := List.mem_iff_getElem.1 hp
    obtain ⟨_, _, _, _, h⟩ := h5 k hk
    rw [show l.getD k (0, []) = l[k] by simp [hk]] at h
    exact h.lt
theorem Drps.nil (w : World) (a : Option Addr) (cap : Nat) : Drps w (.slice a 0 cap) [] := .inl ⟨rfl, a, cap, rfl⟩
/-- v is the call's own slice (in memory from B on) of the first k symbols of l, their rows in memory from before R or in blocks of bytes. -/
def DMats (w : World) (B R : Nat) (v : Value) (k : Nat) (l : List DC.Dp) : Prop := ∃ vs, w.ownsRow B 117 2 v k vs ∧ ∀ j, j < k → vs[j * 2]? = some (.int .i64 (l.getD j (0, [])).1) ∧ ∃ u, vs[j * 2 + 1]? = some u ∧ RowOk w R u (l.getD j (0, [])).2
theorem DMats.nil (w : World) (B R : Nat) (l : List DC.Dp) : DMats w B R (.slice none 0 0) 0 l := ⟨[], World.ownsRow_nil _ _ _ _, fun j hj => absurd hj (Nat.not_lt_zero _)⟩
theorem DMats.slice {w : World} {B R : Nat} {v : Value} {k : Nat} {l : List DC.Dp} (h : DMats w B R v k l) : ∃ a cap, v = .slice a k cap := by
  obtain ⟨vs, ho, hr⟩ := h
  rcases ho.2 with ⟨rfl, rfl⟩ | ⟨g, cap, cur, rfl, _⟩
  · exact ⟨_, _, rfl⟩
  · exact ⟨_, _, rfl⟩
theorem DMats.ext {w w' : World} {B R : Nat} {v : Value} {k : Nat} {l : List DC.Dp} (h : DMats w B R v k l) (hx : w.Extends w') : DMats w' B R v k l := by
  obtain ⟨vs, ho, hr⟩ := h
  have hg : w.grownBy w' none := ⟨hx.os, hx.tape, hx.output, hx.size, fun i hi _ => hx.block i hi⟩
  refine ⟨vs, ho.kept hg (by cases v.ownBlock <;> simp), fun j hj => ?_⟩
  obtain ⟨h0, u, h1, h2⟩ := hr j hj
  exact ⟨h0, u, h1, h2.ext hx⟩
theorem DMats.drps {w : World} {B R : Nat} {v : Value} {k : Nat} {l : List DC.Dp} (h : DMats w B R v k l) (hk : k = l.length) : Drps w v l := by
  subst hk
  obtain ⟨vs, hown, hrow⟩ := h
  rcases hown.2 with ⟨rfl, h0⟩ | ⟨g, cap, cur, rfl, hbg, hg, hnc, hcm, hcs, htake⟩
  · exact .inl ⟨List.eq_nil_of_length_eq_zero h0, none, 0, rfl⟩
  · refine .inr ⟨g, 0, cap, rfl, hnc, Nat.le_trans hnc hcm, (Array.getElem?_eq_some_iff.1 hg).1, fun j hj => ?_⟩
    obtain ⟨h0, u, hu, ho⟩ := hrow j hj
    obtain ⟨a, c, rfl, _⟩ := ho.1.slice
    have e0 := hown.cells (g := g) rfl _ _ h0
    have e1 := hown.cells (g := g) rfl _ _ hu
    rw [Addr.add_mid] at e0 e1
    exact ⟨a, c, e0, by rw [Nat.add_assoc]; exact e1, ho.1⟩
theorem DMats.snoc {w w' : World} {B R : Nat} {v v' u : Value} {k : Nat} {l : List DC.Dp} {vs : List Value} {p : DC.Dp} (hR : R ≤ B) (hk : k = l.length) (hown : w.ownsRow B 117 2 v k vs)
    (hr : ∀ j, j < k → vs[j * 2]? = some (.int .i64 (l.getD j (0, [])).1) ∧ ∃ u, vs[j * 2 + 1]? = some u ∧ RowOk w R u (l.getD j (0, [])).2) (hu : RowOk w R u p.2)
    (hg : w.grownBy w' v.ownBlock) (ho : w'.ownsRow B 117 2 v' (k + 1) (vs ++ [.int .i64 p.1, u])) : DMats w' B R v' (k + 1) (l ++ [p]) := by
  have hl : vs.length = k * 2 := hown.1
  have keep : ∀ {x : Value} {xs : List Nat}, RowOk w R x xs → RowOk w' R x xs := fun {x xs} h => by
    by_cases hn : v.ownBlock = none
    · rw [hn] at hg
      exact h.ext (ext_below ⟨hg.os, hg.tape, hg.output, hg.size, fun i hi => hg.block i hi (by simp)⟩ rfl)
    · refine h.grown hg ?_
      rcases (h.mono hR).2 with h0 | h0
      · exact .inl h0
      · refine .inr fun e => ?_
        cases hv : v.ownBlock with
        | none => exact hn hv
        | some g =>
          rw [hv] at e
          obtain ⟨_, h1⟩ := h0 g e
          have hb := (hown.lt g hv).1
          rcases h1 with h1 | ⟨cs, hcs⟩
          · omega
          · rcases hown.2 with ⟨rfl, _⟩ | ⟨g', cap, cur, rfl, hbg, hg', _⟩
            · cases hv
            · simp only [Value.ownBlock, Option.some.injEq] at hv
              subst hv
              rw [hg'] at hcs
              simp only [Option.some.injEq, Obj.cells.injEq] at hcs
              exact absurd hcs.2.1 (by decide)
  refine ⟨_, ho, fun j hj => ?_⟩
  by_cases hjk : j < k
  · obtain ⟨h0, u', hu', ho'⟩ := hr j hjk
    have e : (l ++ [p]).getD j (0, []) = l.getD j (0, []) := by rw [List.getD_eq_getElem?_getD, List.getElem?_append_left (by omega), List.getD_eq_getElem?_getD]
    rw [e]
    exact ⟨by rw [List.getElem?_append_left (by omega)]; exact h0, u', by rw [List.getElem?_append_left (by omega)]; exact hu', keep ho'⟩
  · obtain rfl : j = k := by omega
    have e : (l ++ [p]).getD j (0, []) = p := by rw [List.getD_eq_getElem?_getD, List.getElem?_append_right (by omega), hk]; simp
    rw [e]
    exact ⟨by rw [List.getElem?_append_right (by omega), hl]; simp, u, by rw [List.getElem?_append_right (by omega), hl, show j * 2 + 1 - j * 2 = 1 by omega]; rfl, keep hu⟩
/-- The literal of one struct of two cells that append(s, x) makes. -/
theorem src_two {P : Program} {W : World} {T tx e' : TypeId} {u v : Value} (hk : P.underlying tx = some (.slice e')) (s c : Nat) (hs : s = W.heap.size) (h1 : u.oneCell' = true) (h2 : v.oneCell' = true) :
    Src P 2 tx (.slice (some ⟨s, 0, none⟩) 1 c) 1 [u, v] (W.alloc (.cells #[u, v] T)) := by
  subst hs
  refine Src.ofSlice _ hk ⟨W.heap.size, 0, none⟩ 1 c [u, v] rfl (fun j u' hu => ?_) (fun u' hu => ?_)
  · have h0 := heap_alloc_new W (.cells #[u, v] T)
    match j, hu with
    | 0, hu => simp at hu; subst hu; rw [Addr.add_mid, cell_of_row _ _ _ _ _ _ h0]; rfl
    | 1, hu => simp at hu; subst hu; rw [Addr.add_mid, cell_of_row _ _ _ _ _ _ h0]; rfl
    | n + 2, hu => simp at hu
  · simp at hu
    rcases hu with rfl | rfl
    · exact h1
    · exact h2
/-- A variable of two cells, just made. -/
theorem box_two (w : World) (T : TypeId) (u v : Value) : (w.alloc (.cells #[u, v] T)).cell? ⟨w.heap.size, 0, none⟩ = some u ∧ (w.alloc (.cells #[u, v] T)).cell? ⟨w.heap.size, 1, none⟩ = some v := by
  have h0 := heap_alloc_new w (.cells #[u, v] T)
  exact ⟨by rw [cell_of_row _ _ _ _ _ _ h0]; rfl, by rw [cell_of_row _ _ _ _ _ _ h0]; rfl⟩
end Go.Proofs.YtippckajlghimaaGreatDoor
