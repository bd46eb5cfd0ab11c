/- In one text: Rank, RndMath, PreMath, Grid, PreZeros, PrmBlock, PreLow, FldPower, RndStirP, RndRandP. -/
import Derived.Laws.BitsAllLaws
import Derived.WalkKit
import Derived.Handy
import Derived.Lib.Hide
import Derived.Deep.DeepCutAuto
import Derived.Test.YtpfmmfapdcbnkaaDoorRows
import Derived.IntWalk
import Derived.Test.YtpfmmfapdcbnkaaDoorMA1
import Derived.Test.YtpfmmfapdcbnkaaDoorMA2
import Derived.Test.YtpfmmfapdcbnkaaDoorMA3
import Derived.Test.YtpfmmfapdcbnkaaDoorMA4
import Derived.Test.YtpfmmfapdcbnkaaDoorMA6
import Derived.Test.YtpfmmfapdcbnkaaDoorMA7
import Derived.Test.YtpfmmfapdcbnkaaDoorMA8
namespace Go.Proofs.YtpfmmfapdcbnkaaDoor
set_option maxRecDepth 20000
open Go.RowKit
set_option linter.unusedVariables false
/-- The rows that have been taken, as vectors. -/
def rowsF (W S : Nat) (m d : List (List Nat)) (j : Nat) : LA.V := LA.vec W (RM.sum W [m.getD j []], RM.sum S [d.getD j []])
theorem getD_mem_lt {l : List (List Nat)} (h : ∀ r ∈ l, ∀ x ∈ r, x < 256) (j : Nat) : ∀ x ∈ l.getD j [], x < 256 := by
  by_cases hj : j < l.length
  · rw [List.getD_eq_getElem?_getD, List.getElem?_eq_getElem hj]; exact h _ (List.getElem_mem hj)
  · rw [List.getD_eq_getElem?_getD, List.getElem?_eq_none (by omega)]; intro x hx; cases hx
theorem rowsF_bd (W S : Nat) {m d : List (List Nat)} (hm : ∀ r ∈ m, ∀ x ∈ r, x < 256) (hd : ∀ r ∈ d, ∀ x ∈ r, x < 256) (j : Nat) : LA.Bd (rowsF W S m d j) :=
  LA.vec_bd (LA.dim_cut W S (m.getD j [], d.getD j []) (getD_mem_lt hm j) (getD_mem_lt hd j))
/-- What has been taken behind one more row, if it could be taken. -/
theorem inv_next {W S r k : Nat} {st : Nat → Option LA.Eqn} {f : Nat → LA.V} {e0 : LA.Eqn} {w : World} {p g : Nat} {e : Ending} {w' : World} (h : LA.Inv W S r st (· < k) f) (hf : ∀ j, LA.Bd (f j)) (hk : f k = LA.vec W e0) (h0 : LA.Dim W S e0)
    (ht : TakeOut w p g W S r st e0 e w') : (∃ r' st', e = .returned (.bool true) ∧ Sys w' p g W S r' st' ∧ LA.Inv W S r' st' (· < k + 1) f) ∨
      (e = .returned (.bool false) ∧ ∃ v, LA.Span (· < k + 1) f v ∧ (∀ i, i < W → v i = 0) ∧ ∃ q, q < S ∧ v (W + q) ≠ 0) := by
  have hpq : ∀ j, (j < k ∨ j = k) ↔ j < k + 1 := fun j => by omega
  rcases ht.1 with ⟨q, s, hq, hs, hred, hne, rfl, hsys⟩ | ⟨s, hred, rfl, hsys⟩
  · exact .inl ⟨_, _, rfl, hsys, (h.more hred hq hs hne k (fun j _ => hf j) hk h0).congrP hpq⟩
  · cases hz : allZ s.2 with
    | true =>
      have hz' : LA.vec W s = LA.zero := LA.vec_zero hred.1 hred.2.2 (by have := (allZ_iff s.2).1 hz; rwa [hred.1.2.1] at this)
      exact .inl ⟨r, st, rfl, hsys, (h.same hred hz' k (fun j hj => hj) (fun j _ => hf j) hk h0).congrP hpq⟩
    | false =>
      refine .inr ⟨rfl, LA.vec W s, ?_, fun i hi => ?_, ?_⟩
      · have h1 : LA.Span (· < k + 1) f (LA.add (LA.vec W e0) (LA.vec W s)) := (h.onto _ hred.2.1).mono fun j hj => by omega
        have h2 : LA.Span (· < k + 1) f (LA.vec W e0) := by rw [← hk]; exact LA.Span.mem (fun j _ => hf j) (by omega)
        have h3 := h2.add h1
        rwa [← LA.add_assoc, LA.add_self, LA.zero_add] at h3
      · show (if i < W then s.1.getD i 0 else _) = 0
        rw [if_pos hi]; exact hred.2.2 i hi
      · refine Decidable.byContradiction fun hn => ?_
        have : allZ s.2 = true := (allZ_iff s.2).2 fun q hq => Decidable.byContradiction fun hq0 => hn ⟨q, by rw [← hred.1.2.1]; exact hq, by
          show (if W + q < W then _ else s.2.getD (W + q - W) 0) ≠ 0
          rw [if_neg (by omega), show W + q - W = q by omega]; exact hq0⟩
        rw [hz] at this; cases this
theorem newSystem_int (n m : Int) (W S : Nat) (hn : n = W) (hm : m = S) (hW : W ≤ 300) (hS : S ≤ 1000) (w : World) : Calls Tryd.prog 52 #[.int .i64 n, .int .i64 m] w (MadeSys w W S) := by
  subst hn; subst hm; exact newSystem_any W S hW hS w
/-- The width of a rank. -/
def wid (n : Int) : Nat := min n.toNat 300
def RankOut (w : World) (W : Nat) (P : Nat → Prop) (f : Nat → LA.V) (e : Ending) (w' : World) : Prop := ∃ r : Nat, e = .returned (.int .i64 r) ∧ LA.RankIs W P f r ∧ Below w.heap.size w w'
set_option maxHeartbeats 4000000 in
theorem rank_any (n : Int) (v : Value) (l : List (List Nat)) (w : World) (hv : Rws w v l) :
    Calls Tryd.prog 46 #[.int .i64 n, v] w (RankOut w (wid n) (· < l.length) (rowsF (wid n) 0 l [])) := by
  have hlt := hv.all_lt
  have hlm := hv.len
  have HBD : Hid (∀ j, LA.Bd (rowsF (wid n) 0 l [] j)) := rowsF_bd _ _ hlt (by intro r hr; cases hr)
  have HDIM : Hid (∀ k, LA.Dim (wid n) 0 (RM.sum (wid n) [l.getD k []], RM.sum 0 [[]])) := fun k => LA.dim_cut (wid n) 0 (l.getD k [], []) (getD_mem_lt hlt k) (by intro x hx; cases hx)
  obtain ⟨a, cap, rfl, _⟩ := hv.slice
  have HR := Lib.hid hv.at.2
  have hw0 : n < 0 → (wid n : Int) = 0 := by intro h; unfold wid; omega
  have hw1 : 300 < n → (wid n : Int) = 300 := by intro h; unfold wid; omega
  have hw2 : 0 ≤ n → n ≤ 300 → (wid n : Int) = n := by intro h h'; unfold wid; omega
  have hw3 : wid n ≤ 300 := by unfold wid; omega
  have HF : Hid (∀ k, rowsF (wid n) 0 l [] k = LA.vec (wid n) (RM.sum (wid n) [l.getD k []], RM.sum 0 [[]])) := fun k => rfl
  clear hv hlt
  generalize hF : rowsF (wid n) 0 l [] = f at *
  have HFF := Lib.hid hF; clear hF
  generalize wid n = W at *
  generalize hll : l.length = ll at *
  have HL := Lib.hid hll; clear hll
  unfold maxLen at hlm
  go_enter Tryd.func46, Tryd.ntmps46
  go_wp2_with fail
  all_goals
    refine (newSystem_int _ _ W 0 (by omega) rfl hw3 (by omega) _).mono ?_
    rintro e w1 ⟨p, g, rfl, hsys, hx, hp, hg⟩
    clear hw0 hw1 hw2
    have HX1 := Lib.hid hx
    have HS1 := Lib.hid hsys
    clear hx hsys
    go_wp2_with fail
    go_loopw [14] (fun i wr => ∃ (k r : Nat) (st : Nat → Option LA.Eqn), k ≤ ll ∧ i = .int .i64 k ∧ Below w.heap.size w wr ∧ Sys wr p g W 0 r st ∧ LA.Inv W 0 r st (· < k) f) (fun i _ => (ll - intOf i).toNat)
    case atStart => exact ⟨0, 0, _, by omega, rfl, Gr.below_of HX1.out, HS1.out, (LA.Inv.start W 0 f).congrP fun j => by simp⟩
    case round =>
      obtain ⟨k, r, st, hk, rfl, hb, hsys, hinv⟩ := hrel
      have HB := Lib.hid hb
      have HS := Lib.hid hsys
      have HI := Lib.hid hinv
      have hp2 := hsys.cells.2.2
      clear hb hsys hinv
      by_cases h1 : k < ll
      · obtain ⟨bb, off, rfl, hbb, hrow⟩ := HR.out (by omega)
        obtain ⟨ra, rc, hc0, hu0⟩ := hrow k h1
        have hc : wr.cell? ⟨bb, off + k, none⟩ = some (.slice ra (l.getD k []).length rc) := (HB.out.cell (p := ⟨bb, off + k, none⟩) hbb).trans hc0
        have HU := Lib.hid (hu0.below HB.out rfl)
        clear hrow hc0 hu0
        by_cases hfull : r = W
        · have HD : Hid (decide (r = W) = true) := decide_eq_true hfull
          have HFIN : Hid (LA.RankIs W (· < ll) f r) := by
            have h := HI.out.rankIs
            rw [hfull] at h ⊢
            exact LA.RankIs.of_full fun c hc => (h.full c hc).mono fun v hv => hv.mono fun j hj => by omega
          clear hfull
          go_wp2_with fail
          refine (full_any p g W 0 r st _ HS.out).mono ?_
          rintro _ w2 ⟨rfl, rfl⟩
          rw [HD.out]
          go_wp2
          go_ret
          exact ⟨r, rfl, HFIN.out, HB.out.drew⟩
        · have HD : Hid (decide (r = W) = false) := decide_eq_false hfull
          have hr3 : r ≤ 300 := by have := HI.out.rankIs.le; omega
          clear hfull
          go_wp2_with fail
          refine (full_any p g W 0 r st _ HS.out).mono ?_
          rintro _ w2 ⟨rfl, rfl⟩
          rw [HD.out]
          go_wp2_with fail
          refine (take_any p g W 0 r st _ _ (l.getD k []) [] _ (HS.out.ext (Gr.ext_drew (Gr.ext_refl _))) HI.out.good hr3 HU.out.drew (nil_u8s _ _ _)).mono ?_
          intro e w2 ht
          have hb2 := ht.2 w.heap.size hp hg (by exact HB.out.size)
          rcases inv_next HI.out HBD.out (HF.out k) (HDIM.out k) ht with ⟨r', st', rfl, hs', hi'⟩ | ⟨_, v, _, _, q, hq, _⟩
          · have HP := Lib.hid (And.intro (HB.out.drew.trans hb2) (And.intro hs' hi'))
            clear hb2 ht hs' hi'
            go_wp2
            go_roundw
            case rel => exact ⟨k + 1, r', st', by omega, by go_num, HP.out.1, HP.out.2.1, HP.out.2.2⟩
            case measure => simp [intOf]; omega
          · exact absurd hq (Nat.not_lt_zero _)
      · obtain rfl : k = ll := by omega
        have HFIN := Lib.hid HI.out.rankIs
        go_wp2
        go_ret
        exact ⟨r, rfl, HFIN.out, HB.out⟩
end Go.Proofs.YtpfmmfapdcbnkaaDoor
namespace Go.Proofs.YtpfmmfapdcbnkaaDoor.RM
/-- A number stirred. -/
def mixed (k x : Nat) : Nat := x ^^^ (x / 2 ^ k)
def stir (x : Nat) : Nat := mixed 16 (mixed 15 (mixed 16 x * 2146121005 % 4294967296) * 2221713035 % 4294967296)
theorem mixed_lt (k x : Nat) (hx : x < 4294967296) : mixed k x < 4294967296 := by
  have e : (4294967296 : Nat) = 2 ^ 32 := by decide +kernel
  rw [e] at hx ⊢
  exact Nat.xor_lt_two_pow hx (Nat.lt_of_le_of_lt (Nat.div_le_self _ _) hx)
theorem stir_lt (x : Nat) : stir x < 4294967296 :=
  mixed_lt _ _ (Nat.mod_lt _ (by decide))
/-- Number i of those that are drawn for y. -/
def drawn (y i : Nat) : Nat := stir ((stir y + i * 2654435769) % 4294967296)
def rand (y i : Nat) (m : Int) : Int := if m < 1 then 0 else (drawn y i : Int) % m
theorem rand_below (y i : Nat) (m : Int) (h : ¬ m < 1) : 0 ≤ rand y i m ∧ rand y i m < m := by
  unfold rand; rw [if_neg h]
  exact ⟨Int.emod_nonneg _ (by omega), Int.emod_lt_of_pos _ (by omega)⟩
/-- Where degrees change. -/
def bounds : List Int := [5243, 529531, 704294, 791675, 844104, 879057, 904023]
/-- How many of the first n bounds v passes. -/
def passed (v : Int) : Nat → Nat
  | 0 => 0
  | n + 1 => passed v n + (if bounds.getD n 0 ≤ v then 1 else 0)
def degree (v : Int) : Int := ((1 + passed v 7 : Nat) : Int)
theorem passed_le (v : Int) : ∀ n, passed v n ≤ n
  | 0 => Nat.le_refl _
  | n + 1 => by have := passed_le v n; unfold passed; split <;> omega
theorem passed_yes (v : Int) (n : Nat) (h : bounds.getD n 0 ≤ v) : passed v (n + 1) = passed v n + 1 := by
  show passed v n + (if bounds.getD n 0 ≤ v then 1 else 0) = passed v n + 1
  rw [if_pos h]
theorem passed_no (v : Int) (n : Nat) (h : ¬ bounds.getD n 0 ≤ v) : passed v (n + 1) = passed v n := by
  show passed v n + (if bounds.getD n 0 ≤ v then 1 else 0) = passed v n
  rw [if_neg h]; rfl
end Go.Proofs.YtpfmmfapdcbnkaaDoor.RM
namespace Go.Proofs.YtpfmmfapdcbnkaaDoor
set_option maxRecDepth 20000
namespace QM
/-- A row by its elements. -/
def tab (n : Nat) (f : Nat → Nat) : List Nat := (List.range n).map f
theorem tab_length (n : Nat) (f : Nat → Nat) : (tab n f).length = n := by simp [tab]
theorem tab_at (n : Nat) (f : Nat → Nat) (i : Nat) (h : i < n) : (tab n f).getD i 0 = f i := by simp [tab, h]
theorem tab_congr {n : Nat} {f g : Nat → Nat} (h : ∀ x, x < n → f x = g x) : tab n f = tab n g := List.map_congr_left fun x hx => h x (List.mem_range.1 hx)
theorem tab_set (n : Nat) (f : Nat → Nat) (c v : Nat) : (tab n f).set c v = tab n (fun x => if x = c then v else f x) := by
  apply List.ext_getElem (by simp [tab])
  intro i h1 h2
  by_cases e : i = c
  · subst e; simp [tab]
  · simp [tab, e, Ne.symm e]
theorem tab_lt {n : Nat} {f : Nat → Nat} (h : ∀ x, x < n → f x < 256) : ∀ y ∈ tab n f, y < 256 := fun y hy => by
  obtain ⟨x, hx, rfl⟩ := List.mem_map.1 hy
  exact h x (List.mem_range.1 hx)
/-- Place x falls to row i of s. -/
def hit (s i x : Nat) : Prop := x % s = i ∨ (x / s + x + 1) % s = i
instance (s i x : Nat) : Decidable (hit s i x) := by unfold hit; infer_instance
/-- The low rows; behind c columns; behind m rows. -/
def lowE (k i x : Nat) : Nat := if (x < k ∧ hit (PM.s k) i x) ∨ x = k + i ∨ x = PM.w k + i % 2 then 1 else 0
def lowTo (k c i x : Nat) : Nat := if x < c ∧ hit (PM.s k) i x then 1 else 0
def lowUp (k m i x : Nat) : Nat := if i < m then lowE k i x else lowTo k k i x
theorem lowE_lt (k i x : Nat) : lowE k i x < 256 := by unfold lowE; split <;> omega
theorem lowTo_zero (k i x : Nat) : lowTo k 0 i x = 0 := by unfold lowTo; rw [if_neg (by omega)]
theorem lowTo_same (k c i x : Nat) (h : ¬ hit (PM.s k) i c) : lowTo k (c + 1) i x = lowTo k c i x := by
  unfold lowTo
  by_cases e : x = c
  · subst e; rw [if_neg (fun h' => h h'.2), if_neg (by omega)]
  · have : (x < c + 1 ∧ hit (PM.s k) i x) ↔ (x < c ∧ hit (PM.s k) i x) := ⟨fun h => ⟨by omega, h.2⟩, fun h => ⟨by omega, h.2⟩⟩
    simp only [this]
theorem lowTo_hit (k c i x : Nat) (h : hit (PM.s k) i c) : (if x = c then 1 else lowTo k c i x) = lowTo k (c + 1) i x := by
  unfold lowTo
  by_cases e : x = c
  · subst e; rw [if_pos rfl, if_pos ⟨by omega, h⟩]
  · have : (x < c + 1 ∧ hit (PM.s k) i x) ↔ (x < c ∧ hit (PM.s k) i x) := ⟨fun h => ⟨by omega, h.2⟩, fun h => ⟨by omega, h.2⟩⟩
    simp only [this]; rw [if_neg e]
theorem lowTo_two (k c i x r q : Nat) (hr : c % PM.s k = r) (hq : (c / PM.s k + c + 1) % PM.s k = q) :
    (if i = q ∧ x = c then 1 else if i = r ∧ x = c then 1 else lowTo k c i x) = lowTo k (c + 1) i x := by
  by_cases hh : hit (PM.s k) i c
  · rw [← lowTo_hit k c i x hh]
    by_cases e : x = c
    · rw [if_pos e]
      rcases hh with h | h
      · rw [if_pos (show i = r ∧ x = c from ⟨by omega, e⟩)]; split <;> rfl
      · rw [if_pos (show i = q ∧ x = c from ⟨by omega, e⟩)]
    · rw [if_neg (fun h => e h.2), if_neg (fun h => e h.2), if_neg e]
  · rw [lowTo_same k c i x hh]
    rw [if_neg (fun h => hh (.inr (by omega))), if_neg (fun h => hh (.inl (by omega)))]
theorem lowE_of (k i x : Nat) : (if x = PM.w k + i % 2 then 1 else if x = k + i then 1 else lowTo k k i x) = lowE k i x := by
  unfold lowE lowTo
  by_cases e : x = PM.w k + i % 2
  · rw [if_pos e, if_pos (.inr (.inr e))]
  · rw [if_neg e]
    by_cases e' : x = k + i
    · rw [if_pos e', if_pos (.inr (.inl e'))]
    · rw [if_neg e']
      by_cases h : x < k ∧ hit (PM.s k) i x
      · rw [if_pos h, if_pos (.inl h)]
      · rw [if_neg h, if_neg (fun h' => by rcases h' with h' | h' | h' <;> contradiction)]
theorem lowUp_zero (k i x : Nat) : lowUp k 0 i x = lowTo k k i x := if_neg (by omega)
theorem lowUp_full (k i x : Nat) (h : i < PM.s k) : lowUp k (PM.s k) i x = lowE k i x := if_pos h
theorem lowUp_step (k m i x : Nat) : (if i = m ∧ x = PM.w k + m % 2 then 1 else if i = m ∧ x = k + m then 1 else lowUp k m i x) = lowUp k (m + 1) i x := by
  unfold lowUp
  by_cases e : i = m
  · subst e
    rw [if_pos (show i < i + 1 by omega), if_neg (show ¬ i < i by omega), ← lowE_of]
    by_cases h1 : x = PM.w k + i % 2
    · rw [if_pos ⟨rfl, h1⟩, if_pos h1]
    · rw [if_neg (fun h => h1 h.2), if_neg h1]
      by_cases h2 : x = k + i
      · rw [if_pos ⟨rfl, h2⟩, if_pos h2]
      · rw [if_neg (fun h => h2 h.2), if_neg h2]
  · rw [if_neg (fun h => e h.1), if_neg (fun h => e h.1)]
    by_cases h : i < m
    · rw [if_pos h, if_pos (by omega)]
    · rw [if_neg h, if_neg (by omega)]
/-- The high rows; behind c elements of row h. -/
def hv (h x : Nat) : Nat := FM.ex (RM.rand x (h + 7) 255 % 255).toNat
def hiE (k h x : Nat) : Nat := if x < PM.w k then hv h x else if x = PM.w k + h then 1 else 0
def hiTo (k h c i x : Nat) : Nat := if i < h then hiE k i x else if i = h ∧ x < c then hv h x else 0
theorem hv_lt (h x : Nat) : hv h x < 256 := FM.ex_lt _
theorem hiE_lt (k h x : Nat) : hiE k h x < 256 := by
  unfold hiE; have := hv_lt h x; split
  · omega
  · split <;> omega
theorem hiTo_zero (k i x : Nat) : hiTo k 0 0 i x = 0 := by unfold hiTo; rw [if_neg (by omega), if_neg (by omega)]
theorem hiTo_step (k h c i x : Nat) : (if i = h ∧ x = c then hv h c else hiTo k h c i x) = hiTo k h (c + 1) i x := by
  unfold hiTo
  by_cases e : i = h
  · subst e
    rw [if_neg (show ¬ i < i by omega), if_neg (show ¬ i < i by omega)]
    by_cases e' : x = c
    · subst e'; rw [if_pos ⟨rfl, rfl⟩, if_pos ⟨rfl, by omega⟩]
    · rw [if_neg (fun h => e' h.2)]
      by_cases h : x < c
      · rw [if_pos ⟨rfl, h⟩, if_pos ⟨rfl, by omega⟩]
      · rw [if_neg (fun h' => h h'.2), if_neg (fun h' => by omega)]
  · rw [if_neg (fun h => e h.1), if_neg (show ¬ (i = h ∧ x < c) from fun h => e h.1), if_neg (show ¬ (i = h ∧ x < c + 1) from fun h => e h.1)]
theorem hiE_of (k h x : Nat) : (if x = PM.w k + h then 1 else if x < PM.w k then hv h x else 0) = hiE k h x := by
  unfold hiE
  by_cases e : x < PM.w k
  · rw [if_pos e, if_pos e, if_neg (by omega)]
  · rw [if_neg e, if_neg e]
theorem hiTo_row (k h i x : Nat) : (if i = h ∧ x = PM.w k + h then 1 else hiTo k h (PM.w k) i x) = hiTo k (h + 1) 0 i x := by
  unfold hiTo
  by_cases e : i = h
  · subst e
    rw [if_neg (show ¬ i < i by omega), if_pos (show i < i + 1 by omega), ← hiE_of]
    by_cases e' : x = PM.w k + i
    · rw [if_pos ⟨rfl, e'⟩, if_pos e']
    · rw [if_neg (fun h => e' h.2), if_neg e']
      by_cases h : x < PM.w k
      · rw [if_pos ⟨rfl, h⟩, if_pos h]
      · rw [if_neg (fun h' => h h'.2), if_neg h]
  · rw [if_neg (fun h => e h.1), if_neg (show ¬ (i = h ∧ x < PM.w k) from fun h => e h.1)]
    by_cases h : i < h
    · rw [if_pos h, if_pos (by omega)]
    · rw [if_neg h, if_neg (by omega), if_neg (by omega)]
theorem hiTo_full (k i x : Nat) (h : i < 2) : hiTo k 2 0 i x = hiE k i x := if_pos h
/-- Rows by their elements. -/
def grid (n L : Nat) (f : Nat → Nat → Nat) : List (List Nat) := (List.range n).map fun i => tab L (f i)
theorem grid_length (n L : Nat) (f : Nat → Nat → Nat) : (grid n L f).length = n := by simp [grid]
theorem grid_at (n L : Nat) (f : Nat → Nat → Nat) (i : Nat) (h : i < n) : (grid n L f).getD i [] = tab L (f i) := by simp [grid, h]
def low (k : Nat) : List (List Nat) := grid (PM.s k) (PM.l k) (lowE k)
def high (k : Nat) : List (List Nat) := grid 2 (PM.l k) (hiE k)
end QM
end Go.Proofs.YtpfmmfapdcbnkaaDoor
namespace Go.Proofs.YtpfmmfapdcbnkaaDoor
set_option maxRecDepth 20000
open Go.RowKit Go.Deep
set_option linter.unusedVariables false
/-- Block g holds n slices, of the blocks behind it, and these are rows of L bytes. -/
def Grid (w : World) (g n L : Nat) (f : Nat → Nat → Nat) : Prop :=
  w.rowIs g 67 n (fun i => .slice (some ⟨g + 1 + i, 0, none⟩) L L) ∧ L ≤ maxLen ∧ ∀ i, i < n → w.rowIs (g + 1 + i) 5 L (fun x => .int .u8 (f i x : Nat)) ∧ ∀ x, x < L → f i x < 256
/-- .. of which the first k are made. -/
def GridTo (w : World) (g n L k : Nat) : Prop :=
  w.rowIs g 67 n (fun i => if i < k then .slice (some ⟨g + 1 + i, 0, none⟩) L L else .slice none 0 0) ∧ w.heap.size = g + 1 + k ∧ ∀ i, i < k → w.rowIs (g + 1 + i) 5 L (fun _ => .int .u8 0)
theorem mkRows (k : Nat) (hk : k ≤ 1000) (w : World) : (Instr.makeSlice 54 (.int .i64 (k : Int)) (.int .i64 (k : Int))).run Tryd.prog w = .ok (.slice (some ⟨w.heap.size, 0, none⟩) k k) (w.alloc (.cells (madeCells #[.slice none 0 0] k) 67)) :=
  run_make_row' (P := Tryd.prog) 54 67 (.slice none 0 0) 24 Tryd.underlying54 rowinfo rfl .i64 .i64 k (by omega) (by omega) w
theorem GridTo.made (w : World) (n L : Nat) : GridTo (w.alloc (.cells (madeCells #[.slice none 0 0] n) 67)) w.heap.size n L 0 :=
  ⟨(World.rowIs_made w (.slice none 0 0) n 67).congr fun i hi => by simp, by simp, fun i hi => absurd hi (Nat.not_lt_zero _)⟩
theorem GridTo.step {w : World} {g n L k : Nat} (h : GridTo w g n L k) : GridTo ((w.setCell ⟨g, k, none⟩ (.slice (some ⟨w.heap.size, 0, none⟩) L L)).alloc (.cells (madeCells #[.int .u8 0] L) 5)) g n L (k + 1) := by
  obtain ⟨h1, h2, h3⟩ := h
  refine ⟨((h1.set k _).alloc _).congr fun i hi => ?_, by simp; omega, fun i hi => ?_⟩
  · by_cases e : i = k
    · subst e; rw [if_pos rfl, if_pos (by omega), h2]
    · rw [if_neg e]
      by_cases e' : i < k
      · rw [if_pos e', if_pos (by omega)]
      · rw [if_neg e', if_neg (by omega)]
  · by_cases e : i = k
    · subst e
      have := World.rowIs_made (w.setCell ⟨g, i, none⟩ (.slice (some ⟨w.heap.size, 0, none⟩) L L)) (.int .u8 0) L 5
      rw [show (w.setCell ⟨g, i, none⟩ (.slice (some ⟨w.heap.size, 0, none⟩) L L)).heap.size = g + 1 + i by simp; omega] at this
      exact this
    · exact ((h3 i (by omega)).setOther (by show g + 1 + i ≠ g; omega) _).alloc _
theorem GridTo.full {w : World} {g n L : Nat} (h : GridTo w g n L n) (hL : L ≤ maxLen) : Grid w g n L (fun _ _ => 0) :=
  ⟨h.1.congr fun i hi => if_pos hi, hL, fun i hi => ⟨h.2.2 i hi, fun x hx => Nat.zero_lt_succ _⟩⟩
theorem GridTo.cell {w : World} {g n L k : Nat} (h : GridTo w g n L k) (hk : k < n) : w.cell? ⟨g, k, none⟩ = some (.slice none 0 0) := by
  have := h.1.cell hk
  rwa [if_neg (Nat.lt_irrefl k)] at this
theorem GridTo.frozen {w : World} {g n L k : Nat} (h : GridTo w g n L k) (i : Nat) : w.frozen? ⟨g, i, none⟩ = false := h.1.frozen i
theorem GridTo.lt {w : World} {g n L k : Nat} (h : GridTo w g n L k) : g < w.heap.size := h.1.lt
theorem Grid.head {w : World} {g n L : Nat} {f : Nat → Nat → Nat} (h : Grid w g n L f) {i : Nat} (hi : i < n) : w.cell? ⟨g, i, none⟩ = some (.slice (some ⟨g + 1 + i, 0, none⟩) L L) := h.1.cell hi
theorem Grid.cell {w : World} {g n L : Nat} {f : Nat → Nat → Nat} (h : Grid w g n L f) {i x : Nat} (hi : i < n) (hx : x < L) : w.cell? ⟨g + 1 + i, x, none⟩ = some (.int .u8 (f i x : Nat)) := (h.2.2 i hi).1.cell hx
theorem Grid.frozen {w : World} {g n L : Nat} {f : Nat → Nat → Nat} (h : Grid w g n L f) {i : Nat} (hi : i < n) (x : Nat) : w.frozen? ⟨g + 1 + i, x, none⟩ = false := (h.2.2 i hi).1.frozen x
theorem Grid.lt {w : World} {g n L : Nat} {f : Nat → Nat → Nat} (h : Grid w g n L f) : g < w.heap.size := h.1.lt
theorem Grid.congr {w : World} {g n L : Nat} {f f' : Nat → Nat → Nat} (h : Grid w g n L f) (e : ∀ i x, i < n → x < L → f i x = f' i x) : Grid w g n L f' :=
  ⟨h.1, h.2.1, fun i hi => ⟨(h.2.2 i hi).1.congr fun x hx => by rw [e i x hi hx], fun x hx => by rw [← e i x hi hx]; exact (h.2.2 i hi).2 x hx⟩⟩
theorem Grid.ext {w w' : World} {g n L : Nat} {f : Nat → Nat → Nat} (h : Grid w g n L f) (hx : w.Extends w') : Grid w' g n L f :=
  ⟨h.1.of_block (hx.block g h.1.lt), h.2.1, fun i hi => ⟨(h.2.2 i hi).1.of_block (hx.block _ (h.2.2 i hi).1.lt), (h.2.2 i hi).2⟩⟩
theorem Grid.set {w : World} {g n L : Nat} {f : Nat → Nat → Nat} (h : Grid w g n L f) (i c v : Nat) (hv : v < 256) : Grid (w.setCell ⟨g + 1 + i, c, none⟩ (.int .u8 (v : Nat))) g n L (fun j x => if j = i ∧ x = c then v else f j x) := by
  refine ⟨h.1.setOther (by show g ≠ g + 1 + i; omega) _, h.2.1, fun j hj => ⟨?_, fun x hx => ?_⟩⟩
  · by_cases e : j = i
    · subst e
      refine ((h.2.2 j hj).1.set c _).congr fun x hx => ?_
      show _ = Value.int .u8 ((if j = j ∧ x = c then v else f j x : Nat) : Int)
      by_cases e' : x = c
      · rw [if_pos e', if_pos ⟨rfl, e'⟩]
      · rw [if_neg e', if_neg (fun h => e' h.2)]
    · refine ((h.2.2 j hj).1.setOther (by show g + 1 + j ≠ g + 1 + i; omega) _).congr fun x hx => ?_
      show _ = Value.int .u8 ((if j = i ∧ x = c then v else f j x : Nat) : Int)
      rw [if_neg (fun h => e h.1)]
  · show (if j = i ∧ x = c then v else f j x) < 256
    split
    · exact hv
    · exact (h.2.2 j hj).2 x hx
theorem Grid.own {w : World} {g n L : Nat} {f : Nat → Nat → Nat} (h : Grid w g n L f) {i : Nat} (hi : i < n) : Own w (g + 1 + i) 5 (QM.tab L (f i)) := by
  refine ⟨?_, by rw [QM.tab_length]; exact h.2.1, QM.tab_lt (h.2.2 i hi).2⟩
  rw [QM.tab_length]
  exact (h.2.2 i hi).1.congr fun x hx => by rw [QM.tab_at L _ x hx]
theorem Grid.rws {w : World} {g n L : Nat} {f : Nat → Nat → Nat} (h : Grid w g n L f) (hn : n ≤ maxLen) : Rws w (.slice (some ⟨g, 0, none⟩) n n) (QM.grid n L f) := by
  refine .inr ⟨g, 0, n, by rw [QM.grid_length], by rw [QM.grid_length]; exact Nat.le_refl _, hn, h.lt, fun k hk => ?_⟩
  rw [QM.grid_length] at hk
  refine ⟨_, by rw [Nat.zero_add]; exact h.head hk, ?_⟩
  rw [QM.grid_at n L f k hk]
  have := (h.own hk).u8s
  rw [QM.tab_length] at this
  exact this
/-- Such a slice as a source of append. -/
theorem Grid.srcs {P : Program} {w : World} {g n L : Nat} {f : Nat → Nat → Nat} (h : Grid w g n L f) {tx e' : TypeId} (hk : P.underlying tx = some (.slice e')) :
    ∃ vs, Src P 1 tx (.slice (some ⟨g, 0, none⟩) n n) n vs w ∧ ∀ j, j < n → ∃ u, vs[j]? = some u ∧ RowOk w 0 u ((QM.grid n L f).getD j []) := by
  have hl : ((List.range n).map fun i => Value.slice (some ⟨g + 1 + i, 0, none⟩) L L).length = n := by simp
  have hat : ∀ j, j < n → ((List.range n).map fun i => Value.slice (some ⟨g + 1 + i, 0, none⟩) L L)[j]? = some (.slice (some ⟨g + 1 + j, 0, none⟩) L L) := fun j hj => by simp [hj]
  refine ⟨(List.range n).map fun i => .slice (some ⟨g + 1 + i, 0, none⟩) L L, Src.ofSlice w hk ⟨g, 0, none⟩ n n _ (by rw [hl, Nat.mul_one]) (fun j u hu => ?_) (fun u hu => ?_), fun j hj => ⟨_, hat j hj, ?_⟩⟩
  · have hj : j < n := by
      rcases Nat.lt_or_ge j n with h' | h'
      · exact h'
      · rw [List.getElem?_eq_none (by rw [hl]; exact h')] at hu; cases hu
    rw [hat j hj] at hu
    rw [← Option.some.inj hu, Addr.add_mid, Nat.zero_add]
    exact h.head hj
  · obtain ⟨i, _, rfl⟩ := List.mem_map.1 hu
    rfl
  · rw [QM.grid_at n L f j hj]
    exact RowOk.own (h.own hj) 0 (QM.tab_length _ _).symm (QM.tab_length _ _).symm
/-- The answer is a slice of rows that the call has made whole. -/
def MadeGrid (w : World) (n L : Nat) (f : Nat → Nat → Nat) (e : Ending) (w' : World) : Prop := ∃ g, e = .returned (.slice (some ⟨g, 0, none⟩) n n) ∧ w.Extends w' ∧ w.heap.size ≤ g ∧ Grid w' g n L f
end Go.Proofs.YtpfmmfapdcbnkaaDoor
namespace Go.Proofs.YtpfmmfapdcbnkaaDoor
set_option maxRecDepth 20000
open Go.RowKit Go.Deep
set_option linter.unusedVariables false
theorem preZeros_any (n L : Nat) (w : World) (hn : n ≤ 1000) (hL : L ≤ 1000) :
    Calls Tryd.prog 62 #[.int .i64 n, .int .i64 L] w (MadeGrid w n L (fun _ _ => 0)) := by
  have hmk := fun w => mkRows n hn w
  have hmk2 := fun w => mkRow L (by omega) w
  go_enter Tryd.func62, Tryd.ntmps62
  go_wp2_with fail
  generalize hw1 : World.alloc w _ = w1
  have hx1 : w.Extends w1 := by subst hw1; exact ext_alloc _ _
  have hg : GridTo w1 w.heap.size n L 0 := by subst hw1; exact GridTo.made w n L
  obtain ⟨g, hgg⟩ : ∃ g, g = w.heap.size := ⟨_, rfl⟩
  rw [← hgg] at hg ⊢
  have HX1 := Lib.hid hx1
  have HG1 := Lib.hid hg
  have HGW : Hid (w.heap.size ≤ g) := by show _ ≤ _; omega
  clear hw1 hx1 hg hgg hmk
  go_loopw [11] (fun i wr => ∃ k : Nat, k ≤ n ∧ i = .int .i64 k ∧ Hid (w.Extends wr) ∧ Hid (GridTo wr g n L k)) (fun i _ => (n - intOf i).toNat)
  case atStart => exact ⟨0, by omega, rfl, HX1, HG1⟩
  case round =>
    obtain ⟨k, hk, rfl, HX, HG⟩ := hrel
    by_cases h1 : k < n
    · have hc0 := HG.out.cell h1
      have hf0 := HG.out.frozen k
      have hlt := HG.out.lt
      have HG2 := Lib.hid HG.out.step
      have HX2 : Hid (w.Extends ((wr.setCell ⟨g, k, none⟩ (.slice (some ⟨wr.heap.size, 0, none⟩) L L)).alloc (.cells (madeCells #[.int .u8 0] L) 5))) :=
        Gr.ext_trans (HX.out.setCell _ _ HGW.out) (ext_alloc _ _)
      go_wp2
      go_roundw
      case rel => exact ⟨k + 1, by omega, by go_num, HX2, HG2⟩
      case measure => simp [intOf]; omega
    · obtain rfl : k = n := by omega
      have HP : Hid (MadeGrid w k L (fun _ _ => 0) (.returned (.slice (some ⟨g, 0, none⟩) k k)) wr) := ⟨g, rfl, HX.out, HGW.out, HG.out.full (by unfold maxLen; omega)⟩
      go_wp2
      go_ret
      exact HP.out
end Go.Proofs.YtpfmmfapdcbnkaaDoor
namespace Go.Proofs.YtpfmmfapdcbnkaaDoor
set_option maxRecDepth 20000
open Go.RowKit
set_option linter.unusedVariables false
theorem isBlock_yes (k : Nat) (w : World) (h1 : 1 ≤ k) (h2 : k ≤ 40) :
    Calls Tryd.prog 60 #[PV k (PM.s k) 2] w fun e w' => e = .returned (.bool true) ∧ w.Extends w' := by
  have hO := prmOf_good k
  generalize PM.s k = m at *
  have HOO := Lib.hid hO
  clear hO
  go_enter Tryd.func60, Tryd.ntmps60
  go_wp2_with fail
  generalize hw1 : World.alloc w _ = w1
  have hx1 : w.Extends w1 := by subst hw1; exact prm_ext_alloc _ _
  have hp : PAt w1 w.heap.size k m 2 := by subst hw1; exact PAt.new w 74 k m 2
  generalize w.heap.size = b at hp ⊢
  clear hw1
  have HX1 := Lib.hid hx1
  have HP1 := Lib.hid hp
  clear hx1 hp
  refine (HOO.out w1 h1 h2).mono ?_
  rintro e w2 ⟨rfl, hx2⟩
  have HX2 := Lib.hid (Gr.ext_trans HX1.out hx2)
  have HP2 := Lib.hid (HP1.out.ext hx2)
  clear hx2 HX1 HP1
  obtain ⟨p0, p1, p2⟩ := HP2.out
  have hb2 := HP2.out.lt
  go_wp2
  go_ret
  exact ⟨by rfl, Gr.ext_trans HX2.out (prm_ext_alloc _ _)⟩
theorem isBlock_far (k s h : Int) (w : World) (hk : k < 1 ∨ 40 < k) :
    Calls Tryd.prog 60 #[PV k s h] w fun e w' => e = .returned (.bool false) ∧ w.Extends w' := by
  have hO := prmOf_bad k
  have HOO := Lib.hid hO
  have HK := Lib.hid hk
  clear hO hk
  go_enter Tryd.func60, Tryd.ntmps60
  go_wp2_with fail
  generalize hw1 : World.alloc w _ = w1
  have hx1 : w.Extends w1 := by subst hw1; exact prm_ext_alloc _ _
  have hp : PAt w1 w.heap.size k s h := by subst hw1; exact PAt.new w 74 k s h
  generalize w.heap.size = b at hp ⊢
  clear hw1
  have HX1 := Lib.hid hx1
  have HP1 := Lib.hid hp
  clear hx1 hp
  obtain ⟨p0, p1, p2⟩ := HP1.out
  refine (HOO.out w1 HK.out).mono ?_
  rintro e w2 ⟨rfl, hx2⟩
  have HX2 := Lib.hid (Gr.ext_trans HX1.out hx2)
  clear hx2 HX1 HP1
  go_wp2
  go_ret
  exact ⟨by rfl, Gr.ext_trans HX2.out (prm_ext_alloc _ _)⟩
theorem isBlock_near (k : Nat) (s h : Int) (w : World) (h1 : 1 ≤ k) (h2 : k ≤ 40) (hn : (s == (PM.s k : Int)) = false ∨ (h == 2) = false) :
    Calls Tryd.prog 60 #[PV k s h] w fun e w' => e = .returned (.bool false) ∧ w.Extends w' := by
  have hO := prmOf_good k
  generalize PM.s k = m at *
  have HOO := Lib.hid hO
  clear hO
  rcases hn with hn | hn
  all_goals
    go_enter Tryd.func60, Tryd.ntmps60
    go_wp2_with fail
    generalize hw1 : World.alloc w _ = w1
    have hx1 : w.Extends w1 := by subst hw1; exact prm_ext_alloc _ _
    have hp : PAt w1 w.heap.size k s h := by subst hw1; exact PAt.new w 74 k s h
    generalize w.heap.size = b at hp ⊢
    clear hw1
    have HX1 := Lib.hid hx1
    have HP1 := Lib.hid hp
    clear hx1 hp
    obtain ⟨p0, p1, p2⟩ := HP1.out
    refine (HOO.out w1 h1 h2).mono ?_
    rintro e w2 ⟨rfl, hx2⟩
    have HX2 := Lib.hid (Gr.ext_trans HX1.out hx2)
    have HP2 := Lib.hid (HP1.out.ext hx2)
    clear hx2 HX1 HP1 p0 p1 p2
    obtain ⟨p0, p1, p2⟩ := HP2.out
    have hb2 := HP2.out.lt
    go_wp2
    go_ret
    exact ⟨by rfl, Gr.ext_trans HX2.out (prm_ext_alloc _ _)⟩
/-- Params that are those of a block. -/
def Right (k s h : Int) : Prop := ∃ n : Nat, k = n ∧ 1 ≤ n ∧ n ≤ 40 ∧ s = (PM.s n : Int) ∧ h = 2
theorem isBlock_no (k s h : Int) (w : World) (hr : ¬ Right k s h) :
    Calls Tryd.prog 60 #[PV k s h] w fun e w' => e = .returned (.bool false) ∧ w.Extends w' := by
  by_cases hk : k < 1 ∨ 40 < k
  · exact isBlock_far k s h w hk
  · obtain ⟨n, rfl⟩ := Int.eq_ofNat_of_zero_le (show 0 ≤ k by omega)
    refine isBlock_near n s h w (by omega) (by omega) ?_
    by_cases hs : s = (PM.s n : Int)
    · by_cases h2 : h = 2
      · exact absurd ⟨n, rfl, by omega, by omega, hs, h2⟩ hr
      · exact .inr (by simpa using h2)
    · exact .inl (by simpa using hs)
end Go.Proofs.YtpfmmfapdcbnkaaDoor
namespace Go.Proofs.YtpfmmfapdcbnkaaDoor
set_option maxRecDepth 20000
open Go.RowKit Go.Deep
set_option linter.unusedVariables false
set_option maxHeartbeats 1000000 in
set_option maxRecDepth 100000 in
theorem low_some (k : Nat) (w : World) (h1 : 1 ≤ k) (h2 : k ≤ 40) :
    Calls Tryd.prog 49 #[PV k (PM.s k) 2] w (MadeGrid w (PM.s k) (PM.l k) (QM.lowE k)) := by
  have HY := Lib.hid (isBlock_yes k)
  have hW0 : (PM.w k : Int) = k + PM.s k := by unfold PM.w; omega
  have hW1 : PM.w k = k + PM.s k := rfl
  have hL0 : (PM.l k : Int) = k + PM.s k + 2 := by unfold PM.l PM.w; omega
  have hL1 : PM.l k = PM.w k + 2 := rfl
  have hs7 := PM.s_le k h2
  have hs2 : 2 ≤ PM.s k := by unfold PM.s; omega
  have HWC : Hid (∀ w, Calls Tryd.prog 56 #[PV k (PM.s k) 2] w fun e w' => e = .returned (.int .i64 (PM.w k)) ∧ w.Extends w') := fun w => by rw [hW0]; exact prmW_any k (PM.s k) 2 w (by omega)
  have HLC : Hid (∀ w, Calls Tryd.prog 42 #[PV k (PM.s k) 2] w fun e w' => e = .returned (.int .i64 (PM.l k)) ∧ w.Extends w') := fun w => by rw [hL0]; exact prmL_any k (PM.s k) 2 w (by omega) (by omega)
  have HZ := Lib.hid (fun w => preZeros_any (PM.s k) (PM.l k) w (by omega) (by omega))
  have HTWO := Lib.hid (fun c i x r q => QM.lowTo_two k c i x r q)
  have HT0 := Lib.hid (QM.lowTo_zero k)
  have HU0 := Lib.hid (QM.lowUp_zero k)
  have HUP := Lib.hid (QM.lowUp_step k)
  have HUF := Lib.hid (QM.lowUp_full k)
  have HLW : Hid (PM.l k = k + PM.s k + 2) := by show _ = _; omega
  have HWV : Hid (PM.w k = k + PM.s k) := hW1
  have hL50 : PM.l k ≤ 50 := by omega
  clear hW0 hW1 hL0 hL1
  generalize PM.l k = L at *
  generalize PM.w k = W at *
  generalize PM.s k = S at *
  go_enter Tryd.func49, Tryd.ntmps49
  go_wp2_with fail
  generalize hw1 : World.alloc w _ = w1
  have hx1 : w.Extends w1 := by subst hw1; exact prm_ext_alloc _ _
  have hp : PAt w1 w.heap.size k S 2 := by subst hw1; exact PAt.new w 74 k S 2
  obtain ⟨b, hb⟩ : ∃ b, b = w.heap.size := ⟨_, rfl⟩
  rw [← hb] at hp ⊢
  clear hw1 hb
  have HX1 := Lib.hid hx1
  have HP1 := Lib.hid hp
  clear hx1 hp
  obtain ⟨p0, p1, p2⟩ := HP1.out
  refine (HY.out w1 h1 h2).mono ?_
  rintro e w2 ⟨rfl, hx2⟩
  have HX2 := Lib.hid (Gr.ext_drew (Gr.ext_trans HX1.out hx2))
  have HP2 := Lib.hid (HP1.out.ext (Gr.ext_drew hx2))
  clear hx2 HX1 HP1 p0 p1 p2 HY
  go_wp2_with fail
  refine Gr.region 5 [(false,0),(false,1),(false,2),(true,3),(true,4)] (by kernel_rfl) (by kernel_rfl) (fun d _ _ _ _ h => by cases d <;> exact h) ?_
  simp only [Gr.pick, List.getElem?_cons_zero, List.getElem?_cons_succ, List.drop_succ_cons, List.drop_zero]
  generalize w2.drew = w3 at *
  have HPX : Hid (∀ w', w3.Extends w' → PAt w' b k S 2) := fun w' hw' => HP2.out.ext hw'
  iterate 3
    refine Gr.walk_t ?_ (Or.inl ⟨by rfl, ?_⟩) ?_
    rotate_left
    · intro w' hw'
      obtain ⟨p0, p1, p2⟩ := HPX.out w' hw'
      clear hw'
      go_simp
      try with_reducible rfl
    simp only [Act.put, List.setIfInBounds_toArray, List.set_cons_zero, List.set_cons_succ]
  refine Gr.walk_c (fun K hK => ?_)
  go_simp
  refine (HLC.out w3).mono ?_
  rintro e w4 ⟨rfl, hx4⟩
  have HX4 := Lib.hid (Gr.ext_trans HX2.out hx4)
  have HP4 := Lib.hid (HP2.out.ext hx4)
  try go_simp
  refine hK.out _ _ (hx4) ?_
  clear hK K
  clear hx4 HPX HX2 HP2 HLC
  refine Gr.walk_c (fun K hK => ?_)
  go_simp
  refine (HZ.out w4).mono ?_
  rintro e w5 ⟨g, rfl, hx5, hg5, hgr5⟩
  have HX5 := Lib.hid hx5
  have HG5 := Lib.hid (hgr5.congr fun i x _ _ => (HT0.out i x).symm)
  have HGW := Lib.hid hg5
  try go_simp
  refine hK.out _ _ (hx5) ?_
  clear hK K
  clear hx5 hg5 hgr5 HZ HT0
  refine Gr.walk_nil ?_
  have hp5 := HP4.out.ext HX5.out
  obtain ⟨p0, p1, p2⟩ := hp5
  go_wp2_with fail
  clear p0 p1 p2
  go_loopw [17] (fun i wr => ∃ c : Nat, c ≤ k ∧ i = .int .i64 c ∧ Hid (w4.Extends wr) ∧ Hid (Grid wr g S L (QM.lowTo k c))) (fun i _ => (k - intOf i).toNat)
  case atStart => exact ⟨0, by omega, rfl, HX5, HG5⟩
  case round =>
    obtain ⟨c, hc, rfl, HX, HG⟩ := hrel
    by_cases h5 : c < k
    · have hcL : c < L := by have := HLW.out; omega
      obtain ⟨r, hr⟩ : ∃ r, r = c % S := ⟨_, rfl⟩
      obtain ⟨d, hd⟩ : ∃ d, d = c / S := ⟨_, rfl⟩
      obtain ⟨q, hq⟩ : ∃ q, q = (d + c + 1) % S := ⟨_, rfl⟩
      have hrS : r < S := by rw [hr]; exact Nat.mod_lt _ (by omega)
      have hqS : q < S := by rw [hq]; exact Nat.mod_lt _ (by omega)
      have hdc : d ≤ c := by rw [hd]; exact Nat.div_le_self _ _
      have er : (c : Int) % (S : Int) = (r : Int) := by rw [hr, Int.natCast_emod]
      have ed : (c : Int) / (S : Int) = (d : Int) := by rw [hd, Int.natCast_ediv]
      have eq : ((d : Int) + (c : Int) + 1) % (S : Int) = (q : Int) := by rw [hq, Int.natCast_emod]; rfl
      have HT2 : Hid (∀ i x, (if i = q ∧ x = c then 1 else if i = r ∧ x = c then 1 else QM.lowTo k c i x) = QM.lowTo k (c + 1) i x) := fun i x => HTWO.out c i x r q hr.symm (by rw [← hd]; exact hq.symm)
      clear hr hd hq
      obtain ⟨gr, hgr⟩ : ∃ gr, gr = g + 1 + r := ⟨_, rfl⟩
      obtain ⟨gq, hgq⟩ : ∃ gq, gq = g + 1 + q := ⟨_, rfl⟩
      have hh := HG.out.head hrS
      have hcc := HG.out.cell hrS hcL
      have hff := HG.out.frozen hrS c
      have hst : Grid (wr.setCell ⟨g + 1 + r, c, none⟩ (.int .u8 ((1 : Nat) : Int))) g S L _ := HG.out.set r c 1 (by omega)
      have hxs : w4.Extends (wr.setCell ⟨g + 1 + r, c, none⟩ (.int .u8 ((1 : Nat) : Int))) := HX.out.setCell _ _ (by have := HGW.out; show _ ≤ g + 1 + r; omega)
      rw [← hgr] at hh hcc hst hxs hff
      have HGA := Lib.hid hst
      have HXA := Lib.hid hxs
      have HGQ := Lib.hid hgq
      clear hst hxs hgr hgq
      generalize QM.lowTo k c r c = z at *
      obtain ⟨p0, p1, p2⟩ := HP4.out.ext HX.out
      go_wp2_with fail
      generalize hwa : World.setCell wr _ _ = wa
      have hga : Grid wa g S L (fun j x => if j = r ∧ x = c then 1 else QM.lowTo k c j x) := by subst hwa; exact HGA.out
      have hxa : w4.Extends wa := by subst hwa; exact HXA.out
      clear hwa hh hcc hff p0 p1 p2 HGA HXA HX HG
      have HGA := Lib.hid (hga.ext (Gr.ext_drew (Gr.ext_refl _)))
      have HXA := Lib.hid (Gr.ext_drew hxa)
      clear hga hxa
      refine Gr.region 14 [(false,0),(false,1),(false,2),(false,3),(false,4),(false,5),(false,6),(false,7),(false,8),(false,9),(false,10),(false,11),(false,12),(false,13)] (by kernel_rfl) (by kernel_rfl) (fun d _ _ _ _ h => by cases d <;> exact h) ?_
      simp only [Gr.pick, List.getElem?_cons_zero, List.getElem?_cons_succ, List.drop_succ_cons, List.drop_zero]
      generalize wa.drew = wb at *
      have HPX : Hid (∀ w', wb.Extends w' → PAt w' b k S 2) := fun w' hw' => HP4.out.ext (Gr.ext_trans HXA.out hw')
      have HHX : Hid (∀ w', wb.Extends w' → w'.cell? ⟨g, q, none⟩ = some (.slice (some ⟨gq, 0, none⟩) L L)) := fun w' hw' => by
        have := (HGA.out.ext hw').head hqS
        rwa [← HGQ.out] at this
      have hS0 : S ≠ 0 := by omega
      have w1 : IntKind.i64.wrap (d : Int) = d := IntWalk.i64_in _ (by omega)
      have w2 : IntKind.i64.wrap ((d : Int) + (c : Int)) = (d : Int) + c := IntWalk.i64_in _ (by omega)
      have w3 : IntKind.i64.wrap ((d : Int) + (c : Int) + 1) = (d : Int) + c + 1 := IntWalk.i64_in _ (by omega)
      have em : ((d : Int) + (c : Int) + 1).tmod (S : Int) = (q : Int) := by rw [Int.tmod_eq_emod_of_nonneg (by omega)]; exact eq
      have cq : (q : Int) < (S : Int) := by omega
      have cc : (c : Int) < (L : Int) := by omega
      iterate 14
        refine Gr.walk_t ?_ (Or.inl ⟨by rfl, ?_⟩) ?_
        rotate_left
        · intro w' hw'
          obtain ⟨p0, p1, p2⟩ := HPX.out w' hw'
          have hh := HHX.out w' hw'
          clear hw'
          go_simp
          try with_reducible rfl
        simp only [Act.put, List.setIfInBounds_toArray, List.set_cons_zero, List.set_cons_succ]
      refine Gr.walk_nil ?_
      obtain ⟨z, hcc⟩ : ∃ z : Nat, wb.cell? ⟨g + 1 + q, c, none⟩ = some (.int .u8 (z : Nat)) := ⟨_, HGA.out.cell hqS hcL⟩
      have hff := HGA.out.frozen hqS c
      have hst : Grid (wb.setCell ⟨g + 1 + q, c, none⟩ (.int .u8 ((1 : Nat) : Int))) g S L _ := HGA.out.set q c 1 (by omega)
      have hxs : w4.Extends (wb.setCell ⟨g + 1 + q, c, none⟩ (.int .u8 ((1 : Nat) : Int))) := HXA.out.setCell _ _ (by have := HGW.out; show _ ≤ g + 1 + q; omega)
      rw [← HGQ.out] at hcc hst hxs hff
      have HGB := Lib.hid (hst.congr fun i x _ _ => HT2.out i x)
      have HXB := Lib.hid hxs
      clear hst hxs HGQ
      go_wp2
      go_roundw
      case rel => exact ⟨c + 1, by omega, by go_num, HXB, HGB⟩
      case measure => simp [intOf]; omega
    · obtain rfl : c = k := by omega
      have HGU := Lib.hid (HG.out.congr fun i x _ _ => (HU0.out i x).symm)
      clear HG HTWO
      go_wp2_with fail
      go_loopw [47] (fun i wr => ∃ m : Nat, m ≤ S ∧ i = .int .i64 m ∧ Hid (w4.Extends wr) ∧ Hid (Grid wr g S L (QM.lowUp c m))) (fun i _ => (S - intOf i).toNat)
      case atStart => exact ⟨0, by omega, rfl, HX, HGU⟩
      case round =>
        obtain ⟨m, hm, rfl, HX, HG⟩ := hrel
        by_cases h6 : m < S
        · obtain ⟨gm, hgm⟩ : ∃ gm, gm = g + 1 + m := ⟨_, rfl⟩
          obtain ⟨x, hx⟩ : ∃ x, x = c + m := ⟨_, rfl⟩
          obtain ⟨m2, hm2⟩ : ∃ m2, m2 = m % 2 := ⟨_, rfl⟩
          obtain ⟨y, hy⟩ : ∃ y, y = W + m2 := ⟨_, rfl⟩
          have hm22 : m2 < 2 := by omega
          have hxL : x < L := by have := HLW.out; omega
          have hyL : y < L := by have := HLW.out; have := HWV.out; omega
          have ex : (c : Int) + (m : Int) = (x : Int) := by omega
          have em : (m : Int).tmod 2 = (m2 : Int) := by rw [Int.tmod_eq_emod_of_nonneg (by omega)]; omega
          have ey : (W : Int) + (m2 : Int) = (y : Int) := by omega
          have hW47 : W ≤ 50 := by have := HLW.out; have := HWV.out; omega
          have HUM : Hid (∀ i z, (if i = m ∧ z = y then 1 else if i = m ∧ z = x then 1 else QM.lowUp c m i z) = QM.lowUp c (m + 1) i z) := fun i z => by rw [hy, hx, hm2]; exact HUP.out m i z
          clear hx hy hm2
          have hh := HG.out.head h6
          obtain ⟨z, hcc⟩ : ∃ z : Nat, wr.cell? ⟨g + 1 + m, x, none⟩ = some (.int .u8 (z : Nat)) := ⟨_, HG.out.cell h6 hxL⟩
          have hff := HG.out.frozen h6 x
          have hst : Grid (wr.setCell ⟨g + 1 + m, x, none⟩ (.int .u8 ((1 : Nat) : Int))) g S L _ := HG.out.set m x 1 (by omega)
          have hxs : w4.Extends (wr.setCell ⟨g + 1 + m, x, none⟩ (.int .u8 ((1 : Nat) : Int))) := HX.out.setCell _ _ (by have := HGW.out; show _ ≤ g + 1 + m; omega)
          rw [← hgm] at hh hcc hst hxs hff
          have HGA := Lib.hid hst
          have HXA := Lib.hid hxs
          have HGM := Lib.hid hgm
          clear hst hxs hgm
          obtain ⟨p0, p1, p2⟩ := HP4.out.ext HX.out
          go_wp2_with fail
          generalize hwa : World.setCell wr _ _ = wa
          have hga : Grid wa g S L (fun j z => if j = m ∧ z = x then 1 else QM.lowUp c m j z) := by subst hwa; exact HGA.out
          have hxa : w4.Extends wa := by subst hwa; exact HXA.out
          clear hwa hh hcc hff p0 p1 p2 HGA HXA HX HG
          have HGA := Lib.hid (hga.ext (Gr.ext_drew (Gr.ext_refl _)))
          have HXA := Lib.hid (Gr.ext_drew hxa)
          clear hga hxa
          refine Gr.region 8 [(false,0),(false,1),(false,3),(false,4),(false,5),(false,6),(true,2),(false,7)] (by kernel_rfl) (by kernel_rfl) (fun d _ _ _ _ h => by cases d <;> exact h) ?_
          simp only [Gr.pick, List.getElem?_cons_zero, List.getElem?_cons_succ, List.drop_succ_cons, List.drop_zero]
          generalize wa.drew = wb at *
          have HPX : Hid (∀ w', wb.Extends w' → PAt w' b c S 2) := fun w' hw' => HP4.out.ext (Gr.ext_trans HXA.out hw')
          iterate 6
            refine Gr.walk_t ?_ (Or.inl ⟨by rfl, ?_⟩) ?_
            rotate_left
            · intro w' hw'
              obtain ⟨p0, p1, p2⟩ := HPX.out w' hw'
              clear hw'
              go_simp
              try with_reducible rfl
            simp only [Act.put, List.setIfInBounds_toArray, List.set_cons_zero, List.set_cons_succ]
          refine Gr.walk_c (fun K hK => ?_)
          go_simp
          refine (HWC.out wb).mono ?_
          rintro e wd ⟨rfl, hxd⟩
          have HXD := Lib.hid (Gr.ext_trans HXA.out hxd)
          have HGD := Lib.hid (HGA.out.ext hxd)
          try go_simp
          refine hK.out _ _ (hxd) ?_
          clear hK K
          clear hxd HPX HXA HGA
          have wy : IntKind.i64.wrap (y : Int) = y := IntWalk.i64_in _ (by omega)
          refine Gr.walk_t ?_ (Or.inl ⟨by rfl, ?_⟩) ?_
          rotate_left
          · intro w' hw'
            clear hw'
            go_simp
            try with_reducible rfl
          simp only [Act.put, List.setIfInBounds_toArray, List.set_cons_zero, List.set_cons_succ]
          refine Gr.walk_nil ?_
          obtain ⟨z, hcc⟩ : ∃ z : Nat, wd.cell? ⟨g + 1 + m, y, none⟩ = some (.int .u8 (z : Nat)) := ⟨_, HGD.out.cell h6 hyL⟩
          have hff := HGD.out.frozen h6 y
          have hst : Grid (wd.setCell ⟨g + 1 + m, y, none⟩ (.int .u8 ((1 : Nat) : Int))) g S L _ := HGD.out.set m y 1 (by omega)
          have hxs : w4.Extends (wd.setCell ⟨g + 1 + m, y, none⟩ (.int .u8 ((1 : Nat) : Int))) := HXD.out.setCell _ _ (by have := HGW.out; show _ ≤ g + 1 + m; omega)
          rw [← HGM.out] at hcc hst hxs hff
          have HGB := Lib.hid (hst.congr fun i x _ _ => HUM.out i x)
          have HXB := Lib.hid hxs
          clear hst hxs HGM
          go_wp2
          go_roundw
          case rel => exact ⟨m + 1, by omega, by go_num, HXB, HGB⟩
          case measure => simp [intOf]; omega
        · obtain rfl : m = S := by omega
          have HP : Hid (MadeGrid w m L (QM.lowE c) (.returned (.slice (some ⟨g, 0, none⟩) m m)) wr) :=
            ⟨g, rfl, Gr.ext_trans HX4.out HX.out, Nat.le_trans HX4.out.size HGW.out, HG.out.congr fun i x hi _ => HUF.out i x hi⟩
          go_wp2
          go_ret
          exact HP.out
end Go.Proofs.YtpfmmfapdcbnkaaDoor
namespace Go.Proofs.YtpfmmfapdcbnkaaDoor
set_option maxRecDepth 20000
open Go.RowKit
theorem tmod_two (n : Int) : n.tmod 255 = n % 255 ∨ (n.tmod 255 = n % 255 - 255 ∧ n % 255 ≠ 0) := by
  rw [Int.tmod_eq_emod]
  by_cases h : 0 ≤ n ∨ (255 : Int) ∣ n
  · rw [if_pos h]; left; omega
  · rw [if_neg h]; right
    have : ((255 : Int).natAbs : Int) = 255 := rfl
    refine ⟨by omega, fun e => h (Or.inr (Int.dvd_of_emod_eq_zero e))⟩
theorem tmod_neg (n : Int) (h : n.tmod 255 < 0) : n.tmod 255 + 255 = n % 255 := by
  rcases tmod_two n with e | ⟨e, _⟩ <;> omega
theorem tmod_pos (n : Int) (h : ¬ n.tmod 255 < 0) : n.tmod 255 = n % 255 := by
  rcases tmod_two n with e | ⟨e, _⟩ <;> omega
set_option maxHeartbeats 400000 in
theorem power_any (n : Int) (w : World) :
    Calls Tryd.prog 63 #[.int .i64 n] w fun e w' => e = .returned (.int .u8 (FM.ex (n % 255).toNat : Nat)) ∧ w = w' := by
  have hk : ((n % 255).toNat : Int) = n % 255 := Int.toNat_of_nonneg (by omega)
  have hl : (n % 255).toNat < 256 := by omega
  by_cases h0 : n.tmod 255 < 0
  · have e := Lib.hid (IntWalk.wrap64_in (n.tmod 255 + 255) (by rw [tmod_neg n h0]; omega))
    have e2 := Lib.hid ((tmod_neg n h0).trans hk.symm)
    clear hk
    go_enter Tryd.func63, Tryd.ntmps63
    go_wp2_with fail
    rw [e.out, e2.out]
    refine (raise_any 2 _ (by omega) hl _).mono ?_
    rintro e w' ⟨rfl, rfl⟩
    go_wp2
    go_ret
    exact ⟨rfl, rfl⟩
  · have e2 := Lib.hid ((tmod_pos n h0).trans hk.symm)
    clear hk
    go_enter Tryd.func63, Tryd.ntmps63
    go_wp2_with fail
    rw [e2.out]
    refine (raise_any 2 _ (by omega) hl _).mono ?_
    rintro e w' ⟨rfl, rfl⟩
    go_wp2
    go_ret
    exact ⟨rfl, rfl⟩
end Go.Proofs.YtpfmmfapdcbnkaaDoor
namespace Go.Proofs.YtpfmmfapdcbnkaaDoor
set_option maxRecDepth 20000
open Go.RowKit
theorem u32_mix (k x : Nat) (hx : x < 4294967296) : bits BinOp.xor IntKind.u32 (x : Int) ((x : Int) / ((2 ^ k : Nat) : Int)) = (RM.mixed k x : Nat) := by
  have h := u32_xor_nat x (x / 2 ^ k) hx (Nat.lt_of_le_of_lt (Nat.div_le_self _ _) hx)
  rw [← Int.natCast_ediv, h]; rfl
theorem u32_mul (x c : Nat) : (x : Int) * (c : Int) % 4294967296 = ((x * c % 4294967296 : Nat) : Int) := by
  rw [Int.natCast_emod, Int.natCast_mul]; rfl
theorem u32_stir (x : Nat) (hx : x < 4294967296) :
    (bits BinOp.xor IntKind.u32
      (bits BinOp.xor IntKind.u32 (bits BinOp.xor IntKind.u32 (x : Int) ((x : Int) / 65536) * 2146121005 % 4294967296) (bits BinOp.xor IntKind.u32 (x : Int) ((x : Int) / 65536) * 2146121005 % 4294967296 / 32768) * 2221713035 % 4294967296)
      (bits BinOp.xor IntKind.u32 (bits BinOp.xor IntKind.u32 (x : Int) ((x : Int) / 65536) * 2146121005 % 4294967296) (bits BinOp.xor IntKind.u32 (x : Int) ((x : Int) / 65536) * 2146121005 % 4294967296 / 32768) * 2221713035 % 4294967296 / 65536)) = (RM.stir x : Nat) := by
  have l : ∀ z : Nat, z % 4294967296 < 4294967296 := fun z => Nat.mod_lt z (by decide)
  have e1 := u32_mix 16 x hx
  have e2 := u32_mul (RM.mixed 16 x) 2146121005
  have e3 := u32_mix 15 _ (l (RM.mixed 16 x * 2146121005))
  have e4 := u32_mul (RM.mixed 15 (RM.mixed 16 x * 2146121005 % 4294967296)) 2221713035
  have e5 := u32_mix 16 _ (l (RM.mixed 15 (RM.mixed 16 x * 2146121005 % 4294967296) * 2221713035))
  have p16 : ((2 ^ 16 : Nat) : Int) = 65536 := by decide +kernel
  have p15 : ((2 ^ 15 : Nat) : Int) = 32768 := by decide +kernel
  have c1 : ((2146121005 : Nat) : Int) = 2146121005 := by decide +kernel
  have c2 : ((2221713035 : Nat) : Int) = 2221713035 := by decide +kernel
  rw [p16] at e1 e5; rw [p15] at e3; rw [c1] at e2; rw [c2] at e4
  rw [e1, e2, e3, e4, e5]; unfold RM.stir; rfl
theorem retu32 {a b : Int} (h : a = b) : Ending.returned (.int .u32 a) = .returned (.int .u32 b) := by rw [h]
theorem retn64 {a b : Int} (h : a = b) : Ending.returned (.int .i64 a) = .returned (.int .i64 b) := by rw [h]
theorem stir_any (x : Nat) (hx : x < 4294967296) (w : World) :
    Calls Tryd.prog 13 #[.int .u32 x] w fun e w' => e = .returned (.int .u32 (RM.stir x : Nat)) ∧ w = w' := by
  go_enter Tryd.func13, Tryd.ntmps13
  go_wp2
  go_ret
  exact ⟨retu32 (u32_stir x hx), rfl⟩
end Go.Proofs.YtpfmmfapdcbnkaaDoor
namespace Go.Proofs.YtpfmmfapdcbnkaaDoor
set_option maxRecDepth 20000
open Go.RowKit
theorem u32_drawn (s i : Nat) : ((s : Int) + (i : Int) * 2654435769) % 4294967296 = (((s + i * 2654435769) % 4294967296 : Nat) : Int) := by
  rw [Int.natCast_emod, Int.natCast_add, Int.natCast_mul]; rfl
theorem rand_val (y i : Nat) (m : Int) (h : 1 ≤ m) : (RM.stir ((RM.stir y + i * 2654435769) % 4294967296) : Int) % m = RM.rand y i m := by
  unfold RM.rand; rw [if_neg (by omega)]; rfl
theorem rand_any (y i : Nat) (m : Int) (hy : y < 4294967296) (hm0 : -9223372036854775808 ≤ m) (hm1 : m ≤ 9223372036854775807) (w : World) :
    Calls Tryd.prog 8 #[.int .u32 y, .int .u32 i, .int .i64 m] w fun e w' => e = .returned (.int .i64 (RM.rand y i m)) ∧ w = w' := by
  by_cases h : m < 1
  · have e : RM.rand y i m = 0 := if_pos h
    rw [e]
    go_enter Tryd.func8, Tryd.ntmps8
    go_wp2
    go_ret
    exact ⟨rfl, rfl⟩
  · have hl := RM.stir_lt ((RM.stir y + i * 2654435769) % 4294967296)
    have hr := rand_val y i m (by omega)
    go_enter Tryd.func8, Tryd.ntmps8
    go_wp2_with fail
    refine (stir_any _ hy _).mono ?_
    rintro e w' ⟨rfl, rfl⟩
    go_wp2_with fail
    rw [u32_drawn]
    refine (stir_any _ (Nat.mod_lt _ (by decide)) _).mono ?_
    rintro e w' ⟨rfl, rfl⟩
    go_wp2
    go_ret
    refine ⟨retn64 ?_, rfl⟩
    have hb := RM.rand_below y i m (by omega)
    rw [IntWalk.wrap64_in _ ⟨by omega, by omega⟩]
end Go.Proofs.YtpfmmfapdcbnkaaDoor
