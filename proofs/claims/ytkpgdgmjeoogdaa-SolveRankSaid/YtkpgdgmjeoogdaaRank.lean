/- Package solve: Rank. -/
import Derived.Test.YtkpgdgmjeoogdaaTake1
import Derived.Test.YtkpgdgmjeoogdaaToRows
namespace Go.Proofs.Ytkpgdgmjeoogdaa
open Go.RowKit
set_option linter.unusedVariables false
/-- The rows that have been taken, as vectors. -/
def rowsF (W S : Nat) (m d : List (List Nat)) (j : Nat) : LA.V := LA.vec W (RM.sum W [m.getD j []], RM.sum S [d.getD j []])
theorem getD_mem_lt {l : List (List Nat)} (h : ∀ r ∈ l, ∀ x ∈ r, x < 256) (j : Nat) : ∀ x ∈ l.getD j [], x < 256 := by
  by_cases hj : j < l.length
  · rw [List.getD_eq_getElem?_getD, List.getElem?_eq_getElem hj]; exact h _ (List.getElem_mem hj)
  · rw [List.getD_eq_getElem?_getD, List.getElem?_eq_none (by omega)]; intro x hx; cases hx
theorem rowsF_bd (W S : Nat) {m d : List (List Nat)} (hm : ∀ r ∈ m, ∀ x ∈ r, x < 256) (hd : ∀ r ∈ d, ∀ x ∈ r, x < 256) (j : Nat) : LA.Bd (rowsF W S m d j) :=
  LA.vec_bd (LA.dim_cut W S (m.getD j [], d.getD j []) (getD_mem_lt hm j) (getD_mem_lt hd j))
/-- What has been taken behind one more row, if it could be taken. -/
theorem inv_next {W S r k : Nat} {st : Nat → Option LA.Eqn} {f : Nat → LA.V} {e0 : LA.Eqn} {w : World} {p g : Nat} {e : Ending} {w' : World} (h : LA.Inv W S r st (· < k) f) (hf : ∀ j, LA.Bd (f j)) (hk : f k = LA.vec W e0) (h0 : LA.Dim W S e0)
    (ht : TakeOut w p g W S r st e0 e w') : (∃ r' st', e = .returned (.bool true) ∧ Sys w' p g W S r' st' ∧ LA.Inv W S r' st' (· < k + 1) f) ∨
      (e = .returned (.bool false) ∧ ∃ v, LA.Span (· < k + 1) f v ∧ (∀ i, i < W → v i = 0) ∧ ∃ q, q < S ∧ v (W + q) ≠ 0) := by
  have hpq : ∀ j, (j < k ∨ j = k) ↔ j < k + 1 := fun j => by omega
  rcases ht.1 with ⟨q, s, hq, hs, hred, hne, rfl, hsys⟩ | ⟨s, hred, rfl, hsys⟩
  · exact .inl ⟨_, _, rfl, hsys, (h.more hred hq hs hne k (fun j _ => hf j) hk h0).congrP hpq⟩
  · cases hz : allZ s.2 with
    | true =>
      have hz' : LA.vec W s = LA.zero := LA.vec_zero hred.1 hred.2.2 (by have := (allZ_iff s.2).1 hz; rwa [hred.1.2.1] at this)
      exact .inl ⟨r, st, rfl, hsys, (h.same hred hz' k (fun j hj => hj) (fun j _ => hf j) hk h0).congrP hpq⟩
    | false =>
      refine .inr ⟨rfl, LA.vec W s, ?_, fun i hi => ?_, ?_⟩
      · have h1 : LA.Span (· < k + 1) f (LA.add (LA.vec W e0) (LA.vec W s)) := (h.to _ hred.2.1).mono fun j hj => by omega
        have h2 : LA.Span (· < k + 1) f (LA.vec W e0) := by rw [← hk]; exact LA.Span.mem (fun j _ => hf j) (by omega)
        have h3 := h2.add h1
        rwa [← LA.add_assoc, LA.add_self, LA.zero_add] at h3
      · show (if i < W then s.1.getD i 0 else _) = 0
        rw [if_pos hi]; exact hred.2.2 i hi
      · refine Decidable.byContradiction fun hn => ?_
        have : allZ s.2 = true := (allZ_iff s.2).2 fun q hq => Decidable.byContradiction fun hq0 => hn ⟨q, by rw [← hred.1.2.1]; exact hq, by
          show (if W + q < W then _ else s.2.getD (W + q - W) 0) ≠ 0
          rw [if_neg (by omega), show W + q - W = q by omega]; exact hq0⟩
        rw [hz] at this; cases this
theorem newSystem_int (n m : Int) (W S : Nat) (hn : n = W) (hm : m = S) (hW : W ≤ 300) (hS : S ≤ 1000) (w : World) : Calls Try.prog 37 #[.int .i64 n, .int .i64 m] w (MadeSys w W S) := by
  subst hn; subst hm; exact newSystem_any W S hW hS w
/-- The width of a rank. -/
def wid (n : Int) : Nat := min n.toNat 300
def RankOut (w : World) (W : Nat) (P : Nat → Prop) (f : Nat → LA.V) (e : Ending) (w' : World) : Prop := ∃ r : Nat, e = .returned (.int .i64 r) ∧ LA.RankIs W P f r ∧ Below w.heap.size w w'
set_option maxHeartbeats 4000000 in
theorem rank_any (n : Int) (v : Value) (l : List (List Nat)) (w : World) (hv : Rws w v l) :
    Calls Try.prog 22 #[.int .i64 n, v] w (RankOut w (wid n) (· < l.length) (rowsF (wid n) 0 l [])) := by
  have hlt := hv.all_lt
  have hlm := hv.len
  have HBD : Hid (∀ j, LA.Bd (rowsF (wid n) 0 l [] j)) := rowsF_bd _ _ hlt (by intro r hr; cases hr)
  have HDIM : Hid (∀ k, LA.Dim (wid n) 0 (RM.sum (wid n) [l.getD k []], RM.sum 0 [[]])) := fun k => LA.dim_cut (wid n) 0 (l.getD k [], []) (getD_mem_lt hlt k) (by intro x hx; cases hx)
  obtain ⟨a, cap, rfl, _⟩ := hv.slice
  have HR := Lib.hid hv.at.2
  have hw0 : n < 0 → (wid n : Int) = 0 := by intro h; unfold wid; omega
  have hw1 : 300 < n → (wid n : Int) = 300 := by intro h; unfold wid; omega
  have hw2 : 0 ≤ n → n ≤ 300 → (wid n : Int) = n := by intro h h'; unfold wid; omega
  have hw3 : wid n ≤ 300 := by unfold wid; omega
  have HF : Hid (∀ k, rowsF (wid n) 0 l [] k = LA.vec (wid n) (RM.sum (wid n) [l.getD k []], RM.sum 0 [[]])) := fun k => rfl
  clear hv hlt
  generalize hF : rowsF (wid n) 0 l [] = f at *
  have HFF := Lib.hid hF; clear hF
  generalize wid n = W at *
  generalize hll : l.length = ll at *
  have HL := Lib.hid hll; clear hll
  unfold maxLen at hlm
  go_enter Try.func22, Try.ntmps22
  go_wp2_with fail
  all_goals
    refine (newSystem_int _ _ W 0 (by omega) rfl hw3 (by omega) _).mono ?_
    rintro e w1 ⟨p, g, rfl, hsys, hx, hp, hg⟩
    clear hw0 hw1 hw2
    have HX1 := Lib.hid hx
    have HS1 := Lib.hid hsys
    clear hx hsys
    go_wp2_with fail
    go_loopw [14] (fun i wr => ∃ (k r : Nat) (st : Nat → Option LA.Eqn), k ≤ ll ∧ i = .int .i64 k ∧ Below w.heap.size w wr ∧ Sys wr p g W 0 r st ∧ LA.Inv W 0 r st (· < k) f) (fun i _ => (ll - intOf i).toNat)
    case atStart => exact ⟨0, 0, _, by omega, rfl, Gr.below_of HX1.out, HS1.out, (LA.Inv.start W 0 f).congrP fun j => by simp⟩
    case round =>
      obtain ⟨k, r, st, hk, rfl, hb, hsys, hinv⟩ := hrel
      have HB := Lib.hid hb
      have HS := Lib.hid hsys
      have HI := Lib.hid hinv
      have hp2 := hsys.cells.2.2
      clear hb hsys hinv
      by_cases h1 : k < ll
      · obtain ⟨bb, off, rfl, hbb, hrow⟩ := HR.out (by omega)
        obtain ⟨ra, rc, hc0, hu0⟩ := hrow k h1
        have hc : wr.cell? ⟨bb, off + k, none⟩ = some (.slice ra (l.getD k []).length rc) := (HB.out.cell (p := ⟨bb, off + k, none⟩) hbb).trans hc0
        have HU := Lib.hid (hu0.below HB.out rfl)
        clear hrow hc0 hu0
        by_cases hfull : r = W
        · have HD : Hid (decide (r = W) = true) := decide_eq_true hfull
          have HFIN : Hid (LA.RankIs W (· < ll) f r) := by
            have h := HI.out.rankIs
            rw [hfull] at h ⊢
            exact LA.RankIs.of_full fun c hc => (h.full c hc).mono fun v hv => hv.mono fun j hj => by omega
          clear hfull
          go_wp2_with fail
          refine (full_any p g W 0 r st _ HS.out).mono ?_
          rintro _ w2 ⟨rfl, rfl⟩
          rw [HD.out]
          go_wp2
          go_ret
          exact ⟨r, rfl, HFIN.out, HB.out.drew⟩
        · have HD : Hid (decide (r = W) = false) := decide_eq_false hfull
          have hr3 : r ≤ 300 := by have := HI.out.rankIs.le; omega
          clear hfull
          go_wp2_with fail
          refine (full_any p g W 0 r st _ HS.out).mono ?_
          rintro _ w2 ⟨rfl, rfl⟩
          rw [HD.out]
          go_wp2_with fail
          refine (take_any p g W 0 r st _ _ (l.getD k []) [] _ (HS.out.ext (Gr.ext_drew (Gr.ext_refl _))) HI.out.good hr3 HU.out.drew (nil_u8s _ _ _)).mono ?_
          intro e w2 ht
          have hb2 := ht.2 w.heap.size hp hg (by exact HB.out.size)
          rcases inv_next HI.out HBD.out (HF.out k) (HDIM.out k) ht with ⟨r', st', rfl, hs', hi'⟩ | ⟨_, v, _, _, q, hq, _⟩
          · have HP := Lib.hid (And.intro (HB.out.drew.trans hb2) (And.intro hs' hi'))
            clear hb2 ht hs' hi'
            go_wp2
            go_roundw
            case rel => exact ⟨k + 1, r', st', by omega, by go_num, HP.out.1, HP.out.2.1, HP.out.2.2⟩
            case measure => simp [intOf]; omega
          · exact absurd hq (Nat.not_lt_zero _)
      · obtain rfl : k = ll := by omega
        have HFIN := Lib.hid HI.out.rankIs
        go_wp2
        go_ret
        exact ⟨r, rfl, HFIN.out, HB.out⟩
end Go.Proofs.Ytkpgdgmjeoogdaa
