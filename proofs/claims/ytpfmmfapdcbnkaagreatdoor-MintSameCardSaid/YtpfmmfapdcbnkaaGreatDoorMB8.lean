/- In one text: Rank, RefSteps, RefRank, Marks, RndMath, PreMath, Grid. -/
import Derived.Test.YtpfmmfapdcbnkaaGreatDoorRows
import Derived.Deep.OwnRows
import Derived.Laws.BitsAllLaws
import Derived.Test.YtpfmmfapdcbnkaaGreatDoorMB1
import Derived.Test.YtpfmmfapdcbnkaaGreatDoorMB2
import Derived.Test.YtpfmmfapdcbnkaaGreatDoorMB3
import Derived.Test.YtpfmmfapdcbnkaaGreatDoorMB4
import Derived.Test.YtpfmmfapdcbnkaaGreatDoorMB5
import Derived.Test.YtpfmmfapdcbnkaaGreatDoorMB6
import Derived.Test.YtpfmmfapdcbnkaaGreatDoorMB7
namespace Go.Proofs.YtpfmmfapdcbnkaaGreatDoor
set_option maxRecDepth 20000
open Go.RowKit
set_option linter.unusedVariables false
/-- The rows that have been taken, as vectors. -/
def rowsF (W S : Nat) (m d : List (List Nat)) (j : Nat) : LA.V := LA.vec W (RM.sum W [m.getD j []], RM.sum S [d.getD j []])
theorem getD_mem_lt {l : List (List Nat)} (h : ∀ r ∈ l, ∀ x ∈ r, x < 256) (j : Nat) : ∀ x ∈ l.getD j [], x < 256 := by
  by_cases hj : j < l.length
  · rw [List.getD_eq_getElem?_getD, List.getElem?_eq_getElem hj]; exact h _ (List.getElem_mem hj)
  · rw [List.getD_eq_getElem?_getD, List.getElem?_eq_none (by omega)]; intro x hx; cases hx
theorem rowsF_bd (W S : Nat) {m d : List (List Nat)} (hm : ∀ r ∈ m, ∀ x ∈ r, x < 256) (hd : ∀ r ∈ d, ∀ x ∈ r, x < 256) (j : Nat) : LA.Bd (rowsF W S m d j) :=
  LA.vec_bd (LA.dim_cut W S (m.getD j [], d.getD j []) (getD_mem_lt hm j) (getD_mem_lt hd j))
/-- What has been taken behind one more row, if it could be taken. -/
theorem inv_next {W S r k : Nat} {st : Nat → Option LA.Eqn} {f : Nat → LA.V} {e0 : LA.Eqn} {w : World} {p g : Nat} {e : Ending} {w' : World} (h : LA.Inv W S r st (· < k) f) (hf : ∀ j, LA.Bd (f j)) (hk : f k = LA.vec W e0) (h0 : LA.Dim W S e0)
    (ht : TakeOut w p g W S r st e0 e w') : (∃ r' st', e = .returned (.bool true) ∧ Sys w' p g W S r' st' ∧ LA.Inv W S r' st' (· < k + 1) f) ∨
      (e = .returned (.bool false) ∧ ∃ v, LA.Span (· < k + 1) f v ∧ (∀ i, i < W → v i = 0) ∧ ∃ q, q < S ∧ v (W + q) ≠ 0) := by
  have hpq : ∀ j, (j < k ∨ j = k) ↔ j < k + 1 := fun j => by omega
  rcases ht.1 with ⟨q, s, hq, hs, hred, hne, rfl, hsys⟩ | ⟨s, hred, rfl, hsys⟩
  · exact .inl ⟨_, _, rfl, hsys, (h.more hred hq hs hne k (fun j _ => hf j) hk h0).congrP hpq⟩
  · cases hz : allZ s.2 with
    | true =>
      have hz' : LA.vec W s = LA.zero := LA.vec_zero hred.1 hred.2.2 (by have := (allZ_iff s.2).1 hz; rwa [hred.1.2.1] at this)
      exact .inl ⟨r, st, rfl, hsys, (h.same hred hz' k (fun j hj => hj) (fun j _ => hf j) hk h0).congrP hpq⟩
    | false =>
      refine .inr ⟨rfl, LA.vec W s, ?_, fun i hi => ?_, ?_⟩
      · have h1 : LA.Span (· < k + 1) f (LA.add (LA.vec W e0) (LA.vec W s)) := (h.onto _ hred.2.1).mono fun j hj => by omega
        have h2 : LA.Span (· < k + 1) f (LA.vec W e0) := by rw [← hk]; exact LA.Span.mem (fun j _ => hf j) (by omega)
        have h3 := h2.add h1
        rwa [← LA.add_assoc, LA.add_self, LA.zero_add] at h3
      · show (if i < W then s.1.getD i 0 else _) = 0
        rw [if_pos hi]; exact hred.2.2 i hi
      · refine Decidable.byContradiction fun hn => ?_
        have : allZ s.2 = true := (allZ_iff s.2).2 fun q hq => Decidable.byContradiction fun hq0 => hn ⟨q, by rw [← hred.1.2.1]; exact hq, by
          show (if W + q < W then _ else s.2.getD (W + q - W) 0) ≠ 0
          rw [if_neg (by omega), show W + q - W = q by omega]; exact hq0⟩
        rw [hz] at this; cases this
theorem newSystem_int (n m : Int) (W S : Nat) (hn : n = W) (hm : m = S) (hW : W ≤ 300) (hS : S ≤ 1000) (w : World) : Calls Tryz.prog 97 #[.int .i64 n, .int .i64 m] w (MadeSys w W S) := by
  subst hn; subst hm; exact newSystem_any W S hW hS w
/-- The width of a rank. -/
def wid (n : Int) : Nat := min n.toNat 300
def RankOut (w : World) (W : Nat) (P : Nat → Prop) (f : Nat → LA.V) (e : Ending) (w' : World) : Prop := ∃ r : Nat, e = .returned (.int .i64 r) ∧ LA.RankIs W P f r ∧ Below w.heap.size w w'
set_option maxHeartbeats 4000000 in
theorem rank_any (n : Int) (v : Value) (l : List (List Nat)) (w : World) (hv : Rws w v l) :
    Calls Tryz.prog 91 #[.int .i64 n, v] w (RankOut w (wid n) (· < l.length) (rowsF (wid n) 0 l [])) := by
  have hlt := hv.all_lt
  have hlm := hv.len
  have HBD : Hid (∀ j, LA.Bd (rowsF (wid n) 0 l [] j)) := rowsF_bd _ _ hlt (by intro r hr; cases hr)
  have HDIM : Hid (∀ k, LA.Dim (wid n) 0 (RM.sum (wid n) [l.getD k []], RM.sum 0 [[]])) := fun k => LA.dim_cut (wid n) 0 (l.getD k [], []) (getD_mem_lt hlt k) (by intro x hx; cases hx)
  obtain ⟨a, cap, rfl, _⟩ := hv.slice
  have HR := Lib.hid hv.at.2
  have hw0 : n < 0 → (wid n : Int) = 0 := by intro h; unfold wid; omega
  have hw1 : 300 < n → (wid n : Int) = 300 := by intro h; unfold wid; omega
  have hw2 : 0 ≤ n → n ≤ 300 → (wid n : Int) = n := by intro h h'; unfold wid; omega
  have hw3 : wid n ≤ 300 := by unfold wid; omega
  have HF : Hid (∀ k, rowsF (wid n) 0 l [] k = LA.vec (wid n) (RM.sum (wid n) [l.getD k []], RM.sum 0 [[]])) := fun k => rfl
  clear hv hlt
  generalize hF : rowsF (wid n) 0 l [] = f at *
  have HFF := Lib.hid hF; clear hF
  generalize wid n = W at *
  generalize hll : l.length = ll at *
  have HL := Lib.hid hll; clear hll
  unfold maxLen at hlm
  go_enter Tryz.func91, Tryz.ntmps91
  go_wp2_with fail
  all_goals
    refine (newSystem_int _ _ W 0 (by omega) rfl hw3 (by omega) _).mono ?_
    rintro e w1 ⟨p, g, rfl, hsys, hx, hp, hg⟩
    clear hw0 hw1 hw2
    have HX1 := Lib.hid hx
    have HS1 := Lib.hid hsys
    clear hx hsys
    go_wp2_with fail
    go_loopw [14] (fun i wr => ∃ (k r : Nat) (st : Nat → Option LA.Eqn), k ≤ ll ∧ i = .int .i64 k ∧ Below w.heap.size w wr ∧ Sys wr p g W 0 r st ∧ LA.Inv W 0 r st (· < k) f) (fun i _ => (ll - intOf i).toNat)
    case atStart => exact ⟨0, 0, _, by omega, rfl, Gr.below_of HX1.out, HS1.out, (LA.Inv.start W 0 f).congrP fun j => by simp⟩
    case round =>
      obtain ⟨k, r, st, hk, rfl, hb, hsys, hinv⟩ := hrel
      have HB := Lib.hid hb
      have HS := Lib.hid hsys
      have HI := Lib.hid hinv
      have hp2 := hsys.cells.2.2
      clear hb hsys hinv
      by_cases h1 : k < ll
      · obtain ⟨bb, off, rfl, hbb, hrow⟩ := HR.out (by omega)
        obtain ⟨ra, rc, hc0, hu0⟩ := hrow k h1
        have hc : wr.cell? ⟨bb, off + k, none⟩ = some (.slice ra (l.getD k []).length rc) := (HB.out.cell (p := ⟨bb, off + k, none⟩) hbb).trans hc0
        have HU := Lib.hid (hu0.below HB.out rfl)
        clear hrow hc0 hu0
        by_cases hfull : r = W
        · have HD : Hid (decide (r = W) = true) := decide_eq_true hfull
          have HFIN : Hid (LA.RankIs W (· < ll) f r) := by
            have h := HI.out.rankIs
            rw [hfull] at h ⊢
            exact LA.RankIs.of_full fun c hc => (h.full c hc).mono fun v hv => hv.mono fun j hj => by omega
          clear hfull
          go_wp2_with fail
          refine (full_any p g W 0 r st _ HS.out).mono ?_
          rintro _ w2 ⟨rfl, rfl⟩
          rw [HD.out]
          go_wp2
          go_ret
          exact ⟨r, rfl, HFIN.out, HB.out.drew⟩
        · have HD : Hid (decide (r = W) = false) := decide_eq_false hfull
          have hr3 : r ≤ 300 := by have := HI.out.rankIs.le; omega
          clear hfull
          go_wp2_with fail
          refine (full_any p g W 0 r st _ HS.out).mono ?_
          rintro _ w2 ⟨rfl, rfl⟩
          rw [HD.out]
          go_wp2_with fail
          refine (take_any p g W 0 r st _ _ (l.getD k []) [] _ (HS.out.ext (Gr.ext_drew (Gr.ext_refl _))) HI.out.good hr3 HU.out.drew (nil_u8s _ _ _)).mono ?_
          intro e w2 ht
          have hb2 := ht.2 w.heap.size hp hg (by exact HB.out.size)
          rcases inv_next HI.out HBD.out (HF.out k) (HDIM.out k) ht with ⟨r', st', rfl, hs', hi'⟩ | ⟨_, v, _, _, q, hq, _⟩
          · have HP := Lib.hid (And.intro (HB.out.drew.trans hb2) (And.intro hs' hi'))
            clear hb2 ht hs' hi'
            go_wp2
            go_roundw
            case rel => exact ⟨k + 1, r', st', by omega, by go_num, HP.out.1, HP.out.2.1, HP.out.2.2⟩
            case measure => simp [intOf]; omega
          · exact absurd hq (Nat.not_lt_zero _)
      · obtain rfl : k = ll := by omega
        have HFIN := Lib.hid HI.out.rankIs
        go_wp2
        go_ret
        exact ⟨r, rfl, HFIN.out, HB.out⟩
end Go.Proofs.YtpfmmfapdcbnkaaGreatDoor
namespace Go.Proofs.YtpfmmfapdcbnkaaGreatDoor
set_option maxRecDepth 20000
open Go.RowKit
set_option linter.unusedVariables false
theorem RowOk.of_owns {w : World} {B B' n : Nat} {v : Value} {xs : List Nat} (h : w.ownsRow B' 5 1 v n (u8vs xs)) (hu : U8s w v xs) : RowOk w B v xs := by
  refine ⟨hu, ?_⟩
  rcases h.2 with ⟨rfl, h0⟩ | ⟨g, cap, cur, rfl, hbg, hg, _⟩
  · exact .inr fun g hg => by cases hg
  · refine .inr fun g' hg' => ?_
    simp only [Value.ownBlock, Option.some.injEq] at hg'
    subst hg'
    exact ⟨(Array.getElem?_eq_some_iff.1 hg).1, .inr ⟨_, hg⟩⟩
/-- A row's cells, with its block apart from the matrix. -/
theorem RowOk.cellsAt {w : World} {B g n cap : Nat} {l : List (List Nat)} {a : Option Addr} {c : Nat} {xs : List Nat} (h : RowOk w B (.slice a xs.length c) xs) (hm : MatInv w B (.slice (some ⟨g, 0, none⟩) n cap) n l) (h0 : 0 < xs.length) :
    ∃ b off, a = some ⟨b, off, none⟩ ∧ b < w.heap.size ∧ b ≠ g ∧ ∀ k, k < xs.length → w.cell? ⟨b, off + k, none⟩ = some (.int .u8 (xs.getD k 0 : Nat)) := by
  obtain ⟨b, off, rfl, hb, hc⟩ := h.1.cell.2 h0
  refine ⟨b, off, rfl, hb, ?_, hc⟩
  obtain ⟨vs, ho, _⟩ := hm
  rcases h.apart (B' := B) ho (by decide) (by simp [Value.ownBlock]) with h1 | h1
  · subst h1; exact absurd h0 (Nat.lt_irrefl _)
  · simpa [Value.ownBlock] using h1
theorem ref_step {k rk n L q : Nat} {has : Nat → Bool} {l l0 : List (List Nat)} (h : LA.RefInv k rk n has (LA.rv l) (LA.rv l0)) (hr : Rect n L l) (hq : rk ≤ q) (hqn : q < n) (h0 : (l.getD q []).getD k 0 ≠ 0) :
    LA.RefInv (k + 1) (rk + 1) n (LA.setH has k true) (LA.rv (clrL (putL l rk q k) rk k n)) (LA.rv l0) := by
  have h1 := h.step hq hqn h0
  have hrk : rk < n := by omega
  have e : ∀ j, j < n → LA.rv (clrL (putL l rk q k) rk k n) j = LA.clear (LA.put (LA.rv l) rk q k) rk k j := fun j hj => by
    rw [clrL_rv (hr.put (c := k) hrk hqn) hrk j hj]
    have e1 : LA.rv (putL l rk q k) = LA.put (LA.rv l) rk q k := funext fun j => putL_rv hr hrk hqn j
    rw [e1]
  exact h1.congr e
def StepsOut (w : World) (B : Nat) (v : Value) (n L W : Nat) (l0 : List (List Nat)) (e : Ending) (w' : World) : Prop :=
  ∃ r l has, e = .returned (.int .i64 (r : Nat)) ∧ Below B w w' ∧ MatInv w' B v n l ∧ Rect n L l ∧ LA.RefInv W r n has (LA.rv l) (LA.rv l0)
def StepsMid (w : World) (B : Nat) (v : Value) (n L : Nat) (l0 : List (List Nat)) (wr : World) (rk k : Nat) (l : List (List Nat)) (has : Nat → Bool) : Prop :=
  Below B w wr ∧ MatInv wr B v n l ∧ Rect n L l ∧ LA.RefInv k rk n has (LA.rv l) (LA.rv l0)
set_option maxHeartbeats 8000000 in
set_option maxRecDepth 100000 in
theorem steps_some (W n L B g cap : Nat) (l0 : List (List Nat)) (w : World) (hm : MatInv w B (.slice (some ⟨g, 0, none⟩) n cap) n l0) (hrect : Rect n L l0) (hWL : W ≤ L) (hL : L ≤ 2000) (hn : n ≤ 4000) (hB : B ≤ w.heap.size) :
    Calls Tryz.prog 58 #[.slice (some ⟨g, 0, none⟩) n cap, .int .i64 W] w (StepsOut w B (.slice (some ⟨g, 0, none⟩) n cap) n L W l0) := by
  have HM := Lib.hid hm
  have HRECT := Lib.hid hrect
  have HB := Lib.hid hB
  have HSTART : Hid (LA.RefInv 0 0 n (fun _ => false) (LA.rv l0) (LA.rv l0)) := LA.RefInv.start n _ fun j _ i => getD_lt _ (hrect.row_lt j) i
  have hBg := hm.lt.1
  clear hm hrect hB
  go_enter Tryz.func58, Tryz.ntmps58
  go_wp2_with fail
  go_loopw [5, 6] (fun r c wr => ∃ (rk k : Nat) (l : List (List Nat)) (has : Nat → Bool), k ≤ W ∧ r = .int .i64 rk ∧ c = .int .i64 k ∧ StepsMid w B (.slice (some ⟨g, 0, none⟩) n cap) n L l0 wr rk k l has) (fun _ c _ => (W - intOf c).toNat)
  case atStart => exact ⟨0, 0, l0, _, by omega, rfl, rfl, Below.refl _ _, HM.out, HRECT.out, HSTART.out⟩
  case round =>
    obtain ⟨rk, k, l, has, hk, rfl, rfl, hb, hmat, hre, hinv⟩ := hrel
    have HBW := Lib.hid hb
    have HMT := Lib.hid hmat
    have HRE := Lib.hid hre
    have HINV := Lib.hid hinv
    have hrn := hinv.rn
    clear hb hmat hre hinv
    obtain ⟨wo, rfl⟩ : ∃ wo : World, wo = wr := ⟨_, rfl⟩
    by_cases hkW : k < W
    · go_wp2_with fail
      go_loop [7] (fun p => ∃ q : Nat, rk ≤ q ∧ q ≤ n ∧ p = .int .i64 q ∧ Hid (∀ j, rk ≤ j → j < q → LA.rv l j k = 0)) (fun p => (n - intOf p).toNat)
      case atStart => exact ⟨rk, Nat.le_refl _, hrn, rfl, fun j h1 h2 => by omega⟩
      case round =>
        obtain ⟨q, hq1, hq2, rfl, hz⟩ := hrel
        by_cases hqn : q < n
        · obtain ⟨ra, rc, hcell, hok⟩ := HMT.out.at hqn
          have hlen := HRE.out.2.1 q hqn
          obtain ⟨b, off, rfl, hbl, hbg, hcs⟩ := hok.cellsAt HMT.out (by rw [hlen]; omega)
          have hc1 := hcs k (by rw [hlen]; omega)
          rw [hlen] at hcell hok hcs
          have HOK := Lib.hid hok
          clear hok hcs
          by_cases h0 : (l.getD q []).getD k 0 = 0
          · have hz' : Hid (∀ j, rk ≤ j → j < q + 1 → LA.rv l j k = 0) := fun j h1 h2 => by
              by_cases hj : j < q
              · exact hz.out j h1 hj
              · rw [show j = q by omega]; exact h0
            rw [h0] at hc1
            clear h0
            go_wp2
            go_round
            case rel => exact ⟨q + 1, by omega, by omega, by go_num, hz'⟩
            case measure => simp [intOf]; omega
          · have hrk : rk < n := by omega
            have hxlt : (l.getD q []).getD k 0 < 256 := getD_lt _ (HRE.out.row_lt q) k
            obtain ⟨sa, sc, hcr, hokr⟩ := HMT.out.at hrk
            rw [HRE.out.2.1 rk hrk] at hcr hokr
            have hfz := HMT.out.frozen q
            have hgl := HMT.out.lt.2
            have HOKR := Lib.hid hokr
            clear hokr
            have hqnb : ((q : Int) == (n : Int)) = false := by simp only [beq_eq_false_iff_ne, ne_eq]; omega
            have hxb : ((((l.getD q []).getD k 0 : Nat) : Int) == 0) = false := by simpa using h0
            have H0 := Lib.hid h0
            clear h0
            generalize hxe : (l.getD q []).getD k 0 = x at *
            have HXE := Lib.hid hxe; clear hxe
            go_wp2_with fail
            refine (rinv_any x hxlt _).mono ?_
            rintro _ w2 ⟨rfl, hw2⟩
            have hm2 : MatInv w2 B (.slice (some ⟨g, 0, none⟩) n cap) n (l.set q (l.getD rk [])) := by rw [← hw2]; exact HMT.out.set hqn HRE.out.1 HOKR.out
            have hok2 : RowOk w2 B (.slice (some ⟨b, off, none⟩) L rc) (l.getD q []) := by
              rw [← hw2]; exact HOK.out.grown (grown_setCell (grown_refl _ _) _ _) (.inr (by simp [Value.ownBlock]; exact hbg))
            have hb2 : Below B w w2 := by rw [← hw2]; exact HBW.out.setCell (by exact hBg) _
            have HM2 := Lib.hid hm2
            have HOK2 := Lib.hid hok2
            have HB2 := Lib.hid hb2
            have hil := FM.inv_lt x hxlt
            clear hw2 hm2 hok2 hb2 hc1 hcell hcr hfz HOK HOKR
            go_wp2_with fail
            refine (rscale_any (FM.inv x) _ (l.getD q []) _ hil HOK2.out.1 (by rw [hlen]; omega)).mono ?_
            rintro _ w3 ⟨v3, rfl, hb3, hu3, ho3⟩
            obtain ⟨va, vc, rfl⟩ := owns_slice ho3
            rw [RM.scale_length, hlen] at hu3 ho3 ⊢
            have hm3 := HM2.out.ext (ext_below hb3 rfl)
            have hfz := hm3.frozen rk
            have hgl3 := hm3.lt.2
            obtain ⟨_, _, hcr, _⟩ := hm3.at hrk
            have HP3 : Hid (MatInv (w3.setCell ⟨g, rk, none⟩ (.slice va L vc)) B (.slice (some ⟨g, 0, none⟩) n cap) n (putL l rk q k)) := by
              have h := hm3.set hrk (by simp [HRE.out.1]) (RowOk.of_owns (B := B) ho3 hu3)
              unfold putL
              rw [HXE.out]
              exact h
            have HB3 : Hid (Below B w (w3.setCell ⟨g, rk, none⟩ (.slice va L vc))) := (HB2.out.trans (hb3.mono (Nat.le_trans HB.out HB2.out.size))).setCell (by exact hBg) _
            have HR1 := Lib.hid (HRE.out.put (c := k) hrk hqn)
            have HRV : Hid (LA.RefInv (k + 1) (rk + 1) n (LA.setH has k true) (LA.rv (clrL (putL l rk q k) rk k n)) (LA.rv l0)) := ref_step HINV.out HRE.out hq1 hqn (by rw [HXE.out]; exact H0.out)
            clear hm3 hb3 hu3 ho3
            go_wp2_with fail
            generalize putL l rk q k = l1 at *
            go_loopw [10] (fun i wi => ∃ i' : Nat, i' ≤ n ∧ i = .int .i64 i' ∧ Below B w wi ∧ MatInv wi B (.slice (some ⟨g, 0, none⟩) n cap) n (clrL l1 rk k i')) (fun i _ => (n - intOf i).toNat)
            case atStart => exact ⟨0, by omega, rfl, HB3.out, by rw [clrL_zero]; exact HP3.out⟩
            case round =>
              obtain ⟨i', hi1, rfl, hbi, hmi⟩ := hrel
              obtain ⟨wi, rfl⟩ : ∃ wi : World, wi = wr := ⟨_, rfl⟩
              have HBI := Lib.hid hbi
              have HMI := Lib.hid hmi
              clear hbi hmi
              by_cases hin : i' < n
              · have hl1 : l1.length = n := HR1.out.1
                have hL1 := HR1.out.2.1
                obtain ⟨ia, ic, hci, hoki⟩ := HMI.out.at hin
                rw [clrL_at l1 rk k i' i' (by omega), if_neg (by omega)] at hci hoki
                obtain ⟨bi, oi, rfl, hbi, hbig, hcsi⟩ := hoki.cellsAt HMI.out (by rw [hL1 i' hin]; omega)
                rw [hL1 i' hin] at hcsi hci
                have hyc := hcsi k (by omega)
                have hylt : (l1.getD i' []).getD k 0 < 256 := getD_lt _ (HR1.out.row_lt i') k
                have HSAME := Lib.hid (clrL_same l1 rk k i' (by omega))
                have HCSI := Lib.hid hcsi
                clear hcsi hoki
                by_cases hir : i' = rk
                · have hirb : ((i' : Int) == (rk : Int)) = true := by simp [hir]
                  have HN := Lib.hid (HSAME.out (.inl hir))
                  clear hir hL1 hl1
                  generalize (l1.getD i' []).getD k 0 = y at *
                  go_wp2
                  go_roundw
                  case rel => exact ⟨i' + 1, by omega, by go_num, HBI.out, by rw [HN.out]; exact HMI.out⟩
                  case measure => simp [intOf]; omega
                · have hirb : ((i' : Int) == (rk : Int)) = false := by simp only [beq_eq_false_iff_ne, ne_eq]; omega
                  by_cases hy0 : (l1.getD i' []).getD k 0 = 0
                  · have HN := Lib.hid (HSAME.out (.inr hy0))
                    rw [hy0] at hyc
                    clear hir hy0 hL1 hl1
                    go_wp2
                    go_roundw
                    case rel => exact ⟨i' + 1, by omega, by go_num, HBI.out, by rw [HN.out]; exact HMI.out⟩
                    case measure => simp [intOf]; omega
                  · have hyb : ((((l1.getD i' []).getD k 0 : Nat) : Int) == 0) = false := by simpa using hy0
                    have HN := Lib.hid (clrL_succ l1 rk k i' (by omega) hir)
                    obtain ⟨ka, kc, hck, hokk⟩ := HMI.out.at hrk
                    rw [clrL_at l1 rk k i' rk (by omega), if_neg (by omega)] at hck hokk
                    obtain ⟨bk, ok, rfl, hbk, hbkg, hcsk⟩ := hokk.cellsAt HMI.out (by rw [hL1 rk hrk]; omega)
                    rw [hL1 rk hrk] at hcsk hck
                    have HCSK := Lib.hid hcsk
                    have hmk := makeBytes L (by omega)
                    have hXL : (RM.xr (l1.getD i' []) (RM.scale ((l1.getD i' []).getD k 0) (l1.getD rk []))).length = L := by rw [RM.xr_length]; exact hL1 i' hin
                    have HXL := Lib.hid hXL
                    have HXB : Hid (∀ j, j < L → (RM.xr (l1.getD i' []) (RM.scale ((l1.getD i' []).getD k 0) (l1.getD rk []))).getD j 0 = (l1.getD i' []).getD j 0 ^^^ FM.tm ((l1.getD i' []).getD k 0) ((l1.getD rk []).getD j 0)) := fun j hj => by
                      rw [RM.xr_at _ _ _ (by rw [hL1 i' hin]; exact hj), RM.scale_getD]
                    have HAL : Hid (∀ j, (l1.getD i' []).getD j 0 < 256) := fun j => getD_lt _ (HR1.out.row_lt i') j
                    have HBL : Hid (∀ j, (l1.getD rk []).getD j 0 < 256) := fun j => getD_lt _ (HR1.out.row_lt rk) j
                    have HCL : Hid ((clrL l1 rk k i').length = n) := by show _ = _; rw [clrL_length]; exact HR1.out.1
                    clear hir hy0 hL1 hl1 hcsk hokk hXL
                    generalize RM.xr (l1.getD i' []) (RM.scale ((l1.getD i' []).getD k 0) (l1.getD rk [])) = X at *
                    generalize (l1.getD i' []).getD k 0 = y at *
                    have hw4 : Own (wi.alloc (.cells (madeCells #[.int .u8 0] L) 5)) wi.heap.size 5 (RM.zeros L) := Own.made wi L _ (by unfold maxLen; omega)
                    have HW4 := Lib.hid hw4
                    have HG0 := Lib.hid (grown_refl (wi.alloc (.cells (madeCells #[.int .u8 0] L) 5)) (some wi.heap.size))
                    have HE4 := Lib.hid (ext_alloc wi (.cells (madeCells #[.int .u8 0] L) 5))
                    clear hw4
                    go_wp2_with fail
                    clear hmk
                    go_loopw [13] (fun i wx => ∃ j : Nat, j ≤ L ∧ i = .int .i64 j ∧ wi.Extends wx ∧ Own wx wi.heap.size 5 (RM.xrTo j (RM.zeros L) X)) (fun i _ => (L - intOf i).toNat)
                    case atStart => exact ⟨0, by omega, rfl, HE4.out, by rw [RM.xrTo_zero]; exact HW4.out⟩
                    case round =>
                      obtain ⟨j, hj, rfl, hxw, hox⟩ := hrel
                      by_cases hjL : j < L
                      · have hjz : j < (RM.zeros L).length := by rw [RM.zeros_length]; exact hjL
                        have hcx : wr.cell? ⟨wi.heap.size, j, none⟩ = some (.int .u8 (0 : Nat)) := by
                          have := hox.1.cell (i := j) (by rw [RM.xrTo_length]; exact hjz)
                          rw [this, RM.xrTo_at j _ _ hjz, RM.zeros_getD]
                        have hfx := hox.1.frozen j
                        have hlx := hox.lt
                        have hxv := HXB.out j hjL
                        have ha := HAL.out j
                        have hbv := HBL.out j
                        have hrt := FM.rtm_eq y ((l1.getD rk []).getD j 0) hylt hbv
                        have htm := FM.tm_lt y ((l1.getD rk []).getD j 0) hylt
                        have hex := u8_xor_nat ((l1.getD i' []).getD j 0) (FM.tm y ((l1.getD rk []).getD j 0)) ha htm
                        have HPX : Hid (wi.Extends (wr.setCell ⟨wi.heap.size, j, none⟩ (.int .u8 (X.getD j 0 : Nat))) ∧ Own (wr.setCell ⟨wi.heap.size, j, none⟩ (.int .u8 (X.getD j 0 : Nat))) wi.heap.size 5 (RM.xrTo (j + 1) (RM.zeros L) X)) :=
                          ⟨Gr.ext_of ((Gr.below_of hxw).setCell (Nat.le_refl _) _), by
                            rw [← RM.xrTo_succ j _ _ hjz, RM.zeros_getD, Nat.zero_xor]
                            exact hox.set j _ (by rw [RM.xrTo_length]; exact hjz) (by rw [hxv]; exact FM.xor_lt ha htm)⟩
                        have HL1 : Hid (∀ w', wr.Extends w' → w'.cell? ⟨g, i', none⟩ = some (.slice (some ⟨bi, oi, none⟩) L ic)) := fun w' hw' => (Gr.ext_trans hxw hw').cell_of hci
                        have HL2 : Hid (∀ w', wr.Extends w' → w'.cell? ⟨g, rk, none⟩ = some (.slice (some ⟨bk, ok, none⟩) L kc)) := fun w' hw' => (Gr.ext_trans hxw hw').cell_of hck
                        have HL3 : Hid (∀ w', wr.Extends w' → w'.cell? ⟨bi, oi + j, none⟩ = some (.int .u8 ((l1.getD i' []).getD j 0 : Nat))) := fun w' hw' => (Gr.ext_trans hxw hw').cell_of (HCSI.out j hjL)
                        have HL4 : Hid (∀ w', wr.Extends w' → w'.cell? ⟨bk, ok + j, none⟩ = some (.int .u8 ((l1.getD rk []).getD j 0 : Nat))) := fun w' hw' => (Gr.ext_trans hxw hw').cell_of (HCSK.out j hjL)
                        have HHX : Hid (X.getD j 0 = (l1.getD i' []).getD j 0 ^^^ FM.tm y ((l1.getD rk []).getD j 0)) := hxv
                        rw [hxv] at HPX
                        clear hxw hox hxv hjz
                        generalize (l1.getD i' []).getD j 0 = av at *
                        generalize (l1.getD rk []).getD j 0 = bv at *
                        have HRT := Lib.hid hrt; clear hrt
                        generalize FM.tm y bv = tv at *
                        go_wp2_with fail
                        refine Gr.region 20 [(false,0),(false,1),(false,2),(false,3),(false,4),(false,5),(false,6),(false,7),(false,8),(false,9),(false,10),(false,11),(false,12),(false,13),(false,14),(false,15),(false,16),(true,17),(false,18),(false,19)] (by kernel_rfl) (by kernel_rfl) (fun d _ _ _ _ h => by cases d <;> exact h) ?_
                        simp only [Gr.pick, List.getElem?_cons_zero, List.getElem?_cons_succ, List.drop_succ_cons, List.drop_zero]
                        iterate 17
                          refine Gr.walk_t ?_ (Or.inl ⟨by rfl, ?_⟩) ?_
                          rotate_left
                          · intro w' hw'
                            have hc1 := HL1.out w' (Gr.of_drew hw')
                            have hc2 := HL2.out w' (Gr.of_drew hw')
                            have hc3 := HL3.out w' (Gr.of_drew hw')
                            have hc4 := HL4.out w' (Gr.of_drew hw')
                            clear hw'
                            go_simp
                            try with_reducible rfl
                          simp only [Act.put, List.setIfInBounds_toArray, List.set_cons_zero, List.set_cons_succ]
                        clear HL1 HL2 HL3 HL4
                        refine Gr.walk_c (fun K hK => ?_)
                        go_simp
                        refine (rtimes_any y bv hylt hbv _).mono ?_
                        rintro e w' ⟨rfl, rfl⟩
                        rw [HRT.out]
                        try go_simp
                        refine hK.out _ _ (Gr.ext_refl _) ?_
                        clear hK K
                        iterate 2
                          refine Gr.walk_t ?_ (Or.inl ⟨by rfl, ?_⟩) ?_
                          rotate_left
                          · intro w' hw'
                            clear hw'
                            go_simp
                            try with_reducible rfl
                          simp only [Act.put, List.setIfInBounds_toArray, List.set_cons_zero, List.set_cons_succ]
                        refine Gr.walk_nil ?_
                        go_wp2
                        go_roundw
                        case rel => exact ⟨j + 1, by omega, by go_num, Gr.ext_drew HPX.out.1, HPX.out.2⟩
                        case measure => simp [intOf]; omega
                      · obtain rfl : j = L := by omega
                        have HOX : Hid (Own wr wi.heap.size 5 X) := by
                          have e := RM.xrTo_all j (RM.zeros j) X (by rw [RM.zeros_length]; omega)
                          have e2 := RM.xr_zeros X
                          rw [HXL.out] at e2
                          rw [e, e2] at hox; exact hox
                        have hm5 := HMI.out.ext hxw
                        have hfz := hm5.frozen i'
                        have hgl5 := hm5.lt.2
                        have hci5 := hxw.cell_of hci
                        have HP5 : Hid (MatInv (wr.setCell ⟨g, i', none⟩ (.slice (some ⟨wi.heap.size, 0, none⟩) j j)) B (.slice (some ⟨g, 0, none⟩) n cap) n (clrL l1 rk k (i' + 1))) := by
                          have h := hm5.set hin HCL.out (RowOk.own HOX.out B HXL.out.symm HXL.out.symm)
                          rw [HN.out] at h; exact h
                        have HB5 : Hid (Below B w (wr.setCell ⟨g, i', none⟩ (.slice (some ⟨wi.heap.size, 0, none⟩) j j))) := (HBI.out.trans ((Gr.below_of hxw).mono (Nat.le_trans HB.out HBI.out.size))).setCell (by exact hBg) _
                        clear hm5 hxw hox hci hck
                        go_wp2
                        go_roundw
                        case rel => exact ⟨i' + 1, by omega, by go_num, HB5.out, HP5.out⟩
                        case measure => simp [intOf]; omega
              · obtain rfl : i' = n := by omega
                have HREC := Lib.hid (HR1.out.clr (r := rk) (c := k) (k := i'))
                go_wp2
                go_roundw
                case rel => exact ⟨rk + 1, k + 1, _, _, by omega, by go_num, by go_num, HBI.out, HMI.out, HREC.out, HRV.out⟩
                case measure => simp [intOf]; omega
        · obtain rfl : q = n := by omega
          have HNEW := Lib.hid (HINV.out.skip fun j h1 h2 => hz.out j h1 h2)
          go_wp2
          go_roundw
          case rel => exact ⟨rk, k + 1, l, _, by omega, by go_num, by go_num, HBW.out, HMT.out, HRE.out, HNEW.out⟩
          case measure => simp [intOf]; omega
    · obtain rfl : k = W := by omega
      go_wp2
      go_ret
      exact ⟨rk, l, has, rfl, HBW.out, HMT.out, HRE.out, HINV.out⟩
end Go.Proofs.YtpfmmfapdcbnkaaGreatDoor
namespace Go.Proofs.YtpfmmfapdcbnkaaGreatDoor
set_option maxRecDepth 20000
open Go.RowKit Go.Deep
set_option linter.unusedVariables false
set_option maxHeartbeats 400000 in
set_option maxRecDepth 100000 in
theorem steps_none (W cap : Nat) (a : Option Addr) (w : World) (hW : W ≤ 300) :
    Calls Tryz.prog 58 #[.slice a 0 cap, .int .i64 W] w fun e w' => e = .returned (.int .i64 (0 : Nat)) ∧ w = w' := by
  go_enter Tryz.func58, Tryz.ntmps58
  go_wp2_with fail
  go_loop [5, 6] (fun r c => ∃ k : Nat, k ≤ W ∧ r = .int .i64 0 ∧ c = .int .i64 k) (fun _ c => (W - intOf c).toNat)
  case atStart => exact ⟨0, by omega, rfl, rfl⟩
  case round =>
    obtain ⟨k, hk, rfl, rfl⟩ := hrel
    by_cases h : k < W
    · go_wp2_with fail
      refine wp_loop_rounds 1 ?_; rw [rounds_succ]
      go_wp2
      go_round
      case rel => exact ⟨k + 1, by omega, rfl, by go_num⟩
      case measure => simp [intOf]; omega
    · obtain rfl : k = W := by omega
      go_wp2
      go_ret
      exact ⟨rfl, rfl⟩
theorem steps_any (W n L B : Nat) (v : Value) (l0 : List (List Nat)) (w : World) (hm : MatInv w B v n l0) (hrect : Rect n L l0) (hWL : W ≤ L) (hL : L ≤ 2000) (hn : n ≤ 4000) (hB : B ≤ w.heap.size) (hW : W ≤ 300) :
    Calls Tryz.prog 58 #[v, .int .i64 W] w (StepsOut w B v n L W l0) := by
  have hz : ∀ j, j < n → LA.Bd (LA.rv l0 j) := fun j _ i => getD_lt _ (hrect.row_lt j) i
  have key : n = 0 → ∀ c, LA.RefInv c 0 n (fun _ => false) (LA.rv l0) (LA.rv l0) := fun h c => by
    subst h
    have : ∀ m, LA.cnt (fun _ => false) m = 0 := fun m => by induction m with | zero => rfl | succ m ih => rw [LA.cnt, ih]; rfl
    exact ⟨(this c).symm, Nat.zero_le _, fun q _ h => (by cases h), fun j _ h => absurd h (Nat.not_lt_zero _), fun j h => absurd h (Nat.not_lt_zero _), fun j h => absurd h (Nat.not_lt_zero _), fun j h => absurd h (Nat.not_lt_zero _), fun j h => absurd h (Nat.not_lt_zero _)⟩
  have hm0 := hm
  obtain ⟨vs, ho, _⟩ := hm
  rcases ho.2 with ⟨rfl, h0⟩ | ⟨g, cap, cur, rfl, _⟩
  · subst h0
    refine (steps_none W 0 none w hW).mono fun e w' ⟨he, hw⟩ => ?_
    subst hw
    exact ⟨0, l0, _, he, Below.refl _ _, hm0, hrect, key rfl W⟩
  · exact steps_some W n L B g cap l0 w hm0 hrect hWL hL hn hB
theorem refcut_wid (n : Int) : refcut n 0 300 = (wid n : Nat) := by
  unfold refcut wid
  by_cases h1 : n < 0
  · rw [if_pos h1]; omega
  · rw [if_neg h1]
    by_cases h2 : 300 < n
    · rw [if_pos h2]; omega
    · rw [if_neg h2]; omega
/-- Each row as one of W elements. -/
def cutRows (W : Nat) (m : List (List Nat)) : List (List Nat) := m.map fun r => RM.sum W [r]
theorem cutRows_at (W : Nat) (m : List (List Nat)) (j : Nat) (h : j < m.length) : (cutRows W m).getD j [] = RM.sum W [m.getD j []] := by simp [cutRows, List.getD_eq_getElem?_getD, h]
theorem cutRows_snoc (W : Nat) (m : List (List Nat)) (k : Nat) (h : k < m.length) : (cutRows W m).take k ++ [RM.sum W [m.getD k []]] = (cutRows W m).take (k + 1) := by
  rw [List.take_succ_eq_append_getElem (by simpa [cutRows] using h)]
  simp [cutRows, h]
theorem rank_congr {W r : Nat} {P : Nat → Prop} {f g : Nat → LA.V} (h : LA.RankIs W P f r) (hf : ∀ j, P j → LA.Bd (f j)) (e : ∀ j, P j → f j = g j) : LA.RankIs W P g r :=
  h.of_span (fun v hv => hv.sub (fun j hj => by rw [← e j hj]; exact hf j hj) fun j hj => by rw [e j hj]; exact LA.Span.mem (fun j hj => by rw [← e j hj]; exact hf j hj) hj)
    fun v hv => hv.sub hf fun j hj => by rw [← e j hj]; exact LA.Span.mem hf hj
theorem rv_cut (W : Nat) (m : List (List Nat)) (j : Nat) (h : j < m.length) : LA.rv (cutRows W m) j = rowsF W 0 m [] j := funext fun i => by
  show ((cutRows W m).getD j []).getD i 0 = (if i < W then (RM.sum W [m.getD j []]).getD i 0 else (RM.sum 0 [[]]).getD (i - W) 0)
  rw [cutRows_at W m j h]
  split
  · rfl
  · rw [RM.getD_far _ i (by rw [RM.sum_length]; omega), RM.getD_far _ _ (by rw [RM.sum_length]; omega)]
theorem cutRows_rect (W : Nat) {m : List (List Nat)} (h : ∀ r ∈ m, ∀ x ∈ r, x < 256) : Rect m.length W (cutRows W m) := by
  refine ⟨by simp [cutRows], fun j hj => by rw [cutRows_at W m j hj, RM.sum_length], fun r hr => ?_⟩
  obtain ⟨q, hq, rfl⟩ := List.mem_map.1 hr
  exact LA.sum_lt _ _ (by intro s hs; simp at hs; rw [hs]; exact h q hq)
set_option maxHeartbeats 4000000 in
theorem rrank_any (n : Int) (v : Value) (m : List (List Nat)) (w : World) (hv : Rws w v m) (hlm : m.length ≤ 4000) :
    Calls Tryz.prog 35 #[.int .i64 n, v] w (RankOut w (wid n) (· < m.length) (rowsF (wid n) 0 m [])) := by
  have hlt := hv.all_lt
  have hw3 : wid n ≤ 300 := by unfold wid; omega
  have HRC := Lib.hid (refcut_wid n)
  have HRECT := Lib.hid (cutRows_rect (wid n) hlt)
  have HEND : Hid (∀ r, LA.RankIs (wid n) (· < m.length) (LA.rv (cutRows (wid n) m)) r → LA.RankIs (wid n) (· < m.length) (rowsF (wid n) 0 m []) r) := fun r h =>
    rank_congr h (fun j hj i => getD_lt _ ((cutRows_rect (wid n) hlt).row_lt j) i) fun j hj => rv_cut (wid n) m j hj
  have HSN := Lib.hid (cutRows_snoc (wid n) m)
  have HTK : Hid ((cutRows (wid n) m).take m.length = cutRows (wid n) m) := by
    have : m.length = (cutRows (wid n) m).length := by simp [cutRows]
    show _ = _
    rw [this, List.take_length]
  have HTL : Hid (∀ k, k ≤ m.length → k = ((cutRows (wid n) m).take k).length) := fun k hk => by simp [cutRows]; omega
  obtain ⟨a, cap, rfl, _⟩ := hv.slice
  have HV := Lib.hid hv
  have HR := Lib.hid hv.at.2
  obtain ⟨i1, hi', hz0', hz1', hz2'⟩ := info_parts bytesinfo
  have HI' := Lib.hid hi'; clear hi'
  have HZ0' := Lib.hid hz0'; clear hz0'
  have HZ1' := Lib.hid hz1'; clear hz1'
  have HZ2' := Lib.hid hz2'; clear hz2'
  clear hv hlt
  generalize hF : rowsF (wid n) 0 m [] = f at *
  have HFF := Lib.hid hF; clear hF
  generalize hLL : cutRows (wid n) m = L0 at *
  have HLL := Lib.hid hLL; clear hLL
  generalize hWW : wid n = W at *
  have HWW := Lib.hid hWW; clear hWW
  have hcw : Hid (RM.cut (W : Int) = W) := cut_nat W (by omega)
  generalize hll : m.length = ll at *
  have HL := Lib.hid hll; clear hll
  go_enter Tryz.func35, Tryz.ntmps35
  go_wp2_with fail
  refine (rcut_any _ _ _ _).mono ?_
  rintro e w' ⟨rfl, rfl⟩
  rw [HRC.out]
  go_wp2_with fail
  go_loopw [5, 6] (fun o i wr => ∃ k : Nat, k ≤ ll ∧ i = .int .i64 k ∧ Below w.heap.size w wr ∧ MatInv wr w.heap.size o k (L0.take k)) (fun _ i _ => (ll - intOf i).toNat)
  case atStart => exact ⟨0, by omega, rfl, Below.refl _ _, [], World.ownsRow_nil _ _ _ _, fun j hj => absurd hj (Nat.not_lt_zero _)⟩
  case round =>
    obtain ⟨k, hk, rfl, hb, hm⟩ := hrel
    have HB := Lib.hid hb
    have HM := Lib.hid hm
    have hbs := hb.size
    clear hb hm
    by_cases h1 : k < ll
    · obtain ⟨bb, off, rfl, hbb, hrow⟩ := HR.out (by omega)
      obtain ⟨ra, rc, hc0, hu0⟩ := hrow k h1
      have hc : wr.cell? ⟨bb, off + k, none⟩ = some (.slice ra (m.getD k []).length rc) := (HB.out.cell (p := ⟨bb, off + k, none⟩) hbb).trans hc0
      have HU := Lib.hid (hu0.below HB.out rfl)
      have HS := Lib.hid (HSN.out k h1)
      clear hrow hc0 hu0
      go_wp2_with fail
      refine (rsum_any _ _ [m.getD k []] _ (rws_one _ _ _ _ _ HU.out)).mono ?_
      rintro e w2 ⟨rfl, hb2, ho2⟩
      rw [hcw.out] at ho2 ⊢
      have hx2 : wr.Extends w2 := Gr.ext_trans (ext_alloc _ _) (ext_below hb2 rfl)
      have HX2 := Lib.hid hx2
      have hs2 := hx2.size
      have HOK : Hid (RowOk w2 w.heap.size (.slice (some ⟨wr.heap.size + 1, 0, none⟩) W W) (RM.sum W [m.getD k []])) := by
        have h := RowOk.own (n := W) (c := W) ho2 w.heap.size (by rw [RM.sum_length]) (by rw [RM.sum_length])
        show RowOk _ _ _ _
        simpa using h
      have HM2 := Lib.hid (HM.out.ext hx2)
      clear hx2 hb2 ho2
      obtain ⟨vs, hown, hrows⟩ := HM2.out
      have HOWN := Lib.hid hown
      have HROWS := Lib.hid hrows
      have HOB : Hid (∀ g, u5.ownBlock = some g → w.heap.size ≤ g) := fun g hg => (HOWN.out.lt g hg).1
      clear hown hrows
      go_wp2_with (at_builtin; refine wpList_append_own_src _ rfl _ _ 73 73 rfl w.heap.size 30 i1 (.slice none 0 0) 1 24 Tryz.underlying73 HI'.out HZ0'.out HZ1'.out HZ2'.out rfl _ _ _ rfl (HOWN.out.alloc _) _ 1 [.slice (some ⟨wr.heap.size + 1, 0, none⟩) W W] rfl (src_one Tryz.underlying73 _ _ rfl rfl) (by unfold maxLen; omega) (by omega) (by simp; omega) ?_)
      intro v' w3 ho3 hg3 _
      have HP : Hid (Below w.heap.size w w3 ∧ MatInv w3 w.heap.size v' (k + 1) (L0.take (k + 1))) := by
        refine ⟨((HB.out.trans ((Gr.below_of HX2.out).mono hbs)).alloc (Nat.le_trans hbs hs2) _).grown hg3 (by simp; omega) HOB.out, ?_⟩
        rw [← HS.out]
        exact MatInv.snoc (HTL.out k hk) (HOWN.out.alloc _) (fun j hj => by obtain ⟨u, h1, h2⟩ := HROWS.out j hj; exact ⟨u, h1, h2.ext (ext_alloc _ _)⟩) (HOK.out.ext (ext_alloc _ _)) hg3 ho3
      clear ho3 hg3
      go_wp2
      go_roundw
      case rel => exact ⟨k + 1, by omega, by go_num, HP.out⟩
      case measure => simp [intOf]; omega
    · obtain rfl : k = ll := by omega
      have HM' : Hid (MatInv wr w.heap.size u5 k L0) := by have h := HM.out; rw [HTK.out] at h; exact h
      go_wp2_with fail
      refine (steps_any W k W w.heap.size _ L0 _ HM'.out HRECT.out (Nat.le_refl _) (by omega) hlm hbs hw3).mono ?_
      rintro e w2 ⟨r, l, has, rfl, hb2, _, _, hinv⟩
      have HOUT : Hid (RankOut w W (· < k) f (.returned (.int .i64 (r : Nat))) w2) := ⟨r, rfl, HEND.out r hinv.rankIs, HB.out.trans hb2⟩
      clear hb2 hinv
      go_wp2
      go_ret
      exact HOUT.out
end Go.Proofs.YtpfmmfapdcbnkaaGreatDoor
namespace Go.Proofs.YtpfmmfapdcbnkaaGreatDoor
set_option maxRecDepth 20000
open Go.RowKit
/-- The answer is a row of the call's own of these bytes. -/
def MadeRow (w : World) (xs : List Nat) (e : Ending) (w' : World) : Prop := ∃ g, e = .returned (.slice (some ⟨g, 0, none⟩) xs.length xs.length) ∧ w.Extends w' ∧ w.heap.size ≤ g ∧ Own w' g 5 xs
theorem byteinfo : (Tryz.prog.info? 5).map (fun i => (i.zero, i.size, i.bytes)) = some (some (.int .u8 0), 1, 1) := by kernel_rfl
theorem mkRow (k : Nat) (hk : k ≤ 281474976710656) (w : World) : (Instr.makeSlice 99 (.int .i64 (k : Int)) (.int .i64 (k : Int))).run Tryz.prog w = .ok (.slice (some ⟨w.heap.size, 0, none⟩) k k) (w.alloc (.cells (madeCells #[.int .u8 0] k) 5)) :=
  run_make_row' (P := Tryz.prog) 99 5 (.int .u8 0) 1 Tryz.underlying99 byteinfo rfl .i64 .i64 k (by omega) (by omega) w
theorem mkBytes (k : Nat) (hk : k ≤ 281474976710656) (w : World) : (Instr.makeSlice 30 (.int .i64 (k : Int)) (.int .i64 (k : Int))).run Tryz.prog w = .ok (.slice (some ⟨w.heap.size, 0, none⟩) k k) (w.alloc (.cells (madeCells #[.int .u8 0] k) 5)) :=
  run_make_row' (P := Tryz.prog) 30 5 (.int .u8 0) 1 Tryz.underlying30 byteinfo rfl .i64 .i64 k (by omega) (by omega) w
end Go.Proofs.YtpfmmfapdcbnkaaGreatDoor
namespace Go.Proofs.YtpfmmfapdcbnkaaGreatDoor.RM
/-- A number stirred. -/
def mixed (k x : Nat) : Nat := x ^^^ (x / 2 ^ k)
def stir (x : Nat) : Nat := mixed 16 (mixed 15 (mixed 16 x * 2146121005 % 4294967296) * 2221713035 % 4294967296)
theorem mixed_lt (k x : Nat) (hx : x < 4294967296) : mixed k x < 4294967296 := by
  have e : (4294967296 : Nat) = 2 ^ 32 := by decide +kernel
  rw [e] at hx ⊢
  exact Nat.xor_lt_two_pow hx (Nat.lt_of_le_of_lt (Nat.div_le_self _ _) hx)
theorem stir_lt (x : Nat) : stir x < 4294967296 :=
  mixed_lt _ _ (Nat.mod_lt _ (by decide))
/-- Number i of those that are drawn for y. -/
def drawn (y i : Nat) : Nat := stir ((stir y + i * 2654435769) % 4294967296)
def rand (y i : Nat) (m : Int) : Int := if m < 1 then 0 else (drawn y i : Int) % m
theorem rand_below (y i : Nat) (m : Int) (h : ¬ m < 1) : 0 ≤ rand y i m ∧ rand y i m < m := by
  unfold rand; rw [if_neg h]
  exact ⟨Int.emod_nonneg _ (by omega), Int.emod_lt_of_pos _ (by omega)⟩
/-- Where degrees change. -/
def bounds : List Int := [5243, 529531, 704294, 791675, 844104, 879057, 904023]
/-- How many of the first n bounds v passes. -/
def passed (v : Int) : Nat → Nat
  | 0 => 0
  | n + 1 => passed v n + (if bounds.getD n 0 ≤ v then 1 else 0)
def degree (v : Int) : Int := ((1 + passed v 7 : Nat) : Int)
theorem passed_le (v : Int) : ∀ n, passed v n ≤ n
  | 0 => Nat.le_refl _
  | n + 1 => by have := passed_le v n; unfold passed; split <;> omega
theorem passed_yes (v : Int) (n : Nat) (h : bounds.getD n 0 ≤ v) : passed v (n + 1) = passed v n + 1 := by
  show passed v n + (if bounds.getD n 0 ≤ v then 1 else 0) = passed v n + 1
  rw [if_pos h]
theorem passed_no (v : Int) (n : Nat) (h : ¬ bounds.getD n 0 ≤ v) : passed v (n + 1) = passed v n := by
  show passed v n + (if bounds.getD n 0 ≤ v then 1 else 0) = passed v n
  rw [if_neg h]; rfl
def clip (n low high : Int) : Int := if n < low then low else if n > high then high else n
theorem bounds_in : ∀ n, n < 7 → 0 < bounds.getD n 0 ∧ bounds.getD n 0 ≤ 1048575 := by decide
theorem passed_cut (v : Int) : ∀ n, n ≤ 7 → passed (clip v 0 1048575) n = passed v n
  | 0, _ => rfl
  | n + 1, h => by
    have ih := passed_cut v n (by omega)
    have hb := bounds_in n (by omega)
    have hv : bounds.getD n 0 ≤ clip v 0 1048575 ↔ bounds.getD n 0 ≤ v := by unfold clip; split <;> (try split) <;> omega
    by_cases h1 : bounds.getD n 0 ≤ v
    · rw [passed_yes _ _ h1, passed_yes _ _ (hv.2 h1), ih]
    · rw [passed_no _ _ h1, passed_no _ _ (fun h => h1 (hv.1 h)), ih]
theorem degree_cut (v : Int) : degree (clip v 0 1048575) = degree v := by unfold degree; rw [passed_cut v 7 (by decide)]
end Go.Proofs.YtpfmmfapdcbnkaaGreatDoor.RM
namespace Go.Proofs.YtpfmmfapdcbnkaaGreatDoor
set_option maxRecDepth 20000
namespace QM
/-- A row by its elements. -/
def tab (n : Nat) (f : Nat → Nat) : List Nat := (List.range n).map f
theorem tab_length (n : Nat) (f : Nat → Nat) : (tab n f).length = n := by simp [tab]
theorem tab_at (n : Nat) (f : Nat → Nat) (i : Nat) (h : i < n) : (tab n f).getD i 0 = f i := by simp [tab, h]
theorem tab_congr {n : Nat} {f g : Nat → Nat} (h : ∀ x, x < n → f x = g x) : tab n f = tab n g := List.map_congr_left fun x hx => h x (List.mem_range.1 hx)
theorem tab_set (n : Nat) (f : Nat → Nat) (c v : Nat) : (tab n f).set c v = tab n (fun x => if x = c then v else f x) := by
  apply List.ext_getElem (by simp [tab])
  intro i h1 h2
  by_cases e : i = c
  · subst e; simp [tab]
  · simp [tab, e, Ne.symm e]
theorem tab_rep (n v : Nat) : List.replicate n v = tab n (fun _ => v) := by
  apply List.ext_getElem (by simp [tab])
  intro i h1 h2; simp [tab]
theorem tab_lt {n : Nat} {f : Nat → Nat} (h : ∀ x, x < n → f x < 256) : ∀ y ∈ tab n f, y < 256 := fun y hy => by
  obtain ⟨x, hx, rfl⟩ := List.mem_map.1 hy
  exact h x (List.mem_range.1 hx)
/-- Place x falls to row i of s. -/
def hit (s i x : Nat) : Prop := x % s = i ∨ (x / s + x + 1) % s = i
instance (s i x : Nat) : Decidable (hit s i x) := by unfold hit; infer_instance
/-- The low rows; behind c columns; behind m rows. -/
def lowE (k i x : Nat) : Nat := if (x < k ∧ hit (PM.s k) i x) ∨ x = k + i ∨ x = PM.w k + i % 2 then 1 else 0
def lowTo (k c i x : Nat) : Nat := if x < c ∧ hit (PM.s k) i x then 1 else 0
def lowUp (k m i x : Nat) : Nat := if i < m then lowE k i x else lowTo k k i x
theorem lowE_lt (k i x : Nat) : lowE k i x < 256 := by unfold lowE; split <;> omega
theorem lowTo_zero (k i x : Nat) : lowTo k 0 i x = 0 := by unfold lowTo; rw [if_neg (by omega)]
theorem lowTo_same (k c i x : Nat) (h : ¬ hit (PM.s k) i c) : lowTo k (c + 1) i x = lowTo k c i x := by
  unfold lowTo
  by_cases e : x = c
  · subst e; rw [if_neg (fun h' => h h'.2), if_neg (by omega)]
  · have : (x < c + 1 ∧ hit (PM.s k) i x) ↔ (x < c ∧ hit (PM.s k) i x) := ⟨fun h => ⟨by omega, h.2⟩, fun h => ⟨by omega, h.2⟩⟩
    simp only [this]
theorem lowTo_hit (k c i x : Nat) (h : hit (PM.s k) i c) : (if x = c then 1 else lowTo k c i x) = lowTo k (c + 1) i x := by
  unfold lowTo
  by_cases e : x = c
  · subst e; rw [if_pos rfl, if_pos ⟨by omega, h⟩]
  · have : (x < c + 1 ∧ hit (PM.s k) i x) ↔ (x < c ∧ hit (PM.s k) i x) := ⟨fun h => ⟨by omega, h.2⟩, fun h => ⟨by omega, h.2⟩⟩
    simp only [this]; rw [if_neg e]
theorem lowTo_two (k c i x r q : Nat) (hr : c % PM.s k = r) (hq : (c / PM.s k + c + 1) % PM.s k = q) :
    (if i = q ∧ x = c then 1 else if i = r ∧ x = c then 1 else lowTo k c i x) = lowTo k (c + 1) i x := by
  by_cases hh : hit (PM.s k) i c
  · rw [← lowTo_hit k c i x hh]
    by_cases e : x = c
    · rw [if_pos e]
      rcases hh with h | h
      · rw [if_pos (show i = r ∧ x = c from ⟨by omega, e⟩)]; split <;> rfl
      · rw [if_pos (show i = q ∧ x = c from ⟨by omega, e⟩)]
    · rw [if_neg (fun h => e h.2), if_neg (fun h => e h.2), if_neg e]
  · rw [lowTo_same k c i x hh]
    rw [if_neg (fun h => hh (.inr (by omega))), if_neg (fun h => hh (.inl (by omega)))]
theorem lowE_of (k i x : Nat) : (if x = PM.w k + i % 2 then 1 else if x = k + i then 1 else lowTo k k i x) = lowE k i x := by
  unfold lowE lowTo
  by_cases e : x = PM.w k + i % 2
  · rw [if_pos e, if_pos (.inr (.inr e))]
  · rw [if_neg e]
    by_cases e' : x = k + i
    · rw [if_pos e', if_pos (.inr (.inl e'))]
    · rw [if_neg e']
      by_cases h : x < k ∧ hit (PM.s k) i x
      · rw [if_pos h, if_pos (.inl h)]
      · rw [if_neg h, if_neg (fun h' => by rcases h' with h' | h' | h' <;> contradiction)]
theorem lowUp_zero (k i x : Nat) : lowUp k 0 i x = lowTo k k i x := if_neg (by omega)
theorem lowUp_full (k i x : Nat) (h : i < PM.s k) : lowUp k (PM.s k) i x = lowE k i x := if_pos h
theorem lowUp_step (k m i x : Nat) : (if i = m ∧ x = PM.w k + m % 2 then 1 else if i = m ∧ x = k + m then 1 else lowUp k m i x) = lowUp k (m + 1) i x := by
  unfold lowUp
  by_cases e : i = m
  · subst e
    rw [if_pos (show i < i + 1 by omega), if_neg (show ¬ i < i by omega), ← lowE_of]
    by_cases h1 : x = PM.w k + i % 2
    · rw [if_pos ⟨rfl, h1⟩, if_pos h1]
    · rw [if_neg (fun h => h1 h.2), if_neg h1]
      by_cases h2 : x = k + i
      · rw [if_pos ⟨rfl, h2⟩, if_pos h2]
      · rw [if_neg (fun h => h2 h.2), if_neg h2]
  · rw [if_neg (fun h => e h.1), if_neg (fun h => e h.1)]
    by_cases h : i < m
    · rw [if_pos h, if_pos (by omega)]
    · rw [if_neg h, if_neg (by omega)]
/-- The high rows; behind c elements of row h. -/
def hv (h x : Nat) : Nat := FM.ex (RM.rand x (h + 7) 255 % 255).toNat
def hiE (k h x : Nat) : Nat := if x < PM.w k then hv h x else if x = PM.w k + h then 1 else 0
def hiTo (k h c i x : Nat) : Nat := if i < h then hiE k i x else if i = h ∧ x < c then hv h x else 0
theorem hv_lt (h x : Nat) : hv h x < 256 := FM.ex_lt _
theorem hiE_lt (k h x : Nat) : hiE k h x < 256 := by
  unfold hiE; have := hv_lt h x; split
  · omega
  · split <;> omega
theorem hiTo_zero (k i x : Nat) : hiTo k 0 0 i x = 0 := by unfold hiTo; rw [if_neg (by omega), if_neg (by omega)]
theorem hiTo_step (k h c i x : Nat) : (if i = h ∧ x = c then hv h c else hiTo k h c i x) = hiTo k h (c + 1) i x := by
  unfold hiTo
  by_cases e : i = h
  · subst e
    rw [if_neg (show ¬ i < i by omega), if_neg (show ¬ i < i by omega)]
    by_cases e' : x = c
    · subst e'; rw [if_pos ⟨rfl, rfl⟩, if_pos ⟨rfl, by omega⟩]
    · rw [if_neg (fun h => e' h.2)]
      by_cases h : x < c
      · rw [if_pos ⟨rfl, h⟩, if_pos ⟨rfl, by omega⟩]
      · rw [if_neg (fun h' => h h'.2), if_neg (fun h' => by omega)]
  · rw [if_neg (fun h => e h.1), if_neg (show ¬ (i = h ∧ x < c) from fun h => e h.1), if_neg (show ¬ (i = h ∧ x < c + 1) from fun h => e h.1)]
theorem hiE_of (k h x : Nat) : (if x = PM.w k + h then 1 else if x < PM.w k then hv h x else 0) = hiE k h x := by
  unfold hiE
  by_cases e : x < PM.w k
  · rw [if_pos e, if_pos e, if_neg (by omega)]
  · rw [if_neg e, if_neg e]
theorem hiTo_row (k h i x : Nat) : (if i = h ∧ x = PM.w k + h then 1 else hiTo k h (PM.w k) i x) = hiTo k (h + 1) 0 i x := by
  unfold hiTo
  by_cases e : i = h
  · subst e
    rw [if_neg (show ¬ i < i by omega), if_pos (show i < i + 1 by omega), ← hiE_of]
    by_cases e' : x = PM.w k + i
    · rw [if_pos ⟨rfl, e'⟩, if_pos e']
    · rw [if_neg (fun h => e' h.2), if_neg e']
      by_cases h : x < PM.w k
      · rw [if_pos ⟨rfl, h⟩, if_pos h]
      · rw [if_neg (fun h' => h h'.2), if_neg h]
  · rw [if_neg (fun h => e h.1), if_neg (show ¬ (i = h ∧ x < PM.w k) from fun h => e h.1)]
    by_cases h : i < h
    · rw [if_pos h, if_pos (by omega)]
    · rw [if_neg h, if_neg (by omega), if_neg (by omega)]
theorem hiTo_full (k i x : Nat) (h : i < 2) : hiTo k 2 0 i x = hiE k i x := if_pos h
/-- Rows by their elements. -/
def grid (n L : Nat) (f : Nat → Nat → Nat) : List (List Nat) := (List.range n).map fun i => tab L (f i)
theorem grid_length (n L : Nat) (f : Nat → Nat → Nat) : (grid n L f).length = n := by simp [grid]
theorem grid_at (n L : Nat) (f : Nat → Nat → Nat) (i : Nat) (h : i < n) : (grid n L f).getD i [] = tab L (f i) := by simp [grid, h]
theorem grid_snoc (n L : Nat) (f : Nat → Nat → Nat) : grid (n + 1) L f = grid n L f ++ [tab L (f n)] := by simp [grid, List.range_succ]
def low (k : Nat) : List (List Nat) := grid (PM.s k) (PM.l k) (lowE k)
def high (k : Nat) : List (List Nat) := grid 2 (PM.l k) (hiE k)
end QM
end Go.Proofs.YtpfmmfapdcbnkaaGreatDoor
namespace Go.Proofs.YtpfmmfapdcbnkaaGreatDoor
set_option maxRecDepth 20000
open Go.RowKit Go.Deep
set_option linter.unusedVariables false
/-- Block g holds n slices, of the blocks behind it, and these are rows of L bytes. -/
def Grid (w : World) (g n L : Nat) (f : Nat → Nat → Nat) : Prop :=
  w.rowIs g 99 n (fun i => .slice (some ⟨g + 1 + i, 0, none⟩) L L) ∧ L ≤ maxLen ∧ ∀ i, i < n → w.rowIs (g + 1 + i) 5 L (fun x => .int .u8 (f i x : Nat)) ∧ ∀ x, x < L → f i x < 256
/-- .. of which the first k are made. -/
def GridTo (w : World) (g n L k : Nat) : Prop :=
  w.rowIs g 99 n (fun i => if i < k then .slice (some ⟨g + 1 + i, 0, none⟩) L L else .slice none 0 0) ∧ w.heap.size = g + 1 + k ∧ ∀ i, i < k → w.rowIs (g + 1 + i) 5 L (fun _ => .int .u8 0)
theorem mkRows (k : Nat) (hk : k ≤ 1000) (w : World) : (Instr.makeSlice 87 (.int .i64 (k : Int)) (.int .i64 (k : Int))).run Tryz.prog w = .ok (.slice (some ⟨w.heap.size, 0, none⟩) k k) (w.alloc (.cells (madeCells #[.slice none 0 0] k) 99)) :=
  run_make_row' (P := Tryz.prog) 87 99 (.slice none 0 0) 24 Tryz.underlying87 rowinfo rfl .i64 .i64 k (by omega) (by omega) w
theorem GridTo.made (w : World) (n L : Nat) : GridTo (w.alloc (.cells (madeCells #[.slice none 0 0] n) 99)) w.heap.size n L 0 :=
  ⟨(World.rowIs_made w (.slice none 0 0) n 99).congr fun i hi => by simp, by simp, fun i hi => absurd hi (Nat.not_lt_zero _)⟩
theorem GridTo.step {w : World} {g n L k : Nat} (h : GridTo w g n L k) : GridTo ((w.setCell ⟨g, k, none⟩ (.slice (some ⟨w.heap.size, 0, none⟩) L L)).alloc (.cells (madeCells #[.int .u8 0] L) 5)) g n L (k + 1) := by
  obtain ⟨h1, h2, h3⟩ := h
  refine ⟨((h1.set k _).alloc _).congr fun i hi => ?_, by simp; omega, fun i hi => ?_⟩
  · by_cases e : i = k
    · subst e; rw [if_pos rfl, if_pos (by omega), h2]
    · rw [if_neg e]
      by_cases e' : i < k
      · rw [if_pos e', if_pos (by omega)]
      · rw [if_neg e', if_neg (by omega)]
  · by_cases e : i = k
    · subst e
      have := World.rowIs_made (w.setCell ⟨g, i, none⟩ (.slice (some ⟨w.heap.size, 0, none⟩) L L)) (.int .u8 0) L 5
      rw [show (w.setCell ⟨g, i, none⟩ (.slice (some ⟨w.heap.size, 0, none⟩) L L)).heap.size = g + 1 + i by simp; omega] at this
      exact this
    · exact ((h3 i (by omega)).setOther (by show g + 1 + i ≠ g; omega) _).alloc _
theorem GridTo.full {w : World} {g n L : Nat} (h : GridTo w g n L n) (hL : L ≤ maxLen) : Grid w g n L (fun _ _ => 0) :=
  ⟨h.1.congr fun i hi => if_pos hi, hL, fun i hi => ⟨h.2.2 i hi, fun x hx => Nat.zero_lt_succ _⟩⟩
theorem GridTo.cell {w : World} {g n L k : Nat} (h : GridTo w g n L k) (hk : k < n) : w.cell? ⟨g, k, none⟩ = some (.slice none 0 0) := by
  have := h.1.cell hk
  rwa [if_neg (Nat.lt_irrefl k)] at this
theorem GridTo.frozen {w : World} {g n L k : Nat} (h : GridTo w g n L k) (i : Nat) : w.frozen? ⟨g, i, none⟩ = false := h.1.frozen i
theorem GridTo.lt {w : World} {g n L k : Nat} (h : GridTo w g n L k) : g < w.heap.size := h.1.lt
theorem Grid.head {w : World} {g n L : Nat} {f : Nat → Nat → Nat} (h : Grid w g n L f) {i : Nat} (hi : i < n) : w.cell? ⟨g, i, none⟩ = some (.slice (some ⟨g + 1 + i, 0, none⟩) L L) := h.1.cell hi
theorem Grid.cell {w : World} {g n L : Nat} {f : Nat → Nat → Nat} (h : Grid w g n L f) {i x : Nat} (hi : i < n) (hx : x < L) : w.cell? ⟨g + 1 + i, x, none⟩ = some (.int .u8 (f i x : Nat)) := (h.2.2 i hi).1.cell hx
theorem Grid.frozen {w : World} {g n L : Nat} {f : Nat → Nat → Nat} (h : Grid w g n L f) {i : Nat} (hi : i < n) (x : Nat) : w.frozen? ⟨g + 1 + i, x, none⟩ = false := (h.2.2 i hi).1.frozen x
theorem Grid.lt {w : World} {g n L : Nat} {f : Nat → Nat → Nat} (h : Grid w g n L f) : g < w.heap.size := h.1.lt
theorem Grid.congr {w : World} {g n L : Nat} {f f' : Nat → Nat → Nat} (h : Grid w g n L f) (e : ∀ i x, i < n → x < L → f i x = f' i x) : Grid w g n L f' :=
  ⟨h.1, h.2.1, fun i hi => ⟨(h.2.2 i hi).1.congr fun x hx => by rw [e i x hi hx], fun x hx => by rw [← e i x hi hx]; exact (h.2.2 i hi).2 x hx⟩⟩
theorem Grid.ext {w w' : World} {g n L : Nat} {f : Nat → Nat → Nat} (h : Grid w g n L f) (hx : w.Extends w') : Grid w' g n L f :=
  ⟨h.1.of_block (hx.block g h.1.lt), h.2.1, fun i hi => ⟨(h.2.2 i hi).1.of_block (hx.block _ (h.2.2 i hi).1.lt), (h.2.2 i hi).2⟩⟩
theorem Grid.set {w : World} {g n L : Nat} {f : Nat → Nat → Nat} (h : Grid w g n L f) (i c v : Nat) (hv : v < 256) : Grid (w.setCell ⟨g + 1 + i, c, none⟩ (.int .u8 (v : Nat))) g n L (fun j x => if j = i ∧ x = c then v else f j x) := by
  refine ⟨h.1.setOther (by show g ≠ g + 1 + i; omega) _, h.2.1, fun j hj => ⟨?_, fun x hx => ?_⟩⟩
  · by_cases e : j = i
    · subst e
      refine ((h.2.2 j hj).1.set c _).congr fun x hx => ?_
      show _ = Value.int .u8 ((if j = j ∧ x = c then v else f j x : Nat) : Int)
      by_cases e' : x = c
      · rw [if_pos e', if_pos ⟨rfl, e'⟩]
      · rw [if_neg e', if_neg (fun h => e' h.2)]
    · refine ((h.2.2 j hj).1.setOther (by show g + 1 + j ≠ g + 1 + i; omega) _).congr fun x hx => ?_
      show _ = Value.int .u8 ((if j = i ∧ x = c then v else f j x : Nat) : Int)
      rw [if_neg (fun h => e h.1)]
  · show (if j = i ∧ x = c then v else f j x) < 256
    split
    · exact hv
    · exact (h.2.2 j hj).2 x hx
theorem Grid.own {w : World} {g n L : Nat} {f : Nat → Nat → Nat} (h : Grid w g n L f) {i : Nat} (hi : i < n) : Own w (g + 1 + i) 5 (QM.tab L (f i)) := by
  refine ⟨?_, by rw [QM.tab_length]; exact h.2.1, QM.tab_lt (h.2.2 i hi).2⟩
  rw [QM.tab_length]
  exact (h.2.2 i hi).1.congr fun x hx => by rw [QM.tab_at L _ x hx]
theorem Grid.rws {w : World} {g n L : Nat} {f : Nat → Nat → Nat} (h : Grid w g n L f) (hn : n ≤ maxLen) : Rws w (.slice (some ⟨g, 0, none⟩) n n) (QM.grid n L f) := by
  refine .inr ⟨g, 0, n, by rw [QM.grid_length], by rw [QM.grid_length]; exact Nat.le_refl _, hn, h.lt, fun k hk => ?_⟩
  rw [QM.grid_length] at hk
  refine ⟨_, by rw [Nat.zero_add]; exact h.head hk, ?_⟩
  rw [QM.grid_at n L f k hk]
  have := (h.own hk).u8s
  rw [QM.tab_length] at this
  exact this
/-- Such a slice as a source of append. -/
theorem Grid.srcs {P : Program} {w : World} {g n L : Nat} {f : Nat → Nat → Nat} (h : Grid w g n L f) {tx e' : TypeId} (hk : P.underlying tx = some (.slice e')) :
    ∃ vs, Src P 1 tx (.slice (some ⟨g, 0, none⟩) n n) n vs w ∧ ∀ j, j < n → ∃ u, vs[j]? = some u ∧ RowOk w 0 u ((QM.grid n L f).getD j []) := by
  have hl : ((List.range n).map fun i => Value.slice (some ⟨g + 1 + i, 0, none⟩) L L).length = n := by simp
  have hat : ∀ j, j < n → ((List.range n).map fun i => Value.slice (some ⟨g + 1 + i, 0, none⟩) L L)[j]? = some (.slice (some ⟨g + 1 + j, 0, none⟩) L L) := fun j hj => by simp [hj]
  refine ⟨(List.range n).map fun i => .slice (some ⟨g + 1 + i, 0, none⟩) L L, Src.ofSlice w hk ⟨g, 0, none⟩ n n _ (by rw [hl, Nat.mul_one]) (fun j u hu => ?_) (fun u hu => ?_), fun j hj => ⟨_, hat j hj, ?_⟩⟩
  · have hj : j < n := by
      rcases Nat.lt_or_ge j n with h' | h'
      · exact h'
      · rw [List.getElem?_eq_none (by rw [hl]; exact h')] at hu; cases hu
    rw [hat j hj] at hu
    rw [← Option.some.inj hu, Addr.add_mid, Nat.zero_add]
    exact h.head hj
  · obtain ⟨i, _, rfl⟩ := List.mem_map.1 hu
    rfl
  · rw [QM.grid_at n L f j hj]
    exact RowOk.own (h.own hj) 0 (QM.tab_length _ _).symm (QM.tab_length _ _).symm
/-- The answer is a slice of rows that the call has made whole. -/
def MadeGrid (w : World) (n L : Nat) (f : Nat → Nat → Nat) (e : Ending) (w' : World) : Prop := ∃ g, e = .returned (.slice (some ⟨g, 0, none⟩) n n) ∧ w.Extends w' ∧ w.heap.size ≤ g ∧ Grid w' g n L f
end Go.Proofs.YtpfmmfapdcbnkaaGreatDoor
