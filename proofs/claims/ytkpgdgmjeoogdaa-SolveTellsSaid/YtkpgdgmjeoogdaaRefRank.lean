/- The reference's Rank. -/
import Derived.Test.YtkpgdgmjeoogdaaRefSteps
namespace Go.Proofs.Ytkpgdgmjeoogdaa
open Go.RowKit Go.Deep
set_option linter.unusedVariables false
theorem bytesinfo : (Try.prog.info? 22).map (fun i => (i.zero, i.size, i.bytes)) = some (some (.slice none 0 0), 1, 24) := by kernel_rfl
set_option maxHeartbeats 400000 in
set_option maxRecDepth 100000 in
theorem steps_none (W cap : Nat) (a : Option Addr) (w : World) (hW : W ≤ 300) :
    Calls Try.prog 41 #[.slice a 0 cap, .int .i64 W] w fun e w' => e = .returned (.int .i64 (0 : Nat)) ∧ w = w' := by
  go_enter Try.func41, Try.ntmps41
  go_wp2_with fail
  go_loop [5, 6] (fun r c => ∃ k : Nat, k ≤ W ∧ r = .int .i64 0 ∧ c = .int .i64 k) (fun _ c => (W - intOf c).toNat)
  case atStart => exact ⟨0, by omega, rfl, rfl⟩
  case round =>
    obtain ⟨k, hk, rfl, rfl⟩ := hrel
    by_cases h : k < W
    · go_wp2_with fail
      refine wp_loop_rounds 1 ?_; rw [rounds_succ]
      go_wp2
      go_round
      case rel => exact ⟨k + 1, by omega, rfl, by go_num⟩
      case measure => simp [intOf]; omega
    · obtain rfl : k = W := by omega
      go_wp2
      go_ret
      exact ⟨rfl, rfl⟩
theorem steps_any (W n L B : Nat) (v : Value) (l0 : List (List Nat)) (w : World) (hm : MatInv w B v n l0) (hrect : Rect n L l0) (hWL : W ≤ L) (hL : L ≤ 2000) (hn : n ≤ 4000) (hB : B ≤ w.heap.size) (hW : W ≤ 300) :
    Calls Try.prog 41 #[v, .int .i64 W] w (StepsOut w B v n L W l0) := by
  have hz : ∀ j, j < n → LA.Bd (LA.rv l0 j) := fun j _ i => getD_lt _ (hrect.row_lt j) i
  have key : n = 0 → ∀ c, LA.RefInv c 0 n (fun _ => false) (LA.rv l0) (LA.rv l0) := fun h c => by
    subst h
    have : ∀ m, LA.cnt (fun _ => false) m = 0 := fun m => by induction m with | zero => rfl | succ m ih => rw [LA.cnt, ih]; rfl
    exact ⟨(this c).symm, Nat.zero_le _, fun q _ h => (by cases h), fun j _ h => absurd h (Nat.not_lt_zero _), fun j h => absurd h (Nat.not_lt_zero _), fun j h => absurd h (Nat.not_lt_zero _), fun j h => absurd h (Nat.not_lt_zero _), fun j h => absurd h (Nat.not_lt_zero _)⟩
  have hm0 := hm
  obtain ⟨vs, ho, _⟩ := hm
  rcases ho.2 with ⟨rfl, h0⟩ | ⟨g, cap, cur, rfl, _⟩
  · subst h0
    refine (steps_none W 0 none w hW).mono fun e w' ⟨he, hw⟩ => ?_
    subst hw
    exact ⟨0, l0, _, he, Below.refl _ _, hm0, hrect, key rfl W⟩
  · exact steps_some W n L B g cap l0 w hm0 hrect hWL hL hn hB
theorem refcut_wid (n : Int) : refcut n 0 300 = (wid n : Nat) := by
  unfold refcut wid
  by_cases h1 : n < 0
  · rw [if_pos h1]; omega
  · rw [if_neg h1]
    by_cases h2 : 300 < n
    · rw [if_pos h2]; omega
    · rw [if_neg h2]; omega
/-- Each row as one of W elements. -/
def cutRows (W : Nat) (m : List (List Nat)) : List (List Nat) := m.map fun r => RM.sum W [r]
theorem cutRows_at (W : Nat) (m : List (List Nat)) (j : Nat) (h : j < m.length) : (cutRows W m).getD j [] = RM.sum W [m.getD j []] := by simp [cutRows, List.getD_eq_getElem?_getD, h]
theorem cutRows_snoc (W : Nat) (m : List (List Nat)) (k : Nat) (h : k < m.length) : (cutRows W m).take k ++ [RM.sum W [m.getD k []]] = (cutRows W m).take (k + 1) := by
  rw [List.take_succ_eq_append_getElem (by simpa [cutRows] using h)]
  simp [cutRows, h]
theorem rank_congr {W r : Nat} {P : Nat → Prop} {f g : Nat → LA.V} (h : LA.RankIs W P f r) (hf : ∀ j, P j → LA.Bd (f j)) (e : ∀ j, P j → f j = g j) : LA.RankIs W P g r :=
  h.of_span (fun v hv => hv.sub (fun j hj => by rw [← e j hj]; exact hf j hj) fun j hj => by rw [e j hj]; exact LA.Span.mem (fun j hj => by rw [← e j hj]; exact hf j hj) hj)
    fun v hv => hv.sub hf fun j hj => by rw [← e j hj]; exact LA.Span.mem hf hj
theorem rv_cut (W : Nat) (m : List (List Nat)) (j : Nat) (h : j < m.length) : LA.rv (cutRows W m) j = rowsF W 0 m [] j := funext fun i => by
  show ((cutRows W m).getD j []).getD i 0 = (if i < W then (RM.sum W [m.getD j []]).getD i 0 else (RM.sum 0 [[]]).getD (i - W) 0)
  rw [cutRows_at W m j h]
  split
  · rfl
  · rw [RM.getD_far _ i (by rw [RM.sum_length]; omega), RM.getD_far _ _ (by rw [RM.sum_length]; omega)]
theorem cutRows_rect (W : Nat) {m : List (List Nat)} (h : ∀ r ∈ m, ∀ x ∈ r, x < 256) : Rect m.length W (cutRows W m) := by
  refine ⟨by simp [cutRows], fun j hj => by rw [cutRows_at W m j hj, RM.sum_length], fun r hr => ?_⟩
  obtain ⟨q, hq, rfl⟩ := List.mem_map.1 hr
  exact LA.sum_lt _ _ (by intro s hs; simp at hs; rw [hs]; exact h q hq)
set_option maxHeartbeats 4000000 in
theorem rrank_any (n : Int) (v : Value) (m : List (List Nat)) (w : World) (hv : Rws w v m) (hlm : m.length ≤ 4000) :
    Calls Try.prog 23 #[.int .i64 n, v] w (RankOut w (wid n) (· < m.length) (rowsF (wid n) 0 m [])) := by
  have hlt := hv.all_lt
  have hw3 : wid n ≤ 300 := by unfold wid; omega
  have HRC := Lib.hid (refcut_wid n)
  have HRECT := Lib.hid (cutRows_rect (wid n) hlt)
  have HEND : Hid (∀ r, LA.RankIs (wid n) (· < m.length) (LA.rv (cutRows (wid n) m)) r → LA.RankIs (wid n) (· < m.length) (rowsF (wid n) 0 m []) r) := fun r h =>
    rank_congr h (fun j hj i => getD_lt _ ((cutRows_rect (wid n) hlt).row_lt j) i) fun j hj => rv_cut (wid n) m j hj
  have HSN := Lib.hid (cutRows_snoc (wid n) m)
  have HTK : Hid ((cutRows (wid n) m).take m.length = cutRows (wid n) m) := by
    have : m.length = (cutRows (wid n) m).length := by simp [cutRows]
    show _ = _
    rw [this, List.take_length]
  have HTL : Hid (∀ k, k ≤ m.length → k = ((cutRows (wid n) m).take k).length) := fun k hk => by simp [cutRows]; omega
  obtain ⟨a, cap, rfl, _⟩ := hv.slice
  have HV := Lib.hid hv
  have HR := Lib.hid hv.at.2
  obtain ⟨i1, hi', hz0', hz1', hz2'⟩ := info_parts bytesinfo
  have HI' := Lib.hid hi'; clear hi'
  have HZ0' := Lib.hid hz0'; clear hz0'
  have HZ1' := Lib.hid hz1'; clear hz1'
  have HZ2' := Lib.hid hz2'; clear hz2'
  clear hv hlt
  generalize hF : rowsF (wid n) 0 m [] = f at *
  have HFF := Lib.hid hF; clear hF
  generalize hLL : cutRows (wid n) m = L0 at *
  have HLL := Lib.hid hLL; clear hLL
  generalize hWW : wid n = W at *
  have HWW := Lib.hid hWW; clear hWW
  have hcw : Hid (RM.cut (W : Int) = W) := cut_nat W (by omega)
  generalize hll : m.length = ll at *
  have HL := Lib.hid hll; clear hll
  go_enter Try.func23, Try.ntmps23
  go_wp2_with fail
  refine (rcut_any _ _ _ _).mono ?_
  rintro e w' ⟨rfl, rfl⟩
  rw [HRC.out]
  go_wp2_with fail
  go_loopw [5, 6] (fun o i wr => ∃ k : Nat, k ≤ ll ∧ i = .int .i64 k ∧ Below w.heap.size w wr ∧ MatInv wr w.heap.size o k (L0.take k)) (fun _ i _ => (ll - intOf i).toNat)
  case atStart => exact ⟨0, by omega, rfl, Below.refl _ _, [], World.ownsRow_nil _ _ _ _, fun j hj => absurd hj (Nat.not_lt_zero _)⟩
  case round =>
    obtain ⟨k, hk, rfl, hb, hm⟩ := hrel
    have HB := Lib.hid hb
    have HM := Lib.hid hm
    have hbs := hb.size
    clear hb hm
    by_cases h1 : k < ll
    · obtain ⟨bb, off, rfl, hbb, hrow⟩ := HR.out (by omega)
      obtain ⟨ra, rc, hc0, hu0⟩ := hrow k h1
      have hc : wr.cell? ⟨bb, off + k, none⟩ = some (.slice ra (m.getD k []).length rc) := (HB.out.cell (p := ⟨bb, off + k, none⟩) hbb).trans hc0
      have HU := Lib.hid (hu0.below HB.out rfl)
      have HS := Lib.hid (HSN.out k h1)
      clear hrow hc0 hu0
      go_wp2_with fail
      refine (rsum_any _ _ [m.getD k []] _ (rws_one _ _ _ _ _ HU.out)).mono ?_
      rintro e w2 ⟨rfl, hb2, ho2⟩
      rw [hcw.out] at ho2 ⊢
      have hx2 : wr.Extends w2 := Gr.ext_trans (ext_alloc _ _) (ext_below hb2 rfl)
      have HX2 := Lib.hid hx2
      have hs2 := hx2.size
      have HOK : Hid (RowOk w2 w.heap.size (.slice (some ⟨wr.heap.size + 1, 0, none⟩) W W) (RM.sum W [m.getD k []])) := by
        have h := RowOk.own (n := W) (c := W) ho2 w.heap.size (by rw [RM.sum_length]) (by rw [RM.sum_length])
        show RowOk _ _ _ _
        simpa using h
      have HM2 := Lib.hid (HM.out.ext hx2)
      clear hx2 hb2 ho2
      obtain ⟨vs, hown, hrows⟩ := HM2.out
      have HOWN := Lib.hid hown
      have HROWS := Lib.hid hrows
      have HOB : Hid (∀ g, u5.ownBlock = some g → w.heap.size ≤ g) := fun g hg => (HOWN.out.lt g hg).1
      clear hown hrows
      go_wp2_with (at_builtin; refine wpList_append_own_src _ rfl _ _ 23 23 rfl w.heap.size 22 i1 (.slice none 0 0) 1 24 Try.underlying23 HI'.out HZ0'.out HZ1'.out HZ2'.out rfl _ _ _ rfl (HOWN.out.alloc _) _ 1 [.slice (some ⟨wr.heap.size + 1, 0, none⟩) W W] rfl (src_one Try.underlying23 _ _ rfl rfl) (by unfold maxLen; omega) (by omega) (by simp; omega) ?_)
      intro v' w3 ho3 hg3 _
      have HP : Hid (Below w.heap.size w w3 ∧ MatInv w3 w.heap.size v' (k + 1) (L0.take (k + 1))) := by
        refine ⟨((HB.out.trans ((Gr.below_of HX2.out).mono hbs)).alloc (Nat.le_trans hbs hs2) _).grown hg3 (by simp; omega) HOB.out, ?_⟩
        rw [← HS.out]
        exact MatInv.snoc (HTL.out k hk) (HOWN.out.alloc _) (fun j hj => by obtain ⟨u, h1, h2⟩ := HROWS.out j hj; exact ⟨u, h1, h2.ext (ext_alloc _ _)⟩) (HOK.out.ext (ext_alloc _ _)) hg3 ho3
      clear ho3 hg3
      go_wp2
      go_roundw
      case rel => exact ⟨k + 1, by omega, by go_num, HP.out⟩
      case measure => simp [intOf]; omega
    · obtain rfl : k = ll := by omega
      have HM' : Hid (MatInv wr w.heap.size u5 k L0) := by have h := HM.out; rw [HTK.out] at h; exact h
      go_wp2_with fail
      refine (steps_any W k W w.heap.size _ L0 _ HM'.out HRECT.out (Nat.le_refl _) (by omega) hlm hbs hw3).mono ?_
      rintro e w2 ⟨r, l, has, rfl, hb2, _, _, hinv⟩
      have HOUT : Hid (RankOut w W (· < k) f (.returned (.int .i64 (r : Nat))) w2) := ⟨r, rfl, HEND.out r hinv.rankIs, HB.out.trans hb2⟩
      clear hb2 hinv
      go_wp2
      go_ret
      exact HOUT.out
end Go.Proofs.Ytkpgdgmjeoogdaa
