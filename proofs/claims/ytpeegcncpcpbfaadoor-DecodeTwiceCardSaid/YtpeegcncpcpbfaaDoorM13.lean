/- In one text: DecFault, DecFirsts, SeeFirst, RndLaid, SeeFind, BlkParts, DecParts. -/
import Derived.Handy
import Derived.Lib.Hide
import Derived.Maps.OwnSet
import Derived.Maps.AppendAt
import Derived.WalkKit
import Derived.Lib.LaidTab
import Derived.MakeChecks
import Derived.Stop.Joined
import Derived.OpenShut
import Derived.Test.YtpeegcncpcpbfaaDoorM3
import Derived.Test.YtpeegcncpcpbfaaDoorM8
import Derived.Test.YtpeegcncpcpbfaaDoorM9
import Derived.Test.YtpeegcncpcpbfaaDoorM10
import Derived.Test.YtpeegcncpcpbfaaDoorM11
import Derived.Test.YtpeegcncpcpbfaaDoorM12
/- decode.faultOf. -/
namespace Go.Proofs.YtpeegcncpcpbfaaDoor
set_option maxRecDepth 20000
open Go.RowKit Go.Deep
set_option linter.unusedVariables false
set_option maxHeartbeats 1000000 in
theorem fault_any (size : Int) (v : Value) (l : List DC.Dp) (w : World) (hv : Drps w v l) :
    Calls Tryd.prog 21 #[.int .i64 size, v] w fun e w' => e = .returned (.int .i64 (DC.fault size l)) ∧ w.Extends w' := by
  have hm := hv.len
  obtain ⟨a, cap, rfl⟩ := hv.slice
  have HV := Lib.hid hv.at.2
  have H1 : Hid (∀ k, k < l.length → ¬ EsiOk (l.getD k (0, [])).1 → DC.fault size l = 1) := fun k hk h => DC.fault_esi fun ha => h (ha _ (DC.at_mem l k hk))
  have H2 : Hid ((∀ i, i < l.length → EsiOk (l.getD i (0, [])).1) → ∀ k, k < l.length → ((l.getD k (0, [])).2.length : Int) ≠ size → DC.fault size l = 10) := fun h0 k hk h =>
    DC.fault_size ((DC.allOk_iff l).1 fun i hi => by rw [DC.esis_at]; rw [DC.esis_length] at hi; exact h0 i hi) fun ha => h (ha _ (DC.at_mem l k hk))
  have H3 : Hid ((∀ i, i < l.length → EsiOk (l.getD i (0, [])).1) → (∀ i, i < l.length → ((l.getD i (0, [])).2.length : Int) = size) → DC.fault size l = 0) := fun h0 h =>
    DC.fault_ok ((DC.allOk_iff l).1 fun i hi => by rw [DC.esis_at]; rw [DC.esis_length] at hi; exact h0 i hi) fun p hp => by
      obtain ⟨i, hi, rfl⟩ := List.mem_iff_getElem.1 hp
      have := h i hi
      rwa [List.getD_eq_getElem?_getD, List.getElem?_eq_getElem hi] at this
  clear hv
  generalize DC.fault size l = ft at *
  obtain ⟨n, hn⟩ : ∃ n, n = l.length := ⟨_, rfl⟩
  rw [← hn] at HV hm H1 H2 H3 ⊢
  have HN := Lib.hid hn; clear hn
  unfold maxLen at hm
  go_enter Tryd.func21, Tryd.ntmps21
  go_wp2_with fail
  go_loopw [11] (fun i wr => ∃ k : Nat, k ≤ n ∧ i = .int .i64 k ∧ Hid (w.Extends wr) ∧ Hid (∀ i, i < k → EsiOk (l.getD i (0, [])).1)) (fun i _ => (n - intOf i).toNat)
  case atStart => exact ⟨0, by omega, rfl, Lib.hid (Gr.ext_refl _), Lib.hid (fun i hi => absurd hi (Nat.not_lt_zero _))⟩
  case round =>
    obtain ⟨k, hk, rfl, HX, HK⟩ := hrel
    by_cases h1 : k < n
    · obtain ⟨b1, o1, rfl, hb1, hc1⟩ := HV.out (by omega)
      obtain ⟨ra, rc, hr0, hr1, hu⟩ := (hc1 k h1).ext HX.out
      have HK2 : Hid (EsiOk (l.getD k (0, [])).1 → ∀ i, i < k + 1 → EsiOk (l.getD i (0, [])).1) := fun h2 i hi => by
        by_cases e : i = k
        · subst e; exact h2
        · exact HK.out i (by omega)
      have HB := Lib.hid (H1.out k h1)
      clear hc1 hu
      generalize (l.getD k (0, [])).2.length = q at *
      generalize (l.getD k (0, [])).1 = x at *
      have HX1 : Hid (w.Extends (wr.alloc (.cells #[.int .i64 x, .slice ra q rc] 54))) := Gr.ext_trans HX.out (ext_alloc _ _)
      by_cases hx : EsiOk x
      · have HK3 := Lib.hid (HK2.out hx)
        obtain ⟨h2, h3⟩ := hx
        clear HK2 HB HK
        go_wp2
        go_roundw
        case rel => exact ⟨k + 1, by omega, by go_num, HX1, HK3⟩
        case measure => simp [intOf]; omega
      · have hft := HB.out hx
        subst hft
        have hx' : x < 0 ∨ 16777216 ≤ x := by unfold EsiOk at hx; omega
        clear hx HK2 HB HK H1 H2 H3
        rcases hx' with h2 | h2
        all_goals
          go_wp2
          go_ret
          exact ⟨rfl, HX1.out⟩
    · obtain rfl : k = n := by omega
      have HS2 := Lib.hid (H2.out HK.out)
      have HS3 := Lib.hid (H3.out HK.out)
      clear H1 H2 H3 HK
      have HX0 := HX
      clear HX
      go_wp2_with fail
      go_loopw [26] (fun i wq => ∃ m : Nat, m ≤ k ∧ i = .int .i64 m ∧ Hid (w.Extends wq) ∧ Hid (∀ i, i < m → ((l.getD i (0, [])).2.length : Int) = size)) (fun i _ => (k - intOf i).toNat)
      case atStart => exact ⟨0, by omega, rfl, HX0, Lib.hid (fun i hi => absurd hi (Nat.not_lt_zero _))⟩
      case round =>
        obtain ⟨m, hmk, rfl, HX, HK⟩ := hrel
        by_cases h1 : m < k
        · obtain ⟨b1, o1, rfl, hb1, hc1⟩ := HV.out (by omega)
          obtain ⟨ra, rc, hr0, hr1, hu⟩ := (hc1 m h1).ext HX.out
          have HK2 : Hid (((l.getD m (0, [])).2.length : Int) = size → ∀ i, i < m + 1 → ((l.getD i (0, [])).2.length : Int) = size) := fun h2 i hi => by
            by_cases e : i = m
            · subst e; exact h2
            · exact HK.out i (by omega)
          have HB := Lib.hid (HS2.out m h1)
          clear hc1 hu
          generalize (l.getD m (0, [])).2.length = q at *
          generalize (l.getD m (0, [])).1 = x at *
          have HX1 : Hid (w.Extends (wr.alloc (.cells #[.int .i64 x, .slice ra q rc] 54))) := Gr.ext_trans HX.out (ext_alloc _ _)
          by_cases hx : (q : Int) = size
          · have HK3 := Lib.hid (HK2.out hx)
            have hne : ((q : Int) != size) = false := by simpa using hx
            clear HK2 HB HK hx
            go_wp2
            go_roundw
            case rel => exact ⟨m + 1, by omega, by go_num, HX1, HK3⟩
            case measure => simp [intOf]; omega
          · have hft := HB.out hx
            subst hft
            have hne : ((q : Int) != size) = true := by simpa using hx
            clear hx HK2 HB HK HS2 HS3
            go_wp2
            go_ret
            exact ⟨rfl, HX1.out⟩
        · obtain rfl : m = k := by omega
          have hft := HS3.out HK.out
          subst hft
          clear HS2 HS3 HK
          go_wp2
          go_ret
          exact ⟨rfl, HX.out⟩
end Go.Proofs.YtpeegcncpcpbfaaDoor
/- decode.firsts. -/
namespace Go.Proofs.YtpeegcncpcpbfaaDoor
set_option maxRecDepth 20000
open Go.RowKit Go.Deep Go.Maps
set_option linter.unusedVariables false
/-- The set of the numbers of these symbols. -/
def met (l : List DC.Dp) : DataW Unit := setOf (.agg []) ((DC.esis l).map (Lit.int .i64))
theorem any_int64 (x : Int) : ∀ l : List Int, l.any ((fun y : Lit => y.sameKey (.int .i64 x)) ∘ Lit.int .i64) = decide (x ∈ l)
  | [] => by simp
  | a :: r => by
    rw [List.any_cons, any_int64 x r]
    show (decide (IntKind.i64 = IntKind.i64 ∧ a = x) || decide (x ∈ r)) = decide (x ∈ a :: r)
    by_cases e : a = x
    · subst e; simp
    · have e' : ¬ x = a := fun h => e h.symm
      simp [e, e']
theorem has_met (l : List DC.Dp) (x : Int) : Maps.has (met l) (.int .i64 x) = decide (x ∈ DC.esis l) := by
  unfold met
  rw [has_setOf _ _ _ (fun y hy => by obtain ⟨_, _, rfl⟩ := List.mem_map.1 hy; trivial), List.any_map]
  exact any_int64 x _
theorem met_new (l : List DC.Dp) (p : DC.Dp) : (met l).put (.int .i64 p.1) (.agg []) = met (l ++ [p]) := by
  unfold met
  rw [DC.esis_snoc, List.map_append, List.map_singleton, setOf_snoc]
theorem key_law : Keyed Tryd.prog 3 := int_keyed Tryd.underlying3
theorem zero_unit (w : World) : (zeroValue 82).run Tryd.prog w = .ok (.agg #[]) w := by kernel_rfl
theorem row_ne {w : World} {base : Nat} {e : TypeId} {size : Nat} {v : Value} {n : Nat} {xs : List Value} (h : w.ownsRow base e size v n xs) {b : Nat} (hb : b < base) : some b ≠ v.ownBlock := fun e1 => by
  have := (h.lt b e1.symm).1
  omega
theorem RowOk.map_kept {w w' : World} {R g n : Nat} {D : DataW Unit} {u : Value} {xs : List Nat} (h : RowOk w R u xs) (hm : w.ownsMap Tryd.prog 3 unitElem g n D) (hR : R ≤ g) (hg : w.grownBy w' (some g)) : RowOk w' R u xs := by
  refine h.grown hg ?_
  rcases h.2 with h0 | h0
  · exact .inl h0
  · refine .inr fun e => ?_
    obtain ⟨_, h1⟩ := h0 g e
    rcases h1 with h1 | ⟨cs, hcs⟩
    · omega
    · obtain ⟨es, cl, hb, _⟩ := hm
      rw [hcs] at hb
      cases hb
theorem esi_wf {x : Int} (h : EsiOk x) : (Lit.int .i64 x).wf = true := by
  obtain ⟨h1, h2⟩ := h
  have e1 : IntKind.i64.min = -9223372036854775808 := by decide
  have e2 : IntKind.i64.max = 9223372036854775807 := by decide
  show (decide (IntKind.i64.min ≤ x) && decide (x ≤ IntKind.i64.max)) = true
  rw [e1, e2, Bool.and_eq_true, decide_eq_true_eq, decide_eq_true_eq]
  omega
/-- The answer reads as these symbols. -/
def DNew (w : World) (l : List DC.Dp) (e : Ending) (w' : World) : Prop := ∃ v, e = .returned v ∧ w.Extends w' ∧ Drps w' v l
theorem met_step {wa w1 : World} {g k n : Nat} {v : Value} {A : List DC.Dp} {D' : DataW Unit} (hm : wa.ownsMap Tryd.prog 3 unitElem g n D') (hd : DMats wa (g + 1) g v k A) (hg : wa.grownBy w1 (some g)) : DMats w1 (g + 1) g v k A := by
  obtain ⟨vs, ho, hr⟩ := hd
  refine ⟨vs, ho.kept hg (Or.inr (row_ne ho (Nat.lt_succ_self _)).symm), fun j hj => ?_⟩
  obtain ⟨h0, u, h1, h2⟩ := hr j hj
  exact ⟨h0, u, h1, h2.map_kept hm (Nat.le_refl _) hg⟩
set_option maxHeartbeats 1000000 in
set_option maxRecDepth 100000 in
theorem firsts_any (v : Value) (l : List DC.Dp) (w : World) (hv : Drps w v l) (hl : l.length ≤ 1000) (hok : ∀ p ∈ l, EsiOk p.1) :
    Calls Tryd.prog 24 #[v] w (DNew w (DC.first l)) := by
  have hmm := @run_makeMap Tryd.prog
  obtain ⟨i0, hi, hz0, hz1, hz2⟩ := info_parts dropinfo
  have HI := Lib.hid hi; clear hi
  have HZ0 := Lib.hid hz0; clear hz0
  have HZ1 := Lib.hid hz1; clear hz1
  have HZ2 := Lib.hid hz2; clear hz2
  obtain ⟨a, cap, rfl⟩ := hv.slice
  have HV := Lib.hid hv.at.2
  have HWF : Hid (∀ k, k < l.length → keyOf Tryd.prog 3 (.int .i64 (l.getD k (0, [])).1) = some (.int .i64 (l.getD k (0, [])).1)) := fun k hk => keyOf_int_mk Tryd.underlying3 (esi_wf (hok _ (DC.at_mem l k hk)))
  have HOLD := Lib.hid (DC.first_old l)
  have HNEW := Lib.hid (DC.first_new l)
  have HLE : Hid (∀ k, (DC.first (l.take k)).length ≤ k) := fun k => Nat.le_trans (DC.first_length _) (by rw [List.length_take]; exact Nat.min_le_left _ _)
  have HALL : Hid (DC.first (l.take l.length) = DC.first l) := by show _ = _; rw [List.take_length]
  clear hv hok
  obtain ⟨n, hn⟩ : ∃ n, n = l.length := ⟨_, rfl⟩
  rw [← hn] at HV hl HWF HOLD HNEW HALL ⊢
  clear hn
  go_enter Tryd.func24, Tryd.ntmps24
  go_wp2_with fail
  generalize hg0 : w.heap.size = g0 at *
  go_loopw [4, 12] (fun o i wr => ∃ k : Nat, k ≤ n ∧ i = .int .i64 k ∧ Hid (w.Extends wr) ∧ g0 < wr.heap.size ∧ Hid (wr.ownsMap Tryd.prog 3 unitElem g0 k (met (DC.first (l.take k)))) ∧ Hid (DMats wr (g0 + 1) g0 o (DC.first (l.take k)).length (DC.first (l.take k)))) (fun _ i _ => (n - intOf i).toNat)
  case atStart => exact ⟨0, by omega, rfl, Lib.hid (ext_alloc _ _), by simp; omega, Lib.hid (by rw [← hg0]; exact World.ownsMap_made _ _ _ _), Lib.hid (DMats.nil _ _ _ _)⟩
  case round =>
    obtain ⟨k, hk, rfl, HX, hgs, HMP, HDM⟩ := hrel
    by_cases h1 : k < n
    · obtain ⟨b1, o1, rfl, hb1, hc1⟩ := HV.out (by omega)
      have hkey := HWF.out k h1
      obtain ⟨ra, rc, hr0', hr1', hu⟩ := hc1 k h1
      have hr0 := HX.out.cell_of hr0'
      have hr1 := HX.out.cell_of hr1'
      have HU : Hid (RowOk wr g0 (.slice ra (l.getD k (0, [])).2.length rc) (l.getD k (0, [])).2) := (RowOk.old hu (by omega)).ext HX.out
      have HO := Lib.hid (HOLD.out k h1)
      have HN := Lib.hid (HNEW.out k h1)
      have hle := HLE.out k
      clear hc1 hr0' hr1' hu
      generalize DC.first (l.take k) = A at *
      generalize hA' : DC.first (l.take (k + 1)) = A' at *
      have HA' := Lib.hid hA'
      clear hA'
      have hbs := HX.out.size
      have hhas := has_met A (l.getD k (0, [])).1
      have HPUT := Lib.hid (met_new A (l.getD k (0, [])))
      generalize hp : l.getD k (0, []) = p at *
      clear hp
      obtain ⟨x, row⟩ := p
      simp only at hkey hr0 hr1 HU HO HN hhas HPUT
      generalize hD : met A = D at *
      obtain ⟨q, hq⟩ : ∃ q, q = row.length := ⟨_, rfl⟩
      rw [← hq] at hr1 HU
      have HQ := Lib.hid hq
      clear hq
      have hown := HMP.out
      by_cases hx : x ∈ DC.esis A
      · rw [decide_eq_true hx] at hhas
        obtain rfl := HO.out hx
        have HMP2 : Hid (((wr.alloc (.cells #[.int .i64 x, .slice ra q rc] 54)).alloc (.cells #[] 82)).ownsMap Tryd.prog 3 unitElem g0 (k + 1) (met A')) := by
          rw [hD]; exact ((hown.alloc _).alloc _).mono (Nat.le_succ _)
        have HX2 : Hid (w.Extends ((wr.alloc (.cells #[.int .i64 x, .slice ra q rc] 54)).alloc (.cells #[] 82))) := Gr.ext_trans HX.out (Gr.ext_trans (ext_alloc _ _) (ext_alloc _ _))
        have HDM2 : Hid (DMats ((wr.alloc (.cells #[.int .i64 x, .slice ra q rc] 54)).alloc (.cells #[] 82)) (g0 + 1) g0 u4 A'.length A') := HDM.out.ext (Gr.ext_trans (ext_alloc _ _) (ext_alloc _ _))
        clear HPUT HO HN hD
        go_wp2_with (at_lookup; refine wpList_lookup_own_unit _ rfl _ _ 81 rfl 3 82 key_law Tryd.underlying81 (zero_unit _) g0 k _ rfl (hown.alloc _) _ _ rfl hkey ?_)
        go_roundw
        case rel => exact ⟨k + 1, by omega, by go_num, HX2, by simp; omega, by rw [HA'.out]; exact HMP2, by rw [HA'.out]; exact HDM2⟩
        case measure => simp [intOf]; omega
      · rw [decide_eq_false hx] at hhas
        have hA2 := HN.out hx
        have hbw : wr.heap.size < ((wr.alloc (.cells #[.int .i64 x, .slice ra q rc] 54)).alloc (.cells #[] 82)).heap.size := by simp; omega
        have HBX : Hid (wr.Extends ((wr.alloc (.cells #[.int .i64 x, .slice ra q rc] 54)).alloc (.cells #[] 82))) := Gr.ext_trans (ext_alloc _ _) (ext_alloc _ _)
        have HC0 : Hid (((wr.alloc (.cells #[.int .i64 x, .slice ra q rc] 54)).alloc (.cells #[] 82)).cell? ⟨wr.heap.size, 0, none⟩ = some (.int .i64 x)) := (ext_alloc _ _).cell_of (box_two wr _ _ _).1
        have HC1 : Hid (((wr.alloc (.cells #[.int .i64 x, .slice ra q rc] 54)).alloc (.cells #[] 82)).cell? ⟨wr.heap.size, 1, none⟩ = some (.slice ra q rc)) := (ext_alloc _ _).cell_of (box_two wr _ _ _).2
        have HMB : Hid (((wr.alloc (.cells #[.int .i64 x, .slice ra q rc] 54)).alloc (.cells #[] 82)).ownsMap Tryd.prog 3 unitElem g0 k D) := (hown.alloc _).alloc _
        go_wp2_with (first | (at_lookup; refine wpList_lookup_own_unit _ rfl _ _ 81 rfl 3 82 key_law Tryd.underlying81 (zero_unit _) g0 k _ rfl (hown.alloc _) _ _ rfl hkey ?_) | (at_mapUpdate; refine wpList_mapUpdate_own _ rfl _ _ _ 81 rfl 3 82 key_law Tryd.underlying81 (unitElem (H := Unit)) g0 k _ rfl ((hown.alloc _).alloc _) (by unfold maxLen; omega) _ _ _ rfl rfl hkey _ [] unitElem_mk ?_))
        generalize hwb : World.alloc (World.alloc wr _) _ = wb at *
        intro w1 hown1 hgrow1
        have hs1 := hgrow1.size
        have hbs2 := HBX.out.size
        have hc0 : w1.cell? ⟨wr.heap.size, 0, none⟩ = some (.int .i64 x) := (World.cell?_of_block (hgrow1.block wr.heap.size hbw (by intro h; simp at h; omega))).trans HC0.out
        have hc1 : w1.cell? ⟨wr.heap.size, 1, none⟩ = some (.slice ra q rc) := (World.cell?_of_block (hgrow1.block wr.heap.size hbw (by intro h; simp at h; omega))).trans HC1.out
        have HX1 : Hid (w.Extends w1) := Gr.ext_of ((Gr.below_of (Gr.ext_trans HX.out HBX.out)).grown hgrow1 (by omega) (fun j hj => by cases hj; omega))
        have HDM1 := Lib.hid (met_step HMB.out (HDM.out.ext HBX.out) hgrow1)
        have HU1 := Lib.hid ((HU.out.ext HBX.out).map_kept HMB.out (Nat.le_refl _) hgrow1)
        have HMP1 : Hid (w1.ownsMap Tryd.prog 3 unitElem g0 (k + 1) (met A')) := by rw [hA2, ← HPUT.out]; exact hown1
        obtain ⟨vs, hown2, hrows⟩ := HDM1.out
        have HOWN := Lib.hid hown2
        have HROWS := Lib.hid hrows
        have HOB : Hid (∀ g, u4.ownBlock = some g → w.heap.size ≤ g) := fun g hg => by have := (HOWN.out.lt g hg).1; omega
        clear hwb hown1 hgrow1 HBX HC0 HC1 HMB hown2 hrows HDM1 HDM HMP HX HU hown HO HN hhas hr0 hr1
        go_wp2_with (at_builtin; refine wpList_append_own_src _ rfl _ _ 30 30 rfl (g0 + 1) 54 i0 (.agg #[.int .i64 0, .slice none 0 0]) 2 32 Tryd.underlying30 HI.out HZ0.out HZ1.out HZ2.out rfl _ _ _ rfl (HOWN.out.alloc _) _ 1 [.int .i64 x, .slice ra q rc] rfl (src_two Tryd.underlying30 _ _ rfl rfl rfl) (by unfold maxLen; omega) (by omega) (by simp; omega) ?_)
        intro v' w3 ho3 hg3 _
        have HP : Hid (w.Extends w3 ∧ w3.ownsMap Tryd.prog 3 unitElem g0 (k + 1) (met A') ∧ DMats w3 (g0 + 1) g0 v' A'.length A') := by
          refine ⟨Gr.ext_of (((Gr.below_of HX1.out).alloc HX1.out.size _).grown hg3 (by simp; omega) HOB.out), (HMP1.out.alloc _).kept hg3 (row_ne HOWN.out (Nat.lt_succ_self _)), ?_⟩
          rw [hA2, List.length_append]
          exact DMats.snoc (p := (x, row)) (Nat.le_succ _) rfl (HOWN.out.alloc _) (fun j hj => by obtain ⟨h0, u, h1, h2⟩ := HROWS.out j hj; exact ⟨h0, u, h1, h2.ext (ext_alloc _ _)⟩) (HU1.out.ext (ext_alloc _ _)) hg3 ho3
        have hs3 := hg3.size
        clear ho3 hg3
        go_wp2
        go_roundw
        case rel => exact ⟨k + 1, by omega, by go_num, Lib.hid HP.out.1, by simp at hs3; omega, by rw [HA'.out]; exact Lib.hid HP.out.2.1, by rw [HA'.out]; exact Lib.hid HP.out.2.2⟩
        case measure => simp [intOf]; omega
    · obtain rfl : k = n := by omega
      have HP : Hid (DNew w (DC.first l) (.returned u4) wr) := ⟨u4, rfl, HX.out, by have := HDM.out.drps rfl; rwa [HALL.out] at this⟩
      go_wp2
      go_ret
      exact HP.out
end Go.Proofs.YtpeegcncpcpbfaaDoor
/- The numbers from 0 on: the program's and the reference's. -/
namespace Go.Proofs.YtpeegcncpcpbfaaDoor
set_option maxRecDepth 20000
open Go.RowKit Go.Deep
set_option linter.unusedVariables false
/-- A slice of the call's own of these ints. -/
def OwnInts (w : World) (l : List Int) (e : Ending) (w' : World) : Prop := ∃ v, e = .returned v ∧ w.Extends w' ∧ Ints w' v l
theorem mkInts (k : Nat) (hk : k ≤ 1000) (w : World) : (Instr.makeSlice 22 (.int .i64 (k : Int)) (.int .i64 (k : Int))).run Tryd.prog w = .ok (.slice (some ⟨w.heap.size, 0, none⟩) k k) (w.alloc (.cells (madeCells #[.int .i64 0] k) 3)) :=
  run_make_row' (P := Tryd.prog) 22 3 (.int .i64 0) 8 Tryd.underlying22 intinfo rfl .i64 .i64 k (by omega) (by omega) w
/-- Block g holds n ints, the first k of them their own places. -/
def Upto (w : World) (g n k : Nat) : Prop := w.rowIs g 3 n (fun i => .int .i64 (if i < k then (i : Nat) else 0 : Nat))
theorem Upto.made (w : World) (n : Nat) : Upto (w.alloc (.cells (madeCells #[.int .i64 0] n) 3)) w.heap.size n 0 :=
  (World.rowIs_made w (.int .i64 0) n 3).congr fun i hi => by simp
theorem Upto.set {w : World} {g n k : Nat} (h : Upto w g n k) : Upto (w.setCell ⟨g, k, none⟩ (.int .i64 (k : Nat))) g n (k + 1) :=
  (World.rowIs.set h k (.int .i64 (k : Nat))).congr fun i hi => by
    by_cases e : i = k
    · subst e; simp
    · by_cases e2 : i < k
      · simp [e, e2, show i < k + 1 by omega]
      · simp [e, e2, show ¬ i < k + 1 by omega]
theorem Upto.ints {w : World} {g n : Nat} (h : Upto w g n n) (hn : n ≤ 1000) : Ints w (.slice (some ⟨g, 0, none⟩) n n) (SM.iota n) := by
  refine .inr ⟨g, 0, n, by rw [SM.iota_length], by rw [SM.iota_length]; exact Nat.le_refl _, by unfold maxLen; omega, h.lt, fun k hk => ?_⟩
  rw [SM.iota_length] at hk
  rw [SM.iota_at n k hk, Nat.zero_add, h.cell hk, if_pos hk]
theorem firstEsis_any (n : Nat) (w : World) (hn : n ≤ 1000) :
    Calls Tryd.prog 26 #[.int .i64 n] w (OwnInts w (SM.iota n)) := by
  obtain ⟨i0, hi, hz0, hz1, hz2⟩ := info_parts intinfo
  have HI := Lib.hid hi; clear hi
  have HZ0 := Lib.hid hz0; clear hz0
  have HZ1 := Lib.hid hz1; clear hz1
  have HZ2 := Lib.hid hz2; clear hz2
  go_enter Tryd.func26, Tryd.ntmps26
  go_wp2_with fail
  go_loopw [3, 6] (fun v i wr => ∃ k : Nat, k ≤ n ∧ i = .int .i64 k ∧ Hid (w.Extends wr) ∧ Hid (wr.ownsRow w.heap.size 3 1 v k (i64vs (SM.iota k)))) (fun _ i _ => (n - intOf i).toNat)
  case atStart => exact ⟨0, by omega, rfl, Lib.hid (Gr.ext_refl _), Lib.hid (World.ownsRow_nil _ _ _ _)⟩
  case round =>
    obtain ⟨k, hk, rfl, HX, HOWN⟩ := hrel
    by_cases h1 : k < n
    · have HOB : Hid (∀ g, u3.ownBlock = some g → w.heap.size ≤ g) := fun g hg => (HOWN.out.lt g hg).1
      have hbs := HX.out.size
      have HSN : Hid (i64vs (SM.iota k) ++ [.int .i64 (k : Nat)] = i64vs (SM.iota (k + 1))) := by show _ = _; rw [← SM.iota_snoc, i64vs_snoc]
      go_wp2_with (at_builtin; refine wpList_append_own_src _ rfl _ _ 22 22 rfl w.heap.size 3 i0 (.int .i64 0) 1 8 Tryd.underlying22 HI.out HZ0.out HZ1.out HZ2.out rfl _ _ _ rfl (HOWN.out.alloc _) _ 1 [.int .i64 k] rfl (src_one Tryd.underlying22 _ _ rfl rfl) (by unfold maxLen; omega) (by omega) (by simp; omega) ?_)
      intro v' w3 ho3 hg3 _
      have HP1 : Hid (w.Extends w3) := Gr.ext_of (((Gr.below_of HX.out).alloc hbs _).grown hg3 (by simp; omega) HOB.out)
      rw [HSN.out] at ho3
      have HP2 := Lib.hid ho3
      clear ho3 hg3
      go_wp2
      go_roundw
      case rel => exact ⟨k + 1, by omega, by go_num, HP1, HP2⟩
      case measure => simp [intOf]; omega
    · obtain rfl : k = n := by omega
      have HP : Hid (OwnInts w (SM.iota k) (.returned u3) wr) := ⟨_, rfl, HX.out, owns_ints HOWN.out⟩
      go_wp2
      go_ret
      exact HP.out
theorem refFirst_any (n : Nat) (w : World) (hn : n ≤ 1000) :
    Calls Tryd.prog 36 #[.int .i64 n] w (OwnInts w (SM.iota n)) := by
  obtain ⟨i0, hi, hz0, hz1, hz2⟩ := info_parts intinfo
  have HI := Lib.hid hi; clear hi
  have HZ0 := Lib.hid hz0; clear hz0
  have HZ1 := Lib.hid hz1; clear hz1
  have HZ2 := Lib.hid hz2; clear hz2
  go_enter Tryd.func36, Tryd.ntmps36
  go_wp2_with fail
  go_loopw [3, 4] (fun v i wr => ∃ k : Nat, k ≤ n ∧ i = .int .i64 k ∧ Hid (w.Extends wr) ∧ Hid (wr.ownsRow w.heap.size 3 1 v k (i64vs (SM.iota k)))) (fun _ i _ => (n - intOf i).toNat)
  case atStart => exact ⟨0, by omega, rfl, Lib.hid (Gr.ext_refl _), Lib.hid (World.ownsRow_nil _ _ _ _)⟩
  case round =>
    obtain ⟨k, hk, rfl, HX, HOWN⟩ := hrel
    by_cases h1 : k < n
    · have HOB : Hid (∀ g, u3.ownBlock = some g → w.heap.size ≤ g) := fun g hg => (HOWN.out.lt g hg).1
      have hbs := HX.out.size
      have HSN : Hid (i64vs (SM.iota k) ++ [.int .i64 (k : Nat)] = i64vs (SM.iota (k + 1))) := by show _ = _; rw [← SM.iota_snoc, i64vs_snoc]
      go_wp2_with (at_builtin; refine wpList_append_own_src _ rfl _ _ 22 22 rfl w.heap.size 3 i0 (.int .i64 0) 1 8 Tryd.underlying22 HI.out HZ0.out HZ1.out HZ2.out rfl _ _ _ rfl (HOWN.out.alloc _) _ 1 [.int .i64 k] rfl (src_one Tryd.underlying22 _ _ rfl rfl) (by unfold maxLen; omega) (by omega) (by simp; omega) ?_)
      intro v' w3 ho3 hg3 _
      have HP1 : Hid (w.Extends w3) := Gr.ext_of (((Gr.below_of HX.out).alloc hbs _).grown hg3 (by simp; omega) HOB.out)
      rw [HSN.out] at ho3
      have HP2 := Lib.hid ho3
      clear ho3 hg3
      go_wp2
      go_roundw
      case rel => exact ⟨k + 1, by omega, by go_num, HP1, HP2⟩
      case measure => simp [intOf]; omega
    · obtain rfl : k = n := by omega
      have HP : Hid (OwnInts w (SM.iota k) (.returned u3) wr) := ⟨_, rfl, HX.out, owns_ints HOWN.out⟩
      go_wp2
      go_ret
      exact HP.out
end Go.Proofs.YtpeegcncpcpbfaaDoor
/- How the arguments open; what the listed variable's reading gives the walks. -/
namespace Go.Proofs.YtpeegcncpcpbfaaDoor
set_option maxRecDepth 20000
open Go.RowKit Go.ChangeShapes Go.WideShapes
theorem u32_nat {a : Int} (h : (Lit.int .u32 a).wf = true) : ∃ n : Nat, a = n ∧ n < 4294967296 := by
  obtain ⟨h0, h1⟩ := bounds_u32 h
  exact ⟨a.toNat, by omega, by omega⟩
theorem i64_bounds {a : Int} (h : (Lit.int .i64 a).wf = true) : -9223372036854775808 ≤ a ∧ a ≤ 9223372036854775807 := by
  simp [Lit.wf, IntKind.min, IntKind.max, IntKind.signed, IntKind.bits] at h
  omega
theorem gN : Tryd.prog.globalNamed "fountain/random.degreeBounds" = some 0 := by kernel_rfl
theorem gNType : (Tryd.prog.globals[0]?).map (·.type) = some 134 := by kernel_rfl
theorem of_laid {W : World} (h : laidMetH Tryd.prog [("fountain/random.degreeBounds", Rows.laid_fountain_random_degreeBounds)] W) : Tab W := by
  rw [MakeChecks.laidMetH_plain _ _ _ (by kernel_rfl)] at h
  have hT : Lib.TabIs Tryd.prog W "fountain/random.degreeBounds" .i64 RM.bounds :=
    Lib.tabIs_of_head (rest := []) gN gNType Tryd.underlying134 Tryd.underlying3 (by kernel_rfl) (by kernel_rfl) h
  exact fun i hi => hT.cell gN i hi
end Go.Proofs.YtpeegcncpcpbfaaDoor
/- seed.Find. -/
namespace Go.Proofs.YtpeegcncpcpbfaaDoor
set_option maxRecDepth 20000
open Go.RowKit Go.Deep
set_option linter.unusedVariables false
/-- The answer tells whether j is good. -/
def GoodOut (w : World) (k j : Nat) (e : Ending) (w' : World) : Prop := (∃ b : Bool, e = .returned (.bool b) ∧ (b = true ↔ SM.Good k j)) ∧ w.Extends w'
theorem wid_l (k : Nat) (h : k ≤ 40) : wid (PM.l k : Int) = PM.l k := by have := PM.l_le k h; unfold wid; omega
theorem mats_rows {w : World} {B : Nat} {T : TypeId} {v : Value} {l : List (List Nat)} (h : Mats w B 0 T v l.length l) : Rws w v l := Mats.rws h rfl
theorem eq_good {k j r : Nat} (h : LA.RankIs (PM.l k) (· < (SM.rows k j).length) (rowsF (PM.l k) 0 (SM.rows k j) []) r) : ((r : Int) == (PM.l k : Int)) = true ↔ SM.Good k j := by
  rw [beq_iff_eq, ← SM.good_iff h]; omega
theorem settled_any (k j : Nat) (v : Value) (w : World) (h1 : 1 ≤ k) (h2 : k ≤ 40) (hv : Rws w v (SM.rows k j)) :
    Calls Tryd.prog 39 #[PV k (PM.s k) 2, v] w (GoodOut w k j) := by
  have hs7 := PM.s_le k h2
  have HL := Lib.hid (fun w => prmL_any k (PM.s k) 2 w (by omega) (by omega))
  have hlk : (k : Int) + (PM.s k : Int) + 2 = (PM.l k : Int) := by unfold PM.l PM.w; omega
  simp only [hlk] at HL
  have HR : Hid (∀ w, Rws w v (SM.rows k j) → Calls Tryd.prog 32 #[.int .i64 (PM.l k), v] w (RankOut w (PM.l k) (· < (SM.rows k j).length) (rowsF (PM.l k) 0 (SM.rows k j) []))) := fun w hv => by
    have := rank_any (PM.l k) v (SM.rows k j) w hv
    rwa [wid_l k h2] at this
  have HE : Hid (∀ r : Nat, LA.RankIs (PM.l k) (· < (SM.rows k j).length) (rowsF (PM.l k) 0 (SM.rows k j) []) r → (((r : Int) == (PM.l k : Int)) = true ↔ SM.Good k j)) := fun r h => eq_good h
  have hl49 := PM.l_le k h2
  have HV := Lib.hid hv
  obtain ⟨a, cap, rfl, _⟩ := hv.slice
  clear hv hlk hs7
  generalize hF : rowsF (PM.l k) 0 (SM.rows k j) [] = F at *
  clear hF
  generalize SM.rows k j = rs at *
  generalize PM.l k = L at *
  generalize PM.s k = S at *
  go_enter Tryd.func39, Tryd.ntmps39
  go_wp2_with fail
  generalize hw1 : World.alloc w _ = w1
  have hx1 : w.Extends w1 := by subst hw1; exact prm_ext_alloc _ _
  have hp : PAt w1 w.heap.size k S 2 := by subst hw1; exact PAt.new w 56 k S 2
  obtain ⟨b, hb⟩ : ∃ b, b = w.heap.size := ⟨_, rfl⟩
  rw [← hb] at hp ⊢
  clear hw1 hb
  have HX1 := Lib.hid (Gr.ext_drew hx1)
  have HP1 := Lib.hid (hp.ext (Gr.ext_drew (Gr.ext_refl w1)))
  clear hx1 hp
  refine Gr.region 7 [(false,0),(false,2),(false,4),(true,1),(true,3),(true,5),(false,6)] (by kernel_rfl) (by kernel_rfl) (fun d _ _ _ _ h => by cases d <;> exact h) ?_
  simp only [Gr.pick, List.getElem?_cons_zero, List.getElem?_cons_succ, List.drop_succ_cons, List.drop_zero]
  generalize w1.drew = w2 at *
  iterate 3
    refine Gr.walk_t ?_ (Or.inl ⟨by rfl, ?_⟩) ?_
    rotate_left
    · intro w' hw'
      obtain ⟨p0, p1, p2⟩ := HP1.out.ext hw'
      clear hw'
      go_simp
      try with_reducible rfl
    simp only [Act.put, List.setIfInBounds_toArray, List.set_cons_zero, List.set_cons_succ]
  refine Gr.walk_c (fun K hK => ?_)
  go_simp
  refine (HL.out w2).mono ?_
  rintro e w3 ⟨rfl, hx3⟩
  have HX3 := Lib.hid (Gr.ext_trans HX1.out hx3)
  try go_simp
  refine hK.out _ _ (hx3) ?_
  clear hK K
  clear hx3 HX1
  refine Gr.walk_c (fun K hK => ?_)
  go_simp
  refine (HR.out w3 (HV.out.ext HX3.out)).mono ?_
  rintro e w4 ⟨r, rfl, hr, hb4⟩
  have hx4 := Gr.ext_of hb4
  have HX4 := Lib.hid (Gr.ext_trans HX3.out hx4)
  have HEQ := Lib.hid (HE.out r hr)
  try go_simp
  refine hK.out _ _ (hx4) ?_
  clear hK K
  clear hx4 hb4 hr HX3
  refine Gr.walk_c (fun K hK => ?_)
  go_simp
  refine (HL.out w4).mono ?_
  rintro e w5 ⟨rfl, hx5⟩
  have HX5 := Lib.hid (Gr.ext_trans HX4.out hx5)
  try go_simp
  refine hK.out _ _ (hx5) ?_
  clear hK K
  clear hx5 HX4
  refine Gr.walk_t ?_ (Or.inl ⟨by rfl, ?_⟩) ?_
  rotate_left
  · intro w' hw'
    clear hw'
    go_simp
    try with_reducible rfl
  simp only [Act.put, List.setIfInBounds_toArray, List.set_cons_zero, List.set_cons_succ]
  refine Gr.walk_nil ?_
  go_wp2
  go_ret
  exact ⟨⟨_, rfl, HEQ.out⟩, HX5.out⟩
/-- The closure: what it captured are the block's numbers and the symbols' numbers. -/
theorem can_any (k j p q : Nat) (v : Value) (w : World) (h1 : 1 ≤ k) (h2 : k ≤ 40) (hj : j ≤ 255) (hp : PAt w p k (PM.s k) 2) (hq : w.cell? ⟨q, 0, none⟩ = some v) (hv : Ints w v (SM.iota k)) (hT : Tab w) :
    Calls Tryd.prog 38 #[.int .i64 j, .pointer (some ⟨p, 0, none⟩), .pointer (some ⟨q, 0, none⟩)] w (GoodOut w k j) := by
  have HM : Hid (∀ w, Ints w v (SM.iota k) → Tab w → Calls Tryd.prog 34 #[PV k (PM.s k) 2, .int .i64 j, v] w (MadeRws w (SM.rows k j))) := fun w hv hT => mat_some k j v (SM.iota k) w h1 h2 hj (SM.iota_ok k (by omega)) (by rw [SM.iota_length]; omega) hv hT
  have HS := Lib.hid (fun u w hu => settled_any k j u w h1 h2 hu)
  have HP := Lib.hid hp
  have HV := Lib.hid hv
  have HTB := Lib.hid hT
  have HQ := Lib.hid hq
  obtain ⟨a, cap, rfl, _⟩ := hv.slice
  clear hp hv hT hq
  generalize (SM.iota k).length = n at *
  generalize SM.rows k j = rs at *
  generalize PM.s k = S at *
  go_enter Tryd.func38, Tryd.ntmps38
  go_wp2_with fail
  have HX0 : Hid (w.Extends w.drew) := Gr.ext_drew (Gr.ext_refl w)
  refine Gr.region 6 [(false,0),(false,1),(false,2),(false,3),(true,4),(true,5)] (by kernel_rfl) (by kernel_rfl) (fun d _ _ _ _ h => by cases d <;> exact h) ?_
  simp only [Gr.pick, List.getElem?_cons_zero, List.getElem?_cons_succ, List.drop_succ_cons, List.drop_zero]
  generalize w.drew = w1 at *
  iterate 2
    refine Gr.walk_t ?_ (Or.inl ⟨by rfl, ?_⟩) ?_
    rotate_left
    · intro w' hw'
      obtain ⟨p0, p1, p2⟩ := HP.out.ext (Gr.ext_trans HX0.out hw')
      clear hw'
      go_simp
      try with_reducible rfl
    simp only [Act.put, List.setIfInBounds_toArray, List.set_cons_zero, List.set_cons_succ]
  iterate 2
    refine Gr.walk_t ?_ (Or.inl ⟨by rfl, ?_⟩) ?_
    rotate_left
    · intro w' hw'
      have hq := (Gr.ext_trans HX0.out hw').cell_of HQ.out
      clear hw'
      go_simp
      try with_reducible rfl
    simp only [Act.put, List.setIfInBounds_toArray, List.set_cons_zero, List.set_cons_succ]
  refine Gr.walk_c (fun K hK => ?_)
  go_simp
  refine (HM.out w1 (HV.out.ext HX0.out) (HTB.out.ext HX0.out)).mono ?_
  rintro e w2 ⟨u, rfl, hx2, hu⟩
  have HX2 := Lib.hid (Gr.ext_trans HX0.out hx2)
  have HU := Lib.hid (mats_rows hu)
  try go_simp
  refine hK.out _ _ (hx2) ?_
  clear hK K
  clear hx2 hu HX0 HM
  refine Gr.walk_c (fun K hK => ?_)
  go_simp
  refine (HS.out u w2 HU.out).mono ?_
  rintro e w3 ⟨⟨b, rfl, hb⟩, hx3⟩
  have HX3 := Lib.hid (Gr.ext_trans HX2.out hx3)
  have HB := Lib.hid hb
  try go_simp
  refine hK.out _ _ (hx3) ?_
  clear hK K
  clear hx3 HX2 hb
  refine Gr.walk_nil ?_
  go_wp2
  go_ret
  exact ⟨⟨_, rfl, HB.out⟩, HX3.out⟩
/-- The least number, as both programs answer it. -/
def SeedOut (w : World) (k : Nat) (e : Ending) (w' : World) : Prop := ∃ r er : Nat, e = .returned (.tuple #[.int .i64 r, .int .i64 er]) ∧ SM.SeedIs k r er ∧ w.Extends w'
theorem least_any (k p q : Nat) (w : World)
    (H : ∀ (j : Nat) w', j ≤ 255 → w.Extends w' → Calls Tryd.prog 38 #[.int .i64 j, .pointer (some ⟨p, 0, none⟩), .pointer (some ⟨q, 0, none⟩)] w' (GoodOut w' k j)) :
    Calls Tryd.prog 37 #[.func (.func 38) #[] #[.pointer (some ⟨p, 0, none⟩), .pointer (some ⟨q, 0, none⟩)]] w (SeedOut w k) := by
  have HH := Lib.hid H
  clear H
  go_enter Tryd.func37, Tryd.ntmps37
  go_wp2_with fail
  go_loopw [5] (fun i wr => ∃ j : Nat, j ≤ 256 ∧ i = .int .i64 j ∧ Hid (w.Extends wr) ∧ Hid (∀ i, i < j → ¬ SM.Good k i)) (fun i _ => (256 - intOf i).toNat)
  case atStart => exact ⟨0, by omega, rfl, Lib.hid (Gr.ext_refl _), Lib.hid (fun i hi => absurd hi (Nat.not_lt_zero _))⟩
  case round =>
    obtain ⟨j, hj, rfl, HX, HN⟩ := hrel
    by_cases h1 : j < 256
    · have HC := Lib.hid (HH.out j wr (by omega) HX.out)
      go_wp2_with fail
      refine HC.out.mono ?_
      rintro e w2 ⟨⟨b, rfl, hb⟩, hx2⟩
      have HX2 := Lib.hid (Gr.ext_trans HX.out hx2)
      have HB := Lib.hid hb
      clear hx2 hb HC
      cases b with
      | true =>
        have HP : Hid (SeedOut w k (.returned (.tuple #[.int .i64 (j : Nat), .int .i64 ((0 : Nat) : Int)])) w2) := ⟨j, 0, rfl, .inl ⟨rfl, h1, HB.out.1 rfl, HN.out⟩, HX2.out⟩
        go_wp2
        go_returns
        exact HP.out
      | false =>
        have HN2 : Hid (∀ i, i < j + 1 → ¬ SM.Good k i) := fun i hi => by
          by_cases e : i = j
          · subst e; exact fun hg => absurd (HB.out.2 hg) (by decide)
          · exact HN.out i (by omega)
        go_wp2
        go_roundw
        case rel => exact ⟨j + 1, by omega, by go_num, HX2, HN2⟩
        case measure => simp [intOf]; omega
    · obtain rfl : j = 256 := by omega
      have HP : Hid (SeedOut w k (.returned (.tuple #[.int .i64 ((0 : Nat) : Int), .int .i64 ((5 : Nat) : Int)])) wr) := ⟨0, 5, rfl, .inr ⟨rfl, rfl, HN.out⟩, HX.out⟩
      go_wp2
      go_returns
      exact HP.out
/-- Find of a block's number. -/
theorem find_some (k : Nat) (w : World) (h1 : 1 ≤ k) (h2 : k ≤ 40) (hT : Tab w) :
    Calls Tryd.prog 22 #[.int .i64 k] w (SeedOut w k) := by
  have HO := Lib.hid (fun w => prmOf_good k w h1 h2)
  have HF := Lib.hid (fun w => firstEsis_any k w (by omega))
  have HC : Hid (∀ (j p q : Nat) v w, j ≤ 255 → PAt w p k (PM.s k) 2 → w.cell? ⟨q, 0, none⟩ = some v → Ints w v (SM.iota k) → Tab w → Calls Tryd.prog 38 #[.int .i64 j, .pointer (some ⟨p, 0, none⟩), .pointer (some ⟨q, 0, none⟩)] w (GoodOut w k j)) := fun j p q v w hj hp hq hv hT => can_any k j p q v w h1 h2 hj hp hq hv hT
  have HTB := Lib.hid hT
  clear hT
  generalize PM.s k = S at *
  go_enter Tryd.func22, Tryd.ntmps22
  go_wp2_with fail
  refine (HO.out w).mono ?_
  rintro e w1 ⟨rfl, hx1⟩
  have HX1 := Lib.hid hx1
  clear hx1 HO
  go_wp2_with fail
  generalize hw2 : World.alloc w1 _ = w2
  have hx2 : w1.Extends w2 := by subst hw2; exact prm_ext_alloc _ _
  have hp : PAt w2 w1.heap.size k S 2 := by subst hw2; exact PAt.new w1 56 k S 2
  generalize w1.heap.size = p at hp ⊢
  clear hw2
  have HX2 := Lib.hid (Gr.ext_trans HX1.out hx2)
  have HP2 := Lib.hid hp
  clear hx2 hp HX1
  refine (HF.out w2).mono ?_
  rintro e w3 ⟨v, rfl, hx3, hv3⟩
  have HX3 := Lib.hid (Gr.ext_trans HX2.out hx3)
  have HP3 := Lib.hid (HP2.out.ext hx3)
  have HV3 := Lib.hid hv3
  obtain ⟨a, cap, rfl, _⟩ := hv3.slice
  clear hx3 hv3 HX2 HP2 HF
  go_wp2_with fail
  generalize hw4 : World.alloc w3 _ = w4
  have hx4 : w3.Extends w4 := by subst hw4; exact ext_alloc _ _
  have hq : w4.cell? ⟨w3.heap.size, 0, none⟩ = some (.slice a (SM.iota k).length cap) := by subst hw4; rw [cell_of_row _ _ _ _ _ _ (heap_alloc_new w3 _)]; rfl
  generalize w3.heap.size = q at hq ⊢
  clear hw4
  have HX4 := Lib.hid (Gr.ext_trans HX3.out hx4)
  have HP4 := Lib.hid (HP3.out.ext hx4)
  have HV4 := Lib.hid (HV3.out.ext hx4)
  have HQ4 := Lib.hid hq
  clear hx4 HX3 HP3 HV3 hq
  refine (least_any k p q w4 (fun j w' hj hx => HC.out j p q _ w' hj (HP4.out.ext hx) (hx.cell_of HQ4.out) (HV4.out.ext hx) (HTB.out.ext (Gr.ext_trans HX4.out hx)))).mono ?_
  rintro e w5 ⟨r, er, rfl, hr, hx5⟩
  have HP : Hid (SeedOut w k (.returned (.tuple #[.int .i64 r, .int .i64 er])) w5) := ⟨r, er, rfl, hr, Gr.ext_trans HX4.out hx5⟩
  clear hr hx5
  go_wp2
  go_returns
  exact HP.out
/-- Find of a number of no block. -/
theorem find_none (k : Int) (w : World) (h : k < 1 ∨ 40 < k) :
    Calls Tryd.prog 22 #[.int .i64 k] w fun e w' => e = .returned (.tuple #[.int .i64 0, .int .i64 1]) ∧ w.Extends w' := by
  have HO := Lib.hid (fun w => prmOf_bad k w h)
  clear h
  go_enter Tryd.func22, Tryd.ntmps22
  go_wp2_with fail
  refine (HO.out w).mono ?_
  rintro e w1 ⟨rfl, hx1⟩
  have HX1 := Lib.hid hx1
  clear hx1 HO
  go_wp2_with fail
  generalize hw2 : World.alloc w1 _ = w2
  have HX2 : Hid (w.Extends w2) := by subst hw2; exact Gr.ext_trans HX1.out (prm_ext_alloc _ _)
  clear hw2
  go_returns
  exact ⟨rfl, HX2.out⟩
end Go.Proofs.YtpeegcncpcpbfaaDoor
/- Package block: allOf and partsOf. -/
namespace Go.Proofs.YtpeegcncpcpbfaaDoor
set_option maxRecDepth 20000
open Go.RowKit Go.Deep
set_option linter.unusedVariables false
/-- Does each row have size elements? -/
def AllB (size : Int) (l : List (List Nat)) : Prop := ∀ k, k < l.length → ((l.getD k []).length : Int) = size
/-- The answer tells whether P. -/
def Says (P : Prop) (w : World) (e : Ending) (w' : World) : Prop := (∃ b : Bool, e = .returned (.bool b) ∧ (b = true ↔ P)) ∧ w.Extends w'
theorem Says.yes {P : Prop} {w w' : World} (h : P) (hx : w.Extends w') : Says P w (.returned (.bool true)) w' := ⟨⟨true, rfl, fun _ => h, fun _ => rfl⟩, hx⟩
theorem Says.no {P : Prop} {w w' : World} (h : ¬ P) (hx : w.Extends w') : Says P w (.returned (.bool false)) w' := ⟨⟨false, rfl, fun h' => (by cases h'), fun h' => absurd h' h⟩, hx⟩
theorem mkRowList (k : Nat) (hk : k ≤ 1000) (w : World) : (Instr.makeSlice 26 (.int .i64 (k : Int)) (.int .i64 (k : Int))).run Tryd.prog w = .ok (.slice (some ⟨w.heap.size, 0, none⟩) k k) (w.alloc (.cells (madeCells #[.slice none 0 0] k) 52)) :=
  run_make_row' (P := Tryd.prog) 26 52 (.slice none 0 0) 24 Tryd.underlying26 rowinfo rfl .i64 .i64 k (by omega) (by omega) w
/-- What partsOf answers. -/
def PartsOut (w : World) (k j size : Nat) (src : List (List Nat)) (e : Ending) (w' : World) : Prop :=
  ∃ res u, SolveRes (PM.l k) size (· < PM.l k) (BM.F k j size src) res ∧ e = .returned (.tuple #[u, .int .i64 (errOf res : Nat)]) ∧ w.Extends w' ∧ Rws w' u (res.getD [])
theorem solve_of (k j size : Nat) (u v : Value) (src : List (List Nat)) (w : World) (h1 : 1 ≤ k) (h2 : k ≤ 40) (hs1 : 1 ≤ size) (hs2 : size ≤ 64) (hl : src.length = k) (hu : Rws w u (SM.rows k j)) (hv : Rws w v (BM.mixed k src)) :
    Calls Tryd.prog 40 #[.int .i64 (PM.l k), .int .i64 size, u, v] w (PartsOut w k j size src) := by
  have hlk := PM.l_le k h2
  have hlen : (SM.rows k j).length = PM.l k := BM.rows_l k j
  refine (solve_good (PM.l k) size u v (SM.rows k j) (BM.mixed k src) w hu hv (by unfold PM.l; omega) (by omega) hs1 (by omega) (by rw [BM.mixed_length, hl, hlen]; unfold PM.l PM.w; omega)).mono fun e w' ⟨res, x, hres, he, hb, hr⟩ => ?_
  rw [hlen] at hres
  exact ⟨res, x, hres, he, Gr.ext_of hb, hr⟩
end Go.Proofs.YtpeegcncpcpbfaaDoor
/- decode.partsOf. -/
namespace Go.Proofs.YtpeegcncpcpbfaaDoor
set_option maxRecDepth 20000
open Go.RowKit Go.Deep
set_option linter.unusedVariables false
/-- What partsOf answers. -/
def DParts (w : World) (k j size : Nat) (l : List DC.Dp) (e : Ending) (w' : World) : Prop :=
  ∃ res u, DC.Res k j size l res ∧ e = .returned (.tuple #[u, .int .i64 (errOf res : Nat)]) ∧ w.Extends w' ∧ Rws w' u (res.getD [])
theorem RowOk.by_row {w w' : World} {R B' n : Nat} {T' : TypeId} {u x : Value} {xs : List Nat} {ys : List Value} (h : RowOk w R x xs) (ho : w.ownsRow B' T' 1 u n ys) (hT : T' ≠ 5) (hR : R ≤ B') (hg : w.grownBy w' u.ownBlock) : RowOk w' R x xs := by
  by_cases hn : u.ownBlock = none
  · rw [hn] at hg
    exact h.ext (ext_below ⟨hg.os, hg.tape, hg.output, hg.size, fun i hi => hg.block i hi (by simp)⟩ rfl)
  · exact h.grown hg ((h.mono hR).apart (B' := B') ho hT hn)
/-- Rows appended together stay while a slice of elements of another type grows. -/
theorem Mats.by_row {w w' : World} {B R B' n k : Nat} {T T' : TypeId} {u v : Value} {ys : List Value} {l : List (List Nat)} (h : Mats w B R T v k l) (ho : w.ownsRow B' T' 1 u n ys) (hT : T ≠ T') (hT' : T' ≠ 5) (hR : R ≤ B') (hg : w.grownBy w' u.ownBlock) : Mats w' B R T v k l := by
  obtain ⟨vs, hown, hr⟩ := h
  refine ⟨vs, hown.kept hg (owns_apart hown ho hT), fun j hj => ?_⟩
  obtain ⟨x, h1, h2⟩ := hr j hj
  exact ⟨x, h1, h2.by_row ho hT' hR hg⟩
theorem dsolve_of (k j size : Nat) (u v : Value) (l : List DC.Dp) (w : World) (h1 : 1 ≤ k) (h2 : k ≤ 40) (hs1 : 1 ≤ size) (hs2 : size ≤ 64) (hu : Rws w u (QM.mat k j (DC.esis l))) (hv : Rws w v (BM.mixed k (DC.data l))) :
    Calls Tryd.prog 40 #[.int .i64 (PM.l k), .int .i64 size, u, v] w (DParts w k j size l) := by
  have hlk := PM.l_le k h2
  refine (solve_good (PM.l k) size u v (QM.mat k j (DC.esis l)) (BM.mixed k (DC.data l)) w hu hv (by unfold PM.l; omega) (by omega) hs1 (by omega) (by rw [BM.mixed_length, QM.mat_length, DC.esis_length, DC.data_length])).mono fun e w' ⟨res, x, hres, he, hb, hr⟩ => ?_
  exact ⟨res, x, hres, he, Gr.ext_of hb, hr⟩
set_option maxHeartbeats 1000000 in
set_option maxRecDepth 100000 in
theorem dparts_any (k j size : Nat) (v : Value) (l : List DC.Dp) (w : World) (h1 : 1 ≤ k) (h2 : k ≤ 40) (hj : j ≤ 255) (hs1 : 1 ≤ size) (hs2 : size ≤ 64) (hl : l.length ≤ 1000) (hok : ∀ p ∈ l, EsiOk p.1) (hv : Drps w v l) (hT : Tab w) :
    Calls Tryd.prog 23 #[PV k (PM.s k) 2, .int .i64 j, .int .i64 size, v] w (DParts w k j size l) := by
  have hs7 := PM.s_le k h2
  have hL := prmL_any k (PM.s k) 2
  have hlk : (k : Int) + (PM.s k : Int) + 2 = (PM.l k : Int) := by unfold PM.l PM.w; omega
  rw [hlk] at hL
  have hl49 := PM.l_le k h2
  have HL := Lib.hid (fun w => hL w (by omega) (by omega))
  have HM : Hid (∀ w v, Ints w v (DC.esis l) → Tab w → Calls Tryd.prog 34 #[PV k (PM.s k) 2, .int .i64 j, v] w (MadeRws w (QM.mat k j (DC.esis l)))) := fun w v hv hT => mat_some k j v (DC.esis l) w h1 h2 hj ((DC.allOk_iff l).2 hok) (by rw [DC.esis_length]; exact hl) hv hT
  have HS : Hid (∀ u v w, Rws w u (QM.mat k j (DC.esis l)) → Rws w v (BM.mixed k (DC.data l)) → Calls Tryd.prog 40 #[.int .i64 (PM.l k), .int .i64 size, u, v] w (DParts w k j size l)) := fun u v w hu hv => dsolve_of k j size u v l w h1 h2 hs1 hs2 hu hv
  have HMX0 : Hid (List.replicate (PM.s k + 2) [] = BM.mixed k (DC.data (l.take 0))) := by show _ = _; simp [BM.mixed, DC.data]
  have HMXS : Hid (∀ m, m < l.length → BM.mixed k (DC.data (l.take m)) ++ [(l.getD m (0, [])).2] = BM.mixed k (DC.data (l.take (m + 1)))) := fun m hm => by
    rw [← DC.take_snoc l m hm, DC.data_snoc]; unfold BM.mixed; rw [List.append_assoc]
  have HMXL : Hid (∀ m, m ≤ l.length → PM.s k + 2 + m = (BM.mixed k (DC.data (l.take m))).length) := fun m hm => by rw [BM.mixed_length, DC.data_length, List.length_take, Nat.min_eq_left hm]
  have HESS : Hid (∀ m, m < l.length → i64vs (DC.esis (l.take m)) ++ [.int .i64 (l.getD m (0, [])).1] = i64vs (DC.esis (l.take (m + 1)))) := fun m hm => by
    rw [← DC.take_snoc l m hm, DC.esis_snoc, i64vs_snoc]
  have HTK : Hid (l.take l.length = l) := List.take_length
  have HNM := Lib.hid (fun w => nils_mats w w.heap.size w.heap.size 52 (PM.s k + 2) (by omega) (Nat.le_refl _))
  have hmk := fun w => mkRowList (PM.s k + 2) (by omega) w
  rw [show ((PM.s k + 2 : Nat) : Int) = (PM.s k : Int) + 2 by omega] at hmk
  have HTB := Lib.hid hT
  obtain ⟨a, cap, rfl⟩ := hv.slice
  have HV := Lib.hid hv.at.2
  clear hv hT hL hlk hok
  obtain ⟨n, hn⟩ : ∃ n, n = l.length := ⟨_, rfl⟩
  rw [← hn] at HV hl HMXS HMXL HESS HTK ⊢
  clear hn
  obtain ⟨i0, hi, hz0, hz1, hz2⟩ := info_parts intinfo
  have HI := Lib.hid hi; clear hi
  have HZ0 := Lib.hid hz0; clear hz0
  have HZ1 := Lib.hid hz1; clear hz1
  have HZ2 := Lib.hid hz2; clear hz2
  obtain ⟨i1, hi', hz0', hz1', hz2'⟩ := info_parts rowinfo
  have HI' := Lib.hid hi'; clear hi'
  have HZ0' := Lib.hid hz0'; clear hz0'
  have HZ1' := Lib.hid hz1'; clear hz1'
  have HZ2' := Lib.hid hz2'; clear hz2'
  have HOUT : Hid (∀ (w w' : World) e w0, w0.Extends w → DParts w k j size l e w' → DParts w0 k j size l e w') := fun w w' e w0 hx ⟨res, u, a, b, c, d⟩ => ⟨res, u, a, b, Gr.ext_trans hx c, d⟩
  have HTUP : Hid (∀ (w w' : World) e, DParts w k j size l e w' → ∃ u r, e = .returned (.tuple #[u, .int .i64 r])) := fun w w' e ⟨res, u, a, b, c, d⟩ => ⟨u, _, b⟩
  generalize QM.mat k j (DC.esis l) = rs at *
  generalize PM.l k = L at *
  generalize PM.s k = S at *
  go_enter Tryd.func23, Tryd.ntmps23
  go_upto_region 1 with fail
  generalize hw1 : World.alloc w _ = w1
  have hx1 : w.Extends w1 := by subst hw1; exact prm_ext_alloc _ _
  have hp : PAt w1 w.heap.size k S 2 := by subst hw1; exact PAt.new w 56 k S 2
  generalize hb : w.heap.size = b at hp ⊢
  clear hw1
  have HX1 := Lib.hid hx1
  have HP1 := Lib.hid hp
  have hs1' := hx1.size
  clear hx1 hp
  obtain ⟨p0, p1, p2⟩ := HP1.out
  have HM0 := Lib.hid (HNM.out w1)
  go_wp2_with fail
  clear hmk HNM p0 p1 p2
  go_loopw [10, 11, 22] (fun o i ix wr => ∃ m : Nat, m ≤ n ∧ ix = .int .i64 m ∧ Hid (w1.Extends wr) ∧ Hid (wr.ownsRow w1.heap.size 3 1 i m (i64vs (DC.esis (l.take m)))) ∧ Hid (Mats wr w1.heap.size w1.heap.size 52 o (S + 2 + m) (BM.mixed k (DC.data (l.take m))))) (fun _ _ ix _ => (n - intOf ix).toNat)
  case atStart => exact ⟨0, by omega, rfl, Lib.hid (ext_alloc _ _), Lib.hid (World.ownsRow_nil _ _ _ _), by rw [← HMX0.out]; exact HM0⟩
  case round =>
    clear HM0
    obtain ⟨m, hm, rfl, HX, HOWN, HMT⟩ := hrel
    by_cases h5 : m < n
    · obtain ⟨b1, o1, rfl, hb1, hc1⟩ := HV.out (by omega)
      obtain ⟨ra, rc, hr0', hr1', hu⟩ := hc1 m h5
      have hx01 := Gr.ext_trans HX1.out HX.out
      have hr0 := hx01.cell_of hr0'
      have hr1 := hx01.cell_of hr1'
      have HU : Hid (RowOk wr w1.heap.size (.slice ra (l.getD m (0, [])).2.length rc) (l.getD m (0, [])).2) := (RowOk.old hu (by omega)).ext hx01
      have HES1 := Lib.hid (HESS.out m h5)
      have HMX1 := Lib.hid (HMXS.out m h5)
      have HML1 := Lib.hid (HMXL.out m hm)
      have hbs := HX.out.size
      clear hc1 hr0' hr1' hu hx01
      generalize BM.mixed k (DC.data (l.take m)) = A at *
      generalize hA' : BM.mixed k (DC.data (l.take (m + 1))) = A' at *
      have HA' := Lib.hid hA'
      clear hA'
      generalize i64vs (DC.esis (l.take m)) = E at *
      generalize hE' : i64vs (DC.esis (l.take (m + 1))) = E' at *
      have HE' := Lib.hid hE'
      clear hE'
      generalize l.getD m (0, []) = p at *
      obtain ⟨x, row⟩ := p
      simp only at hr0 hr1 HU HES1 HMX1
      obtain ⟨q, hq⟩ : ∃ q, q = row.length := ⟨_, rfl⟩
      rw [← hq] at hr1 HU
      clear hq
      have HOB : Hid (∀ g, u11.ownBlock = some g → w1.heap.size ≤ g ∧ g < wr.heap.size) := fun g hg => HOWN.out.lt g hg
      have HXA : Hid (w1.Extends (wr.alloc (.cells #[.int .i64 x, .slice ra q rc] 54))) := Gr.ext_trans HX.out (ext_alloc _ _)
      have HC1 : Hid ((wr.alloc (.cells #[.int .i64 x, .slice ra q rc] 54)).cell? ⟨wr.heap.size, 1, none⟩ = some (.slice ra q rc)) := (box_two wr _ _ _).2
      go_wp2_with (at_builtin; refine wpList_append_own_src _ rfl _ _ 22 22 rfl w1.heap.size 3 i0 (.int .i64 0) 1 8 Tryd.underlying22 HI.out HZ0.out HZ1.out HZ2.out rfl _ _ _ rfl ((HOWN.out.alloc _).alloc _) _ 1 [.int .i64 x] rfl (src_one Tryd.underlying22 _ _ (by simp) rfl) (by unfold maxLen; omega) (by omega) (by simp; omega) ?_)
      intro v' w3 ho3 hg3 _
      have hs3 := hg3.size
      simp at hs3
      have HXB : Hid (wr.Extends ((wr.alloc (.cells #[.int .i64 x, .slice ra q rc] 54)).alloc (.cells #[.int .i64 x] 3))) := Gr.ext_trans (ext_alloc _ _) (ext_alloc _ _)
      have hc1 : w3.cell? ⟨wr.heap.size, 1, none⟩ = some (.slice ra q rc) := (World.cell?_of_block (hg3.block wr.heap.size (by simp; omega) (fun h => by have := (HOB.out _ h.symm).2; omega))).trans ((ext_alloc _ _).cell_of HC1.out)
      have HX3 : Hid (w1.Extends w3) := Gr.ext_of ((((Gr.below_of HX.out).alloc hbs _).alloc (by simp; omega) _).grown hg3 (by simp; omega) (fun g hg => (HOB.out g hg).1))
      have HU3 := Lib.hid ((HU.out.ext HXB.out).by_row ((HOWN.out.alloc _).alloc _) (by decide) (Nat.le_refl _) hg3)
      have HM3 := Lib.hid ((HMT.out.ext HXB.out).by_row ((HOWN.out.alloc _).alloc _) (by decide) (by decide) (Nat.le_refl _) hg3)
      rw [HES1.out] at ho3
      have HO3 := Lib.hid ho3
      obtain ⟨vs, hown, hrows⟩ := HM3.out
      have HOWM := Lib.hid hown
      have HROWS := Lib.hid hrows
      have HOC : Hid (∀ g, u10.ownBlock = some g → w1.heap.size ≤ g) := fun g hg => (HOWM.out.lt g hg).1
      have hbs3 := HX3.out.size
      clear ho3 hg3 hown hrows HM3 HMT HX HU HOWN HXA HXB HC1 HOB hr0 hr1
      go_wp2_with (at_builtin; refine wpList_append_own_src _ rfl _ _ 26 26 rfl w1.heap.size 52 i1 (.slice none 0 0) 1 24 Tryd.underlying26 HI'.out HZ0'.out HZ1'.out HZ2'.out rfl _ _ _ rfl (HOWM.out.alloc _) _ 1 [.slice ra q rc] rfl (src_one Tryd.underlying26 _ _ rfl rfl) (by unfold maxLen; omega) (by omega) (by simp; omega) ?_)
      intro v'' w4 ho4 hg4 _
      have HP : Hid (w1.Extends w4 ∧ w4.ownsRow w1.heap.size 3 1 v' (m + 1) E' ∧ Mats w4 w1.heap.size w1.heap.size 52 v'' (S + 2 + (m + 1)) A') := by
        refine ⟨Gr.ext_of (((Gr.below_of HX3.out).alloc hbs3 _).grown hg4 (by simp; omega) HOC.out), (HO3.out.alloc _).kept hg4 (owns_apart HO3.out HOWM.out (by decide)), ?_⟩
        rw [← HMX1.out]
        exact Mats.snoc (Nat.le_refl _) (by decide) HML1.out (HOWM.out.alloc _) (fun j hj => by obtain ⟨u, h1, h2⟩ := HROWS.out j hj; exact ⟨u, h1, h2.ext (ext_alloc _ _)⟩) (HU3.out.ext (ext_alloc _ _)) hg4 ho4
      clear ho4 hg4
      go_wp2
      go_roundw
      case rel => exact ⟨m + 1, by omega, by go_num, Lib.hid HP.out.1, by rw [HE'.out]; exact Lib.hid HP.out.2.1, by rw [HA'.out]; exact Lib.hid HP.out.2.2⟩
      case measure => simp [intOf]; omega
    · obtain rfl : m = n := by omega
      have HVI : Hid (Ints wr u11 (DC.esis l)) := by have := owns_ints HOWN.out; rwa [HTK.out] at this
      have HMI : Hid (Rws wr u10 (BM.mixed k (DC.data l))) := by have := HMT.out.rws (HMXL.out m (Nat.le_refl _)); rwa [HTK.out] at this
      have HX4 := Lib.hid (Gr.ext_drew (Gr.ext_trans HX1.out HX.out))
      have HP4 := Lib.hid (HP1.out.ext (Gr.ext_drew HX.out))
      have HVI4 := Lib.hid (HVI.out.ext (Gr.ext_drew (Gr.ext_refl wr)))
      have HMI4 := Lib.hid (HMI.out.ext (Gr.ext_drew (Gr.ext_refl wr)))
      obtain ⟨ea, ecap, rfl, _⟩ := HVI.out.slice
      obtain ⟨ma, mcap, rfl, _⟩ := HMI.out.slice
      clear HVI HMI HOWN HMT HX HX1 HP1 HMXS HMXL HESS HMX0
      generalize BM.mixed k (DC.data l) = mx at *
      generalize (DC.esis l).length = el at *
      generalize mx.length = ml at *
      go_wp2_with fail
      refine Gr.region 11 [(false,0),(false,2),(false,3),(false,4),(false,5),(false,7),(true,1),(true,6),(true,8),(false,9),(false,10)] (by kernel_rfl) (by kernel_rfl) (fun d _ _ _ _ h => by cases d <;> exact h) ?_
      simp only [Gr.pick, List.getElem?_cons_zero, List.getElem?_cons_succ, List.drop_succ_cons, List.drop_zero]
      generalize wr.drew = w4 at *
      iterate 6
        refine Gr.walk_t ?_ (Or.inl ⟨by rfl, ?_⟩) ?_
        rotate_left
        · intro w' hw'
          obtain ⟨p0, p1, p2⟩ := HP4.out.ext hw'
          clear hw'
          go_simp
          try with_reducible rfl
        simp only [Act.put, List.setIfInBounds_toArray, List.set_cons_zero, List.set_cons_succ]
      refine Gr.walk_c (fun K hK => ?_)
      go_simp
      refine (HL.out w4).mono ?_
      rintro e w5 ⟨rfl, hx5⟩
      have HX5 := Lib.hid (Gr.ext_trans HX4.out hx5)
      have HVI5 := Lib.hid (HVI4.out.ext hx5)
      have HMI5 := Lib.hid (HMI4.out.ext hx5)
      try go_simp
      refine hK.out _ _ (hx5) ?_
      clear hK K
      clear hx5 HX4 HP4 HVI4 HMI4
      refine Gr.walk_c (fun K hK => ?_)
      go_simp
      refine (HM.out w5 _ HVI5.out (HTB.out.ext HX5.out)).mono ?_
      rintro e w7 ⟨u7, rfl, hx7, hu7⟩
      have HX7 := Lib.hid (Gr.ext_trans HX5.out hx7)
      have HMI7 := Lib.hid (HMI5.out.ext hx7)
      have HU7 := Lib.hid (mats_rows hu7)
      try go_simp
      refine hK.out _ _ (hx7) ?_
      clear hK K
      clear hx7 HX5 HMI5 HVI5 hu7
      refine Gr.walk_c (fun K hK => ?_)
      go_simp
      refine (HS.out u7 _ w7 HU7.out HMI7.out).mono ?_
      rintro e w8 ⟨res, x8, hres, rfl, hx8, hr8⟩
      have HP : Hid (DParts w k j size l (.returned (.tuple #[x8, .int .i64 (errOf res : Nat)])) w8) := ⟨res, x8, hres, rfl, Gr.ext_trans HX7.out hx8, hr8⟩
      try go_simp
      refine hK.out _ _ (hx8) ?_
      clear hK K
      clear hx8 HX7 HMI7 HU7 hres hr8
      iterate 2
        refine Gr.walk_t ?_ (Or.inl ⟨by rfl, ?_⟩) ?_
        rotate_left
        · intro w' hw'
          clear hw'
          go_simp
          try with_reducible rfl
        simp only [Act.put, List.setIfInBounds_toArray, List.set_cons_zero, List.set_cons_succ]
      refine Gr.walk_nil ?_
      go_wp2
      go_returns
      exact HP.out
end Go.Proofs.YtpeegcncpcpbfaaDoor
