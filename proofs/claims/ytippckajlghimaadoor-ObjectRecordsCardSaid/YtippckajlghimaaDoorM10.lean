/- In one text: TupCan, TupParts, TupNums, TupRow, PreMatrix, SeeMath, Trunc, Unk. -/
import Derived.Deep.DeepCutAuto
import Derived.Test.YtippckajlghimaaDoorM3
import Derived.Test.YtippckajlghimaaDoorM8
import Derived.Test.YtippckajlghimaaDoorM9
/- tuple.CanBe. -/
namespace Go.Proofs.YtippckajlghimaaDoor
set_option maxRecDepth 20000
open Go.RowKit Go.Deep
set_option linter.unusedVariables false
/-- A number that a symbol can have. -/
def EsiOk (e : Int) : Prop := 0 ≤ e ∧ e < 16777216
instance (e : Int) : Decidable (EsiOk e) := by unfold EsiOk; infer_instance
/-- Whether all of these can be symbols' numbers. -/
def AllOk (es : List Int) : Prop := ∀ i, i < es.length → EsiOk (es.getD i 0)
/-- Arguments with which CanBe says yes. -/
def Can (k s h j : Int) (es : List Int) : Prop := Right k s h ∧ 0 ≤ j ∧ j ≤ 255 ∧ AllOk es
theorem can_wrong (k s h j : Int) (v : Value) (w : World) (hr : ¬ Right k s h) :
    Calls Tryd.prog 49 #[PV k s h, .int .i64 j, v] w fun e w' => e = .returned (.bool false) ∧ w.Extends w' := by
  have HN := Lib.hid (isBlock_no k s h)
  have HR := Lib.hid hr
  clear hr
  go_enter Tryd.func49, Tryd.ntmps49
  go_wp2_with fail
  generalize hw1 : World.alloc w _ = w1
  have hx1 : w.Extends w1 := by subst hw1; exact prm_ext_alloc _ _
  have hp : PAt w1 w.heap.size k s h := by subst hw1; exact PAt.new w 56 k s h
  generalize w.heap.size = b at hp ⊢
  clear hw1
  have HX1 := Lib.hid hx1
  have HP1 := Lib.hid hp
  clear hx1 hp
  obtain ⟨p0, p1, p2⟩ := HP1.out
  refine (HN.out w1 HR.out).mono ?_
  rintro e w2 ⟨rfl, hx2⟩
  have HX2 := Lib.hid (Gr.ext_trans HX1.out hx2)
  clear hx2 HX1 HP1
  go_wp2
  go_ret
  exact ⟨rfl, HX2.out⟩
theorem can_j (k : Nat) (j : Int) (v : Value) (w : World) (h1 : 1 ≤ k) (h2 : k ≤ 40) (hj : j < 0 ∨ 256 ≤ j) :
    Calls Tryd.prog 49 #[PV k (PM.s k) 2, .int .i64 j, v] w fun e w' => e = .returned (.bool false) ∧ w.Extends w' := by
  have HY := Lib.hid (isBlock_yes k)
  generalize PM.s k = m at *
  have HJ := Lib.hid hj
  clear hj
  by_cases c1 : j < 0
  rotate_left
  have c2 : j ≥ 256 := by have := HJ.out; omega
  all_goals
    clear HJ
    go_enter Tryd.func49, Tryd.ntmps49
    go_wp2_with fail
    generalize hw1 : World.alloc w _ = w1
    have hx1 : w.Extends w1 := by subst hw1; exact prm_ext_alloc _ _
    have hp : PAt w1 w.heap.size k m 2 := by subst hw1; exact PAt.new w 56 k m 2
    generalize w.heap.size = b at hp ⊢
    clear hw1
    have HX1 := Lib.hid hx1
    have HP1 := Lib.hid hp
    clear hx1 hp
    obtain ⟨p0, p1, p2⟩ := HP1.out
    refine (HY.out w1 h1 h2).mono ?_
    rintro e w2 ⟨rfl, hx2⟩
    have HX2 := Lib.hid (Gr.ext_trans HX1.out hx2)
    clear hx2 HX1 HP1
    go_wp2
    go_ret
    exact ⟨rfl, HX2.out⟩
theorem allOk_step {es : List Int} {i : Nat} (h : ∀ j, j < i → EsiOk (es.getD j 0)) (hi : EsiOk (es.getD i 0)) : ∀ j, j < i + 1 → EsiOk (es.getD j 0) := fun j hj => by
  by_cases e : j = i
  · subst e; exact hi
  · exact h j (by omega)
/-- It answers whether all of these can be symbols' numbers. -/
def CanOut (w : World) (es : List Int) (e : Ending) (w' : World) : Prop := (∃ b : Bool, e = .returned (.bool b) ∧ (b = true ↔ AllOk es)) ∧ w.Extends w'
set_option maxRecDepth 100000 in
theorem can_es (k j : Nat) (v : Value) (es : List Int) (w : World) (h1 : 1 ≤ k) (h2 : k ≤ 40) (hj : j ≤ 255) (hv : Ints w v es) :
    Calls Tryd.prog 49 #[PV k (PM.s k) 2, .int .i64 j, v] w (CanOut w es) := by
  have HY := Lib.hid (isBlock_yes k)
  generalize PM.s k = m at *
  obtain ⟨a, cap, rfl, hcap, hcap2⟩ := hv.slice
  have HV := Lib.hid hv
  have HC := Lib.hid hv.cell.2
  have hlen := hv.len
  unfold maxLen at hlen
  clear hv hcap hcap2
  obtain ⟨n, hn⟩ : ∃ n, n = es.length := ⟨_, rfl⟩
  rw [← hn] at HC hlen ⊢
  have HN := Lib.hid hn
  clear hn
  have c1 : ¬ ((j : Int) < 0) := by omega
  have c2 : ¬ ((j : Int) ≥ 256) := by omega
  go_enter Tryd.func49, Tryd.ntmps49
  go_wp2_with fail
  generalize hw1 : World.alloc w _ = w1
  have hx1 : w.Extends w1 := by subst hw1; exact prm_ext_alloc _ _
  have hp : PAt w1 w.heap.size k m 2 := by subst hw1; exact PAt.new w 56 k m 2
  generalize w.heap.size = b at hp ⊢
  clear hw1
  have HX1 := Lib.hid hx1
  have HP1 := Lib.hid hp
  clear hx1 hp
  obtain ⟨p0, p1, p2⟩ := HP1.out
  refine (HY.out w1 h1 h2).mono ?_
  rintro e w2 ⟨rfl, hx2⟩
  have HX2 := Lib.hid (Gr.ext_trans HX1.out hx2)
  clear hx2 HX1 HP1 p0 p1 p2
  go_wp2_with fail
  go_loopw [22] (fun i wr => ∃ k : Nat, k ≤ n ∧ i = .int .i64 k ∧ Hid (w2.Extends wr) ∧ Hid (∀ j, j < k → EsiOk (es.getD j 0))) (fun i _ => (n - intOf i).toNat)
  case atStart => exact ⟨0, by omega, rfl, Lib.hid (Gr.ext_refl _), Lib.hid (fun j hj => absurd hj (Nat.not_lt_zero _))⟩
  case round =>
    obtain ⟨i, hi, rfl, HX, HG⟩ := hrel
    by_cases h5 : i < n
    · obtain ⟨bp, off, rfl, hbp, hc⟩ := HC.out (by omega)
      have hc1 := HX.out.cell_of (HX2.out.cell_of (hc i h5))
      clear hc hbp
      have HST : Hid (EsiOk (es.getD i 0) → ∀ j, j < i + 1 → EsiOk (es.getD j 0)) := allOk_step HG.out
      have HBD : Hid (¬ EsiOk (es.getD i 0) → ¬ AllOk es) := fun hb ha => hb (ha i (by rw [← HN.out]; exact h5))
      generalize es.getD i 0 = x at *
      by_cases d1 : x < 0
      · have HP : Hid (CanOut w es (.returned (.bool false)) wr) :=
          ⟨⟨false, rfl, by simpa using HBD.out (fun h => by have := h.1; omega)⟩, Gr.ext_trans HX2.out HX.out⟩
        go_wp2
        go_ret
        exact HP.out
      by_cases d2 : x ≥ 16777216
      · have HP : Hid (CanOut w es (.returned (.bool false)) wr) :=
          ⟨⟨false, rfl, by simpa using HBD.out (fun h => by have := h.2; omega)⟩, Gr.ext_trans HX2.out HX.out⟩
        go_wp2
        go_ret
        exact HP.out
      have HG2 := Lib.hid (HST.out ⟨by omega, by omega⟩)
      go_wp2
      go_roundw
      case rel => exact ⟨i + 1, by omega, by go_num, HX, HG2⟩
      case measure => simp [intOf]; omega
    · obtain rfl : i = n := by omega
      have HP : Hid (CanOut w es (.returned (.bool true)) wr) :=
        ⟨⟨true, rfl, ⟨fun _ j hj => HG.out j (by rw [HN.out]; exact hj), fun _ => rfl⟩⟩, Gr.ext_trans HX2.out HX.out⟩
      go_wp2
      go_ret
      exact HP.out
/-- A fresh slice of one int. -/
theorem ints_one (W : World) (s : Nat) (T : TypeId) (x : Int) (hs : s = W.heap.size := by rfl) : Ints (W.alloc (.cells #[.int .i64 x] T)) (.slice (some ⟨s, 0, none⟩) 1 1) [x] := by
  subst hs
  refine .inr ⟨W.heap.size, 0, 1, rfl, by simp, by decide, by simp, fun k hk => ?_⟩
  obtain rfl : k = 0 := by simp at hk; omega
  rw [cell_of_row _ _ _ _ _ _ (heap_alloc_new W _)]; rfl
theorem allOk_one (x : Int) : AllOk [x] ↔ EsiOk x :=
  ⟨fun h => h 0 (by simp), fun h i hi => by
    obtain rfl : i = 0 := by simp at hi; omega
    exact h⟩
theorem can_yes (k j : Nat) (v : Value) (es : List Int) (w : World) (h1 : 1 ≤ k) (h2 : k ≤ 40) (hj : j ≤ 255) (ha : AllOk es) (hv : Ints w v es) :
    Calls Tryd.prog 49 #[PV k (PM.s k) 2, .int .i64 j, v] w fun e w' => e = .returned (.bool true) ∧ w.Extends w' :=
  (can_es k j v es w h1 h2 hj hv).mono fun e w' ⟨⟨b, he, hb⟩, hx⟩ => ⟨by rw [he, hb.2 ha], hx⟩
theorem can_no (k s h j : Int) (v : Value) (es : List Int) (w : World) (hn : ¬ Can k s h j es) (hv : Ints w v es) :
    Calls Tryd.prog 49 #[PV k s h, .int .i64 j, v] w fun e w' => e = .returned (.bool false) ∧ w.Extends w' := by
  by_cases hr : Right k s h
  · obtain ⟨n, rfl, n1, n2, rfl, rfl⟩ := id hr
    by_cases hj : j < 0 ∨ 256 ≤ j
    · exact can_j n j v w n1 n2 hj
    · obtain ⟨m, rfl⟩ := Int.eq_ofNat_of_zero_le (show 0 ≤ j by omega)
      refine (can_es n m v es w n1 n2 (by omega) hv).mono fun e w' ⟨⟨b, he, hb⟩, hx⟩ => ⟨?_, hx⟩
      have : b = false := by
        cases b with
        | false => rfl
        | true => exact absurd ⟨hr, by omega, by omega, hb.1 rfl⟩ hn
      rw [he, this]
  · exact can_wrong k s h j v w hr
end Go.Proofs.YtippckajlghimaaDoor
/- tuple.Parts. -/
namespace Go.Proofs.YtippckajlghimaaDoor
set_option maxRecDepth 20000
open Go.RowKit Go.Deep
set_option linter.unusedVariables false
theorem Tab.ext {w w' : World} (h : Tab w) (hx : w.Extends w') : Tab w' := fun i hi => hx.cell_of (h i hi)
/-- Arguments with which there are parts. -/
def Fits (k s h j esi : Int) : Prop := Right k s h ∧ 0 ≤ j ∧ j ≤ 255 ∧ 0 ≤ esi ∧ esi < 16777216
theorem parts_none (k s h j esi : Int) (w : World) (hf : ¬ Fits k s h j esi) :
    Calls Tryd.prog 45 #[PV k s h, .int .i64 j, .int .i64 esi] w fun e w' => e = .returned (.slice none 0 0) ∧ w.Extends w' := by
  have HN := Lib.hid (fun v w hv => can_no k s h j v [esi] w (fun hc => hf ⟨hc.1, hc.2.1, hc.2.2.1, ((allOk_one esi).1 hc.2.2.2)⟩) hv)
  clear hf
  go_enter Tryd.func45, Tryd.ntmps45
  go_wp2_with fail
  generalize hw1 : World.alloc w _ = w1
  generalize hw2 : World.alloc w1 _ = w2
  have hx1 : w.Extends w1 := by subst hw1; exact prm_ext_alloc _ _
  have hx2 : w1.Extends w2 := by subst hw2; exact prm_ext_alloc _ _
  have hp : PAt w1 w.heap.size k s h := by subst hw1; exact PAt.new w 56 k s h
  have hi : Ints w2 (.slice (some ⟨w.heap.size + 1, 0, none⟩) 1 1) [esi] := by subst hw2; exact ints_one w1 _ _ _ (by subst hw1; simp)
  have HX2 := Lib.hid (Gr.ext_trans hx1 hx2)
  have HP2 := Lib.hid (hp.ext hx2)
  have HI2 := Lib.hid hi
  clear hw1 hw2 hx1 hx2 hp hi
  generalize w.heap.size + 1 = b2 at *
  generalize w.heap.size = b at *
  refine (HN.out _ w2 HI2.out).mono ?_
  rintro e w3 ⟨rfl, hx3⟩
  have HX3 := Lib.hid (Gr.ext_trans HX2.out hx3)
  clear hx3 HX2 HP2
  go_wp2
  go_ret
  exact ⟨rfl, HX3.out⟩
set_option maxHeartbeats 1000000 in
set_option maxRecDepth 100000 in
theorem parts_some (k j esi : Nat) (w : World) (h1 : 1 ≤ k) (h2 : k ≤ 40) (hj : j ≤ 255) (he : esi < 16777216) (hT : Tab w) :
    Calls Tryd.prog 45 #[PV k (PM.s k) 2, .int .i64 j, .int .i64 esi] w (MadeInts w (TM.partsW (PM.w k) (TM.num j esi))) := by
  have hy := fun v w hv => can_yes k j v [(esi : Int)] w h1 h2 hj ((allOk_one esi).2 ⟨by omega, by omega⟩) hv
  have hw : (PM.w k : Int) = k + PM.s k := by unfold PM.w; omega
  have hs := PM.s_le k h2
  have hs1 : 2 ≤ PM.s k := by unfold PM.s; omega
  have HWK := Lib.hid hw
  have HY := Lib.hid hy
  have hW := prmW_any k (PM.s k) 2
  rw [← hw] at hW
  have HW := Lib.hid hW
  have hwk : PM.w k ≤ 47 := PM.w_le k h2
  have hwk3 : 3 ≤ PM.w k := by unfold PM.w PM.s; omega
  clear hw hy hW
  generalize PM.w k = W at *
  generalize PM.s k = m at *
  obtain ⟨y, hyy⟩ : ∃ y, y = TM.num j esi := ⟨_, rfl⟩
  have HY32 := Lib.hid (show y < 4294967296 from hyy ▸ TM.num_lt j esi)
  rw [← hyy]
  have HYY := Lib.hid hyy
  clear hyy
  have HT := Lib.hid hT
  clear hT
  go_enter Tryd.func45, Tryd.ntmps45
  go_wp2_with fail
  generalize hw1 : World.alloc w _ = w1
  generalize hwi : World.alloc w1 _ = wi
  have hx1 : w.Extends w1 := by subst hw1; exact prm_ext_alloc _ _
  have hx2 : w1.Extends wi := by subst hwi; exact prm_ext_alloc _ _
  have hp : PAt w1 w.heap.size k m 2 := by subst hw1; exact PAt.new w 56 k m 2
  have hi : Ints wi (.slice (some ⟨w.heap.size + 1, 0, none⟩) 1 1) [(esi : Int)] := by subst hwi; exact ints_one w1 _ _ _ (by subst hw1; simp)
  have HXI := Lib.hid (Gr.ext_trans hx1 hx2)
  have HPI := Lib.hid (hp.ext hx2)
  have HII := Lib.hid hi
  clear hw1 hwi hx1 hx2 hp hi
  generalize w.heap.size + 1 = b2 at *
  obtain ⟨b, hb⟩ : ∃ b, b = w.heap.size := ⟨_, rfl⟩
  rw [← hb] at HPI ⊢
  clear hb
  refine (HY.out _ wi HII.out).mono ?_
  rintro e w2 ⟨rfl, hx2⟩
  have HX2 := Lib.hid (Gr.ext_trans HXI.out hx2)
  have HP2 := Lib.hid (HPI.out.ext hx2)
  clear hx2 HXI HPI HII
  obtain ⟨p0, p1, p2⟩ := HP2.out
  go_wp2_with fail
  have HYI : Hid ((j : Int) * 65537 + (esi : Int) * 31 = (y : Int)) := by
    have := HYY.out
    unfold TM.num at this
    rw [Nat.mod_eq_of_lt (by omega)] at this
    show _ = _
    omega
  rw [HYI.out]
  refine (HW.out w2 (by omega)).mono ?_
  rintro e w3 ⟨rfl, hx3⟩
  have HX3 := Lib.hid (Gr.ext_trans HX2.out hx3)
  have HP3 := Lib.hid (HP2.out.ext hx3)
  clear hx3 HX2 HP2 p0 p1 p2
  go_wp2_with fail
  have hX : w3.Extends w3.drew := Gr.ext_drew (Gr.ext_refl w3)
  have HP4 := Lib.hid (HP3.out.ext hX)
  have HX4 := Lib.hid (Gr.ext_trans HX3.out hX)
  clear hX HX3 HP3
  have hl2 := TM.last_lt y
  have HR3 : Hid (RM.rand y 3 2 = ((TM.last y : Nat) : Int)) := by
    have := RM.rand_below y 3 2 (by omega)
    show _ = _
    unfold TM.last; omega
  have hpl := TM.places_length W y
  have hdl := TM.deg_le W y
  have hpl8 : (TM.places W y).length ≤ 8 := by omega
  have HPW : Hid (i64vs (nats (TM.places W y)) ++ [.int .i64 ((W : Int) + ((TM.last y : Nat) : Int))] = i64vs (nats (TM.partsW W y))) := by
    show _ = i64vs (nats (_ ++ [_])); rw [nats_snoc, i64vs_snoc, Int.natCast_add]
  have HLN : Hid ((TM.partsW W y).length = (TM.places W y).length + 1) := by show _ = _; unfold TM.partsW; simp
  clear hpl hdl
  obtain ⟨i0, hi, hz0, hz1, hz2⟩ := info_parts intinfo
  have HI := Lib.hid hi; clear hi
  have HZ0 := Lib.hid hz0; clear hz0
  have HZ1 := Lib.hid hz1; clear hz1
  have HZ2 := Lib.hid hz2; clear hz2
  generalize TM.partsW W y = pw at *
  generalize TM.last y = r at *
  have HPLA := Lib.hid (fun w hT => places_any W y w (by omega) (by omega) HY32.out hT)
  generalize TM.places W y = pl at *
  have HWR : Hid (IntKind.i64.wrap ((W : Int) + (r : Int)) = (W : Int) + (r : Int)) := IntWalk.i64_in _ (by omega)
  refine Gr.region 10 [(false,0),(false,1),(false,3),(false,4),(false,5),(false,6),(true,2),(true,7),(false,8),(true,9)] (by kernel_rfl) (by kernel_rfl) (fun d _ _ _ _ h => by cases d <;> exact h) ?_
  simp only [Gr.pick, List.getElem?_cons_zero, List.getElem?_cons_succ, List.drop_succ_cons, List.drop_zero]
  generalize w3.drew = w4 at *
  have HPX : Hid (∀ w', w4.Extends w' → PAt w' b k m 2) := fun w' hw' => HP4.out.ext hw'
  iterate 6
    refine Gr.walk_t ?_ (Or.inl ⟨by rfl, ?_⟩) ?_
    rotate_left
    · intro w' hw'
      obtain ⟨p0, p1, p2⟩ := HPX.out w' hw'
      clear hw'
      go_simp
      try with_reducible rfl
    simp only [Act.put, List.setIfInBounds_toArray, List.set_cons_zero, List.set_cons_succ]
  refine Gr.walk_c (fun K hK => ?_)
  go_simp
  refine (HPLA.out w4 (HT.out.ext HX4.out)).mono ?_
  rintro e w5 ⟨v, rfl, hx5, hown⟩
  have HX5 := Lib.hid (Gr.ext_trans HX4.out hx5)
  have HOWN := Lib.hid (owns_base hown HX4.out.size)
  clear hown
  try go_simp
  refine hK.out _ _ (hx5) ?_
  clear hK K
  clear hx5
  refine Gr.walk_c (fun K hK => ?_)
  go_simp
  refine (draws_any y HY32.out w5 2 r 3 HR3.out (by decide) (by decide)).mono ?_
  rintro e w6 ⟨rfl, rfl⟩
  try go_simp
  refine hK.out _ _ (Gr.ext_refl w5) ?_
  clear hK K
  refine Gr.walk_t ?_ (Or.inl ⟨by rfl, ?_⟩) ?_
  rotate_left
  · intro w' hw'
    have hwr := HWR.out
    clear hw'
    go_simp
    try with_reducible rfl
  simp only [Act.put, List.setIfInBounds_toArray, List.set_cons_zero, List.set_cons_succ]
  refine Gr.walk_c (fun K hK => ?_)
  go_simp
  generalize hw : World.alloc _ _ = w6
  have hx : w5.Extends w6 := by subst hw; exact ext_alloc _ _
  have HSRC : Hid (Src Tryd.prog 1 83 (.slice (some ⟨w5.heap.size, 0, none⟩) 1 1) 1 [.int .i64 ((W : Int) + (r : Int))] w6) := by subst hw; exact src_one (W := w5) (u := .int .i64 ((W : Int) + (r : Int))) Tryd.underlying83 _ _ rfl rfl
  have HOWN6 := Lib.hid (owns_ext HOWN.out hx)
  have HX6 := Lib.hid (Gr.ext_trans HX5.out hx)
  clear hw HOWN
  refine hK.out _ _ hx ?_
  clear hK K hx
  refine Gr.walk_nil ?_
  refine wpList_append_own_src _ rfl (.tmp 26) (.tmp 33) 83 83 rfl w.heap.size 3 i0 (.int .i64 0) 1 8 Tryd.underlying83 HI.out HZ0.out HZ1.out HZ2.out rfl v pl.length _ rfl HOWN6.out _ 1 _ rfl HSRC.out (by unfold maxLen; omega) (by omega) HX6.out.size ?_
  intro v' w7 ho7 hg7 _
  have HP : Hid (MadeInts w pw (.returned v') w7) := by
    refine ⟨v', rfl, Gr.ext_of ((Gr.below_of HX6.out).grown hg7 HX6.out.size fun g hg => (HOWN6.out.lt g hg).1), ?_⟩
    rw [HLN.out, ← HPW.out]; exact ho7
  clear ho7 hg7
  go_wp2
  go_ret
  exact HP.out
end Go.Proofs.YtippckajlghimaaDoor
/- The numbers of a symbol's parts. -/
namespace Go.Proofs.YtippckajlghimaaDoor
set_option maxRecDepth 20000
open Go.RowKit
/-- The numbers of a symbol's parts, and its row. -/
def TM.parts (k j esi : Nat) : List Nat := TM.partsW (PM.w k) (TM.num j esi)
def TM.row (k j esi : Nat) : List Nat := TM.marks (PM.l k) (TM.parts k j esi)
theorem getD_mem_of (l : List Nat) (i : Nat) (h : i < l.length) : l.getD i 0 ∈ l := by simp [h]
theorem parts_at (k j esi i : Nat) (h : i < (TM.parts k j esi).length) : (TM.parts k j esi).getD i 0 < PM.l k := by
  have h1 := TM.partsW_lt (PM.w k) (TM.num j esi)
  unfold TM.parts at h ⊢
  unfold PM.l
  generalize TM.partsW (PM.w k) (TM.num j esi) = l at *
  exact h1 _ (getD_mem_of l i h)
theorem parts_len (k j esi : Nat) : 1 ≤ (TM.parts k j esi).length ∧ (TM.parts k j esi).length ≤ 9 := by
  unfold TM.parts; rw [TM.partsW_length]; have := TM.deg_le (PM.w k) (TM.num j esi); omega
end Go.Proofs.YtippckajlghimaaDoor
/- tuple.Row. -/
namespace Go.Proofs.YtippckajlghimaaDoor
set_option maxRecDepth 20000
open Go.RowKit Go.Deep
set_option linter.unusedVariables false
theorem row_none (k s h j esi : Int) (w : World) (hf : ¬ Fits k s h j esi) :
    Calls Tryd.prog 53 #[PV k s h, .int .i64 j, .int .i64 esi] w fun e w' => e = .returned (.slice none 0 0) ∧ w.Extends w' := by
  have HN := Lib.hid (fun w => parts_none k s h j esi w hf)
  clear hf
  go_enter Tryd.func53, Tryd.ntmps53
  go_wp2_with fail
  generalize hw1 : World.alloc w _ = w1
  have hx1 : w.Extends w1 := by subst hw1; exact prm_ext_alloc _ _
  have hp : PAt w1 w.heap.size k s h := by subst hw1; exact PAt.new w 56 k s h
  generalize w.heap.size = b at hp ⊢
  clear hw1
  have HX1 := Lib.hid hx1
  have HP1 := Lib.hid hp
  clear hx1 hp
  obtain ⟨p0, p1, p2⟩ := HP1.out
  refine (HN.out w1).mono ?_
  rintro e w2 ⟨rfl, hx2⟩
  have HX2 := Lib.hid (Gr.ext_trans HX1.out hx2)
  clear hx2 HX1 HP1
  go_wp2
  go_ret
  exact ⟨rfl, HX2.out⟩
set_option maxRecDepth 100000 in
theorem row_some (k j esi : Nat) (w : World) (h1 : 1 ≤ k) (h2 : k ≤ 40) (hj : j ≤ 255) (he : esi < 16777216) (hT : Tab w) :
    Calls Tryd.prog 53 #[PV k (PM.s k) 2, .int .i64 j, .int .i64 esi] w (MadeRow w (TM.row k j esi)) := by
  have HS := Lib.hid (fun w hT => parts_some k j esi w h1 h2 hj he hT)
  have hs := PM.s_le k h2
  have hl : (PM.l k : Int) = k + PM.s k + 2 := by unfold PM.l PM.w; omega
  have hl2 := PM.l_le k h2
  have hL := prmL_any k (PM.s k) 2
  rw [← hl] at hL
  have HL := Lib.hid (fun w => hL w (by omega) (by omega))
  have HPL := Lib.hid (parts_at k j esi)
  have hpl := parts_len k j esi
  change Hid (∀ (w : World), Tab w → Calls _ _ _ w (MadeInts w (TM.parts k j esi))) at HS
  have HR : Hid (TM.row k j esi = TM.marks (PM.l k) (TM.parts k j esi)) := rfl
  have HLM : Hid (∀ l, (TM.marks (PM.l k) l).length = PM.l k) := fun l => TM.marks_length _ l
  have HMK := Lib.hid (TM.marks_take (PM.l k) (TM.parts k j esi))
  have HT := Lib.hid hT
  clear hT hl hL he
  generalize TM.row k j esi = row at *
  generalize TM.parts k j esi = l at *
  generalize PM.l k = L at *
  generalize PM.s k = m at *
  obtain ⟨n, hn⟩ : ∃ n, n = l.length := ⟨_, rfl⟩
  rw [← hn] at hpl HMK HPL
  have HN := Lib.hid hn
  clear hn
  obtain ⟨hn1, hn2⟩ := hpl
  have hn0 : ((n : Int) == 0) = false := by rw [beq_eq_false_iff_ne]; omega
  have hmk := fun w => mkRow L (by omega) w
  go_enter Tryd.func53, Tryd.ntmps53
  go_wp2_with fail
  generalize hw1 : World.alloc w _ = w1
  have hx1 : w.Extends w1 := by subst hw1; exact prm_ext_alloc _ _
  have hp : PAt w1 w.heap.size k m 2 := by subst hw1; exact PAt.new w 56 k m 2
  generalize w.heap.size = b at hp ⊢
  clear hw1
  have HX1 := Lib.hid hx1
  have HP1 := Lib.hid hp
  clear hx1 hp
  obtain ⟨p0, p1, p2⟩ := HP1.out
  refine (HS.out w1 (HT.out.ext HX1.out)).mono ?_
  rintro e w2 ⟨v, rfl, hx2, hown⟩
  have hints := owns_ints hown
  obtain ⟨a, cap, rfl, hcap, hcap2⟩ := hints.slice
  rw [nats_length, ← HN.out] at hints ⊢
  have HIN := Lib.hid hints
  have HX2 := Lib.hid (Gr.ext_trans HX1.out hx2)
  have HP2 := Lib.hid (HP1.out.ext hx2)
  clear hx2 HX1 HP1 p0 p1 p2 hown hints hcap hcap2
  obtain ⟨p0, p1, p2⟩ := HP2.out
  go_wp2_with fail
  refine (HL.out w2).mono ?_
  rintro e w3 ⟨rfl, hx3⟩
  have HX3 := Lib.hid (Gr.ext_trans HX2.out hx3)
  have HIN3 := Lib.hid (HIN.out.ext hx3)
  clear hx3 HX2 HP2 p0 p1 p2 HIN
  go_wp2_with fail
  clear hmk hn0
  generalize hw4 : World.alloc w3 _ = w4
  have hx4 : w3.Extends w4 := by subst hw4; exact ext_alloc _ _
  have hown : Own w4 w3.heap.size 5 (TM.marks L (l.take 0)) := by subst hw4; exact Own.made w3 L 5 (by unfold maxLen; omega)
  have hg : w3.heap.size ≤ w3.heap.size := Nat.le_refl _
  generalize hgg : w3.heap.size = g at hown ⊢
  rw [hgg] at hg
  have HG : Hid (w3.heap.size ≤ g) := by show _ ≤ _; omega
  clear hw4 hg hgg
  have HX4 := Lib.hid hx4
  have HO4 := Lib.hid hown
  have HTK : Hid (l.take n = l) := by show _ = _; rw [HN.out]; exact List.take_length
  clear hx4 hown
  have HIN := Lib.hid HIN3.out.cell.2
  go_loopw [23] (fun i wr => ∃ k : Nat, k ≤ n ∧ i = .int .i64 k ∧ Hid (w3.Extends wr) ∧ Hid (Own wr g 5 (TM.marks L (l.take k)))) (fun i _ => (n - intOf i).toNat)
  case atStart => exact ⟨0, by omega, rfl, HX4, HO4⟩
  case round =>
    obtain ⟨i, hi, rfl, HX, HO⟩ := hrel
    by_cases h5 : i < n
    · obtain ⟨bp, off, rfl, hbp, hc⟩ := HIN.out (by omega)
      have hc1 := HX.out.cell_of (hc i h5)
      rw [nats_at] at hc1
      have HMK1 := Lib.hid (HMK.out i h5)
      have hpL := HPL.out i h5
      clear hc hbp
      generalize l.getD i 0 = p at *
      have hcg : wr.cell? ⟨g, p, none⟩ = some (.int .u8 ((TM.marks L (l.take i)).getD p 0 : Nat)) := HO.out.1.cell (by rw [HLM.out]; exact hpL)
      have hfg : wr.frozen? ⟨g, p, none⟩ = false := HO.out.1.frozen p
      have HX5 := Lib.hid (HX.out.setCell ⟨g, p, none⟩ (.int .u8 1) HG.out)
      have HO5 : Hid (Own (wr.setCell ⟨g, p, none⟩ (.int .u8 1)) g 5 (TM.marks L (l.take (i + 1)))) := by
        rw [HMK1.out]; exact HO.out.set p 1 (by rw [HLM.out]; exact hpL) (by decide)
      generalize (TM.marks L (l.take i)).getD p 0 = z at *
      go_wp2
      go_roundw
      case rel => exact ⟨i + 1, by omega, by go_num, HX5, HO5⟩
      case measure => simp [intOf]; omega
    · obtain rfl : i = n := by omega
      have HP : Hid (MadeRow w row (.returned (.slice (some ⟨g, 0, none⟩) L L)) wr) := by
        have h := HO.out
        rw [HTK.out] at h
        rw [HR.out]
        exact ⟨g, by rw [HLM.out], Gr.ext_trans HX3.out HX.out, Nat.le_trans HX3.out.size HG.out, h⟩
      go_wp2
      go_ret
      exact HP.out
end Go.Proofs.YtippckajlghimaaDoor
/- precode.Matrix. -/
namespace Go.Proofs.YtippckajlghimaaDoor
set_option maxRecDepth 20000
open Go.RowKit Go.Deep
set_option linter.unusedVariables false
/-- The rows of the symbols; all rows. -/
def QM.syms (k j : Nat) (es : List Int) : List (List Nat) := es.map fun e => TM.row k j e.toNat
def QM.mat (k j : Nat) (es : List Int) : List (List Nat) := QM.low k ++ QM.high k ++ QM.syms k j es
theorem QM.syms_length (k j : Nat) (es : List Int) : (QM.syms k j es).length = es.length := by simp [QM.syms]
theorem QM.mat_length (k j : Nat) (es : List Int) : (QM.mat k j es).length = PM.s k + 2 + es.length := by
  unfold QM.mat QM.low QM.high
  rw [List.length_append, List.length_append, QM.grid_length, QM.grid_length, QM.syms_length]
theorem QM.mat_nil (k j : Nat) (es : List Int) : QM.mat k j (es.take 0) = QM.low k ++ QM.high k := by unfold QM.mat; rw [List.take_zero]; exact List.append_nil _
theorem QM.mat_snoc (k j : Nat) (es : List Int) (i : Nat) (h : i < es.length) (e : Nat) (he : es.getD i 0 = (e : Int)) : QM.mat k j (es.take i) ++ [TM.row k j e] = QM.mat k j (es.take (i + 1)) := by
  unfold QM.mat QM.syms
  have h0 : es[i] = (e : Int) := by rw [← he]; simp [h]
  rw [List.append_assoc, List.take_succ_eq_append_getElem h, List.map_append, h0]; rfl
theorem mat_none (k s h j : Int) (v : Value) (es : List Int) (w : World) (hn : ¬ Can k s h j es) (hv : Ints w v es) :
    Calls Tryd.prog 42 #[PV k s h, .int .i64 j, v] w fun e w' => e = .returned (.slice none 0 0) ∧ w.Extends w' := by
  have HN := Lib.hid (fun w hv => can_no k s h j v es w hn hv)
  have HV := Lib.hid hv
  clear hn hv
  go_enter Tryd.func42, Tryd.ntmps42
  go_wp2_with fail
  generalize hw1 : World.alloc w _ = w1
  have hx1 : w.Extends w1 := by subst hw1; exact prm_ext_alloc _ _
  have hp : PAt w1 w.heap.size k s h := by subst hw1; exact PAt.new w 56 k s h
  generalize w.heap.size = b at hp ⊢
  clear hw1
  have HX1 := Lib.hid hx1
  have HP1 := Lib.hid hp
  clear hx1 hp
  obtain ⟨p0, p1, p2⟩ := HP1.out
  refine (HN.out w1 (HV.out.ext HX1.out)).mono ?_
  rintro e w2 ⟨rfl, hx2⟩
  have HX2 := Lib.hid (Gr.ext_trans HX1.out hx2)
  clear hx2 HX1 HP1
  go_wp2
  go_ret
  exact ⟨rfl, HX2.out⟩
set_option maxHeartbeats 1000000 in
set_option maxRecDepth 100000 in
theorem mat_some (k j : Nat) (v : Value) (es : List Int) (w : World) (h1 : 1 ≤ k) (h2 : k ≤ 40) (hj : j ≤ 255) (ha : AllOk es) (hl : es.length ≤ 1000) (hv : Ints w v es) (hT : Tab w) :
    Calls Tryd.prog 42 #[PV k (PM.s k) 2, .int .i64 j, v] w (MadeRws w (QM.mat k j es)) := by
  have HC := Lib.hid (fun w hv => can_yes k j v es w h1 h2 hj ha hv)
  have HLOW := Lib.hid (fun w => low_some k w h1 h2)
  have HHI := Lib.hid (fun w => high_some k w h1 h2)
  have hs7 := PM.s_le k h2
  have hs2 : 2 ≤ PM.s k := by unfold PM.s; omega
  have hl50 := PM.l_le k h2
  have HROW : Hid (∀ (e : Nat) w, e < 16777216 → Tab w → Calls Tryd.prog 53 #[PV k (PM.s k) 2, .int .i64 j, .int .i64 e] w (MadeRow w (TM.row k j e))) := fun e w he hT => row_some k j e w h1 h2 hj he hT
  have HSN := Lib.hid (QM.mat_snoc k j es)
  have HML : Hid (∀ i, i ≤ es.length → (QM.mat k j (es.take i)).length = PM.s k + 2 + i) := fun i hi => by rw [QM.mat_length, List.length_take, Nat.min_eq_left hi]
  have HM0 := Lib.hid (QM.mat_nil k j es)
  have HLF : Hid ((QM.mat k j es).length = PM.s k + 2 + es.length) := QM.mat_length k j es
  have HMF : Hid (∀ n, n = es.length → QM.mat k j (es.take n) = QM.mat k j es) := fun n e => by rw [e, List.take_length]
  have HLG : Hid (QM.low k ++ QM.high k = QM.grid (PM.s k) (PM.l k) (QM.lowE k) ++ QM.grid 2 (PM.l k) (QM.hiE k)) := rfl
  have HAO := Lib.hid ha
  have HTB := Lib.hid hT
  clear ha hT
  obtain ⟨a, cap, rfl, hcap, hcap2⟩ := hv.slice
  have HV := Lib.hid hv
  have HCL := Lib.hid hv.cell.2
  clear hv hcap hcap2
  obtain ⟨n, hn⟩ : ∃ n, n = es.length := ⟨_, rfl⟩
  rw [← hn] at HCL HC hl HLF ⊢
  rw [← hn] at HV
  have HN := Lib.hid hn
  clear hn
  generalize QM.low k ++ QM.high k = lh at *
  generalize PM.l k = L at *
  generalize PM.s k = S at *
  obtain ⟨i1, hi, hz0, hz1, hz2⟩ := info_parts rowinfo
  have HI := Lib.hid hi; clear hi
  have HZ0 := Lib.hid hz0; clear hz0
  have HZ1 := Lib.hid hz1; clear hz1
  have HZ2 := Lib.hid hz2; clear hz2
  go_enter Tryd.func42, Tryd.ntmps42
  go_wp2_with fail
  generalize hw1 : World.alloc w _ = w1
  have hx1 : w.Extends w1 := by subst hw1; exact prm_ext_alloc _ _
  have hp : PAt w1 w.heap.size k S 2 := by subst hw1; exact PAt.new w 56 k S 2
  obtain ⟨b, hb⟩ : ∃ b, b = w.heap.size := ⟨_, rfl⟩
  rw [← hb] at hp ⊢
  clear hw1 hb
  have HX1 := Lib.hid hx1
  have HP1 := Lib.hid hp
  clear hx1 hp
  obtain ⟨p0, p1, p2⟩ := HP1.out
  refine (HC.out w1 (HV.out.ext HX1.out)).mono ?_
  rintro e w2 ⟨rfl, hx2⟩
  have HX2 := Lib.hid (Gr.ext_drew (Gr.ext_trans HX1.out hx2))
  have HP2 := Lib.hid (HP1.out.ext (Gr.ext_drew hx2))
  clear hx2 HX1 HP1 p0 p1 p2 HC
  go_wp2_with fail
  refine Gr.region 6 [(false,0),(false,2),(true,1),(true,3),(true,4),(true,5)] (by kernel_rfl) (by kernel_rfl) (fun d _ _ _ _ h => by cases d <;> exact h) ?_
  simp only [Gr.pick, List.getElem?_cons_zero, List.getElem?_cons_succ, List.drop_succ_cons, List.drop_zero]
  generalize w2.drew = w3 at *
  have HPX : Hid (∀ w', w3.Extends w' → PAt w' b k S 2) := fun w' hw' => HP2.out.ext hw'
  iterate 2
    refine Gr.walk_t ?_ (Or.inl ⟨by rfl, ?_⟩) ?_
    rotate_left
    · intro w' hw'
      obtain ⟨p0, p1, p2⟩ := HPX.out w' hw'
      clear hw'
      go_simp
      try with_reducible rfl
    simp only [Act.put, List.setIfInBounds_toArray, List.set_cons_zero, List.set_cons_succ]
  refine Gr.walk_c (fun K hK => ?_)
  go_simp
  refine (HLOW.out w3).mono ?_
  rintro e w4 ⟨g1, rfl, hx4, hg1, hG1⟩
  have HX4 := Lib.hid hx4
  have HG1 := Lib.hid hG1
  have HP4 := Lib.hid (HP2.out.ext hx4)
  try go_simp
  refine hK.out _ _ (hx4) ?_
  clear hK K
  clear hx4 hg1 hG1 HLOW HPX
  refine Gr.walk_c (fun K hK => ?_)
  go_simp
  refine (HHI.out w4).mono ?_
  rintro e w5 ⟨g2, rfl, hx5, hg2, hG2⟩
  have HX5 := Lib.hid (Gr.ext_trans HX4.out hx5)
  have HP5 := Lib.hid (HP4.out.ext hx5)
  have HG15 := Lib.hid (HG1.out.ext hx5)
  have HG2 := Lib.hid hG2
  try go_simp
  refine hK.out _ _ (hx5) ?_
  clear hK K
  clear hx5 hg2 hG2 HG1 HHI HP4 HX4
  refine Gr.walk_c (fun K hK => ?_)
  go_simp
  generalize hw : World.alloc _ _ = w6
  have hx : w5.Extends w6 := by subst hw; exact ext_alloc _ _
  have hcell : w6.cell? ⟨w5.heap.size, 0, none⟩ = some (.slice (some ⟨g1, 0, none⟩) S S) ∧ w6.cell? ⟨w5.heap.size, 1, none⟩ = some (.slice (some ⟨g2, 0, none⟩) 2 2) := by
    subst hw
    exact ⟨by rw [cell_of_row _ _ _ _ _ _ (heap_alloc_new w5 _)]; rfl, by rw [cell_of_row _ _ _ _ _ _ (heap_alloc_new w5 _)]; rfl⟩
  have HC0 := Lib.hid hcell.1
  have HC1 := Lib.hid hcell.2
  have HX6 := Lib.hid (Gr.ext_trans HX5.out hx)
  have HP6 := Lib.hid (HP5.out.ext hx)
  have HG16 := Lib.hid (HG15.out.ext hx)
  have HG26 := Lib.hid (HG2.out.ext hx)
  refine hK.out _ _ hx ?_
  clear hK K hx hw hcell HX5 HP5 HG15 HG2
  generalize w5.heap.size = s at *
  refine Gr.walk_c (fun K hK => ?_)
  go_simp
  refine (concat_two s g1 S g2 2 L (QM.lowE k) (QM.hiE k) w6 (by omega) (by omega) (by omega) HC0.out HC1.out HG16.out HG26.out).mono ?_
  rintro e w7 ⟨u, rfl, hx7, hm7⟩
  have HX7 := Lib.hid (Gr.ext_trans HX6.out hx7)
  have HP7 := Lib.hid (HP6.out.ext hx7)
  have HM7 : Hid (Mats w7 w3.heap.size 0 59 u (S + 2 + 0) (QM.mat k j (es.take 0))) := by
    have := hm7.base HX6.out.size
    rw [List.length_append, QM.grid_length, QM.grid_length, ← HLG.out] at this
    rw [HM0.out]
    exact this
  try go_simp
  refine hK.out _ _ (hx7) ?_
  clear hK K
  clear hx7 hm7 HX6 HP6 HP7 HC0 HC1 HG16 HG26 HM0 HLG
  refine Gr.walk_nil ?_
  go_wp2_with fail
  go_loopw [7, 23] (fun o i wr => ∃ m : Nat, m ≤ n ∧ i = .int .i64 m ∧ Hid (w3.Extends wr) ∧ Hid (Mats wr w3.heap.size 0 59 o (S + 2 + m) (QM.mat k j (es.take m)))) (fun _ i _ => (n - intOf i).toNat)
  case atStart => exact ⟨0, by omega, rfl, HX7, HM7⟩
  case round =>
    obtain ⟨m, hm, rfl, HX, HM⟩ := hrel
    by_cases h5 : m < n
    · have hen : m < es.length := by have := HN.out; omega
      obtain ⟨e, he⟩ := Int.eq_ofNat_of_zero_le (HAO.out m hen).1
      have he2 : e < 16777216 := by have := (HAO.out m hen).2; omega
      obtain ⟨bp, off, rfl, hbp, hc⟩ := HCL.out (by omega)
      have hc1 := HX.out.cell_of (HX2.out.cell_of (hc m h5))
      rw [he] at hc1
      have HSN1 := Lib.hid (HSN.out m hen e he)
      have HML1 := Lib.hid (HML.out m (by omega))
      clear hc hbp hen he
      obtain ⟨p0, p1, p2⟩ := HP2.out.ext HX.out
      go_wp2_with fail
      refine (HROW.out e wr he2 (HTB.out.ext (Gr.ext_trans HX2.out HX.out))).mono ?_
      rintro _ wq ⟨g, rfl, hxq, hgq, hoq⟩
      have HXQ := Lib.hid (Gr.ext_trans HX.out hxq)
      have HXW := Lib.hid (Gr.ext_trans HX2.out HXQ.out)
      have HOK : Hid (RowOk wq 0 (.slice (some ⟨g, 0, none⟩) (TM.row k j e).length (TM.row k j e).length) (TM.row k j e)) := RowOk.own hoq 0 rfl rfl
      obtain ⟨vs, hown, hrows⟩ := HM.out.ext hxq
      have HOWN := Lib.hid hown
      have HROWS := Lib.hid hrows
      have HOB : Hid (∀ g, u7.ownBlock = some g → w3.heap.size ≤ g) := fun g hg => (HOWN.out.lt g hg).1
      have hbs := HXQ.out.size
      clear hown hrows hxq hgq hoq HM HX p0 p1 p2
      generalize TM.row k j e = row at *
      generalize row.length = len at *
      go_wp2_with (at_builtin; refine wpList_append_own_src _ rfl _ _ 51 51 rfl w3.heap.size 59 i1 (.slice none 0 0) 1 24 Tryd.underlying51 HI.out HZ0.out HZ1.out HZ2.out rfl _ _ _ rfl (HOWN.out.alloc _) _ 1 [.slice (some ⟨g, 0, none⟩) len len] rfl (src_one Tryd.underlying51 _ _ rfl rfl) (by unfold maxLen; omega) (by omega) (by simp; omega) ?_)
      intro v' w9 ho9 hg9 _
      have HP : Hid (w3.Extends w9 ∧ Mats w9 w3.heap.size 0 59 v' (S + 2 + (m + 1)) (QM.mat k j (es.take (m + 1)))) := by
        refine ⟨Gr.ext_of (((Gr.below_of HXQ.out).alloc hbs _).grown hg9 (by simp; omega) HOB.out), ?_⟩
        rw [← HSN1.out]
        exact Mats.snoc (Nat.zero_le _) (by decide) HML1.out.symm (HOWN.out.alloc _) (fun j hj => by obtain ⟨u, h1, h2⟩ := HROWS.out j hj; exact ⟨u, h1, h2.ext (ext_alloc _ _)⟩) (HOK.out.ext (ext_alloc _ _)) hg9 ho9
      clear ho9 hg9
      go_wp2
      go_roundw
      case rel => exact ⟨m + 1, by omega, by go_num, Lib.hid HP.out.1, Lib.hid HP.out.2⟩
      case measure => simp [intOf]; omega
    · obtain rfl : m = n := by omega
      have HP : Hid (MadeRws w (QM.mat k j es) (.returned u7) wr) := by
        refine ⟨u7, rfl, Gr.ext_trans HX2.out HX.out, ?_⟩
        have := HM.out.base HX2.out.size
        rw [HMF.out m HN.out] at this
        rw [HLF.out]
        exact this
      go_wp2
      go_ret
      exact HP.out
end Go.Proofs.YtippckajlghimaaDoor
/- With which number a block is made, as a relation. -/
namespace Go.Proofs.YtippckajlghimaaDoor
set_option maxRecDepth 20000
open Go.RowKit
namespace SM
/-- The numbers below k. -/
def iota (k : Nat) : List Int := nats (List.range k)
theorem iota_length (k : Nat) : (iota k).length = k := by simp [iota, nats]
theorem iota_at (k i : Nat) (h : i < k) : (iota k).getD i 0 = (i : Nat) := by simp [iota, nats, h]
theorem iota_ok (k : Nat) (hk : k ≤ 1000) : AllOk (iota k) := fun i hi => by
  rw [iota_length] at hi
  rw [iota_at k i hi]
  exact ⟨by omega, by omega⟩
theorem iota_snoc (k : Nat) : iota k ++ [(k : Int)] = iota (k + 1) := by
  unfold iota; rw [List.range_succ, nats_snoc]
/-- The rows that must settle all parts. -/
def rows (k j : Nat) : List (List Nat) := QM.mat k j (iota k)
theorem rows_length (k j : Nat) : (rows k j).length = PM.s k + 2 + k := by unfold rows; rw [QM.mat_length, iota_length]
/-- With j they do. -/
def Good (k j : Nat) : Prop := LA.RankIs (PM.l k) (· < (rows k j).length) (rowsF (PM.l k) 0 (rows k j) []) (PM.l k)
theorem good_iff {k j r : Nat} (h : LA.RankIs (PM.l k) (· < (rows k j).length) (rowsF (PM.l k) 0 (rows k j) []) r) : r = PM.l k ↔ Good k j :=
  ⟨fun e => by subst e; exact h, fun g => h.uniq g⟩
/-- What is answered of k: r and the error e. -/
def SeedIs (k r e : Nat) : Prop := (e = 0 ∧ r < 256 ∧ Good k r ∧ ∀ i, i < r → ¬ Good k i) ∨ (e = 5 ∧ r = 0 ∧ ∀ i, i < 256 → ¬ Good k i)
theorem SeedIs.uniq {k r e r' e' : Nat} (h : SeedIs k r e) (h' : SeedIs k r' e') : r = r' ∧ e = e' := by
  rcases h with ⟨rfl, h1, h2, h3⟩ | ⟨rfl, rfl, h3⟩
  · rcases h' with ⟨rfl, h1', h2', h3'⟩ | ⟨rfl, rfl, h3'⟩
    · refine ⟨?_, rfl⟩
      rcases Nat.lt_trichotomy r r' with h | h | h
      · exact absurd h2 (h3' r h)
      · exact h
      · exact absurd h2' (h3 r' h)
    · exact absurd h2 (h3' r h1)
  · rcases h' with ⟨rfl, h1', h2', h3'⟩ | ⟨rfl, rfl, h3'⟩
    · exact absurd h2' (h3 r' h1')
    · exact ⟨rfl, rfl⟩
theorem SeedIs.lt {k r e : Nat} (h : SeedIs k r e) : r < 256 := by
  rcases h with ⟨_, h1, _⟩ | ⟨_, rfl, _⟩
  · exact h1
  · omega
theorem SeedIs.of_good {k r e : Nat} (h : SeedIs k r e) (g : Good k 0) : r = 0 ∧ e = 0 := h.uniq (.inl ⟨rfl, by omega, g, fun i hi => absurd hi (Nat.not_lt_zero _)⟩)
/-- The rows of the least block. -/
theorem rows_one : rows 1 0 = [[1, 1, 0, 1, 0], [1, 0, 1, 0, 1], [21, 53, 15, 1, 0], [131, 249, 96, 0, 1], [0, 0, 1, 0, 1]] := by decide
/-- The rows of a matrix mixed by c. -/
theorem mixed {P : Nat → Prop} {f : Nat → LA.V} (L : List (Nat × Nat)) (h : ∀ p ∈ L, p.1 < 256 ∧ P p.2) : LA.Span P f (L.foldr (fun p u => LA.add u (LA.scl p.1 (f p.2))) LA.zero) := ⟨L, h, rfl⟩
theorem good_one : Good 1 0 := by
  unfold Good
  rw [rows_one]
  refine LA.RankIs.of_full fun c hc => ?_
  have hc5 : c < 5 := hc
  match c, hc5 with
  | 0, _ => exact ⟨_, mixed [(1, 1), (1, 4)] (by decide), by decide, by decide⟩
  | 1, _ => exact ⟨_, mixed [(12, 0), (232, 1), (12, 2), (37, 3), (205, 4)] (by decide), by decide, by decide⟩
  | 2, _ => exact ⟨_, mixed [(255, 0), (66, 1), (255, 2), (194, 3), (128, 4)] (by decide), by decide, by decide⟩
  | 3, _ => exact ⟨_, mixed [(13, 0), (233, 1), (12, 2), (37, 3), (204, 4)] (by decide), by decide, by decide⟩
  | 4, _ => exact ⟨_, mixed [(255, 0), (66, 1), (255, 2), (194, 3), (129, 4)] (by decide), by decide, by decide⟩
end SM
end Go.Proofs.YtippckajlghimaaDoor
/- Vectors cut to W places: which columns lead. -/
namespace Go.Proofs.YtippckajlghimaaDoor
set_option maxRecDepth 20000
set_option linter.unusedVariables false
namespace LA
/-- A vector cut to W places. -/
def trunc (W : Nat) (v : V) : V := fun i => if i < W then v i else 0
theorem trunc_add (W : Nat) (u v : V) : trunc W (add u v) = add (trunc W u) (trunc W v) := funext fun i => by
  show (if i < W then u i ^^^ v i else 0) = (if i < W then u i else 0) ^^^ (if i < W then v i else 0)
  split <;> rfl
theorem trunc_scl (W c : Nat) (v : V) : trunc W (scl c v) = scl c (trunc W v) := funext fun i => by
  show (if i < W then FM.tm c (v i) else 0) = FM.tm c (if i < W then v i else 0)
  split
  · rfl
  · exact (FM.tm_zero_right c).symm
theorem span_trunc {W : Nat} {P : Nat → Prop} {f g : Nat → V} (e : ∀ j, P j → g j = trunc W (f j)) {v : V} (h : Span P f v) : Span P g (trunc W v) := by
  induction h using Span.ind with
  | zero =>
    have : trunc W zero = zero := funext fun i => by show (if i < W then 0 else 0) = 0; split <;> rfl
    rw [this]; exact .zero
  | more c j v hc hj _ ih => rw [trunc_add, trunc_scl, ← e j hj]; exact .more c j _ hc hj ih
theorem span_untrunc {W : Nat} {P : Nat → Prop} {f g : Nat → V} (e : ∀ j, P j → g j = trunc W (f j)) {u : V} (h : Span P g u) : ∃ v, Span P f v ∧ u = trunc W v := by
  induction h using Span.ind with
  | zero => exact ⟨zero, .zero, funext fun i => by show 0 = (if i < W then 0 else 0); split <;> rfl⟩
  | more c j u hc hj _ ih =>
    obtain ⟨v, h1, rfl⟩ := ih
    exact ⟨_, .more c j v hc hj h1, by rw [trunc_add, trunc_scl, ← e j hj]⟩
theorem lead_trunc {W : Nat} {P : Nat → Prop} {f g : Nat → V} (e : ∀ j, P j → g j = trunc W (f j)) (c : Nat) (hc : c < W) : Lead P f c ↔ Lead P g c := by
  constructor
  · rintro ⟨v, h1, h2, h3⟩
    exact ⟨_, span_trunc e h1, by show (if c < W then v c else 0) ≠ 0; rw [if_pos hc]; exact h2, fun i hi => by show (if i < W then v i else 0) = 0; rw [if_pos (by omega)]; exact h3 i hi⟩
  · rintro ⟨u, h1, h2, h3⟩
    obtain ⟨v, hv, rfl⟩ := span_untrunc e h1
    have h2' : (if c < W then v c else 0) ≠ 0 := h2
    rw [if_pos hc] at h2'
    refine ⟨v, hv, h2', fun i hi => ?_⟩
    have h3' : (if i < W then v i else 0) = 0 := h3 i hi
    rwa [if_pos (by omega)] at h3'
end LA
theorem rowsF_trunc (W S : Nat) (m d : List (List Nat)) (j : Nat) : rowsF W 0 m [] j = LA.trunc W (rowsF W S m d j) := funext fun i => by
  show (if i < W then (RM.sum W [m.getD j []]).getD i 0 else (RM.sum 0 [[]]).getD (i - W) 0) = (if i < W then (if i < W then (RM.sum W [m.getD j []]).getD i 0 else (RM.sum S [d.getD j []]).getD (i - W) 0) else 0)
  split
  · rfl
  · exact RM.getD_far _ _ (by rw [RM.sum_length]; omega)
end Go.Proofs.YtippckajlghimaaDoor
/- Package solve: unknowns. -/
namespace Go.Proofs.YtippckajlghimaaDoor
set_option maxRecDepth 20000
open Go.RowKit
set_option linter.unusedVariables false
theorem mixTo_at (n m : Nat) (c : List Nat) (l : List (List Nat)) (k : Nat) (hk : k < n) : (RM.mixTo n m c l).getD k 0 = LA.dots m (fun i => c.getD i 0) (fun i => (l.getD i []).getD k 0) := by
  induction m with
  | zero => show (RM.zeros n).getD k 0 = 0; exact RM.zeros_getD n k
  | succ m ih => rw [RM.mixTo_succ, RM.xr_at _ _ _ (by rw [RM.mixTo_length]; exact hk), RM.scale_getD, LA.dots_succ, ih]
/-- The rows that are known: those from j on. -/
def known (W j : Nat) (xf : Nat → List Nat) : List (List Nat) := (List.range W).map fun i => if i < j then [] else xf i
theorem known_getD (W j : Nat) (xf : Nat → List Nat) (i : Nat) (h : i < W) : (known W j xf).getD i [] = if i < j then [] else xf i := by simp [known, List.getD_eq_getElem?_getD, h]
theorem known_length (W j : Nat) (xf : Nat → List Nat) : (known W j xf).length = W := by simp [known]
def RowOf (w : World) (S : Nat) (u : Value) (xs : List Nat) : Prop := ∃ b, u = .slice (some ⟨b, 0, none⟩) S S ∧ Own w b 5 xs ∧ xs.length = S
/-- x in memory: at gx, the rows from j on. -/
def XAt (w : World) (gx W S j : Nat) (xf : Nat → List Nat) : Prop := ∃ vs, w.rowIs gx 59 W vs ∧ ∀ c, c < W → (c < j → vs c = nilS) ∧ (j ≤ c → RowOf w S (vs c) (xf c))
theorem RowOf.u8s {w : World} {S : Nat} {u : Value} {xs : List Nat} (h : RowOf w S u xs) : U8s w u xs := by
  obtain ⟨b, rfl, ho, hl⟩ := h
  have := ho.u8s
  rwa [hl] at this
theorem XAt.rws {w : World} {gx W S j : Nat} {xf : Nat → List Nat} (h : XAt w gx W S j xf) (hW : W ≤ 300) : Rws w (.slice (some ⟨gx, 0, none⟩) W W) (known W j xf) := by
  obtain ⟨vs, h1, h2⟩ := h
  refine .inr ⟨gx, 0, W, by rw [known_length], by rw [known_length]; exact Nat.le_refl _, by unfold maxLen; omega, h1.lt, fun k hk => ?_⟩
  rw [known_length] at hk
  rw [known_getD W j xf k hk, Nat.zero_add]
  refine ⟨vs k, h1.cell hk, ?_⟩
  by_cases hkj : k < j
  · rw [if_pos hkj, (h2 k hk).1 hkj]; exact nil_u8s _ _ _
  · rw [if_neg hkj]; exact ((h2 k hk).2 (by omega)).u8s
theorem XAt.ext {w w' : World} {gx W S j : Nat} {xf : Nat → List Nat} (h : XAt w gx W S j xf) (hx : w.Extends w') : XAt w' gx W S j xf := by
  obtain ⟨vs, h1, h2⟩ := h
  refine ⟨vs, h1.of_block (hx.block _ h1.lt), fun c hc => ⟨(h2 c hc).1, fun hj => ?_⟩⟩
  obtain ⟨b, hb, ho, hl⟩ := (h2 c hc).2 hj
  exact ⟨b, hb, ho.ext hx, hl⟩
def updF (xf : Nat → List Nat) (c : Nat) (xs : List Nat) : Nat → List Nat := fun i => if i = c then xs else xf i
theorem XAt.set {w : World} {gx W S c : Nat} {xf : Nat → List Nat} {u : Value} {xs : List Nat} (h : XAt w gx W S (c + 1) xf) (hc : c < W) (hu : RowOf w S u xs) : XAt (w.setCell ⟨gx, c, none⟩ u) gx W S c (updF xf c xs) := by
  obtain ⟨vs, h1, h2⟩ := h
  obtain ⟨cs, hcs, _⟩ := id h1
  have keep : ∀ {v : Value} {ys : List Nat}, RowOf w S v ys → RowOf (w.setCell ⟨gx, c, none⟩ u) S v ys := fun {v ys} hr => by
    obtain ⟨b, hb, ho, hl⟩ := hr
    refine ⟨b, hb, ho.block ?_, hl⟩
    exact Below.heap_setCell _ ⟨gx, c, none⟩ _ b fun e => own_not (T' := 59) ho (by decide) (by have e' : b = gx := e; subst e'; exact hcs)
  refine ⟨_, h1.set c u, fun i hi => ⟨fun hij => ?_, fun hij => ?_⟩⟩
  · show (if i = c then u else vs i) = nilS
    rw [if_neg (by omega)]; exact (h2 i hi).1 (by omega)
  · show RowOf _ S (if i = c then u else vs i) (if i = c then xs else xf i)
    by_cases hic : i = c
    · rw [if_pos hic, if_pos hic]; exact keep hu
    · rw [if_neg hic, if_neg hic]; exact keep ((h2 i hi).2 (by omega))
/-- The rows from j on solve the steps from j on. -/
def XSol (W S j : Nat) (st : Nat → Option LA.Eqn) (xf : Nat → List Nat) : Prop := (∀ i, ∀ x ∈ xf i, x < 256) ∧ ∀ c, j ≤ c → c < W → ∀ s, st c = some s → ∀ k, k < S → s.2.getD k 0 = LA.dots W (fun i => s.1.getD i 0) (fun i => (xf i).getD k 0)
theorem XSol.set {W S c : Nat} {st : Nat → Option LA.Eqn} {xf : Nat → List Nat} {s : LA.Eqn} (h : XSol W S (c + 1) st xf) (hg : LA.Good W S st) (hc : c < W) (hs : st c = some s) :
    XSol W S c st (updF xf c (RM.sum S [s.2, RM.mix S s.1 (known W (c + 1) xf)])) := by
  obtain ⟨hd, h1, h0⟩ := hg c hc s hs
  have hmlt : ∀ x ∈ RM.mix S s.1 (known W (c + 1) xf), x < 256 := by
    have key : ∀ m, ∀ x ∈ RM.mixTo S m s.1 (known W (c + 1) xf), x < 256 := fun m => by
      induction m with
      | zero => intro x hx; simp [RM.mixTo, RM.zeros] at hx; omega
      | succ m ih => rw [RM.mixTo_succ]; exact RM.xr_lt _ _ ih (RM.scale_lt _ _ (getD_lt _ hd.2.2.1 m))
    exact key _
  have hml : (RM.mix S s.1 (known W (c + 1) xf)).length = S := RM.mixTo_length _ _ _ _
  refine ⟨fun i => ?_, fun d hdc hdW t ht k hk => ?_⟩
  · unfold updF; split
    · exact LA.sum_lt _ _ (by intro r hr; simp at hr; rcases hr with rfl | rfl; exact hd.2.2.2; exact hmlt)
    · exact h.1 i
  · -- rows before c do not count in rows from c on
    have hzero : ∀ i, i < d → t.1.getD i 0 = 0 := (hg d hdW t ht).2.2
    by_cases hdc' : d = c
    · subst hdc'
      rw [hs] at ht
      obtain rfl := Option.some.inj ht
      have e1 : LA.dots W (fun i => s.1.getD i 0) (fun i => ((known W (d + 1) xf).getD i []).getD k 0) ^^^ (updF xf d (RM.sum S [s.2, RM.mix S s.1 (known W (d + 1) xf)]) d).getD k 0 = LA.dots W (fun i => s.1.getD i 0) (fun i => (updF xf d (RM.sum S [s.2, RM.mix S s.1 (known W (d + 1) xf)]) i).getD k 0) := by
        have e2 : (fun i => (updF xf d (RM.sum S [s.2, RM.mix S s.1 (known W (d + 1) xf)]) i).getD k 0) = fun i => (updF xf d (RM.sum S [s.2, RM.mix S s.1 (known W (d + 1) xf)]) i).getD k 0 := rfl
        have e3 : LA.dots W (fun i => s.1.getD i 0) (fun i => if i = d then (updF xf d (RM.sum S [s.2, RM.mix S s.1 (known W (d + 1) xf)]) d).getD k 0 else 0) = (updF xf d (RM.sum S [s.2, RM.mix S s.1 (known W (d + 1) xf)]) d).getD k 0 := by
          rw [LA.dots_one W d _ _ hdW fun i hi hne => by simp only [if_neg hne]; exact FM.tm_zero_right _]
          simp only [if_true, h1]
          refine FM.tm_one_left _ (getD_lt _ ?_ k)
          unfold updF; rw [if_pos rfl]
          exact LA.sum_lt _ _ (by intro r hr; simp at hr; rcases hr with rfl | rfl; exact hd.2.2.2; exact hmlt)
        rw [← e3, ← LA.dots_add_right]
        refine LA.dots_congr W _ _ _ _ fun i hi => ?_
        show FM.tm (s.1.getD i 0) (((known W (d + 1) xf).getD i []).getD k 0 ^^^ (if i = d then _ else 0)) = _
        rw [known_getD W (d + 1) xf i hi]
        by_cases hid : i < d
        · rw [hzero i hid, FM.tm_zero_left, FM.tm_zero_left]
        · by_cases hid2 : i = d
          · subst hid2; rw [if_pos (by omega), if_pos rfl]; simp
          · rw [if_neg (by omega), if_neg hid2, Nat.xor_zero]; unfold updF; rw [if_neg hid2]
      rw [← e1]
      have e4 : (RM.mix S s.1 (known W (d + 1) xf)).getD k 0 = LA.dots W (fun i => s.1.getD i 0) (fun i => ((known W (d + 1) xf).getD i []).getD k 0) := by
        show (RM.mixTo S (min s.1.length (known W (d + 1) xf).length) _ _).getD k 0 = _
        rw [mixTo_at S _ _ _ k hk, hd.1, known_length, Nat.min_self]
      have e5 : (updF xf d (RM.sum S [s.2, RM.mix S s.1 (known W (d + 1) xf)]) d).getD k 0 = s.2.getD k 0 ^^^ (RM.mix S s.1 (known W (d + 1) xf)).getD k 0 := by
        unfold updF; rw [if_pos rfl]; exact LA.sum2_getD S _ _ hd.2.1 hml k
      rw [e5, e4, Nat.xor_comm (s.2.getD k 0), ← Nat.xor_assoc, Nat.xor_self, Nat.zero_xor]
    · rw [h.2 d (by omega) hdW t ht k hk]
      refine LA.dots_congr W _ _ _ _ fun i hi => ?_
      by_cases hic : i = c
      · subst hic; rw [hzero i (by omega), FM.tm_zero_left, FM.tm_zero_left]
      · unfold updF; rw [if_neg hic]
theorem rowinfo' : (Tryd.prog.info? 59).map (fun i => (i.zero, i.size, i.bytes)) = some (some (.slice none 0 0), 1, 24) := by kernel_rfl
theorem makeX (k : Nat) (hk : k ≤ 300) (w : World) : (Instr.makeSlice 51 (.int .i64 (k : Int)) (.int .i64 (k : Int))).run Tryd.prog w = .ok (.slice (some ⟨w.heap.size, 0, none⟩) k k) (w.alloc (.cells (madeCells #[nilS] k) 59)) :=
  run_make_row' (P := Tryd.prog) 51 59 nilS 24 Tryd.underlying51 rowinfo' rfl .i64 .i64 k (by omega) (by omega) w
def XOut (w : World) (W S : Nat) (st : Nat → Option LA.Eqn) (e : Ending) (w' : World) : Prop := ∃ gx xf, e = .returned (.slice (some ⟨gx, 0, none⟩) W W) ∧ w.Extends w' ∧ XAt w' gx W S 0 xf ∧ XSol W S 0 st xf
theorem mix_own (m : Nat) (u v : Value) (c : List Nat) (l : List (List Nat)) (w : World) (hm : m ≤ 1000) (hu : U8s w u c) (hv : Rws w v l) : Calls Tryd.prog 71 #[.int .i64 m, u, v] w (MadeOwn w (RM.mix m c l)) :=
  (mix_any m u v c l w hu hv).mono fun e w' ⟨he, hb, ho⟩ => by
    rw [cut_nat m hm] at he ho
    exact ⟨w.heap.size, by rw [show (RM.mix m c l).length = m from RM.mixTo_length _ _ _ _]; exact he, Gr.ext_of hb, ho⟩
set_option maxHeartbeats 4000000 in
theorem unknowns_any (p g W S r : Nat) (st : Nat → Option LA.Eqn) (w : World) (hs : Sys w p g W S r st) (hgood : LA.Good W S st) (hall : ∀ c, c < W → ∃ s, st c = some s) (hW1 : 1 ≤ W) :
    Calls Tryd.prog 57 #[.pointer (some ⟨p, 0, none⟩)] w (XOut w W S st) := by
  obtain ⟨hc0, hc1, _⟩ := hs.cells
  have hW := hs.hW
  have hS := hs.hS
  have HSY := Lib.hid hs
  have HGOOD := Lib.hid hgood
  have HALL := Lib.hid hall
  have hmk := makeX W hW
  obtain ⟨w1, hw1⟩ : ∃ w1, w1 = w.alloc (.cells (madeCells #[nilS] W) 59) := ⟨_, rfl⟩
  have hx1 : w.Extends w1 := by subst hw1; exact ext_alloc _ _
  have hX1 : XAt w1 w.heap.size W S W (fun _ => []) := by subst hw1; exact ⟨_, World.rowIs_made w nilS W _, fun c hc => ⟨fun _ => rfl, fun h => absurd hc (by omega)⟩⟩
  have HX1 := Lib.hid hx1
  have HXA := Lib.hid hX1
  have HXS : Hid (XSol W S W st (fun _ => [])) := ⟨fun i x hx => (by cases hx), fun c h1 h2 => absurd h2 (by omega)⟩
  obtain ⟨gx, hgx⟩ : ∃ gx, gx = w.heap.size := ⟨_, rfl⟩
  have hgw : gx < w1.heap.size := by subst hgx; subst hw1; simp
  have hmk' := hmk w
  rw [← hw1, ← hgx] at hmk'
  rw [← hgx] at HXA
  have HGX := Lib.hid hgx
  clear hs hgood hall hw1 hx1 hX1 hmk hgx
  go_enter Tryd.func57, Tryd.ntmps57
  go_wp2_with fail
  clear hc0 hc1 hmk'
  go_loopw [4] (fun i wr => ∃ (j : Nat) (xf : Nat → List Nat), j ≤ W ∧ (j = 0 ∧ i = .int .i64 (-1) ∨ ∃ c : Nat, j = c + 1 ∧ i = .int .i64 c) ∧ w1.grownBy wr (some gx) ∧ XAt wr gx W S j xf ∧ XSol W S j st xf) (fun i _ => (intOf i + 1).toNat)
  case atStart => exact ⟨W, _, Nat.le_refl _, .inr ⟨W - 1, by omega, by congr 1; omega⟩, grown_refl _ _, HXA.out, HXS.out⟩
  case round =>
    obtain ⟨j, xf, hj, hi, hg, hxa, hxs⟩ := hrel
    have HG := Lib.hid hg
    have HA := Lib.hid hxa
    have HS := Lib.hid hxs
    clear hg hxa hxs
    rcases hi with ⟨rfl, rfl⟩ | ⟨c, rfl, rfl⟩
    · have HOUT : Hid (w.Extends wr) := Gr.ext_of ((Gr.below_of HX1.out).trans (below_grown HG.out (by rw [← HGX.out]; exact Nat.le_refl _) HX1.out.size))
      go_wp2
      go_ret
      exact ⟨gx, xf, rfl, HOUT.out, HA.out, HS.out⟩
    · have hxw : w.Extends wr := Gr.ext_of ((Gr.below_of HX1.out).trans (below_grown HG.out (by rw [← HGX.out]; exact Nat.le_refl _) HX1.out.size))
      have hcW : c < W := by omega
      obtain ⟨s, hs⟩ := HALL.out c hcW
      have hsw := HSY.out.ext hxw
      obtain ⟨hp0, hp1, _⟩ := hsw.cells
      obtain ⟨vs, hvs, hst⟩ := hsw.steps
      have hck := hst c hcW
      rw [hs] at hck
      obtain ⟨b1, b2, ha, hb, ho1, hn1, ho2, hn2⟩ := hck
      have hv1 := hvs.cell (i := c * 2) (by omega)
      have hv2 := hvs.cell (i := c * 2 + 1) (by omega)
      rw [ha] at hv1
      rw [hb] at hv2
      have HNEW := Lib.hid (HS.out.set HGOOD.out hcW hs)
      have HU1 : Hid (U8s wr (.slice (some ⟨b1, 0, none⟩) W W) s.1) := by have := ho1.u8s; rw [hn1] at this; exact this
      have HU2 : Hid (U8s wr (.slice (some ⟨b2, 0, none⟩) S S) s.2) := by have := ho2.u8s; rw [hn2] at this; exact this
      have HXR := Lib.hid (HA.out.rws hW)
      have HXW := Lib.hid hxw
      clear ha hb ho1 hn1 ho2 hn2 hvs hst hsw hs hxw
      go_wp2_with fail
      generalize hwa : World.alloc wr _ = wa
      have hxa : wr.Extends wa := by subst hwa; exact ext_alloc _ _
      have hca : wa.cell? ⟨wr.heap.size, 0, none⟩ = some (.slice (some ⟨b1, 0, none⟩) W W) ∧ wa.cell? ⟨wr.heap.size, 1, none⟩ = some (.slice (some ⟨b2, 0, none⟩) S S) := by subst hwa; exact one_cells _ _ _ _
      clear hwa
      have HL1 : Hid (∀ w', wa.Extends w' → w'.cell? ⟨p, 0, none⟩ = some (.int .i64 S)) := fun w' hw' => (Gr.ext_trans hxa hw').cell_of hp0
      have HL3 : Hid (∀ w', wa.Extends w' → w'.cell? ⟨wr.heap.size, 0, none⟩ = some (.slice (some ⟨b1, 0, none⟩) W W)) := fun w' hw' => hw'.cell_of hca.1
      have HL4 : Hid (∀ w', wa.Extends w' → w'.cell? ⟨wr.heap.size, 1, none⟩ = some (.slice (some ⟨b2, 0, none⟩) S S)) := fun w' hw' => hw'.cell_of hca.2
      have HXA' := Lib.hid (Gr.ext_drew hxa)
      clear hca hxa hp0 hp1 hv1 hv2
      refine Gr.region 19 [(false,0),(false,1),(false,2),(false,3),(false,4),(false,5),(false,6),(false,7),(false,8),(false,9),(false,10),(false,11),(false,12),(false,13),(false,14),(true,15),(true,16),(true,17),(false,18)] (by kernel_rfl) (by kernel_rfl) (fun d _ _ _ _ h => by cases d <;> exact h) ?_
      simp only [Gr.pick, List.getElem?_cons_zero, List.getElem?_cons_succ, List.drop_succ_cons, List.drop_zero]
      iterate 15
        refine Gr.walk_t ?_ (Or.inl ⟨by rfl, ?_⟩) ?_
        rotate_left
        · intro w' hw'
          have hc1 := HL1.out w' (Gr.of_drew hw')
          have hc3 := HL3.out w' (Gr.of_drew hw')
          have hc4 := HL4.out w' (Gr.of_drew hw')
          clear hw'
          go_simp
          try with_reducible rfl
        simp only [Act.put, List.setIfInBounds_toArray, List.set_cons_zero, List.set_cons_succ]
      clear HL1 HL3 HL4
      refine Gr.walk_c (fun K hK => ?_)
      go_simp
      refine (mix_own S _ _ s.1 (known W (c + 1) xf) _ hS (HU1.out.ext HXA'.out) (HXR.out.ext HXA'.out)).mono ?_
      rintro _ w5 ⟨bm, hret, hx5, ho5⟩
      rw [show (RM.mix S s.1 (known W (c + 1) xf)).length = S from RM.mixTo_length _ _ _ _] at hret
      subst hret
      have HX5 := Lib.hid (Gr.ext_trans HXA'.out hx5)
      have HU5 : Hid (U8s w5 (.slice (some ⟨bm, 0, none⟩) S S) (RM.mix S s.1 (known W (c + 1) xf))) := by have := ho5.u8s; rw [show (RM.mix S s.1 (known W (c + 1) xf)).length = S from RM.mixTo_length _ _ _ _] at this; exact this
      clear ho5
      try go_simp
      refine hK.out _ _ hx5 ?_
      clear hK K hx5
      refine Gr.walk_c (fun K hK => ?_)
      go_simp
      generalize hw : World.alloc _ _ = w6
      have hx6 : w5.Extends w6 := by subst hw; exact ext_alloc _ _
      have HR6 : Hid (Rws w6 (.slice (some ⟨w5.heap.size, 0, none⟩) 2 2) [s.2, RM.mix S s.1 (known W (c + 1) xf)]) := by subst hw; exact rws_two _ _ _ _ _ _ _ (HU2.out.ext HX5.out) HU5.out
      clear hw
      have HX6 := Lib.hid (Gr.ext_trans HX5.out hx6)
      refine hK.out _ _ hx6 ?_
      clear hK K hx6
      refine Gr.walk_c (fun K hK => ?_)
      go_simp
      refine (sum_own S _ _ _ hS HR6.out).mono ?_
      rintro _ w7 ⟨bq, hret, hx7, ho7⟩
      rw [RM.sum_length] at hret
      subst hret
      have HX7 := Lib.hid (Gr.ext_trans HX6.out hx7)
      have HO7 := Lib.hid ho7
      clear ho7
      try go_simp
      refine hK.out _ _ hx7 ?_
      clear hK K hx7
      refine Gr.walk_t ?_ (Or.inl ⟨by rfl, ?_⟩) ?_
      rotate_left
      · intro w' hw'
        clear hw'
        go_simp
        try with_reducible rfl
      simp only [Act.put, List.setIfInBounds_toArray, List.set_cons_zero, List.set_cons_succ]
      refine Gr.walk_nil ?_
      have hA7 := HA.out.ext HX7.out
      have HN7 := Lib.hid (hA7.set hcW ⟨bq, rfl, HO7.out, RM.sum_length _ _⟩)
      obtain ⟨vx, hvx, _⟩ := hA7
      have hxc := hvx.cell hcW
      have hxf := hvx.frozen c
      have HG7 := Lib.hid (grown_trans HG.out (grown_ext (r := some gx) HX7.out))
      clear hvx
      go_wp2
      go_roundw
      case rel => exact ⟨c, _, by omega, (by cases c with | zero => exact .inl ⟨rfl, rfl⟩ | succ c => exact .inr ⟨c, rfl, by congr 1; omega⟩), grown_setCell HG7.out _ _, HN7.out, HNEW.out⟩
      case measure => simp [intOf]
end Go.Proofs.YtippckajlghimaaDoor
