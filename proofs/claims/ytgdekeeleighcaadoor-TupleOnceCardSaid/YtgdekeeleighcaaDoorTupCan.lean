/- tuple.CanBe. -/
import Derived.Test.YtgdekeeleighcaaDoorPrmBlock
import Derived.Test.YtgdekeeleighcaaDoorInts
import Derived.Deep.DeepCutAuto
namespace Go.Proofs.YtgdekeeleighcaaDoor
open Go.RowKit Go.Deep
set_option linter.unusedVariables false
/-- A number that a symbol can have. -/
def EsiOk (e : Int) : Prop := 0 ≤ e ∧ e < 16777216
instance (e : Int) : Decidable (EsiOk e) := by unfold EsiOk; infer_instance
/-- Whether all of these can be symbols' numbers. -/
def AllOk (es : List Int) : Prop := ∀ i, i < es.length → EsiOk (es.getD i 0)
/-- Arguments with which CanBe says yes. -/
def Can (k s h j : Int) (es : List Int) : Prop := Right k s h ∧ 0 ≤ j ∧ j ≤ 255 ∧ AllOk es
theorem can_wrong (k s h j : Int) (v : Value) (w : World) (hr : ¬ Right k s h) :
    Calls Tryd.prog 26 #[PV k s h, .int .i64 j, v] w fun e w' => e = .returned (.bool false) ∧ w.Extends w' := by
  have HN := Lib.hid (isBlock_no k s h)
  have HR := Lib.hid hr
  clear hr
  go_enter Tryd.func26, Tryd.ntmps26
  go_wp2_with fail
  generalize hw1 : World.alloc w _ = w1
  have hx1 : w.Extends w1 := by subst hw1; exact prm_ext_alloc _ _
  have hp : PAt w1 w.heap.size k s h := by subst hw1; exact PAt.new w 24 k s h
  generalize w.heap.size = b at hp ⊢
  clear hw1
  have HX1 := Lib.hid hx1
  have HP1 := Lib.hid hp
  clear hx1 hp
  obtain ⟨p0, p1, p2⟩ := HP1.out
  refine (HN.out w1 HR.out).mono ?_
  rintro e w2 ⟨rfl, hx2⟩
  have HX2 := Lib.hid (Gr.ext_trans HX1.out hx2)
  clear hx2 HX1 HP1
  go_wp2
  go_ret
  exact ⟨rfl, HX2.out⟩
theorem can_j (k : Nat) (j : Int) (v : Value) (w : World) (h1 : 1 ≤ k) (h2 : k ≤ 40) (hj : j < 0 ∨ 256 ≤ j) :
    Calls Tryd.prog 26 #[PV k (PM.s k) 2, .int .i64 j, v] w fun e w' => e = .returned (.bool false) ∧ w.Extends w' := by
  have HY := Lib.hid (isBlock_yes k)
  generalize PM.s k = m at *
  have HJ := Lib.hid hj
  clear hj
  by_cases c1 : j < 0
  rotate_left
  have c2 : j ≥ 256 := by have := HJ.out; omega
  all_goals
    clear HJ
    go_enter Tryd.func26, Tryd.ntmps26
    go_wp2_with fail
    generalize hw1 : World.alloc w _ = w1
    have hx1 : w.Extends w1 := by subst hw1; exact prm_ext_alloc _ _
    have hp : PAt w1 w.heap.size k m 2 := by subst hw1; exact PAt.new w 24 k m 2
    generalize w.heap.size = b at hp ⊢
    clear hw1
    have HX1 := Lib.hid hx1
    have HP1 := Lib.hid hp
    clear hx1 hp
    obtain ⟨p0, p1, p2⟩ := HP1.out
    refine (HY.out w1 h1 h2).mono ?_
    rintro e w2 ⟨rfl, hx2⟩
    have HX2 := Lib.hid (Gr.ext_trans HX1.out hx2)
    clear hx2 HX1 HP1
    go_wp2
    go_ret
    exact ⟨rfl, HX2.out⟩
theorem allOk_step {es : List Int} {i : Nat} (h : ∀ j, j < i → EsiOk (es.getD j 0)) (hi : EsiOk (es.getD i 0)) : ∀ j, j < i + 1 → EsiOk (es.getD j 0) := fun j hj => by
  by_cases e : j = i
  · subst e; exact hi
  · exact h j (by omega)
/-- It answers whether all of these can be symbols' numbers. -/
def CanOut (w : World) (es : List Int) (e : Ending) (w' : World) : Prop := (∃ b : Bool, e = .returned (.bool b) ∧ (b = true ↔ AllOk es)) ∧ w.Extends w'
set_option maxRecDepth 100000 in
theorem can_es (k j : Nat) (v : Value) (es : List Int) (w : World) (h1 : 1 ≤ k) (h2 : k ≤ 40) (hj : j ≤ 255) (hv : Ints w v es) :
    Calls Tryd.prog 26 #[PV k (PM.s k) 2, .int .i64 j, v] w (CanOut w es) := by
  have HY := Lib.hid (isBlock_yes k)
  generalize PM.s k = m at *
  obtain ⟨a, cap, rfl, hcap, hcap2⟩ := hv.slice
  have HV := Lib.hid hv
  have HC := Lib.hid hv.cell.2
  have hlen := hv.len
  unfold maxLen at hlen
  clear hv hcap hcap2
  obtain ⟨n, hn⟩ : ∃ n, n = es.length := ⟨_, rfl⟩
  rw [← hn] at HC hlen ⊢
  have HN := Lib.hid hn
  clear hn
  have c1 : ¬ ((j : Int) < 0) := by omega
  have c2 : ¬ ((j : Int) ≥ 256) := by omega
  go_enter Tryd.func26, Tryd.ntmps26
  go_wp2_with fail
  generalize hw1 : World.alloc w _ = w1
  have hx1 : w.Extends w1 := by subst hw1; exact prm_ext_alloc _ _
  have hp : PAt w1 w.heap.size k m 2 := by subst hw1; exact PAt.new w 24 k m 2
  generalize w.heap.size = b at hp ⊢
  clear hw1
  have HX1 := Lib.hid hx1
  have HP1 := Lib.hid hp
  clear hx1 hp
  obtain ⟨p0, p1, p2⟩ := HP1.out
  refine (HY.out w1 h1 h2).mono ?_
  rintro e w2 ⟨rfl, hx2⟩
  have HX2 := Lib.hid (Gr.ext_trans HX1.out hx2)
  clear hx2 HX1 HP1 p0 p1 p2
  go_wp2_with fail
  go_loopw [22] (fun i wr => ∃ k : Nat, k ≤ n ∧ i = .int .i64 k ∧ Hid (w2.Extends wr) ∧ Hid (∀ j, j < k → EsiOk (es.getD j 0))) (fun i _ => (n - intOf i).toNat)
  case atStart => exact ⟨0, by omega, rfl, Lib.hid (Gr.ext_refl _), Lib.hid (fun j hj => absurd hj (Nat.not_lt_zero _))⟩
  case round =>
    obtain ⟨i, hi, rfl, HX, HG⟩ := hrel
    by_cases h5 : i < n
    · obtain ⟨bp, off, rfl, hbp, hc⟩ := HC.out (by omega)
      have hc1 := HX.out.cell_of (HX2.out.cell_of (hc i h5))
      clear hc hbp
      have HST : Hid (EsiOk (es.getD i 0) → ∀ j, j < i + 1 → EsiOk (es.getD j 0)) := allOk_step HG.out
      have HBD : Hid (¬ EsiOk (es.getD i 0) → ¬ AllOk es) := fun hb ha => hb (ha i (by rw [← HN.out]; exact h5))
      generalize es.getD i 0 = x at *
      by_cases d1 : x < 0
      · have HP : Hid (CanOut w es (.returned (.bool false)) wr) :=
          ⟨⟨false, rfl, by simpa using HBD.out (fun h => by have := h.1; omega)⟩, Gr.ext_trans HX2.out HX.out⟩
        go_wp2
        go_ret
        exact HP.out
      by_cases d2 : x ≥ 16777216
      · have HP : Hid (CanOut w es (.returned (.bool false)) wr) :=
          ⟨⟨false, rfl, by simpa using HBD.out (fun h => by have := h.2; omega)⟩, Gr.ext_trans HX2.out HX.out⟩
        go_wp2
        go_ret
        exact HP.out
      have HG2 := Lib.hid (HST.out ⟨by omega, by omega⟩)
      go_wp2
      go_roundw
      case rel => exact ⟨i + 1, by omega, by go_num, HX, HG2⟩
      case measure => simp [intOf]; omega
    · obtain rfl : i = n := by omega
      have HP : Hid (CanOut w es (.returned (.bool true)) wr) :=
        ⟨⟨true, rfl, ⟨fun _ j hj => HG.out j (by rw [HN.out]; exact hj), fun _ => rfl⟩⟩, Gr.ext_trans HX2.out HX.out⟩
      go_wp2
      go_ret
      exact HP.out
/-- A fresh slice of one int. -/
theorem ints_one (W : World) (s : Nat) (T : TypeId) (x : Int) (hs : s = W.heap.size := by rfl) : Ints (W.alloc (.cells #[.int .i64 x] T)) (.slice (some ⟨s, 0, none⟩) 1 1) [x] := by
  subst hs
  refine .inr ⟨W.heap.size, 0, 1, rfl, by simp, by decide, by simp, fun k hk => ?_⟩
  obtain rfl : k = 0 := by simp at hk; omega
  rw [cell_of_row _ _ _ _ _ _ (heap_alloc_new W _)]; rfl
theorem allOk_one (x : Int) : AllOk [x] ↔ EsiOk x :=
  ⟨fun h => h 0 (by simp), fun h i hi => by
    obtain rfl : i = 0 := by simp at hi; omega
    exact h⟩
theorem can_yes (k j : Nat) (v : Value) (es : List Int) (w : World) (h1 : 1 ≤ k) (h2 : k ≤ 40) (hj : j ≤ 255) (ha : AllOk es) (hv : Ints w v es) :
    Calls Tryd.prog 26 #[PV k (PM.s k) 2, .int .i64 j, v] w fun e w' => e = .returned (.bool true) ∧ w.Extends w' :=
  (can_es k j v es w h1 h2 hj hv).mono fun e w' ⟨⟨b, he, hb⟩, hx⟩ => ⟨by rw [he, hb.2 ha], hx⟩
theorem can_no (k s h j : Int) (v : Value) (es : List Int) (w : World) (hn : ¬ Can k s h j es) (hv : Ints w v es) :
    Calls Tryd.prog 26 #[PV k s h, .int .i64 j, v] w fun e w' => e = .returned (.bool false) ∧ w.Extends w' := by
  by_cases hr : Right k s h
  · obtain ⟨n, rfl, n1, n2, rfl, rfl⟩ := id hr
    by_cases hj : j < 0 ∨ 256 ≤ j
    · exact can_j n j v w n1 n2 hj
    · obtain ⟨m, rfl⟩ := Int.eq_ofNat_of_zero_le (show 0 ≤ j by omega)
      refine (can_es n m v es w n1 n2 (by omega) hv).mono fun e w' ⟨⟨b, he, hb⟩, hx⟩ => ⟨?_, hx⟩
      have : b = false := by
        cases b with
        | false => rfl
        | true => exact absurd ⟨hr, by omega, by omega, hb.1 rfl⟩ hn
      rw [he, this]
  · exact can_wrong k s h j v w hr
end Go.Proofs.YtgdekeeleighcaaDoor
