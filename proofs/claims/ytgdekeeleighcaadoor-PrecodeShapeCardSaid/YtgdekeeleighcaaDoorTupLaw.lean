/- The sixth law's alive, and what both programs answer of any numbers. -/
import Derived.Test.YtgdekeeleighcaaDoorTupRefRow
import Derived.Test.YtgdekeeleighcaaDoorConv
import Derived.Test.YtgdekeeleighcaaDoorRndLaid
namespace Go.Proofs.YtgdekeeleighcaaDoor
open Go.RowKit Go.Deep
set_option linter.unusedVariables false
/-- The answer reads as these ints; as these bytes. -/
def IntsOut (w : World) (l : List Int) (e : Ending) (w' : World) : Prop := ∃ v, e = .returned v ∧ w.Extends w' ∧ Ints w' v l
def BytesOut (w : World) (xs : List Nat) (e : Ending) (w' : World) : Prop := ∃ v, e = .returned v ∧ w.Extends w' ∧ U8s w' v xs
theorem ints_of {w w' : World} {l : List Nat} {e : Ending} (h : MadeInts w l e w') : IntsOut w (nats l) e w' := by
  obtain ⟨v, rfl, hx, ho⟩ := h; exact ⟨v, rfl, hx, owns_ints ho⟩
theorem bytes_of {w w' : World} {xs : List Nat} {e : Ending} (h : MadeRow w xs e w') : BytesOut w xs e w' := by
  obtain ⟨g, rfl, hx, _, ho⟩ := h; exact ⟨_, rfl, hx, ho.u8s⟩
theorem ints_nil {w w' : World} {e : Ending} (h : e = .returned (.slice none 0 0)) (hx : w.Extends w') : IntsOut w [] e w' := ⟨_, h, hx, nil_ints _ _ _⟩
theorem bytes_nil {w w' : World} {e : Ending} (h : e = .returned (.slice none 0 0)) (hx : w.Extends w') : BytesOut w [] e w' := ⟨_, h, hx, nil_u8s _ _ _⟩
theorem ext_of_eq {w w' : World} (h : w = w') : w.Extends w' := h ▸ Gr.ext_refl w
theorem not_right_zero : ¬ Right 0 0 0 := fun ⟨n, h, h1, _⟩ => by omega
theorem conv_row {w : World} {v : Value} {xs : List Nat} (h : U8s w v xs) : (convert 33 9 v).run Tryd.prog w = .ok (.string (strOf xs)) w := conv_any h _ _ _ Tryd.underlying33 Tryd.underlying5 Tryd.underlying9
theorem conv_bs {w : World} {v : Value} {xs : List Nat} (h : U8s w v xs) : (convert 32 9 v).run Tryd.prog w = .ok (.string (strOf xs)) w := conv_any h _ _ _ Tryd.underlying32 Tryd.underlying5 Tryd.underlying9
/-- What the calls answer that are asked of k, j and esi. -/
structure Asked (k j esi k' s' h' er : Int) (l : List Int) (xs : List Nat) : Prop where
  of : ∀ w, Calls Tryd.prog 9 #[.int .i64 k] w fun e w' => e = .returned (.tuple #[PV k' s' h', .int .i64 er]) ∧ w.Extends w'
  parts : ∀ w, Tab w → Calls Tryd.prog 11 #[PV k' s' h', .int .i64 j, .int .i64 esi] w (IntsOut w l)
  row : ∀ w, Tab w → Calls Tryd.prog 13 #[PV k' s' h', .int .i64 j, .int .i64 esi] w (BytesOut w xs)
  refParts : ∀ w, Calls Tryd.prog 12 #[.int .i64 k, .int .i64 j, .int .i64 esi] w (IntsOut w l)
  refRow : ∀ w, Calls Tryd.prog 14 #[.int .i64 k, .int .i64 j, .int .i64 esi] w (BytesOut w xs)
theorem asked_none (k j esi k' s' h' er : Int) (ho : ∀ w, Calls Tryd.prog 9 #[.int .i64 k] w fun e w' => e = .returned (.tuple #[PV k' s' h', .int .i64 er]) ∧ w.Extends w')
    (h1 : ¬ Fits k' s' h' j esi) (h2 : ¬ FitsK k j esi) : Asked k j esi k' s' h' er [] [] :=
  ⟨ho, fun w _ => (parts_none k' s' h' j esi w h1).mono fun _ _ h => ints_nil h.1 h.2, fun w _ => (row_none k' s' h' j esi w h1).mono fun _ _ h => bytes_nil h.1 h.2,
    fun w => (refParts_none k j esi w h2).mono fun _ _ h => ints_nil h.1 (ext_of_eq h.2), fun w => (refRow_none k j esi w h2).mono fun _ _ h => bytes_nil h.1 (ext_of_eq h.2)⟩
theorem asked_some (k j esi : Nat) (h1 : 1 ≤ k) (h2 : k ≤ 40) (hj : j ≤ 255) (he : esi < 16777216) : Asked k j esi k (PM.s k) 2 0 (nats (TM.parts k j esi)) (TM.row k j esi) :=
  ⟨fun w => prmOf_good k w h1 h2, fun w hT => (parts_some k j esi w h1 h2 hj he hT).mono fun _ _ h => ints_of h, fun w hT => (row_some k j esi w h1 h2 hj he hT).mono fun _ _ h => bytes_of h,
    fun w => (refParts_some k j esi w h1 h2 hj he).mono fun _ _ h => ints_of h, fun w => (refRow_some k j esi w h1 h2 hj he).mono fun _ _ h => bytes_of h⟩
theorem asked (k j esi : Int) : ∃ k' s' h' er l xs, Asked k j esi k' s' h' er l xs := by
  by_cases hk : k < 1 ∨ 40 < k
  · exact ⟨0, 0, 0, 1, [], [], asked_none k j esi 0 0 0 1 (fun w => prmOf_bad k w hk) (fun h => not_right_zero h.1) (fun h => by have := h.1; have := h.2.1; omega)⟩
  · obtain ⟨n, rfl⟩ := Int.eq_ofNat_of_zero_le (show 0 ≤ k by omega)
    by_cases hf : FitsK n j esi
    · have hf' := hf
      obtain ⟨a, b, c, d, e, f⟩ := hf'
      obtain ⟨jn, rfl⟩ := Int.eq_ofNat_of_zero_le c
      obtain ⟨en, rfl⟩ := Int.eq_ofNat_of_zero_le e
      exact ⟨_, _, _, _, _, _, asked_some n jn en (by omega) (by omega) (by omega) (by omega)⟩
    · exact ⟨n, PM.s n, 2, 0, [], [], asked_none n j esi n (PM.s n) 2 0 (fun w => prmOf_good n w (by omega) (by omega)) (fun h => hf ⟨by omega, by omega, h.2⟩) hf⟩
theorem parts_two (k j esi : Nat) : 2 ≤ (nats (TM.parts k j esi)).length := by
  rw [nats_length]
  unfold TM.parts
  rw [TM.partsW_length]
  have := TM.deg_pos (PM.w k) (TM.num j esi) (by unfold PM.w PM.s; omega)
  omega
theorem alive6_any (w : World) (hT : Tab w) : Calls Tryd.prog 8 #[] w fun e w' => e = .returned (.bool true) ∧ w.Extends w' := by
  have HO := Lib.hid (fun w => prmOf_good 3 w (by omega) (by omega))
  have HP0 := Lib.hid (fun w => parts_none 0 0 0 0 0 w (fun h => not_right_zero h.1))
  have HP1 := Lib.hid (fun w hT => (parts_some 3 0 0 w (by omega) (by omega) (by omega) (by omega) hT).mono fun _ _ h => ints_of (l := TM.parts 3 0 0) h)
  have h2 := parts_two 3 0 0
  rw [show PM.s 3 = 2 from rfl] at HO HP1
  generalize nats (TM.parts 3 0 0) = l at *
  have HT := Lib.hid hT
  clear hT
  go_enter Tryd.func8, Tryd.ntmps8
  go_wp2_with fail
  refine (HO.out w).mono ?_
  rintro e w1 ⟨rfl, hx1⟩
  have HX1 := Lib.hid hx1
  clear hx1 HO
  go_wp2_with fail
  generalize hw2 : World.alloc w1 _ = w2
  have hx2 : w1.Extends w2 := by subst hw2; exact prm_ext_alloc _ _
  have hp : PAt w2 w1.heap.size 3 2 2 := by subst hw2; exact PAt.new w1 24 3 2 2
  generalize w1.heap.size = b at hp ⊢
  clear hw2
  have HX2 := Lib.hid (Gr.ext_trans HX1.out hx2)
  have HP2 := Lib.hid hp
  clear hx2 hp HX1
  refine (HP0.out w2).mono ?_
  rintro e w3 ⟨rfl, hx3⟩
  have HX3 := Lib.hid (Gr.ext_trans HX2.out hx3)
  have HP3 := Lib.hid (HP2.out.ext hx3)
  clear hx3 HX2 HP2 HP0
  obtain ⟨p0, p1, p2⟩ := HP3.out
  go_wp2_with fail
  refine (HP1.out w3 (HT.out.ext HX3.out)).mono ?_
  rintro e w4 ⟨v, rfl, hx4, hi⟩
  obtain ⟨a, cap, rfl, hcap, hcap2⟩ := hi.slice
  have HX4 := Lib.hid (Gr.ext_trans HX3.out hx4)
  clear hx4 hi HP3 p0 p1 p2 hcap hcap2 HP1 HX3
  generalize l.length = n at *
  have hd : decide ((1 : Int) < (n : Int)) = true := decide_eq_true (by omega)
  go_wp2
  go_ret
  exact ⟨rfl, HX4.out⟩
end Go.Proofs.YtgdekeeleighcaaDoor
