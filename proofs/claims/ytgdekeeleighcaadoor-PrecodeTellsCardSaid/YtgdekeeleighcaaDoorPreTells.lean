/- The statement's function PrecodeTells answers true. -/
import Derived.Test.YtgdekeeleighcaaDoorPreLaw
namespace Go.Proofs.YtgdekeeleighcaaDoor
open Go.RowKit Go.Deep
set_option linter.unusedVariables false
theorem pre_far (k j : Int) (v : Value) (es : List Int) (w : World) (hv : Ints w v es) (hb : k < 0 ∨ k > 50 ∨ 60 < es.length) :
    Calls Tryd.prog 6 #[.int .i64 k, .int .i64 j, v] w fun e w' => e = .returned (.bool true) ∧ w.Extends w' := by
  have HA := Lib.hid (alive7_any w)
  obtain ⟨a, cap, rfl, _, _⟩ := hv.slice
  have hlen := hv.len
  unfold maxLen at hlen
  clear hv
  generalize es.length = n at *
  by_cases c1 : k < 0
  rotate_left
  by_cases c2 : k > 50
  rotate_left
  have c3 : (n : Int) > 60 := by omega
  all_goals
    clear hb
    go_enter Tryd.func6, Tryd.ntmps6
    go_wp2_with fail
    refine HA.out.mono ?_
    rintro e w1 ⟨rfl, hx1⟩
    have HX1 := Lib.hid hx1
    clear hx1
    go_wp2
    go_ret
    exact ⟨rfl, HX1.out⟩
set_option maxHeartbeats 1000000 in
theorem pre_near (k j : Int) (v : Value) (es : List Int) (k' s' h' er : Int) (l1 l2 l3 : List (List Nat)) (w : World) (hT : Tab w) (hv : Ints w v es) (h0 : 0 ≤ k) (h1 : k ≤ 50) (h2 : es.length ≤ 60) (ha : Asked7 k j es k' s' h' er l1 l2 l3) :
    Calls Tryd.prog 6 #[.int .i64 k, .int .i64 j, v] w fun e w' => e = .returned (.bool true) ∧ w.Extends w' := by
  have HA := Lib.hid (alive7_any w)
  have HT := Lib.hid hT
  have HK := Lib.hid ha
  obtain ⟨a, cap, rfl, _, _⟩ := hv.slice
  have HV := Lib.hid hv
  clear hT ha hv
  generalize es.length = n at *
  have c3 : ¬ ((n : Int) > 60) := by omega
  go_enter Tryd.func6, Tryd.ntmps6
  go_wp2_with fail
  refine HA.out.mono ?_
  rintro e w1 ⟨rfl, hx1⟩
  have HX1 := Lib.hid hx1
  clear hx1 HA
  go_wp2_with fail
  refine (HK.out.of w1).mono ?_
  rintro e w2 ⟨rfl, hx2⟩
  have HX2 := Lib.hid (Gr.ext_trans HX1.out hx2)
  clear hx2 HX1
  go_wp2_with fail
  generalize hw3 : World.alloc w2 _ = w3
  have hx3 : w2.Extends w3 := by subst hw3; exact prm_ext_alloc _ _
  have hp : PAt w3 w2.heap.size k' s' h' := by subst hw3; exact PAt.new w2 24 k' s' h'
  generalize w2.heap.size = b at hp ⊢
  clear hw3
  have HX3 := Lib.hid (Gr.ext_trans HX2.out hx3)
  have HP3 := Lib.hid hp
  clear hx3 hp HX2
  obtain ⟨p0, p1, p2⟩ := HP3.out
  refine (HK.out.low w3).mono ?_
  rintro e w4 ⟨u1, rfl, hx4, hu1⟩
  have HX4 := Lib.hid (Gr.ext_trans HX3.out hx4)
  have HP4 := Lib.hid (HP3.out.ext hx4)
  clear hx4 HX3 HP3 p0 p1 p2
  go_wp2_with fail
  refine (from_any u1 l1 w4 hu1 HK.out.len1).mono ?_
  rintro e w5 ⟨u2, rfl, hx5, hu2⟩
  have HX5 := Lib.hid (Gr.ext_trans HX4.out hx5)
  have HP5 := Lib.hid (HP4.out.ext hx5)
  have HU2 := Lib.hid hu2
  clear hx5 HX4 HP4 hu1 hu2
  go_wp2_with fail
  refine (HK.out.refLow w5).mono ?_
  rintro e w6 ⟨u3, rfl, hx6, hu3⟩
  have HX6 := Lib.hid (Gr.ext_trans HX5.out hx6)
  have HP6 := Lib.hid (HP5.out.ext hx6)
  have HU26 := Lib.hid (HU2.out.ext hx6)
  clear hx6 HX5 HP5 HU2
  go_wp2_with fail
  refine (same_any u2 u3 l1 w6 HU26.out hu3).mono ?_
  rintro e w7 ⟨rfl, hb7⟩
  have hx7 := Gr.ext_of hb7
  have HX7 := Lib.hid (Gr.ext_trans HX6.out hx7)
  have HP7 := Lib.hid (HP6.out.ext hx7)
  clear hx7 hb7 HX6 HP6 hu3 HU26
  obtain ⟨p0, p1, p2⟩ := HP7.out
  go_wp2_with fail
  refine (HK.out.high w7).mono ?_
  rintro e w8 ⟨u4, rfl, hx8, hu4⟩
  have HX8 := Lib.hid (Gr.ext_trans HX7.out hx8)
  have HP8 := Lib.hid (HP7.out.ext hx8)
  clear hx8 HX7 HP7 p0 p1 p2
  go_wp2_with fail
  refine (from_any u4 l2 w8 hu4 HK.out.len2).mono ?_
  rintro e w9 ⟨u5, rfl, hx9, hu5⟩
  have HX9 := Lib.hid (Gr.ext_trans HX8.out hx9)
  have HP9 := Lib.hid (HP8.out.ext hx9)
  have HU5 := Lib.hid hu5
  clear hx9 HX8 HP8 hu4 hu5
  go_wp2_with fail
  refine (HK.out.refHigh w9).mono ?_
  rintro e wa ⟨u6, rfl, hxa, hu6⟩
  have HXA := Lib.hid (Gr.ext_trans HX9.out hxa)
  have HPA := Lib.hid (HP9.out.ext hxa)
  have HU5a := Lib.hid (HU5.out.ext hxa)
  clear hxa HX9 HP9 HU5
  go_wp2_with fail
  refine (same_any u5 u6 l2 wa HU5a.out hu6).mono ?_
  rintro e wb ⟨rfl, hbb⟩
  have hxb := Gr.ext_of hbb
  have HXB := Lib.hid (Gr.ext_trans HXA.out hxb)
  have HPB := Lib.hid (HPA.out.ext hxb)
  clear hxb hbb HXA HPA hu6 HU5a
  obtain ⟨p0, p1, p2⟩ := HPB.out
  go_wp2_with fail
  refine (HK.out.mat _ wb (HT.out.ext HXB.out) (HV.out.ext HXB.out)).mono ?_
  rintro e wc ⟨u7, rfl, hxc, hu7⟩
  have HXC := Lib.hid (Gr.ext_trans HXB.out hxc)
  clear hxc HXB HPB p0 p1 p2
  go_wp2_with fail
  refine (from_any u7 l3 wc hu7 HK.out.len3).mono ?_
  rintro e wd ⟨u8, rfl, hxd, hu8⟩
  have HXD := Lib.hid (Gr.ext_trans HXC.out hxd)
  have HU8 := Lib.hid hu8
  clear hxd HXC hu7 hu8
  go_wp2_with fail
  refine (HK.out.refMat _ wd (HV.out.ext HXD.out)).mono ?_
  rintro e we ⟨u9, rfl, hxe, hu9⟩
  have HXE := Lib.hid (Gr.ext_trans HXD.out hxe)
  have HU8e := Lib.hid (HU8.out.ext hxe)
  clear hxe HXD HU8
  go_wp2_with fail
  refine (same_any u8 u9 l3 we HU8e.out hu9).mono ?_
  rintro e wf ⟨rfl, hbf⟩
  have HXF := Lib.hid (Gr.ext_trans HXE.out (Gr.ext_of hbf))
  clear hbf HXE hu9 HU8e
  go_wp2
  go_ret
  exact ⟨rfl, HXF.out⟩
theorem PrecodeTells_walk (k j : Int) (v : Value) (es : List Int) (w : World) (_ : -9223372036854775808 ≤ k ∧ k ≤ 9223372036854775807) (_ : -9223372036854775808 ≤ j ∧ j ≤ 9223372036854775807) (hv : Ints w v es ∧ ∀ x ∈ es, -9223372036854775808 ≤ x ∧ x ≤ 9223372036854775807) (hT : Tab w) :
    Calls Tryd.prog 6 #[.int .i64 k, .int .i64 j, v] w fun e w' => e = .returned (.bool true) ∧ Below w.heap.size w w' := by
  suffices H : Calls Tryd.prog 6 #[.int .i64 k, .int .i64 j, v] w fun e w' => e = .returned (.bool true) ∧ w.Extends w' from H.mono fun e w' h => ⟨h.1, Gr.below_of h.2⟩
  by_cases hb : k < 0 ∨ k > 50 ∨ 60 < es.length
  · exact pre_far k j v es w hv.1 hb
  · obtain ⟨k', s', h', er, l1, l2, l3, ha⟩ := asked7 k j es (by omega)
    exact pre_near k j v es k' s' h' er l1 l2 l3 w hT hv.1 (by omega) (by omega) (by omega) ha
end Go.Proofs.YtgdekeeleighcaaDoor
