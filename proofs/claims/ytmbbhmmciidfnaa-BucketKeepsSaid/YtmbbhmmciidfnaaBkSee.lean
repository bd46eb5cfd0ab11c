/- The bucket's See. -/
import Derived.Test.YtmbbhmmciidfnaaBkAll
namespace Go.Proofs.Ytmbbhmmciidfnaa
set_option maxRecDepth 20000
open Go.RowKit Go.Deep
set_option linter.unusedVariables false
/-- What See leaves, what it answers. -/
def seeL (l : List Ct) (c : Ct) : List Ct := if (dropC c.p l).length = 3 then dropC c.p l else dropC c.p l ++ [c]
def seeX (l : List Ct) (c : Ct) : Ct := if (dropC c.p l).length = 3 then (dropC c.p l).getD 0 z21 else z21
def seeB (l : List Ct) (c : Ct) : Bool := decide ((dropC c.p l).length = 3)
theorem set_room {l : List Ct} {c : Ct} {m : Nat} (hm : l.length = m) (h : m < 3) : (l ++ List.replicate (3 - m) z21).set m c = (l ++ [c]) ++ List.replicate (3 - (m + 1)) z21 := by
  subst hm
  rw [List.set_append_right _ _ (Nat.le_refl _), Nat.sub_self, show 3 - l.length = (3 - (l.length + 1)) + 1 by omega, List.replicate_succ, List.set_cons_zero, List.append_assoc]
  rfl
theorem results_ct {fn : Func} {p q : Tmp} (h : fn.results = #[.cell p 28, .tmp q]) (tmps : Array Value) (w : World) (g : Nat) (c : Ct) (b : Bool)
    (hp : tmps.getD p undef = .pointer (some ⟨g, 0, none⟩)) (hq : tmps.getD q undef = .bool b) (hr : w.rangeAt g 0 (CL c)) :
    (results fn tmps).run Try.prog w = .ok (.tuple #[CV c, .bool b]) w := by
  have hp' : tmps[p]?.getD undef = .pointer (some ⟨g, 0, none⟩) := by simpa using hp
  have hq' : tmps[q]?.getD undef = .bool b := by simpa using hq
  simp [results, h, hp', hq', asAddr, run_ct_load hr]
set_option maxHeartbeats 2000000 in
theorem bsee_any (g o : Nat) (T : TypeId) (pre post : List Value) (l : List Ct) (c : Ct) (w : World) (h : BAt w g T pre l post) (ho : pre.length = o) :
    Calls Try.prog 7 #[.pointer (some ⟨g, o, none⟩), CV c] w fun e w' => e = .returned (.tuple #[CV (seeX l c), .bool (seeB l c)]) ∧ BAt w' g T pre (seeL l c) post ∧ w.grownBy w' (some g) := by
  have H := Lib.hid h
  have HO := Lib.hid ho
  obtain ⟨s, hs⟩ : ∃ s, w.heap.size = s := ⟨_, rfl⟩
  have HWS : Hid (w.heap.size = s) := hs
  have HGS : Hid (g < s) := by have := h.lt; show g < s; omega
  have HBOX : Hid (∀ w2, w2 = (w.alloc (.cells (CL c).toArray 28)).alloc (.cells (CL z21).toArray 28) → w.Extends w2 ∧ CAt w2 s 28 [] [c] [] ∧ CAt w2 (s + 1) 28 [] [z21] [] ∧ s + 1 < w2.heap.size) := fun w2 e => by
    subst e
    subst hs
    have b1 := CAt.box w 28 c
    have b2 := CAt.box (w.alloc (.cells (CL c).toArray 28)) 28 z21
    have e1 : (w.alloc (.cells (CL c).toArray 28)).heap.size = w.heap.size + 1 := by simp
    rw [e1] at b2
    exact ⟨Gr.ext_trans (ext_alloc _ _) (ext_alloc _ _), b1.ext (ext_alloc _ _), b2, b2.lt⟩
  clear h ho
  go_enter Try.func7, Try.ntmps7
  go_upto_region 1 with fail
  generalize hw1 : World.alloc w _ = w1
  generalize hw2 : World.alloc w1 _ = w2
  obtain ⟨hx2, hb1, hb2, hsz⟩ := HBOX.out w2 (by rw [← hw2, ← hw1]; rfl)
  clear hw1 hw2 HBOX hs
  have HX2 := Lib.hid hx2
  have hpr := range_peer (hb1.range (o := 0) (k := 0) rfl Nat.zero_lt_one)
  have HD := Lib.hid (bdrop_any g o T pre post l c.p w2 (H.out.ext hx2) HO.out)
  have HB1 := Lib.hid hb1
  have HB2 := Lib.hid hb2
  have HSZ := Lib.hid hsz
  clear hx2 hb1 hb2 hsz
  simp only [List.getD_cons_zero] at hpr
  go_wp2_with fail
  refine HD.out.mono ?_
  rintro e w3 ⟨rfl, hb3, hg3⟩
  clear HD hpr
  have HG3 := Lib.hid (grown_trans (grown_below (Gr.below_of HX2.out) (Nat.le_refl _)) hg3)
  have hs1 : (some s : Option Nat) ≠ some g := fun e => by have := HGS.out; have := Option.some.inj e; omega
  have hs2 : (some (s + 1) : Option Nat) ≠ some g := fun e => by have := HGS.out; have := Option.some.inj e; omega
  have HC1 : Hid (CAt w3 s 28 [] [c] []) := HB1.out.kept (hg3.block s HB1.out.lt hs1)
  have HC2 : Hid (CAt w3 (s + 1) 28 [] [z21] []) := HB2.out.kept (hg3.block (s + 1) HB2.out.lt hs2)
  have HLT : Hid (s + 1 < w3.heap.size) := HC2.out.lt
  clear HB1 HB2 HSZ hg3 hs1 hs2
  obtain ⟨m, hm⟩ : ∃ m, (dropC c.p l).length = m := ⟨_, rfl⟩
  have hm3 : m ≤ 3 := by rw [← hm]; exact hb3.le
  have hcm := hb3.count HO.out
  rw [hm] at hcm
  have HM := Lib.hid hm
  have HB3 := Lib.hid hb3
  clear hb3 hm
  by_cases h3 : m = 3
  · have hc3 : (((m : Nat) : Int) == 3) = true := by rw [h3]; rfl
    have HS : Hid (seeL l c = dropC c.p l ∧ seeX l c = (dropC c.p l).getD 0 z21 ∧ seeB l c = true) := by
      unfold seeL seeX seeB
      rw [HM.out, if_pos h3, if_pos h3, decide_eq_true h3]; exact ⟨rfl, rfl, rfl⟩
    obtain ⟨x, hx⟩ : ∃ x, CV (seeX l c) = x := ⟨_, rfl⟩
    have HXV := Lib.hid hx
    clear hx
    have hr : w3.rangeAt g o (CL (seeX l c)) := by
      have := HB3.out.at_.range (o := o) (k := 0) (by rw [HO.out]; omega) (by rw [three_len HB3.out.le]; decide)
      rw [HS.out.2.1]
      rw [List.getD_eq_getElem?_getD, List.getElem?_append_left (by rw [HM.out]; omega), ← List.getD_eq_getElem?_getD] at this
      exact this
    have HC2' := HC2.out
    clear h3
    go_wp2_with (first | (refine wpList_load_ct rfl (.tmp 21) rfl g o (seeX l c) x HXV.out rfl hr ?_) | (refine wpList_store_ct rfl (.tmp 4) (.tmp 22) rfl (s + 1) 0 0 (seeX l c) 28 [] [] [z21] rfl HXV.out.symm HC2.out rfl (Nat.zero_lt_one) ?_) | fail)
    intro w4 ha4 hg4
    have HP : Hid (BAt w4 g T pre (dropC c.p l) post ∧ w.grownBy w4 (some g) ∧ w4.rangeAt (s + 1) 0 (CL (seeX l c))) :=
      ⟨HB3.out.grown hg4 (fun e => by have := HGS.out; have := Option.some.inj e; omega), grown_in HG3.out hg4 (fun y hy => by have := Option.some.inj hy; have := HWS.out; omega), ha4.range (o := 0) (k := 0) rfl Nat.zero_lt_one⟩
    clear ha4 hg4 hr
    repeat (first | go_values | go_skip | go_guarded | go_step)
    refine bodyPost_ret (results_ct rfl _ _ (s + 1) (seeX l c) true (by rfl) (by rfl) HP.out.2.2) rfl ?_
    exact ⟨by rw [HS.out.2.2], by rw [HS.out.1]; exact HP.out.1, HP.out.2.1⟩
  · have hc3 : (((m : Nat) : Int) == 3) = false := by simp; omega
    have HS : Hid (seeL l c = dropC c.p l ++ [c] ∧ seeX l c = z21 ∧ seeB l c = false) := by
      unfold seeL seeX seeB
      rw [HM.out, if_neg h3, if_neg h3, decide_eq_false h3]; exact ⟨rfl, rfl, rfl⟩
    have hm2 : m < 3 := by omega
    have hm4 : ((m : Nat) : Int) < 3 := by omega
    clear h3
    go_upto_region 6 with fail
    refine Gr.region 9 [(false,0),(false,1),(false,2),(false,3),(false,4),(false,5),(false,6),(false,7),(false,8)] (by kernel_rfl) (by kernel_rfl) (fun d _ _ _ _ h => by cases d <;> exact h) ?_
    simp only [Gr.pick, List.getElem?_cons_zero, List.getElem?_cons_succ, List.drop_succ_cons, List.drop_zero]
    generalize hwd : w3.drew = wd
    have HXD : Hid (w3.Extends wd) := by rw [← hwd]; exact Gr.ext_drew (Gr.ext_refl w3)
    clear hwd
    iterate 4
      refine Gr.walk_t ?_ (Or.inl ⟨by rfl, ?_⟩) ?_
      rotate_left
      · intro w' hw'
        clear hw'
        go_simp
        try with_reducible rfl
      simp only [Act.put, List.setIfInBounds_toArray, List.set_cons_zero, List.set_cons_succ]
    refine Gr.walk_t ?_ (Or.inl ⟨by rfl, ?_⟩) ?_
    rotate_left
    · intro w' hw'
      have hcd' := (Gr.ext_trans HXD.out hw').cell_of hcm
      clear hw'
      go_simp
      try with_reducible rfl
    simp only [Act.put, List.setIfInBounds_toArray, List.set_cons_zero, List.set_cons_succ]
    refine Gr.walk_t _ (Or.inl ⟨by rfl, fun w' hw' => ct_yields ((HC1.out.ext (Gr.ext_trans HXD.out hw')).range (o := 0) (k := 0) rfl Nat.zero_lt_one) rfl rfl rfl⟩) ?_
    simp only [Act.put, List.setIfInBounds_toArray, List.set_cons_zero, List.set_cons_succ]
    iterate 3
      refine Gr.walk_t ?_ (Or.inl ⟨by rfl, ?_⟩) ?_
      rotate_left
      · intro w' hw'
        clear hw'
        go_simp
        try with_reducible rfl
      simp only [Act.put, List.setIfInBounds_toArray, List.set_cons_zero, List.set_cons_succ]
    refine Gr.walk_nil ?_
    have hA3 := (HB3.out.ext HXD.out).at_
    rw [HM.out] at hA3
    go_upto_region 7 with (refine wpList_store_ct rfl (.tmp 31) (.tmp 28) rfl g (o + m * 21) m c T pre _ (dropC c.p l ++ List.replicate (3 - m) z21) rfl rfl hA3 (by rw [HO.out]) (by rw [List.length_append, List.length_replicate, HM.out]; omega) ?_)
    intro w4 ha4 hg4
    rw [set_room HM.out hm2] at ha4
    have hlen : ((dropC c.p l ++ [c]) ++ List.replicate (3 - (m + 1)) z21).length = 3 := by simp [HM.out]; omega
    have hc4 := ha4.behind (o := o + 63) hlen (by rw [HO.out])
    have hf4 := ha4.frozen (o + 63)
    have HA4 := Lib.hid ha4
    have HLEN := Lib.hid hlen
    have HG4 : Hid (w.grownBy w4 (some g)) := grown_trans (grown_trans HG3.out (grown_below (Gr.below_of HXD.out) (Nat.le_refl _))) hg4
    have HC4 : Hid (CAt w4 (s + 1) 28 [] [z21] []) := (HC2.out.ext HXD.out).kept (hg4.block _ (Nat.lt_of_lt_of_le HLT.out HXD.out.size) (fun e => by have := HGS.out; have := Option.some.inj e; omega))
    clear ha4 hg4 hA3 hlen hcm HXD
    go_upto_region 8 with fail
    generalize hw5 : World.setCell w4 _ _ = w5
    obtain ⟨ha5, hg5⟩ := HA4.out.set_behind (o := o + 63) HLEN.out (by rw [HO.out]) hw5.symm
    have HB5 : Hid (BAt w5 g T pre (dropC c.p l ++ [c]) post) := ⟨by rw [List.length_append, HM.out]; show m + 1 ≤ 3; omega, by rw [List.length_append, HM.out]; exact ha5⟩
    have HC5 : Hid (CAt w5 (s + 1) 28 [] [z21] []) := HC4.out.kept (hg5.block _ HC4.out.lt (fun e => by have := HGS.out; have := Option.some.inj e; omega))
    have HG5 : Hid (w.grownBy w5 (some g)) := grown_trans HG4.out hg5
    clear hw5 ha5 hg5 hc4 hf4
    go_wp2_with (first | (refine wpList_store_ct rfl (.tmp 4) (.tmp 39) rfl (s + 1) 0 0 z21 28 [] [] [z21] rfl (by rfl) HC5.out rfl (Nat.zero_lt_one) ?_) | fail)
    intro w6 ha6 hg6
    have HP : Hid (BAt w6 g T pre (seeL l c) post ∧ w.grownBy w6 (some g) ∧ w6.rangeAt (s + 1) 0 (CL (seeX l c))) := by
      rw [HS.out.1, HS.out.2.1]
      exact ⟨HB5.out.grown hg6 (fun e => by have := HGS.out; have := Option.some.inj e; omega), grown_in HG5.out hg6 (fun y hy => by have := Option.some.inj hy; have := HWS.out; omega), ha6.range (o := 0) (k := 0) rfl Nat.zero_lt_one⟩
    clear ha6 hg6
    repeat (first | go_values | go_skip | go_guarded | go_step)
    refine bodyPost_ret (results_ct rfl _ _ (s + 1) (seeX l c) false (by rfl) (by rfl) HP.out.2.2) rfl ?_
    exact ⟨by rw [HS.out.2.2], HP.out.1, HP.out.2.1⟩
end Go.Proofs.Ytmbbhmmciidfnaa
