/- SolveTells: the rank of any rows, and which rows solve any, or why none, are the document's. -/
import Derived.Test.YtkpgdgmjeoogdaaLaw3
import Derived.Test.YtkpgdgmjeoogdaaRefSolve
import Derived.Test.YtkpgdgmjeoogdaaSame
namespace Go.Proofs.Ytkpgdgmjeoogdaa
open Go.RowKit Go.Deep
set_option linter.unusedVariables false
def BadArgs (n m : Int) (a b : Nat) : Prop := n < 1 ∨ 300 < n ∨ m < 1 ∨ 1000 < m ∨ a ≠ b
/-- What solving answers, whatever it is asked. -/
def AllRes (n m : Int) (ml dl : List (List Nat)) (X : List (List Nat)) (err : Nat) : Prop :=
  (BadArgs n m ml.length dl.length ∧ X = [] ∧ err = 1) ∨
  (¬ BadArgs n m ml.length dl.length ∧ ∃ res, SolveRes n.toNat m.toNat (· < ml.length) (rowsF n.toNat m.toNat ml dl) res ∧ X = res.getD [] ∧ err = errOf res)
theorem AllRes.uniq {n m : Int} {ml dl X Y : List (List Nat)} {a b : Nat} (hm : ∀ r ∈ ml, ∀ x ∈ r, x < 256) (hd : ∀ r ∈ dl, ∀ x ∈ r, x < 256) (h : AllRes n m ml dl X a) (h' : AllRes n m ml dl Y b) : X = Y ∧ a = b := by
  rcases h with ⟨hb, rfl, rfl⟩ | ⟨hb, r, hr, rfl, rfl⟩
  · rcases h' with ⟨_, rfl, rfl⟩ | ⟨hb', _⟩
    · exact ⟨rfl, rfl⟩
    · exact absurd hb hb'
  · rcases h' with ⟨hb', _⟩ | ⟨_, s, hs, rfl, rfl⟩
    · exact absurd hb' hb
    · rw [hr.uniq (fun j _ => rowsF_bd _ _ hm hd j) hs]; exact ⟨rfl, rfl⟩
def AllOut (w : World) (n m : Int) (ml dl : List (List Nat)) (e : Ending) (w' : World) : Prop :=
  ∃ v X err, e = .returned (.tuple #[v, .int .i64 (err : Nat)]) ∧ AllRes n m ml dl X err ∧ Below w.heap.size w w' ∧ Rws w' v X
theorem solve_all (n m : Int) (u v : Value) (ml dl : List (List Nat)) (w : World) (hu : Rws w u ml) (hv : Rws w v dl) : Calls Try.prog 20 #[.int .i64 n, .int .i64 m, u, v] w (AllOut w n m ml dl) := by
  by_cases hbad : BadArgs n m ml.length dl.length
  · refine (solve_bad n m u v ml dl w hu hv hbad).mono fun e w' ⟨he, hw⟩ => ?_
    subst hw
    exact ⟨nilS, [], 1, he, .inl ⟨hbad, rfl, rfl⟩, Below.refl _ _, Rws.nil _ _ _⟩
  · have hb := hbad
    unfold BadArgs at hb
    obtain ⟨W, rfl⟩ := Int.eq_ofNat_of_zero_le (show 0 ≤ n by omega)
    obtain ⟨S, rfl⟩ := Int.eq_ofNat_of_zero_le (show 0 ≤ m by omega)
    refine (solve_good W S u v ml dl w hu hv (by omega) (by omega) (by omega) (by omega) (by omega)).mono fun e w' ⟨res, v, hres, he, hb2, hr⟩ => ?_
    exact ⟨v, _, _, he, .inr ⟨hbad, res, hres, rfl, rfl⟩, hb2, hr⟩
theorem rsolve_all (n m : Int) (u v : Value) (ml dl : List (List Nat)) (w : World) (hu : Rws w u ml) (hv : Rws w v dl) (hl : ml.length ≤ 4000) : Calls Try.prog 21 #[.int .i64 n, .int .i64 m, u, v] w (AllOut w n m ml dl) := by
  by_cases hbad : BadArgs n m ml.length dl.length
  · refine (rsolve_bad n m u v ml dl w hu hv hbad).mono fun e w' ⟨he, hw⟩ => ?_
    subst hw
    exact ⟨nilS, [], 1, he, .inl ⟨hbad, rfl, rfl⟩, Below.refl _ _, Rws.nil _ _ _⟩
  · have hb := hbad
    unfold BadArgs at hb
    obtain ⟨W, rfl⟩ := Int.eq_ofNat_of_zero_le (show 0 ≤ n by omega)
    obtain ⟨S, rfl⟩ := Int.eq_ofNat_of_zero_le (show 0 ≤ m by omega)
    refine (rsolve_good W S u v ml dl w hu hv (by omega) (by omega) (by omega) (by omega) (by omega) hl).mono fun e w' ⟨res, v, hres, he, hb2, hr⟩ => ?_
    exact ⟨v, _, _, he, .inr ⟨hbad, res, hres, rfl, rfl⟩, hb2, hr⟩
theorem AllRes.len {n m : Int} {ml dl X : List (List Nat)} {a : Nat} (h : AllRes n m ml dl X a) : X.length ≤ 4000 := by
  rcases h with ⟨hb, rfl, rfl⟩ | ⟨hb, r, hr, rfl, rfl⟩
  · simp
  · unfold BadArgs at hb
    cases r with
    | none => simp
    | some X => have := hr.1; show X.length ≤ 4000; omega
set_option maxHeartbeats 2000000 in
theorem tellLaw_bad (n s : Int) (vm vd : Value) (m d : List (List Nat)) (w : World) (hm : Rws w vm m) (hd : Rws w vd d) (hml : ∀ k, (m.getD k []).length ≤ 140737488351232) (hdl : ∀ k, (d.getD k []).length ≤ 140737488351232)
    (hbad : few m = false ∨ few d = false ∨ 40 < n ∨ 60 < m.length ∨ 60 < d.length ∨ (100 < s ∧ s ≤ 1000)) :
    Calls Try.prog 5 #[.int .i64 n, .int .i64 s, vm, vd] w fun e w' => e = .returned (.bool true) ∧ Below w.heap.size w w' := by
  have HML := Lib.hid hml; clear hml
  have HDL := Lib.hid hdl; clear hdl
  have HM := Lib.hid hm
  have HD := Lib.hid hd
  have hm0 := hm.len
  have hm1 := hd.len
  obtain ⟨ma, mc, rfl, _⟩ := hm.slice
  obtain ⟨da, dc, rfl, _⟩ := hd.slice
  clear hm hd
  unfold maxLen at hm0 hm1
  have HB := Lib.hid hbad
  clear hbad
  generalize hmn : m.length = mn at *
  have HMN := Lib.hid hmn; clear hmn
  generalize hdn : d.length = dn at *
  have HDN := Lib.hid hdn; clear hdn
  go_enter Try.func5, Try.ntmps5
  go_wp2_with fail
  refine (alive3_any _).mono ?_
  rintro e w1 ⟨rfl, hb1⟩
  have HX1 := Lib.hid (Gr.ext_of hb1)
  clear hb1
  go_wp2_with fail
  refine (few_any _ m _ (HM.out.ext HX1.out) HML.out).mono ?_
  rintro e w0 ⟨rfl, hb0⟩
  have HX0 := Lib.hid (Gr.ext_trans HX1.out (Gr.ext_of hb0))
  clear hb0
  cases hf : few m with
  | false =>
    go_wp2_with fail
    all_goals
      go_ret
      exact ⟨rfl, Gr.below_of HX0.out⟩
  | true =>
    go_wp2_with fail
    refine (few_any _ d _ (HD.out.ext HX0.out) HDL.out).mono ?_
    rintro e w2 ⟨rfl, hb2⟩
    have HX2 := Lib.hid (Gr.ext_trans HX0.out (Gr.ext_of hb2))
    clear hb2
    cases hfd : few d with
    | false =>
      go_wp2_with fail
      all_goals
        go_ret
        exact ⟨rfl, Gr.below_of HX2.out⟩
    | true =>
      have hor : 40 < n ∨ 60 < mn ∨ 60 < dn ∨ (100 < s ∧ s ≤ 1000) := by
        rcases HB.out with h | h | h
        · rw [hf] at h; cases h
        · rw [hfd] at h; cases h
        · exact h
      clear HB
      go_wp2_with fail
      all_goals
        go_ret
        exact ⟨rfl, Gr.below_of HX2.out⟩
set_option maxHeartbeats 4000000 in
theorem tellLaw_main (n s : Int) (vm vd : Value) (m d : List (List Nat)) (w : World) (hm : Rws w vm m) (hd : Rws w vd d) (hml : ∀ k, (m.getD k []).length ≤ 140737488351232) (hdl : ∀ k, (d.getD k []).length ≤ 140737488351232)
    (hf : few m = true) (hfd : few d = true) (h1 : n ≤ 40) (h2 : m.length ≤ 60) (h3 : d.length ≤ 60) (h4 : s ≤ 100 ∨ 1000 < s) :
    Calls Try.prog 5 #[.int .i64 n, .int .i64 s, vm, vd] w fun e w' => e = .returned (.bool true) ∧ Below w.heap.size w w' := by
  have hmr := (few_yes m hf).2
  have hdr := (few_yes d hfd).2
  have HMR : Hid (∀ k, (m.getD k []).length ≤ 1000000000) := fun k => by have := hmr k; omega
  have HDR : Hid (∀ k, (d.getD k []).length ≤ 1000000000) := fun k => by have := hdr k; omega
  have HMLT := Lib.hid hm.all_lt
  have HDLT := Lib.hid hd.all_lt
  have HML := Lib.hid hml; clear hml
  have HDL := Lib.hid hdl; clear hdl
  have HF := Lib.hid hf; clear hf
  have HFD := Lib.hid hfd; clear hfd
  have HM := Lib.hid hm
  have HD := Lib.hid hd
  obtain ⟨ma, mc, rfl, _⟩ := hm.slice
  obtain ⟨da, dc, rfl, _⟩ := hd.slice
  clear hm hd hmr hdr
  have HMS := Lib.hid h2
  have HDS := Lib.hid h3
  generalize hmn : m.length = mn at *
  have HMN := Lib.hid hmn; clear hmn
  generalize hdn : d.length = dn at *
  have HDN := Lib.hid hdn; clear hdn
  go_enter Try.func5, Try.ntmps5
  go_wp2_with fail
  refine (alive3_any _).mono ?_
  rintro e w1 ⟨rfl, hb1⟩
  have HX1 := Lib.hid (Gr.ext_of hb1)
  clear hb1
  go_wp2_with fail
  refine (few_any _ m _ (HM.out.ext HX1.out) HML.out).mono ?_
  rintro e w0 ⟨rfl, hb0⟩
  rw [HF.out]
  have HX0 := Lib.hid (Gr.ext_trans HX1.out (Gr.ext_of hb0))
  clear hb0
  go_wp2_with fail
  refine (few_any _ d _ (HD.out.ext HX0.out) HDL.out).mono ?_
  rintro e w2 ⟨rfl, hb2⟩
  rw [HFD.out]
  have HX2 := Lib.hid (Gr.ext_trans HX0.out (Gr.ext_of hb2))
  clear hb2
  rcases h4 with h4 | h4
  all_goals
    go_wp2_with fail
    refine (to_any _ m _ (HM.out.ext HX2.out) (by rw [HMN.out]; omega) HMR.out).mono ?_
    rintro e w3 ⟨v3, rfl, hb3, hr3, _⟩
    have HL3 := Lib.hid hr3
    have HX3 := Lib.hid (Gr.ext_trans HX2.out (Gr.ext_of hb3))
    clear hb3 hr3
    go_wp2_with fail
    refine (to_any _ d _ (HD.out.ext HX3.out) (by rw [HDN.out]; omega) HDR.out).mono ?_
    rintro e w4 ⟨v4, rfl, hb4, hr4, _⟩
    have HL4 := Lib.hid hr4
    have HL3' := Lib.hid (HL3.out.below hb4 rfl)
    have HX4 := Lib.hid (Gr.ext_trans HX3.out (Gr.ext_of hb4))
    clear hb4 hr4 HL3
    go_wp2_with fail
    refine (solve_all n s _ _ m d _ HL3'.out HL4.out).mono ?_
    rintro e w5 ⟨x5, X, err, rfl, hres, hb5, hr5⟩
    have HRES := Lib.hid hres
    have HX5 := Lib.hid (Gr.ext_trans HX4.out (Gr.ext_of hb5))
    have HR5 := Lib.hid hr5
    clear hres hb5 hr5 HL3' HL4
    go_wp2_with fail
    refine (rsolve_all n s _ _ m d _ (HM.out.ext HX5.out) (HD.out.ext HX5.out) (by rw [HMN.out]; omega)).mono ?_
    rintro e w6 ⟨y6, Y, err', rfl, hres, hb6, hr6⟩
    obtain ⟨rfl, rfl⟩ := HRES.out.uniq HMLT.out HDLT.out hres
    have HX6 := Lib.hid (Gr.ext_trans HX5.out (Gr.ext_of hb6))
    have HR6 := Lib.hid (HR5.out.below hb6 rfl)
    have HY6 := Lib.hid hr6
    clear hres hb6 hr6 HR5
    go_wp2_with fail
    refine (to_any _ m _ (HM.out.ext HX6.out) (by rw [HMN.out]; omega) HMR.out).mono ?_
    rintro e w7 ⟨v7, rfl, hb7, hr7, _⟩
    have HL7 := Lib.hid hr7
    have HX7 := Lib.hid (Gr.ext_trans HX6.out (Gr.ext_of hb7))
    have HR7 := Lib.hid (HR6.out.below hb7 rfl)
    have HY7 := Lib.hid (HY6.out.below hb7 rfl)
    clear hb7 hr7 HR6 HY6
    go_wp2_with fail
    refine (rank_any n _ m _ HL7.out).mono ?_
    rintro e w8 ⟨r8, rfl, hk8, hb8⟩
    have HK8 := Lib.hid hk8
    have HX8 := Lib.hid (Gr.ext_trans HX7.out (Gr.ext_of hb8))
    have HR8 := Lib.hid (HR7.out.below hb8 rfl)
    have HY8 := Lib.hid (HY7.out.below hb8 rfl)
    clear hb8 hk8 HR7 HY7 HL7
    go_wp2_with fail
    refine (rrank_any n _ m _ (HM.out.ext HX8.out) (by rw [HMN.out]; omega)).mono ?_
    rintro e w9 ⟨r9, rfl, hk9, hb9⟩
    obtain rfl : r8 = r9 := HK8.out.uniq hk9
    have HX9 := Lib.hid (Gr.ext_trans HX8.out (Gr.ext_of hb9))
    have HR9 := Lib.hid (HR8.out.below hb9 rfl)
    have HY9 := Lib.hid (HY8.out.below hb9 rfl)
    clear hb9 hk9 HR8 HY8 HK8
    go_wp2_with fail
    refine (from_any _ X _ HR9.out HRES.out.len).mono ?_
    rintro e wa ⟨va, rfl, hxa, hra⟩
    have HXA := Lib.hid (Gr.ext_trans HX9.out hxa)
    have HRA := Lib.hid hra
    have HYA := Lib.hid (HY9.out.ext hxa)
    clear hxa hra HR9 HY9
    go_wp2_with fail
    refine (same_any _ _ X _ HRA.out HYA.out).mono ?_
    rintro e wb ⟨rfl, hbb⟩
    have HXB := Lib.hid (Gr.ext_trans HXA.out (Gr.ext_of hbb))
    clear hbb
    go_wp2_with fail
    refine (num_any _ _).mono ?_
    rintro e w' ⟨rfl, rfl⟩
    go_wp2
    go_ret
    exact ⟨rfl, Gr.below_of HXB.out⟩
theorem SolveTells_walk (n s : Int) (vm : Value) (m : List (List Nat)) (vd : Value) (d : List (List Nat)) (w : World) (_hn : (Lit.int .i64 n).wf = true) (_hs : (Lit.int .i64 s).wf = true)
    (hm : Rws w vm m ∧ ∀ k, (m.getD k []).length ≤ 140737488351232) (hd : Rws w vd d ∧ ∀ k, (d.getD k []).length ≤ 140737488351232) :
    Calls Try.prog 5 #[.int .i64 n, .int .i64 s, vm, vd] w fun e w' => e = .returned (.bool true) ∧ Below w.heap.size w w' := by
  by_cases h : few m = false ∨ few d = false ∨ 40 < n ∨ 60 < m.length ∨ 60 < d.length ∨ (100 < s ∧ s ≤ 1000)
  · exact tellLaw_bad n s vm vd m d w hm.1 hd.1 hm.2 hd.2 h
  · have hf : few m = true := by
      cases hf : few m with
      | true => rfl
      | false => exact absurd (Or.inl hf) h
    have hfd : few d = true := by
      cases hfd : few d with
      | true => rfl
      | false => exact absurd (Or.inr (Or.inl hfd)) h
    exact tellLaw_main n s vm vd m d w hm.1 hd.1 hm.2 hd.2 hf hfd (by omega) (by omega) (by omega) (by omega)
end Go.Proofs.Ytkpgdgmjeoogdaa
