/- In one text: DroTells, DroSame, DroLine. -/
import Derived.Test.YtghiiipeljhbjaaDoorM5
/- The first statement's function answers true. -/
namespace Go.Proofs.YtghiiipeljhbjaaDoor
open Go.RowKit Go.Deep
set_option linter.unusedVariables false
theorem conv_drow {w : World} {v : Value} {xs : List Nat} (h : U8s w v xs) : (convert 34 9 v).run Tryd.prog w = .ok (.string (strOf xs)) w := conv_any h _ _ _ Tryd.underlying34 Tryd.underlying5 Tryd.underlying9
theorem tells8_far (k j size esi : Int) (a : Option Addr) (n cap : Nat) (ve : Value) (w : World) (hT : Tab w) (hb : k < 0 ∨ 45 < k ∨ 60 < n) (hn : n ≤ maxLen) :
    Calls Tryd.prog 3 #[.int .i64 k, .int .i64 j, .int .i64 size, .slice a n cap, .int .i64 esi, ve] w fun e w' => e = .returned (.bool true) ∧ w.Extends w' := by
  have HA := Lib.hid (alive8_any w hT)
  unfold maxLen at hn
  clear hT
  by_cases c1 : k < 0
  rotate_left
  by_cases c2 : 45 < k
  rotate_left
  have c3 : 60 < n := by omega
  all_goals
    clear hb
    go_enter Tryd.func3, Tryd.ntmps3
    go_wp2_with fail
    refine HA.out.mono ?_
    rintro e w1 ⟨rfl, hx1⟩
    have HX1 := Lib.hid hx1
    clear hx1
    go_wp2
    go_ret
    exact ⟨rfl, HX1.out⟩
theorem tells8_many (k j size esi : Int) (vc : Value) (c : List (List Nat)) (ae : Option Addr) (ne cape : Nat) (w : World) (hT : Tab w) (hc : Rws w vc c) (hml : ∀ k, (c.getD k []).length ≤ 140737488351232) (h0 : 0 ≤ k) (h1 : k ≤ 45) (h2 : c.length ≤ 60) (hne : ne ≤ maxLen) (hb : few c = false ∨ 20 < ne) :
    Calls Tryd.prog 3 #[.int .i64 k, .int .i64 j, .int .i64 size, vc, .int .i64 esi, .slice ae ne cape] w fun e w' => e = .returned (.bool true) ∧ w.Extends w' := by
  have HA := Lib.hid (alive8_any w hT)
  have HF := Lib.hid (fun w hv => few_any vc c w hv hml)
  have HC := Lib.hid hc
  obtain ⟨a, cap, rfl, _⟩ := hc.slice
  unfold maxLen at hne
  clear hT hc hml
  generalize few c = fb at *
  generalize c.length = n at *
  cases fb
  rotate_left
  have c3 : 20 < ne := by simpa using hb
  all_goals
    clear hb
    go_enter Tryd.func3, Tryd.ntmps3
    go_wp2_with fail
    refine HA.out.mono ?_
    rintro e w1 ⟨rfl, hx1⟩
    have HX1 := Lib.hid hx1
    clear hx1
    go_wp2_with fail
    refine (HF.out w1 (HC.out.ext HX1.out)).mono ?_
    rintro e w2 ⟨rfl, hb2⟩
    have HX2 := Lib.hid (Gr.ext_trans HX1.out (Gr.ext_of hb2))
    clear hb2
    go_wp2
    go_ret
    exact ⟨rfl, HX2.out⟩
set_option maxHeartbeats 1000000 in
theorem tells8_near (k j size esi : Int) (vc ve : Value) (c : List (List Nat)) (es : List Int) (k' s' h' er : Int) (d : Int → List Nat) (w : World) (hT : Tab w) (hc : Rws w vc c) (hv : Ints w ve es) (hml : ∀ k, (c.getD k []).length ≤ 140737488351232) (h0 : 0 ≤ k) (h1 : k ≤ 45) (h2 : c.length ≤ 60) (hf : few c = true) (h3 : es.length ≤ 20) (ha : Asked8 k j size c k' s' h' er d) :
    Calls Tryd.prog 3 #[.int .i64 k, .int .i64 j, .int .i64 size, vc, .int .i64 esi, ve] w fun e w' => e = .returned (.bool true) ∧ w.Extends w' := by
  have HA := Lib.hid (alive8_any w hT)
  have HF : Hid (∀ w, Rws w vc c → Calls Tryd.prog 6 #[vc] w fun e w' => e = .returned (.bool true) ∧ w.Extends w') := fun w hv => by
    have := few_any vc c w hv hml
    rw [hf] at this
    exact this.mono fun _ _ h => ⟨h.1, Gr.ext_of h.2⟩
  have hfy := (few_yes c hf).2
  have HTO := Lib.hid (fun w hv => to_any vc c w hv (by omega) (fun k => by have := hfy k; omega))
  have HK := Lib.hid ha
  have HT := Lib.hid hT
  have HC := Lib.hid hc
  have HV := Lib.hid hv
  have HYES := Lib.hid (DM.all_yes d es)
  have HNO := Lib.hid (DM.all_no d es)
  have HMS := Lib.hid (DM.map_snoc d es)
  have HAL : Hid ((DM.all d es).length ≤ 4000) := by
    have := DM.all_length d es
    show _ ≤ _; omega
  obtain ⟨a, cap, rfl, _⟩ := hc.slice
  obtain ⟨ae, cape, rfl, _, _⟩ := hv.slice
  have HCL := Lib.hid hv.cell.2
  clear hT hc hv hml hf ha hfy
  generalize c.length = nc at *
  obtain ⟨n, hn⟩ : ∃ n, n = es.length := ⟨_, rfl⟩
  rw [← hn] at HCL h3 HV ⊢
  have HN := Lib.hid hn
  clear hn
  obtain ⟨i1, hi', hz0', hz1', hz2'⟩ := info_parts bytesinfo
  have HI' := Lib.hid hi'; clear hi'
  have HZ0' := Lib.hid hz0'; clear hz0'
  have HZ1' := Lib.hid hz1'; clear hz1'
  have HZ2' := Lib.hid hz2'; clear hz2'
  go_enter Tryd.func3, Tryd.ntmps3
  go_wp2_with fail
  refine HA.out.mono ?_
  rintro e w1 ⟨rfl, hx1⟩
  have HX1 := Lib.hid hx1
  clear hx1 HA
  go_wp2_with fail
  refine (HF.out w1 (HC.out.ext HX1.out)).mono ?_
  rintro e w2 ⟨rfl, hx2⟩
  have HX2 := Lib.hid (Gr.ext_trans HX1.out hx2)
  clear hx2 HX1 HF
  go_wp2_with fail
  refine (HK.out.of w2).mono ?_
  rintro e w3 ⟨rfl, hx3⟩
  have HX3 := Lib.hid (Gr.ext_trans HX2.out hx3)
  clear hx3 HX2
  go_wp2_with fail
  generalize hw4 : World.alloc w3 _ = w4
  have hx4 : w3.Extends w4 := by subst hw4; exact prm_ext_alloc _ _
  have hp : PAt w4 w3.heap.size k' s' h' := by subst hw4; exact PAt.new w3 27 k' s' h'
  generalize w3.heap.size = b at hp ⊢
  clear hw4
  have HX4 := Lib.hid (Gr.ext_trans HX3.out hx4)
  have HP4 := Lib.hid hp
  clear hx4 hp HX3
  refine (HTO.out w4 (HC.out.ext HX4.out)).mono ?_
  rintro e w5 ⟨vr, rfl, hb5, hr5, _⟩
  have HX5 := Lib.hid (Gr.ext_drew (Gr.ext_trans HX4.out (Gr.ext_of hb5)))
  have HP5 := Lib.hid ((HP4.out.ext (Gr.ext_of hb5)).ext (Gr.ext_drew (Gr.ext_refl w5)))
  have HR5 := Lib.hid (hr5.ext (Gr.ext_drew (Gr.ext_refl w5)))
  clear hb5 hr5 HX4 HP4 HTO
  go_wp2_with fail
  refine Gr.region 14 [(false,0),(false,1),(false,2),(false,3),(false,4),(false,7),(false,8),(false,9),(false,10),(false,11),(true,5),(false,6),(true,12),(false,13)] (by kernel_rfl) (by kernel_rfl) (fun d _ _ _ _ h => by cases d <;> exact h) ?_
  simp only [Gr.pick, List.getElem?_cons_zero, List.getElem?_cons_succ, List.drop_succ_cons, List.drop_zero]
  generalize w5.drew = w6 at *
  iterate 10
    refine Gr.walk_t ?_ (Or.inl ⟨by rfl, ?_⟩) ?_
    rotate_left
    · intro w' hw'
      obtain ⟨p0, p1, p2⟩ := HP5.out.ext hw'
      clear hw'
      go_simp
      try with_reducible rfl
    simp only [Act.put, List.setIfInBounds_toArray, List.set_cons_zero, List.set_cons_succ]
  refine Gr.walk_c (fun K hK => ?_)
  go_simp
  refine (HK.out.drop esi vr w6 (HT.out.ext HX5.out) HR5.out).mono ?_
  rintro e w7 ⟨v7, rfl, hx7, hok7⟩
  have HU7 := Lib.hid hok7.1
  have HX7 := Lib.hid (Gr.ext_trans HX5.out hx7)
  have HP7 := Lib.hid (HP5.out.ext hx7)
  have HR7 := Lib.hid (HR5.out.ext hx7)
  clear hok7
  try go_simp
  refine hK.out _ _ (hx7) ?_
  clear hK K
  clear hx7 HX5 HP5 HR5
  refine Gr.walk_t ?_ (Or.inl ⟨by rfl, ?_⟩) ?_
  rotate_left
  · intro w' hw'
    have hv7 := conv_drow (HU7.out.ext hw')
    clear hw'
    go_simp
    try with_reducible rfl
  simp only [Act.put, List.setIfInBounds_toArray, List.set_cons_zero, List.set_cons_succ]
  refine Gr.walk_c (fun K hK => ?_)
  go_simp
  refine (HK.out.refDrop esi _ w7 (HC.out.ext HX7.out)).mono ?_
  rintro e w8 ⟨v8, rfl, hx8, hok8⟩
  have HU8 := Lib.hid hok8.1
  have HX8 := Lib.hid (Gr.ext_trans HX7.out hx8)
  have HP8 := Lib.hid (HP7.out.ext hx8)
  have HR8 := Lib.hid (HR7.out.ext hx8)
  clear hok8
  try go_simp
  refine hK.out _ _ (hx8) ?_
  clear hK K
  clear hx8 HX7 HP7 HR7
  refine Gr.walk_t ?_ (Or.inl ⟨by rfl, ?_⟩) ?_
  rotate_left
  · intro w' hw'
    have hv8 := conv_b (HU8.out.ext hw')
    clear hw'
    go_simp
    try with_reducible rfl
  simp only [Act.put, List.setIfInBounds_toArray, List.set_cons_zero, List.set_cons_succ]
  refine Gr.walk_nil ?_
  clear HU7 HU8
  go_wp2_with fail
  go_loopw [17, 18] (fun o i wr => ∃ q : Nat, q ≤ n ∧ i = .int .i64 q ∧ Hid (w8.Extends wr) ∧ Hid (∀ i, i < q → 0 < (d (es.getD i 0)).length) ∧ Hid (Mats wr w8.heap.size 0 33 o q ((es.take q).map d))) (fun _ i _ => (n - intOf i).toNat)
  case atStart => exact ⟨0, by omega, rfl, Lib.hid (Gr.ext_refl _), Lib.hid (fun j hj => absurd hj (Nat.not_lt_zero _)), Lib.hid (Mats.nil _ _ _ _ _)⟩
  case round =>
    obtain ⟨q, hq, rfl, HX, HG, HM⟩ := hrel
    by_cases h5 : q < n
    · have hen : q < es.length := by have := HN.out; omega
      obtain ⟨bp, off, rfl, hbp, hc⟩ := HCL.out (by omega)
      have hc1 := (Gr.ext_trans HX8.out HX.out).cell_of (hc q h5)
      have HS1 := Lib.hid (HMS.out q hen)
      have HNO1 := Lib.hid (HNO.out q hen)
      clear hc hbp
      have HGS : Hid (0 < (d (es.getD q 0)).length → ∀ i, i < q + 1 → 0 < (d (es.getD i 0)).length) := fun h0 i hi => by
        by_cases hiq : i < q
        · exact HG.out i hiq
        · obtain rfl : i = q := by omega
          exact h0
      have HDQ := Lib.hid (HK.out.refDrop (es.getD q 0) _ wr (HC.out.ext (Gr.ext_trans HX8.out HX.out)))
      generalize es.getD q 0 = x at *
      generalize hrow : d x = row at HS1 HNO1 HGS HDQ
      clear hrow
      go_wp2_with fail
      refine HDQ.out.mono ?_
      rintro _ wq ⟨v, rfl, hxq, hok⟩
      obtain ⟨ra, rc, rfl, _, _⟩ := hok.1.slice
      have HOK := Lib.hid hok
      have HXQ := Lib.hid (Gr.ext_trans HX.out hxq)
      obtain ⟨vs, hown, hrows⟩ := HM.out.ext hxq
      have HOWN := Lib.hid hown
      have HROWS := Lib.hid hrows
      have HOB : Hid (∀ g, u17.ownBlock = some g → w8.heap.size ≤ g) := fun g hg => (HOWN.out.lt g hg).1
      have hbs := HXQ.out.size
      have HPQ : Hid (q = ((es.take q).map d).length) := by
        show _ = _; rw [List.length_map, List.length_take, ← HN.out]; omega
      clear hown hrows hxq hok HM HDQ hc1
      by_cases h0 : row.length = 0
      · have HXR := HXQ
        clear HXQ
        have HXQ := Lib.hid (Gr.ext_trans HX8.out HXR.out)
        have HW9 : Hid (Rws wq (.slice none 0 0) (DM.all d es)) := by
          show Rws _ _ _
          rw [HNO1.out h0]; exact Rws.nil _ _ _
        have HP9 := Lib.hid (HP8.out.ext HXR.out)
        have HRQ := Lib.hid (HR8.out.ext HXR.out)
        have HVQ := Lib.hid (HV.out.ext HXQ.out)
        clear HOWN HROWS HOB HPQ HXR HX HP8 HR8 HOK HGS HNO1 HS1 HG
        rw [h0]
        clear h0
        obtain ⟨p0, p1, p2⟩ := HP9.out
        go_wp2_with fail
        refine (drops_any k' s' h' j size vr _ es d wq (by have := HN.out; omega) (HVQ.out) (fun e w' hw' => HK.out.drop e vr w' (HT.out.ext (Gr.ext_trans HXQ.out hw')) (HRQ.out.ext hw'))).mono ?_
        rintro e wa ⟨va, rfl, hxa, hra⟩
        have HXA := Lib.hid (Gr.ext_trans HXQ.out hxa)
        have HWA := Lib.hid (HW9.out.ext hxa)
        have HRA := Lib.hid hra
        clear hxa hra p0 p1 p2
        go_wp2_with fail
        refine (from_any va _ wa HRA.out HAL.out).mono ?_
        rintro e wb ⟨vb, rfl, hxb, hrb⟩
        have HXB := Lib.hid (Gr.ext_trans HXA.out hxb)
        have HWB := Lib.hid (HWA.out.ext hxb)
        have HRB := Lib.hid hrb
        clear hxb hrb
        go_wp2_with fail
        refine (same_any vb _ _ wb HRB.out HWB.out).mono ?_
        rintro e wc ⟨rfl, hbc⟩
        have HXC := Lib.hid (Gr.ext_trans HXB.out (Gr.ext_of hbc))
        clear hbc
        go_wp2
        go_ret
        exact ⟨rfl, HXC.out⟩
      · have hlen0 : ((row.length : Int) == 0) = false := by rw [beq_eq_false_iff_ne]; omega
        have HG2 := Lib.hid (HGS.out (by omega))
        go_wp2_with (at_builtin; refine wpList_append_own_src _ rfl _ _ 22 22 rfl w8.heap.size 33 i1 (.slice none 0 0) 1 24 Tryd.underlying22 HI'.out HZ0'.out HZ1'.out HZ2'.out rfl _ _ _ rfl (HOWN.out.alloc _) _ 1 [.slice ra row.length rc] rfl (src_one Tryd.underlying22 _ _ rfl rfl) (by unfold maxLen; omega) (by omega) (by simp; omega) ?_)
        intro v' w9 ho9 hg9 _
        have HP : Hid (w8.Extends w9 ∧ Mats w9 w8.heap.size 0 33 v' (q + 1) ((es.take (q + 1)).map d)) := by
          refine ⟨Gr.ext_of (((Gr.below_of HXQ.out).alloc hbs _).grown hg9 (by simp; omega) HOB.out), ?_⟩
          rw [← HS1.out]
          exact Mats.snoc (Nat.zero_le _) (by decide) HPQ.out (HOWN.out.alloc _) (fun j hj => by obtain ⟨u, h1, h2⟩ := HROWS.out j hj; exact ⟨u, h1, h2.ext (ext_alloc _ _)⟩) (HOK.out.ext (ext_alloc _ _)) hg9 ho9
        clear ho9 hg9
        go_wp2
        go_roundw
        case rel => exact ⟨q + 1, by omega, by go_num, Lib.hid HP.out.1, HG2, Lib.hid HP.out.2⟩
        case measure => simp [intOf]; omega
    · obtain rfl : q = n := by omega
      have HXQ := Lib.hid (Gr.ext_trans HX8.out HX.out)
      have HW9 : Hid (Rws wr u17 (DM.all d es)) := by
        show Rws _ _ _
        rw [HYES.out (fun i hi => HG.out i (by have := HN.out; omega))]
        have h := HM.out.rws (by rw [List.length_map, List.length_take, ← HN.out]; omega)
        rw [HN.out, List.take_length] at h
        exact h
      have HP9 := Lib.hid (HP8.out.ext HX.out)
      have HRQ := Lib.hid (HR8.out.ext HX.out)
      have HVQ := Lib.hid (HV.out.ext HXQ.out)
      clear HX HP8 HR8 HM HG
      obtain ⟨p0, p1, p2⟩ := HP9.out
      go_wp2_with fail
      refine (drops_any k' s' h' j size vr _ es d wr (by have := HN.out; omega) (HVQ.out) (fun e w' hw' => HK.out.drop e vr w' (HT.out.ext (Gr.ext_trans HXQ.out hw')) (HRQ.out.ext hw'))).mono ?_
      rintro e wa ⟨va, rfl, hxa, hra⟩
      have HXA := Lib.hid (Gr.ext_trans HXQ.out hxa)
      have HWA := Lib.hid (HW9.out.ext hxa)
      have HRA := Lib.hid hra
      clear hxa hra p0 p1 p2
      go_wp2_with fail
      refine (from_any va _ wa HRA.out HAL.out).mono ?_
      rintro e wb ⟨vb, rfl, hxb, hrb⟩
      have HXB := Lib.hid (Gr.ext_trans HXA.out hxb)
      have HWB := Lib.hid (HWA.out.ext hxb)
      have HRB := Lib.hid hrb
      clear hxb hrb
      go_wp2_with fail
      refine (same_any vb _ _ wb HRB.out HWB.out).mono ?_
      rintro e wc ⟨rfl, hbc⟩
      have HXC := Lib.hid (Gr.ext_trans HXB.out (Gr.ext_of hbc))
      clear hbc
      go_wp2
      go_ret
      exact ⟨rfl, HXC.out⟩
theorem DropsTell_walk (k j size : Int) (vc : Value) (c : List (List Nat)) (esi : Int) (ve : Value) (es : List Int) (w : World) (_ : -9223372036854775808 ≤ k ∧ k ≤ 9223372036854775807) (_ : -9223372036854775808 ≤ j ∧ j ≤ 9223372036854775807) (_ : -9223372036854775808 ≤ size ∧ size ≤ 9223372036854775807)
    (hc : Rws w vc c ∧ ∀ k, (c.getD k []).length ≤ 140737488351232) (_ : -9223372036854775808 ≤ esi ∧ esi ≤ 9223372036854775807) (hv : Ints w ve es ∧ ∀ x ∈ es, -9223372036854775808 ≤ x ∧ x ≤ 9223372036854775807) (hT : Tab w) :
    Calls Tryd.prog 3 #[.int .i64 k, .int .i64 j, .int .i64 size, vc, .int .i64 esi, ve] w fun e w' => e = .returned (.bool true) ∧ Below w.heap.size w w' := by
  suffices H : Calls Tryd.prog 3 #[.int .i64 k, .int .i64 j, .int .i64 size, vc, .int .i64 esi, ve] w fun e w' => e = .returned (.bool true) ∧ w.Extends w' from H.mono fun e w' h => ⟨h.1, Gr.below_of h.2⟩
  obtain ⟨hc, hml⟩ := hc
  obtain ⟨hv, _⟩ := hv
  by_cases hb : k < 0 ∨ 45 < k ∨ 60 < c.length
  · have hm := hc.len
    obtain ⟨a, cap, rfl, _⟩ := hc.slice
    exact tells8_far k j size esi a c.length cap ve w hT hb hm
  · by_cases hb2 : few c = false ∨ 20 < es.length
    · have hm := hv.len
      obtain ⟨a, cap, rfl, _, _⟩ := hv.slice
      exact tells8_many k j size esi vc c a es.length cap w hT hc hml (by omega) (by omega) (by omega) hm hb2
    · obtain ⟨k', s', h', er, d, ha⟩ := asked8 k j size c
      have hf : few c = true := by
        cases h : few c with
        | true => rfl
        | false => exact absurd (Or.inl h) hb2
      exact tells8_near k j size esi vc ve c es k' s' h' er d w hT hc hv hml (by omega) (by omega) (by omega) hf (by omega) ha
end Go.Proofs.YtghiiipeljhbjaaDoor
/- DropsLine where all is within its limits. -/
namespace Go.Proofs.YtghiiipeljhbjaaDoor
open Go.RowKit Go.Deep
set_option linter.unusedVariables false
set_option maxHeartbeats 2000000 in
set_option maxRecDepth 100000 in
theorem line_near (k j size esi : Nat) (va vb : Value) (a b : List (List Nat)) (w : World) (hT : Tab w) (k1 : 1 ≤ k) (k2 : k ≤ 40) (hj : j ≤ 255) (s1 : 1 ≤ size) (s2 : size ≤ 64) (ha : Rws w va a) (hb : Rws w vb b) (hma : ∀ k, (a.getD k []).length ≤ 140737488351232) (hmb : ∀ k, (b.getD k []).length ≤ 140737488351232) (hla : a.length = PM.l k) (hlb : b.length = a.length)
    (hfa : few a = true) (hfb : few b = true) (he : esi < 16777216) :
    Calls Tryd.prog 4 #[.int .i64 k, .int .i64 j, .int .i64 size, va, vb, .int .i64 esi] w fun e w' => e = .returned (.bool true) ∧ w.Extends w' := by
  have HA := Lib.hid (alive8_any w hT)
  have hl2 := PM.l_le k k2
  have HL := Lib.hid (fun w => refL_any k w (by omega))
  have HFA : Hid (∀ w, Rws w va a → Calls Tryd.prog 6 #[va] w fun e w' => e = .returned (.bool true) ∧ w.Extends w') := fun w hv => by
    have := few_any va a w hv hma
    rw [hfa] at this
    exact this.mono fun _ _ h => ⟨h.1, Gr.ext_of h.2⟩
  have HFB : Hid (∀ w, Rws w vb b → Calls Tryd.prog 6 #[vb] w fun e w' => e = .returned (.bool true) ∧ w.Extends w') := fun w hv => by
    have := few_any vb b w hv hmb
    rw [hfb] at this
    exact this.mono fun _ _ h => ⟨h.1, Gr.ext_of h.2⟩
  have hra := (few_yes a hfa).2
  have hrb := (few_yes b hfb).2
  have hbl := DM.both_length size a b
  have hbr := DM.both_row size a b
  have HTA := Lib.hid (fun w hv => to_any va a w hv (by omega) (fun k => by have := hra k; omega))
  have HTB := Lib.hid (fun w hv => to_any vb b w hv (by omega) (fun k => by have := hrb k; omega))
  have HTC := Lib.hid (fun v w hv => to_any v (DM.both size a b) w hv (by omega) (fun k => by have := hbr k; omega))
  have HDA := Lib.hid (fun v w hv hT => drop_some k j size esi v a w k1 k2 hj he s1 s2 hla hv hT)
  have HDB := Lib.hid (fun v w hv hT => drop_some k j size esi v b w k1 k2 hj he s1 s2 (by omega) hv hT)
  have HDC := Lib.hid (fun v w hv hT => drop_some k j size esi v (DM.both size a b) w k1 k2 hj he s1 s2 (by omega) hv hT)
  have HLA := Lib.hid (DM.drop_length k j size a esi)
  have HLB := Lib.hid (DM.drop_length k j size b esi)
  have HLC := Lib.hid (DM.drop_length k j size (DM.both size a b) esi)
  have HEQ := Lib.hid (DM.drop_both k j size a b esi hla)
  have HBA : Hid (∀ n, n = a.length → DM.bothTo size a b n = DM.both size a b) := fun n e => by subst e; rfl
  generalize DM.both size a b = c at *
  generalize DM.drop k j size a esi = x at *
  generalize DM.drop k j size b esi = y at *
  generalize DM.drop k j size c esi = z at *
  have HBS := Lib.hid (DM.bothTo_succ size a b)
  have HBN := Lib.hid (DM.bothTo_length size a b)
  have HB0 := Lib.hid (DM.bothTo_zero size a b)
  have HCUT : Hid (RM.cut (size : Int) = size) := by show _ = _; unfold RM.cut; omega
  have HO := Lib.hid (fun w => prmOf_good k w k1 k2)
  have HVA := Lib.hid ha
  have HVB := Lib.hid hb
  have HT := Lib.hid hT
  obtain ⟨aa, ca, rfl, _⟩ := ha.slice
  obtain ⟨ab, cb, rfl, _⟩ := hb.slice
  have HAA := Lib.hid ha.at.2
  have HBB := Lib.hid hb.at.2
  clear hT ha hb hma hmb hfa hfb hra hrb hbl hbr
  rw [hlb, hla] at HBB HFB HVB HTB ⊢
  rw [hla] at HAA HFA HVA HTA HBA
  generalize PM.l k = L at *
  generalize PM.s k = m at *
  obtain ⟨i1, hi', hz0', hz1', hz2'⟩ := info_parts bytesinfo
  have HI' := Lib.hid hi'; clear hi'
  have HZ0' := Lib.hid hz0'; clear hz0'
  have HZ1' := Lib.hid hz1'; clear hz1'
  have HZ2' := Lib.hid hz2'; clear hz2'
  clear hla hlb
  go_enter Tryd.func4, Tryd.ntmps4
  go_wp2_with fail
  refine HA.out.mono ?_
  rintro e w1 ⟨rfl, hx1⟩
  have HX1 := Lib.hid hx1
  clear hx1 HA
  go_wp2_with fail
  refine (HL.out w1).mono ?_
  rintro e w2 ⟨rfl, rfl⟩
  go_wp2_with fail
  refine (HFA.out w1 (HVA.out.ext HX1.out)).mono ?_
  rintro e w2 ⟨rfl, hx2⟩
  have HX2 := Lib.hid (Gr.ext_trans HX1.out hx2)
  clear hx2 HX1
  go_wp2_with fail
  refine (HFB.out w2 (HVB.out.ext HX2.out)).mono ?_
  rintro e w3 ⟨rfl, hx3⟩
  have HX3 := Lib.hid (Gr.ext_trans HX2.out hx3)
  clear hx3 HX2
  go_wp2_with fail
  refine (HO.out w3).mono ?_
  rintro e w4 ⟨rfl, hx4⟩
  have HX4 := Lib.hid (Gr.ext_trans HX3.out hx4)
  clear hx4 HX3
  go_wp2_with fail
  generalize hw5 : World.alloc w4 _ = w5
  have hx5 : w4.Extends w5 := by subst hw5; exact prm_ext_alloc _ _
  have hp : PAt w5 w4.heap.size k m 2 := by subst hw5; exact PAt.new w4 27 k m 2
  obtain ⟨bp, hbp⟩ : ∃ bp, bp = w4.heap.size := ⟨_, rfl⟩
  rw [← hbp] at hp ⊢
  clear hw5 hbp
  have HX5 := Lib.hid (Gr.ext_trans HX4.out hx5)
  have HP5 := Lib.hid hp
  clear hx5 hp HX4 HFA HFB HO HL
  go_loopw [16, 17] (fun o i wr => ∃ q : Nat, q ≤ L ∧ i = .int .i64 q ∧ Hid (w5.Extends wr) ∧ Hid (Mats wr w5.heap.size 0 33 o q (DM.bothTo size a b q))) (fun _ i _ => (L - intOf i).toNat)
  case atStart => exact ⟨0, by omega, rfl, Lib.hid (Gr.ext_refl _), Lib.hid (Mats.nil _ _ _ _ _)⟩
  case round =>
    obtain ⟨q, hq, rfl, HX, HM⟩ := hrel
    by_cases h5 : q < L
    · obtain ⟨b1, o1, rfl, hb1, hc1⟩ := HAA.out (by omega)
      obtain ⟨b2, o2, rfl, hb2, hc2⟩ := HBB.out (by omega)
      obtain ⟨ra, rc, hc3, hr0⟩ := hc1 q h5
      obtain ⟨rb, rd, hc4, hr1⟩ := hc2 q h5
      have HXW := Lib.hid (Gr.ext_drew (Gr.ext_trans HX5.out HX.out))
      have HL1 : Hid (∀ w', wr.drew.Extends w' → w'.cell? ⟨b1, o1 + q, none⟩ = some (.slice ra (a.getD q []).length rc)) := fun w' hw' => (Gr.ext_trans HXW.out hw').cell_of hc3
      have HL2 : Hid (∀ w', wr.drew.Extends w' → w'.cell? ⟨b2, o2 + q, none⟩ = some (.slice rb (b.getD q []).length rd)) := fun w' hw' => (Gr.ext_trans HXW.out hw').cell_of hc4
      have HR1 := Lib.hid (hr0.ext HXW.out)
      have HR2 := Lib.hid (hr1.ext HXW.out)
      clear hc1 hc2 hc3 hc4 hr0 hr1 hb1 hb2
      have HS1 := Lib.hid (HBS.out q)
      have HXD := Lib.hid (Gr.ext_drew HX.out)
      have HMD := Lib.hid (HM.out.ext (Gr.ext_drew (Gr.ext_refl wr)))
      clear HX HM
      generalize a.getD q [] = xs at *
      generalize b.getD q [] = ys at *
      go_wp2_with fail
      refine Gr.region 13 [(false,0),(false,1),(false,2),(false,3),(false,4),(false,5),(false,6),(false,7),(false,8),(false,9),(true,10),(true,11),(true,12)] (by kernel_rfl) (by kernel_rfl) (fun d _ _ _ _ h => by cases d <;> exact h) ?_
      simp only [Gr.pick, List.getElem?_cons_zero, List.getElem?_cons_succ, List.drop_succ_cons, List.drop_zero]
      generalize wr.drew = ws at *
      iterate 10
        refine Gr.walk_t ?_ (Or.inl ⟨by rfl, ?_⟩) ?_
        rotate_left
        · intro w' hw'
          have hc1 := HL1.out w' hw'
          have hc2 := HL2.out w' hw'
          clear hw'
          go_simp
          try with_reducible rfl
        simp only [Act.put, List.setIfInBounds_toArray, List.set_cons_zero, List.set_cons_succ]
      refine Gr.walk_c (fun K hK => ?_)
      go_simp
      generalize hw : World.alloc _ _ = w6
      have hx : ws.Extends w6 := by subst hw; exact ext_alloc _ _
      have HR6 : Hid (Rws w6 (.slice (some ⟨ws.heap.size, 0, none⟩) 2 2) [xs, ys]) := by subst hw; exact rws_two ws _ _ _ _ _ _ HR1.out HR2.out
      have HX6 := Lib.hid (Gr.ext_trans HXD.out hx)
      have HM6 := Lib.hid (HMD.out.ext hx)
      clear hw HR1 HR2 HL1 HL2 HXW HXD HMD
      refine hK.out _ _ hx ?_
      clear hK K hx
      refine Gr.walk_c (fun K hK => ?_)
      go_simp
      refine (rsum_any (size : Int) _ [xs, ys] w6 HR6.out).mono ?_
      rintro e w7 ⟨rfl, hb7, ho7⟩
      rw [HCUT.out] at ho7 ⊢
      have HOK : Hid (RowOk w7 0 (.slice (some ⟨w6.heap.size, 0, none⟩) size size) (RM.sum size [xs, ys])) := RowOk.own ho7 0 (RM.sum_length _ _).symm (RM.sum_length _ _).symm
      have HX7 := Lib.hid (Gr.ext_trans HX6.out (Gr.ext_of hb7))
      have HM7 := Lib.hid (HM6.out.ext (Gr.ext_of hb7))
      clear ho7 HX6 HM6 HR6
      try go_simp
      refine hK.out _ _ (Gr.ext_of hb7) ?_
      clear hK K
      clear hb7
      generalize w6.heap.size = g6 at *
      generalize RM.sum size [xs, ys] = row at *
      refine Gr.walk_c (fun K hK => ?_)
      go_simp
      generalize hw : World.alloc _ _ = w8
      have hx : w7.Extends w8 := by subst hw; exact ext_alloc _ _
      have HSRC : Hid (Src Tryd.prog 1 22 (.slice (some ⟨w7.heap.size, 0, none⟩) 1 1) 1 [.slice (some ⟨g6, 0, none⟩) size size] w8) := by subst hw; exact src_one (W := w7) (u := .slice (some ⟨g6, 0, none⟩) size size) Tryd.underlying22 _ _ rfl rfl
      have HX8 := Lib.hid (Gr.ext_trans HX7.out hx)
      have HM8 := Lib.hid (HM7.out.ext hx)
      have HOK8 := Lib.hid (HOK.out.ext hx)
      clear hw HOK HX7 HM7
      refine hK.out _ _ hx ?_
      clear hK K hx
      refine Gr.walk_nil ?_
      obtain ⟨vs, hown, hrows⟩ := HM8.out
      have HOWN := Lib.hid hown
      have HROWS := Lib.hid hrows
      have HOB : Hid (∀ g, u16.ownBlock = some g → w5.heap.size ≤ g) := fun g hg => (HOWN.out.lt g hg).1
      have hbs := HX8.out.size
      have HBQ := Lib.hid (HBN.out q)
      clear hown hrows HM8
      refine wpList_append_own_src _ rfl (.tmp 92) (.tmp 104) 22 22 rfl w5.heap.size 33 i1 (.slice none 0 0) 1 24 Tryd.underlying22 HI'.out HZ0'.out HZ1'.out HZ2'.out rfl u16 q _ rfl HOWN.out _ 1 _ rfl HSRC.out (by unfold maxLen; omega) (by omega) hbs ?_
      intro v' w9 ho9 hg9 _
      have HP : Hid (w5.Extends w9 ∧ Mats w9 w5.heap.size 0 33 v' (q + 1) (DM.bothTo size a b (q + 1))) := by
        refine ⟨Gr.ext_of ((Gr.below_of HX8.out).grown hg9 hbs HOB.out), ?_⟩
        rw [← HS1.out]
        exact Mats.snoc (Nat.zero_le _) (by decide) HBQ.out.symm HOWN.out HROWS.out HOK8.out hg9 ho9
      clear ho9 hg9
      go_wp2
      go_roundw
      case rel => exact ⟨q + 1, by omega, by go_num, Lib.hid HP.out.1, Lib.hid HP.out.2⟩
      case measure => simp [intOf]; omega
    · obtain rfl : q = L := by omega
      have HRC : Hid (Rws wr u16 c) := by
        have h := HM.out.rws (HBN.out q).symm
        rw [HBA.out q rfl] at h
        exact h
      have HXW := Lib.hid (Gr.ext_drew (Gr.ext_trans HX5.out HX.out))
      have HPW := Lib.hid (HP5.out.ext (Gr.ext_drew HX.out))
      have HRW := Lib.hid (HRC.out.ext (Gr.ext_drew (Gr.ext_refl wr)))
      clear HX HM HRC
      go_wp2_with fail
      refine Gr.region 7 [(false,0),(false,1),(false,2),(false,3),(false,5),(true,4),(true,6)] (by kernel_rfl) (by kernel_rfl) (fun d _ _ _ _ h => by cases d <;> exact h) ?_
      simp only [Gr.pick, List.getElem?_cons_zero, List.getElem?_cons_succ, List.drop_succ_cons, List.drop_zero]
      generalize wr.drew = ws at *
      iterate 5
        refine Gr.walk_t ?_ (Or.inl ⟨by rfl, ?_⟩) ?_
        rotate_left
        · intro w' hw'
          obtain ⟨p0, p1, p2⟩ := HPW.out.ext hw'
          clear hw'
          go_simp
          try with_reducible rfl
        simp only [Act.put, List.setIfInBounds_toArray, List.set_cons_zero, List.set_cons_succ]
      refine Gr.walk_c (fun K hK => ?_)
      go_simp
      refine (HTA.out ws (HVA.out.ext HXW.out)).mono ?_
      rintro e w6 ⟨v6, rfl, hb6, hr6, _⟩
      have HX6 := Lib.hid (Gr.ext_trans HXW.out (Gr.ext_of hb6))
      have HP6 := Lib.hid (HPW.out.ext (Gr.ext_of hb6))
      have HC6 := Lib.hid (HRW.out.ext (Gr.ext_of hb6))
      have HR6 := Lib.hid hr6
      clear hr6 HXW HPW HRW
      try go_simp
      refine hK.out _ _ (Gr.ext_of hb6) ?_
      clear hK K
      clear hb6
      refine Gr.walk_c (fun K hK => ?_)
      go_simp
      refine (HDA.out v6 w6 HR6.out (HT.out.ext HX6.out)).mono ?_
      rintro e w7 ⟨g7, rfl, hx7, _, ho7⟩
      have HU7 := Lib.hid ho7.u8s
      rw [HLA.out] at HU7 ⊢
      have HX7 := Lib.hid (Gr.ext_drew (Gr.ext_trans HX6.out hx7))
      have HP7 := Lib.hid (HP6.out.ext (Gr.ext_drew hx7))
      have HC7 := Lib.hid (HC6.out.ext (Gr.ext_drew hx7))
      have HU7 := Lib.hid (HU7.out.ext (Gr.ext_drew (Gr.ext_refl w7)))
      clear ho7 HX6 HP6 HC6 HR6
      try go_simp
      refine hK.out _ _ (hx7) ?_
      clear hK K
      clear hx7
      refine Gr.walk_nil ?_
      go_wp2_with fail
      refine Gr.region 7 [(false,0),(false,1),(false,2),(false,3),(false,5),(true,4),(true,6)] (by kernel_rfl) (by kernel_rfl) (fun d _ _ _ _ h => by cases d <;> exact h) ?_
      simp only [Gr.pick, List.getElem?_cons_zero, List.getElem?_cons_succ, List.drop_succ_cons, List.drop_zero]
      generalize w7.drew = ws2 at *
      iterate 5
        refine Gr.walk_t ?_ (Or.inl ⟨by rfl, ?_⟩) ?_
        rotate_left
        · intro w' hw'
          obtain ⟨p0, p1, p2⟩ := HP7.out.ext hw'
          clear hw'
          go_simp
          try with_reducible rfl
        simp only [Act.put, List.setIfInBounds_toArray, List.set_cons_zero, List.set_cons_succ]
      refine Gr.walk_c (fun K hK => ?_)
      go_simp
      refine (HTB.out ws2 (HVB.out.ext HX7.out)).mono ?_
      rintro e w8 ⟨v8, rfl, hb8, hr8, _⟩
      have HX8 := Lib.hid (Gr.ext_trans HX7.out (Gr.ext_of hb8))
      have HP8 := Lib.hid (HP7.out.ext (Gr.ext_of hb8))
      have HC8 := Lib.hid (HC7.out.ext (Gr.ext_of hb8))
      have HU8 := Lib.hid (HU7.out.ext (Gr.ext_of hb8))
      have HR8 := Lib.hid hr8
      clear hr8 HX7 HP7 HC7 HU7
      try go_simp
      refine hK.out _ _ (Gr.ext_of hb8) ?_
      clear hK K
      clear hb8
      refine Gr.walk_c (fun K hK => ?_)
      go_simp
      refine (HDB.out v8 w8 HR8.out (HT.out.ext HX8.out)).mono ?_
      rintro e w9 ⟨g9, rfl, hx9, _, ho9⟩
      have HV9 := Lib.hid ho9.u8s
      rw [HLB.out] at HV9 ⊢
      have HX9 := Lib.hid (Gr.ext_drew (Gr.ext_trans HX8.out hx9))
      have HP9 := Lib.hid (HP8.out.ext (Gr.ext_drew hx9))
      have HC9 := Lib.hid (HC8.out.ext (Gr.ext_drew hx9))
      have HU9 := Lib.hid (HU8.out.ext (Gr.ext_drew hx9))
      have HV9 := Lib.hid (HV9.out.ext (Gr.ext_drew (Gr.ext_refl w9)))
      clear ho9 HX8 HP8 HC8 HU8 HR8
      try go_simp
      refine hK.out _ _ (hx9) ?_
      clear hK K
      clear hx9
      refine Gr.walk_nil ?_
      go_wp2_with fail
      refine Gr.region 7 [(false,0),(false,1),(false,2),(false,3),(false,5),(true,4),(true,6)] (by kernel_rfl) (by kernel_rfl) (fun d _ _ _ _ h => by cases d <;> exact h) ?_
      simp only [Gr.pick, List.getElem?_cons_zero, List.getElem?_cons_succ, List.drop_succ_cons, List.drop_zero]
      generalize w9.drew = ws3 at *
      iterate 5
        refine Gr.walk_t ?_ (Or.inl ⟨by rfl, ?_⟩) ?_
        rotate_left
        · intro w' hw'
          obtain ⟨p0, p1, p2⟩ := HP9.out.ext hw'
          clear hw'
          go_simp
          try with_reducible rfl
        simp only [Act.put, List.setIfInBounds_toArray, List.set_cons_zero, List.set_cons_succ]
      refine Gr.walk_c (fun K hK => ?_)
      go_simp
      refine (HTC.out u16 ws3 HC9.out).mono ?_
      rintro e wa ⟨va, rfl, hba, hra, _⟩
      have HXA := Lib.hid (Gr.ext_trans HX9.out (Gr.ext_of hba))
      have HUA := Lib.hid (HU9.out.ext (Gr.ext_of hba))
      have HVVA := Lib.hid (HV9.out.ext (Gr.ext_of hba))
      have HRA := Lib.hid hra
      clear hra HX9 HP9 HC9 HU9 HV9
      try go_simp
      refine hK.out _ _ (Gr.ext_of hba) ?_
      clear hK K
      clear hba
      refine Gr.walk_c (fun K hK => ?_)
      go_simp
      refine (HDC.out va wa HRA.out (HT.out.ext HXA.out)).mono ?_
      rintro e wb ⟨gb, rfl, hxb, _, hob⟩
      have HZB := Lib.hid hob.u8s
      rw [HLC.out] at HZB ⊢
      have HXB := Lib.hid (Gr.ext_drew (Gr.ext_trans HXA.out hxb))
      have HUB := Lib.hid (HUA.out.ext (Gr.ext_drew hxb))
      have HVVB := Lib.hid (HVVA.out.ext (Gr.ext_drew hxb))
      have HZB := Lib.hid (HZB.out.ext (Gr.ext_drew (Gr.ext_refl wb)))
      clear hob HXA HUA HVVA HRA
      try go_simp
      refine hK.out _ _ (hxb) ?_
      clear hK K
      clear hxb
      refine Gr.walk_nil ?_
      go_wp2_with fail
      refine Gr.region 15 [(false,0),(false,1),(false,2),(false,3),(false,4),(false,5),(false,6),(false,7),(false,8),(false,9),(true,10),(true,11),(false,12),(false,13),(false,14)] (by kernel_rfl) (by kernel_rfl) (fun d _ _ _ _ h => by cases d <;> exact h) ?_
      simp only [Gr.pick, List.getElem?_cons_zero, List.getElem?_cons_succ, List.drop_succ_cons, List.drop_zero]
      generalize wb.drew = wc at *
      iterate 10
        refine Gr.walk_t ?_ (Or.inl ⟨by rfl, ?_⟩) ?_
        rotate_left
        · intro w' hw'
          have hvz := conv_drow (HZB.out.ext hw')
          clear hw'
          go_simp
          try with_reducible rfl
        simp only [Act.put, List.setIfInBounds_toArray, List.set_cons_zero, List.set_cons_succ]
      refine Gr.walk_c (fun K hK => ?_)
      go_simp
      generalize hw : World.alloc _ _ = wd
      have hx : wc.Extends wd := by subst hw; exact ext_alloc _ _
      have HRD : Hid (Rws wd (.slice (some ⟨wc.heap.size, 0, none⟩) 2 2) [x, y]) := by subst hw; exact rws_two wc _ _ _ _ _ _ HUB.out HVVB.out
      have HXD := Lib.hid (Gr.ext_trans HXB.out hx)
      clear hw HUB HVVB HZB HXB
      refine hK.out _ _ hx ?_
      clear hK K hx
      refine Gr.walk_c (fun K hK => ?_)
      go_simp
      refine (rsum_any (size : Int) _ [x, y] wd HRD.out).mono ?_
      rintro e we ⟨rfl, hbe, hoe⟩
      rw [HCUT.out] at hoe ⊢
      have HSE := Lib.hid hoe.u8s
      rw [← HEQ.out, HLC.out] at HSE
      have HXE := Lib.hid (Gr.ext_trans HXD.out (Gr.ext_of hbe))
      clear hoe HXD HRD
      try go_simp
      refine hK.out _ _ (Gr.ext_of hbe) ?_
      clear hK K
      clear hbe
      refine Gr.walk_t ?_ (Or.inl ⟨by rfl, ?_⟩) ?_
      rotate_left
      · intro w' hw'
        have hvs := conv_b (HSE.out.ext hw')
        clear hw'
        go_simp
        try with_reducible rfl
      simp only [Act.put, List.setIfInBounds_toArray, List.set_cons_zero, List.set_cons_succ]
      iterate 2
        refine Gr.walk_t ?_ (Or.inl ⟨by rfl, ?_⟩) ?_
        rotate_left
        · intro w' hw'
          clear hw'
          go_simp
          try with_reducible rfl
        simp only [Act.put, List.setIfInBounds_toArray, List.set_cons_zero, List.set_cons_succ]
      refine Gr.walk_nil ?_
      go_wp2
      go_ret
      exact ⟨by simp, HXE.out⟩
end Go.Proofs.YtghiiipeljhbjaaDoor
/- The second statement's function answers true. -/
namespace Go.Proofs.YtghiiipeljhbjaaDoor
open Go.RowKit Go.Deep
set_option linter.unusedVariables false
theorem line_far (k j size esi : Int) (va vb : Value) (w : World) (hT : Tab w) (hb : k < 1 ∨ 40 < k ∨ j < 0 ∨ 255 < j ∨ size < 1 ∨ 64 < size) :
    Calls Tryd.prog 4 #[.int .i64 k, .int .i64 j, .int .i64 size, va, vb, .int .i64 esi] w fun e w' => e = .returned (.bool true) ∧ w.Extends w' := by
  have HA := Lib.hid (alive8_any w hT)
  clear hT
  by_cases c1 : k < 1
  rotate_left
  by_cases c2 : 40 < k
  rotate_left
  by_cases c3 : j < 0
  rotate_left
  by_cases c4 : 255 < j
  rotate_left
  by_cases c5 : size < 1
  rotate_left
  have c6 : 64 < size := by omega
  all_goals
    clear hb
    go_enter Tryd.func4, Tryd.ntmps4
    go_wp2_with fail
    refine HA.out.mono ?_
    rintro e w1 ⟨rfl, hx1⟩
    have HX1 := Lib.hid hx1
    clear hx1
    go_wp2
    go_ret
    exact ⟨rfl, HX1.out⟩
/-- Rows that are not as many as there must be. -/
theorem line_len (k j size : Nat) (esi : Int) (a b : Option Addr) (na ca nb cb : Nat) (w : World) (hT : Tab w) (k1 : 1 ≤ k) (k2 : k ≤ 40) (hj : j ≤ 255) (s1 : 1 ≤ size) (s2 : size ≤ 64) (ha : na ≤ maxLen) (hbl : nb ≤ maxLen) (hb : na ≠ PM.l k ∨ nb ≠ na) :
    Calls Tryd.prog 4 #[.int .i64 k, .int .i64 j, .int .i64 size, .slice a na ca, .slice b nb cb, .int .i64 esi] w fun e w' => e = .returned (.bool true) ∧ w.Extends w' := by
  have HA := Lib.hid (alive8_any w hT)
  have HL := Lib.hid (fun w => refL_any k w (by omega))
  unfold maxLen at ha hbl
  clear hT
  generalize PM.l k = L at *
  by_cases c1 : na = L
  · subst c1
    have c2 : ((nb : Int) != (na : Int)) = true := by simp; omega
    clear hb
    go_enter Tryd.func4, Tryd.ntmps4
    go_wp2_with fail
    refine HA.out.mono ?_
    rintro e w1 ⟨rfl, hx1⟩
    have HX1 := Lib.hid hx1
    clear hx1
    go_wp2_with fail
    refine (HL.out w1).mono ?_
    rintro e w2 ⟨rfl, rfl⟩
    go_wp2
    go_ret
    exact ⟨rfl, HX1.out⟩
  · have c2 : ((na : Int) != (L : Int)) = true := by simp; omega
    clear hb c1
    go_enter Tryd.func4, Tryd.ntmps4
    go_wp2_with fail
    refine HA.out.mono ?_
    rintro e w1 ⟨rfl, hx1⟩
    have HX1 := Lib.hid hx1
    clear hx1
    go_wp2_with fail
    refine (HL.out w1).mono ?_
    rintro e w2 ⟨rfl, rfl⟩
    go_wp2
    go_ret
    exact ⟨rfl, HX1.out⟩
set_option maxHeartbeats 1000000 in
/-- Rows that are too many or too long, and numbers that can't be. -/
theorem line_few (k j size : Nat) (esi : Int) (va vb : Value) (a b : List (List Nat)) (w : World) (hT : Tab w) (k1 : 1 ≤ k) (k2 : k ≤ 40) (hj : j ≤ 255) (s1 : 1 ≤ size) (s2 : size ≤ 64) (ha : Rws w va a) (hb : Rws w vb b) (hma : ∀ k, (a.getD k []).length ≤ 140737488351232) (hmb : ∀ k, (b.getD k []).length ≤ 140737488351232) (hla : a.length = PM.l k) (hlb : b.length = a.length)
    (hn : few a = false ∨ few b = false ∨ esi < 0 ∨ 16777216 ≤ esi) :
    Calls Tryd.prog 4 #[.int .i64 k, .int .i64 j, .int .i64 size, va, vb, .int .i64 esi] w fun e w' => e = .returned (.bool true) ∧ w.Extends w' := by
  have HA := Lib.hid (alive8_any w hT)
  have hl2 := PM.l_le k k2
  have HL := Lib.hid (fun w => refL_any k w (by omega))
  have HFA := Lib.hid (fun w hv => few_any va a w hv hma)
  have HFB := Lib.hid (fun w hv => few_any vb b w hv hmb)
  have HVA := Lib.hid ha
  have HVB := Lib.hid hb
  obtain ⟨aa, ca, rfl, _⟩ := ha.slice
  obtain ⟨ab, cb, rfl, _⟩ := hb.slice
  clear hT ha hb hma hmb
  rw [hlb, hla] at *
  generalize PM.l k = L at *
  clear hla hlb
  by_cases c0 : few a = false
  · rw [c0] at HFA
    clear hn c0 HFB HVB
    go_enter Tryd.func4, Tryd.ntmps4
    go_wp2_with fail
    refine HA.out.mono ?_
    rintro e w1 ⟨rfl, hx1⟩
    have HX1 := Lib.hid hx1
    clear hx1
    go_wp2_with fail
    refine (HL.out w1).mono ?_
    rintro e w2 ⟨rfl, rfl⟩
    go_wp2_with fail
    refine (HFA.out w1 (HVA.out.ext HX1.out)).mono ?_
    rintro e w2 ⟨rfl, hb2⟩
    have HX2 := Lib.hid (Gr.ext_trans HX1.out (Gr.ext_of hb2))
    clear hb2
    go_wp2
    go_ret
    exact ⟨rfl, HX2.out⟩
  · have c0' : few a = true := by simpa using c0
    have hn : few b = false ∨ esi < 0 ∨ 16777216 ≤ esi := by
      rcases hn with h | h
      · exact absurd h c0
      · exact h
    rw [c0'] at HFA
    clear c0 c0'
    by_cases c1 : few b = false
    rotate_left
    have c1' : few b = true := by simpa using c1
    clear c1
    by_cases c2 : esi < 0
    rotate_left
    have c3 : 16777216 ≤ esi := by
      rcases hn with h | h | h
      · rw [c1'] at h; cases h
      · omega
      · exact h
    all_goals
      first | rw [c1'] at HFB; clear c1' | rw [c1] at HFB; clear c1
      clear hn
      go_enter Tryd.func4, Tryd.ntmps4
      go_wp2_with fail
      refine HA.out.mono ?_
      rintro e w1 ⟨rfl, hx1⟩
      have HX1 := Lib.hid hx1
      clear hx1
      go_wp2_with fail
      refine (HL.out w1).mono ?_
      rintro e w2 ⟨rfl, rfl⟩
      go_wp2_with fail
      refine (HFA.out w1 (HVA.out.ext HX1.out)).mono ?_
      rintro e w2 ⟨rfl, hb2⟩
      have HX2 := Lib.hid (Gr.ext_trans HX1.out (Gr.ext_of hb2))
      clear hb2 HX1
      go_wp2_with fail
      refine (HFB.out w2 (HVB.out.ext HX2.out)).mono ?_
      rintro e w3 ⟨rfl, hb3⟩
      have HX3 := Lib.hid (Gr.ext_trans HX2.out (Gr.ext_of hb3))
      clear hb3
      go_wp2
      go_ret
      exact ⟨rfl, HX3.out⟩
theorem DropsLine_walk (k j size : Int) (va : Value) (a : List (List Nat)) (vb : Value) (b : List (List Nat)) (esi : Int) (w : World) (_ : -9223372036854775808 ≤ k ∧ k ≤ 9223372036854775807) (_ : -9223372036854775808 ≤ j ∧ j ≤ 9223372036854775807) (_ : -9223372036854775808 ≤ size ∧ size ≤ 9223372036854775807)
    (ha : Rws w va a ∧ ∀ k, (a.getD k []).length ≤ 140737488351232) (hb : Rws w vb b ∧ ∀ k, (b.getD k []).length ≤ 140737488351232) (_ : -9223372036854775808 ≤ esi ∧ esi ≤ 9223372036854775807) (hT : Tab w) :
    Calls Tryd.prog 4 #[.int .i64 k, .int .i64 j, .int .i64 size, va, vb, .int .i64 esi] w fun e w' => e = .returned (.bool true) ∧ Below w.heap.size w w' := by
  suffices H : Calls Tryd.prog 4 #[.int .i64 k, .int .i64 j, .int .i64 size, va, vb, .int .i64 esi] w fun e w' => e = .returned (.bool true) ∧ w.Extends w' from H.mono fun e w' h => ⟨h.1, Gr.below_of h.2⟩
  obtain ⟨ha, hma⟩ := ha
  obtain ⟨hb, hmb⟩ := hb
  by_cases c1 : k < 1 ∨ 40 < k ∨ j < 0 ∨ 255 < j ∨ size < 1 ∨ 64 < size
  · exact line_far k j size esi va vb w hT c1
  · obtain ⟨kn, rfl⟩ := Int.eq_ofNat_of_zero_le (show 0 ≤ k by omega)
    obtain ⟨jn, rfl⟩ := Int.eq_ofNat_of_zero_le (show 0 ≤ j by omega)
    obtain ⟨sn, rfl⟩ := Int.eq_ofNat_of_zero_le (show 0 ≤ size by omega)
    by_cases c2 : a.length ≠ PM.l kn ∨ b.length ≠ a.length
    · have hm1 := ha.len
      have hm2 := hb.len
      obtain ⟨aa, ca, rfl, _⟩ := ha.slice
      obtain ⟨ab, cb, rfl, _⟩ := hb.slice
      exact line_len kn jn sn esi aa ab a.length ca b.length cb w hT (by omega) (by omega) (by omega) (by omega) (by omega) hm1 hm2 c2
    · have hla : a.length = PM.l kn := by omega
      have hlb : b.length = a.length := by omega
      by_cases c3 : few a = false ∨ few b = false ∨ esi < 0 ∨ 16777216 ≤ esi
      · exact line_few kn jn sn esi va vb a b w hT (by omega) (by omega) (by omega) (by omega) (by omega) ha hb hma hmb hla hlb c3
      · obtain ⟨en, rfl⟩ := Int.eq_ofNat_of_zero_le (show 0 ≤ esi by omega)
        have hfa : few a = true := by
          cases h : few a with
          | true => rfl
          | false => exact absurd (Or.inl h) c3
        have hfb : few b = true := by
          cases h : few b with
          | true => rfl
          | false => exact absurd (Or.inr (Or.inl h)) c3
        exact line_near kn jn sn en va vb a b w hT (by omega) (by omega) (by omega) (by omega) (by omega) ha hb hma hmb hla hlb hfa hfb (by omega)
end Go.Proofs.YtghiiipeljhbjaaDoor
