/- In one text: BlkSums. -/
import Derived.Test.YtbaeieloncmiaaaDoorM2
import Derived.Test.YtbaeieloncmiaaaDoorM16
/- BlockSums' function answers true. -/
namespace Go.Proofs.YtbaeieloncmiaaaDoor
set_option maxRecDepth 20000
open Go.RowKit Go.Deep
set_option linter.unusedVariables false
theorem sums10_far (esi : Int) (aa ac : Option Addr) (n ca m cc : Nat) (w : World) (hT : Tab w) (hn : n < 1 ∨ 10 < n ∨ m ≠ n) (hm : n ≤ maxLen) (hm2 : m ≤ maxLen) :
    Calls Tryd.prog 7 #[.slice aa n ca, .slice ac m cc, .int .i64 esi] w fun e w' => e = .returned (.bool true) ∧ w.Extends w' := by
  have HA := Lib.hid (alive10_any w hT)
  unfold maxLen at hm hm2
  clear hT
  by_cases c1 : n < 1
  rotate_left
  by_cases c2 : 10 < n
  rotate_left
  have c3 : ((m : Int) != (n : Int)) = true := by simp only [bne_iff_ne]; omega
  all_goals
    clear hn
    go_enter Tryd.func7, Tryd.ntmps7
    go_wp2_with fail
    refine HA.out.mono ?_
    rintro e w1 ⟨rfl, hx1⟩
    have HX1 := Lib.hid hx1
    clear hx1
    go_wp2
    go_ret
    exact ⟨rfl, HX1.out⟩
theorem sums10_few (esi : Int) (va : Value) (a : List (List Nat)) (ac : Option Addr) (cc n : Nat) (w : World) (hT : Tab w) (ha : Rws w va a) (hma : ∀ k, (a.getD k []).length ≤ 140737488351232) (hla : a.length = n) (n1 : 1 ≤ n) (n2 : n ≤ 10) (hf : few a = false) :
    Calls Tryd.prog 7 #[va, .slice ac n cc, .int .i64 esi] w fun e w' => e = .returned (.bool true) ∧ w.Extends w' := by
  have HA := Lib.hid (alive10_any w hT)
  have HF := Lib.hid (fun w hv => few_any va a w hv hma)
  rw [hf] at HF
  have HV := Lib.hid ha
  obtain ⟨aa, ca, rfl, _⟩ := ha.slice
  rw [hla] at HF HV ⊢
  clear hT ha hma hf hla
  go_enter Tryd.func7, Tryd.ntmps7
  go_wp2_with fail
  refine HA.out.mono ?_
  rintro e w1 ⟨rfl, hx1⟩
  have HX1 := Lib.hid hx1
  clear hx1
  go_wp2_with fail
  refine (HF.out w1 (HV.out.ext HX1.out)).mono ?_
  rintro e w2 ⟨rfl, hb2⟩
  have HX2 := Lib.hid (Gr.ext_trans HX1.out (Gr.ext_of hb2))
  clear hb2
  go_wp2
  go_ret
  exact ⟨rfl, HX2.out⟩
set_option maxHeartbeats 1000000 in
theorem sums10_row (esi : Int) (va : Value) (a : List (List Nat)) (ac : Option Addr) (cc n : Nat) (w : World) (hT : Tab w) (ha : Rws w va a) (hma : ∀ k, (a.getD k []).length ≤ 140737488351232) (hla : a.length = n) (n1 : 1 ≤ n) (n2 : n ≤ 10) (hf : few a = true)
    (h0 : (a.getD 0 []).length < 1 ∨ 64 < (a.getD 0 []).length ∨ esi < 0 ∨ 16777216 ≤ esi) :
    Calls Tryd.prog 7 #[va, .slice ac n cc, .int .i64 esi] w fun e w' => e = .returned (.bool true) ∧ w.Extends w' := by
  have HA := Lib.hid (alive10_any w hT)
  have HF := Lib.hid (fun w hv => few_any va a w hv hma)
  rw [hf] at HF
  have hl0 := hma 0
  have HV := Lib.hid ha
  obtain ⟨aa, ca, rfl, _⟩ := ha.slice
  obtain ⟨b0, o0, rfl, hb0, hc0⟩ := ha.at.2 (by omega)
  obtain ⟨ra, rc, hc1, _⟩ := hc0 0 (by omega)
  rw [Nat.add_zero] at hc1
  rw [hla] at HF HV ⊢
  clear hT ha hma hf hc0 hla
  have HC := Lib.hid hc1
  clear hc1
  generalize (a.getD 0 []).length = r at *
  by_cases c1 : r < 1
  rotate_left
  by_cases c2 : 64 < r
  rotate_left
  by_cases c3 : esi < 0
  rotate_left
  have c4 : 16777216 ≤ esi := by omega
  all_goals
    clear h0
    go_enter Tryd.func7, Tryd.ntmps7
    go_wp2_with fail
    refine HA.out.mono ?_
    rintro e w1 ⟨rfl, hx1⟩
    have HX1 := Lib.hid hx1
    clear hx1
    go_wp2_with fail
    refine (HF.out w1 (HV.out.ext HX1.out)).mono ?_
    rintro e w2 ⟨rfl, hb2⟩
    have HX2 := Lib.hid (Gr.ext_trans HX1.out (Gr.ext_of hb2))
    clear hb2
    have hc := HX2.out.cell_of HC.out
    go_wp2
    go_ret
    exact ⟨rfl, HX2.out⟩
theorem n10_of_seed (sz : Nat) (src : List (List Nat)) (s1 : 1 ≤ sz) (s2 : sz ≤ 64) (k1 : 1 ≤ src.length) (k2 : src.length ≤ 40) (ha : AllB sz src) (hr : SM.SeedIs src.length 0 5) : N10 sz src 5 :=
  ⟨fun v w hv hT => new_none sz v src _ w (by omega) (by omega) rfl k1 k2 hv ha hT 0 hr, fun v w hv => refNew_none sz v src _ w (by omega) (by omega) rfl k1 k2 hv ha 0 hr⟩
theorem both_lt {r : Nat} {a c : List (List Nat)} (ha : ∀ x ∈ a, ∀ y ∈ x, y < 256) (hc : ∀ x ∈ c, ∀ y ∈ x, y < 256) : ∀ x ∈ DM.both r a c, ∀ y ∈ x, y < 256 := by
  intro x hx
  obtain ⟨q, _, rfl⟩ := List.mem_map.1 hx
  refine LA.sum_lt _ _ fun s hs => ?_
  simp only [List.mem_cons, List.not_mem_nil, or_false] at hs
  rcases hs with rfl | rfl
  · exact getD_mem_lt ha q
  · exact getD_mem_lt hc q
theorem both_all (r : Nat) (a c : List (List Nat)) : AllB r (DM.both r a c) := fun q hq => by
  rw [DM.both_length] at hq
  rw [DM.both_at r a c q hq, RM.sum_length]
/-- What New and Symbol answer of a, of c and of their sums s: no block of any; or rows x, y, z of which z is the sum of x and y. -/
def Fin5 (r : Nat) (a c s : List (List Nat)) : Prop := N10 r a 5 ∧ N10 r c 5 ∧ N10 r s 5
def FinB (r esi : Nat) (a c s : List (List Nat)) : Prop := ∃ k j pa pc ps, B10 r a k j r pa ∧ B10 r c k j r pc ∧ B10 r s k j r ps ∧ symErr esi = 0 ∧ (symOf k j r ps esi).length = r ∧ symOf k j r ps esi = RM.sum r [symOf k j r pa esi, symOf k j r pc esi]
theorem sums_fin (r esi : Nat) (a c : List (List Nat)) (r1 : 1 ≤ r) (r2 : r ≤ 64) (he : esi < 16777216) (hla : c.length = a.length) (n1 : 1 ≤ a.length) (n2 : a.length ≤ 10) (hlt : ∀ x ∈ a, ∀ y ∈ x, y < 256) (hlc : ∀ x ∈ c, ∀ y ∈ x, y < 256) (ha : AllB r a) (hc : AllB r c) :
    Fin5 r a c (DM.both r a c) ∨ FinB r esi a c (DM.both r a c) := by
  have hls := DM.both_length r a c
  obtain ⟨j, er, hr⟩ := seed_exists a.length
  rcases seed5 hr with rfl | rfl
  · have hg : SM.Good a.length j := by
      rcases hr with ⟨_, _, h, _⟩ | ⟨h, _⟩
      · exact h
      · cases h
    obtain ⟨pa, hpa⟩ := BM.parts_exist r hg hlt
    obtain ⟨pc, hpc⟩ := BM.parts_exist r hg hlc
    have hps := hpa.both hpc rfl
    have hE : EsiOk (esi : Int) := ⟨by omega, by omega⟩
    refine .inr ⟨a.length, j, pa, pc, DM.both r pa pc, ⟨rfl, r1, r2, rfl, n1, by omega, ha, hr, hpa⟩, ⟨rfl, r1, r2, hla, n1, by omega, hc, hr, hpc⟩, ⟨rfl, r1, r2, hls, n1, by omega, both_all r a c, hr, hps⟩, if_pos hE, ?_, ?_⟩
    · unfold symOf; rw [if_pos hE, Int.toNat_natCast, DM.drop_length]
    · unfold symOf; rw [if_pos hE, if_pos hE, if_pos hE, Int.toNat_natCast]
      exact DM.drop_both a.length j r pa pc esi hpa.len
  · obtain rfl : j = 0 := by
      rcases hr with ⟨h, _⟩ | ⟨_, h, _⟩
      · cases h
      · exact h
    exact .inl ⟨n10_of_seed r a r1 r2 n1 (by omega) ha hr, n10_of_seed r c r1 r2 (by omega) (by omega) hc (by rw [hla]; exact hr), n10_of_seed r _ r1 r2 (by omega) (by omega) (both_all r a c) (by rw [hls]; exact hr)⟩
theorem allB_row {r : Nat} {c : List (List Nat)} (h : AllB r c) (k : Nat) : (c.getD k []).length ≤ r := by
  by_cases hk : k < c.length
  · have := h k hk; omega
  · rw [List.getD_eq_getElem?_getD, List.getElem?_eq_none (by omega)]; exact Nat.zero_le _
set_option maxHeartbeats 4000000 in
set_option maxRecDepth 100000 in
theorem sums10_main (esi : Nat) (va vc : Value) (a c : List (List Nat)) (n : Nat) (w : World) (hT : Tab w) (ha : Rws w va a) (hc : Rws w vc c) (hma : ∀ k, (a.getD k []).length ≤ 140737488351232) (hmc : ∀ k, (c.getD k []).length ≤ 140737488351232) (hla : a.length = n) (hlc : c.length = n) (n1 : 1 ≤ n) (n2 : n ≤ 10) (hf : few a = true)
    (r : Nat) (hr : (a.getD 0 []).length = r) (r1 : 1 ≤ r) (r2 : r ≤ 64) (he : esi < 16777216) :
    Calls Tryd.prog 7 #[va, vc, .int .i64 esi] w fun e w' => e = .returned (.bool true) ∧ w.Extends w' := by
  have HA := Lib.hid (alive10_any w hT)
  have HF := Lib.hid (fun w hv => few_any va a w hv hma)
  rw [hf] at HF
  have HFIN : Hid ((∀ i, i < n → ((a.getD i []).length : Int) = r ∧ ((c.getD i []).length : Int) = r) → Fin5 r a c (DM.both r a c) ∨ FinB r esi a c (DM.both r a c)) := fun h =>
    sums_fin r esi a c r1 r2 he (by omega) (by omega) (by omega) ha.all_lt hc.all_lt (fun i hi => (h i (by omega)).1) (fun i hi => (h i (by omega)).2)
  have hfy := (few_yes a hf).2
  have hbr := DM.both_row r a c
  have hbl := DM.both_length r a c
  have HTA := Lib.hid (fun w hv => to_any va a w hv (by omega) (fun k => by have := hfy k; omega))
  have HTC : Hid ((∀ i, i < n → ((a.getD i []).length : Int) = r ∧ ((c.getD i []).length : Int) = r) → ∀ w, Rws w vc c → Calls Tryd.prog 18 #[vc] w (MadeRows w 46 c)) := fun h w hv =>
    to_any vc c w hv (by omega) (fun k => by have := allB_row (r := r) (c := c) (fun i hi => (h i (by omega)).2) k; omega)
  have HTS := Lib.hid (fun v w hv => to_any v (DM.both r a c) w hv (by omega) (fun k => by have := hbr k; omega))
  have HBA : Hid (∀ m, m = a.length → DM.bothTo r a c m = DM.both r a c) := fun m e => by subst e; rfl
  generalize DM.both r a c = s at *
  have HBS := Lib.hid (DM.bothTo_succ r a c)
  have HBN := Lib.hid (DM.bothTo_length r a c)
  have HCUT : Hid (RM.cut (r : Int) = r) := by show _ = _; unfold RM.cut; omega
  have HML := Lib.hid hma
  have HMLC := Lib.hid hmc
  have HVA := Lib.hid ha
  have HVC := Lib.hid hc
  have HT := Lib.hid hT
  obtain ⟨aa, ca, rfl, _⟩ := ha.slice
  obtain ⟨ac, cc, rfl, _⟩ := hc.slice
  have HAA := Lib.hid ha.at.2
  have HCC := Lib.hid hc.at.2
  obtain ⟨b0, o0, rfl, hb0, hc0⟩ := ha.at.2 (by omega)
  obtain ⟨ra, rc, hc1, _⟩ := hc0 0 (by omega)
  rw [Nat.add_zero, hr] at hc1
  have HC0 := Lib.hid hc1
  clear hT ha hc hma hmc hf hfy hbr hbl hc0 hc1 hr
  rw [hla] at HBA
  rw [hla, hlc] at *
  clear hla hlc
  obtain ⟨i1, hi', hz0', hz1', hz2'⟩ := info_parts bytesinfo
  have HI' := Lib.hid hi'; clear hi'
  have HZ0' := Lib.hid hz0'; clear hz0'
  have HZ1' := Lib.hid hz1'; clear hz1'
  have HZ2' := Lib.hid hz2'; clear hz2'
  go_enter Tryd.func7, Tryd.ntmps7
  go_wp2_with fail
  refine HA.out.mono ?_
  rintro e w1 ⟨rfl, hx1⟩
  have HX1 := Lib.hid hx1
  clear hx1 HA
  go_wp2_with fail
  refine (HF.out w1 (HVA.out.ext HX1.out)).mono ?_
  rintro e w2 ⟨rfl, hb2⟩
  have HX2 := Lib.hid (Gr.ext_trans HX1.out (Gr.ext_of hb2))
  clear hb2 HX1 HF
  have hc0 := HX2.out.cell_of HC0.out
  go_wp2_with fail
  clear hc0
  go_loopw [9, 10] (fun o i wr => ∃ q : Nat, q ≤ n ∧ i = .int .i64 q ∧ Hid (w2.Extends wr) ∧ Hid (Mats wr w2.heap.size 0 45 o q (DM.bothTo r a c q)) ∧ Hid (∀ i, i < q → ((a.getD i []).length : Int) = r ∧ ((c.getD i []).length : Int) = r)) (fun _ i _ => (n - intOf i).toNat)
  case atStart => exact ⟨0, by omega, rfl, Lib.hid (Gr.ext_refl _), Lib.hid (Mats.nil _ _ _ _ _), Lib.hid (fun i hi => absurd hi (Nat.not_lt_zero _))⟩
  case round =>
    obtain ⟨q, hq, rfl, HX, HM, HQ⟩ := hrel
    by_cases h5 : q < n
    · obtain ⟨b1, o1, he1, hb1, hc1⟩ := HAA.out (by omega)
      cases he1
      obtain ⟨b2, o2, rfl, hb2, hc2⟩ := HCC.out (by omega)
      obtain ⟨rx, rxc, hc3, hr0⟩ := hc1 q h5
      obtain ⟨ry, ryc, hc4, hr1⟩ := hc2 q h5
      have HXW := Lib.hid (Gr.ext_trans HX2.out HX.out)
      have hl1 := HML.out q
      have hl2 := HMLC.out q
      have hd1 := HXW.out.cell_of hc3
      have hd2 := HXW.out.cell_of hc4
      have HR1 := Lib.hid (hr0.ext HXW.out)
      have HR2 := Lib.hid (hr1.ext HXW.out)
      have HQ1 : Hid (((a.getD q []).length : Int) = r → ((c.getD q []).length : Int) = r → ∀ i, i < q + 1 → ((a.getD i []).length : Int) = r ∧ ((c.getD i []).length : Int) = r) := fun h1 h2 i hi => by
        by_cases e : i = q
        · subst e; exact ⟨h1, h2⟩
        · exact HQ.out i (by omega)
      clear hc1 hc2 hc3 hc4 hr0 hr1 hb1 hb2
      have HS1 := Lib.hid (HBS.out q)
      generalize a.getD q [] = xs at *
      generalize c.getD q [] = ys at *
      by_cases d1 : (xs.length : Int) = r
      rotate_left
      · have hne : ((xs.length : Int) != (r : Int)) = true := by simpa using d1
        clear HQ1
        go_wp2
        go_ret
        exact ⟨rfl, HXW.out⟩
      have hne1 : ((xs.length : Int) != (r : Int)) = false := by simpa using d1
      by_cases d2 : (ys.length : Int) = r
      rotate_left
      · have hne : ((ys.length : Int) != (r : Int)) = true := by simpa using d2
        clear HQ1
        go_wp2
        go_ret
        exact ⟨rfl, HXW.out⟩
      have hne2 : ((ys.length : Int) != (r : Int)) = false := by simpa using d2
      have HQ2 := Lib.hid (HQ1.out d1 d2)
      clear HQ1 d1 d2
      go_wp2_with fail
      have HL1 : Hid (∀ w', wr.drew.Extends w' → w'.cell? ⟨b0, o0 + q, none⟩ = some (.slice rx xs.length rxc)) := fun w' hw' => (Gr.of_drew hw').cell_of hd1
      have HL2 : Hid (∀ w', wr.drew.Extends w' → w'.cell? ⟨b2, o2 + q, none⟩ = some (.slice ry ys.length ryc)) := fun w' hw' => (Gr.of_drew hw').cell_of hd2
      have HXD := Lib.hid (Gr.ext_drew HX.out)
      have HMD := Lib.hid (HM.out.ext (Gr.ext_drew (Gr.ext_refl wr)))
      have HR1 := Lib.hid (HR1.out.ext (Gr.ext_drew (Gr.ext_refl wr)))
      have HR2 := Lib.hid (HR2.out.ext (Gr.ext_drew (Gr.ext_refl wr)))
      clear HX HM HXW hd1 hd2
      refine Gr.region 13 [(false,0),(false,1),(false,2),(false,3),(false,4),(false,5),(false,6),(false,7),(false,8),(false,9),(true,10),(true,11),(true,12)] (by kernel_rfl) (by kernel_rfl) (fun d _ _ _ _ h => by cases d <;> exact h) ?_
      simp only [Gr.pick, List.getElem?_cons_zero, List.getElem?_cons_succ, List.drop_succ_cons, List.drop_zero]
      generalize wr.drew = ws at *
      iterate 10
        refine Gr.walk_t ?_ (Or.inl ⟨by rfl, ?_⟩) ?_
        rotate_left
        · intro w' hw'
          have hc1 := HL1.out w' hw'
          have hc2 := HL2.out w' hw'
          clear hw'
          go_simp
          try with_reducible rfl
        simp only [Act.put, List.setIfInBounds_toArray, List.set_cons_zero, List.set_cons_succ]
      refine Gr.walk_c (fun K hK => ?_)
      go_simp
      generalize hw : World.alloc _ _ = w6
      have hx : ws.Extends w6 := by subst hw; exact ext_alloc _ _
      have HR6 : Hid (Rws w6 (.slice (some ⟨ws.heap.size, 0, none⟩) 2 2) [xs, ys]) := by subst hw; exact rws_two ws _ _ _ _ _ _ HR1.out HR2.out
      have HX6 := Lib.hid (Gr.ext_trans HXD.out hx)
      have HM6 := Lib.hid (HMD.out.ext hx)
      clear hw HR1 HR2 HL1 HL2 HXD HMD
      refine hK.out _ _ hx ?_
      clear hK K hx
      refine Gr.walk_c (fun K hK => ?_)
      go_simp
      refine (rsum_any (r : Int) _ [xs, ys] w6 HR6.out).mono ?_
      rintro e w7 ⟨rfl, hb7, ho7⟩
      rw [HCUT.out] at ho7 ⊢
      have HOK : Hid (RowOk w7 0 (.slice (some ⟨w6.heap.size, 0, none⟩) r r) (RM.sum r [xs, ys])) := RowOk.own ho7 0 (RM.sum_length _ _).symm (RM.sum_length _ _).symm
      have HX7 := Lib.hid (Gr.ext_trans HX6.out (Gr.ext_of hb7))
      have HM7 := Lib.hid (HM6.out.ext (Gr.ext_of hb7))
      clear ho7 HX6 HM6 HR6
      try go_simp
      refine hK.out _ _ (Gr.ext_of hb7) ?_
      clear hK K
      clear hb7
      generalize w6.heap.size = g6 at *
      generalize RM.sum r [xs, ys] = row at *
      refine Gr.walk_c (fun K hK => ?_)
      go_simp
      generalize hw : World.alloc _ _ = w8
      have hx : w7.Extends w8 := by subst hw; exact ext_alloc _ _
      have HSRC : Hid (Src Tryd.prog 1 33 (.slice (some ⟨w7.heap.size, 0, none⟩) 1 1) 1 [.slice (some ⟨g6, 0, none⟩) r r] w8) := by subst hw; exact src_one (W := w7) (u := .slice (some ⟨g6, 0, none⟩) r r) Tryd.underlying33 _ _ rfl rfl
      have HX8 := Lib.hid (Gr.ext_trans HX7.out hx)
      have HM8 := Lib.hid (HM7.out.ext hx)
      have HOK8 := Lib.hid (HOK.out.ext hx)
      clear hw HOK HX7 HM7
      refine hK.out _ _ hx ?_
      clear hK K hx
      refine Gr.walk_nil ?_
      obtain ⟨vs, hown, hrows⟩ := HM8.out
      have HOWN := Lib.hid hown
      have HROWS := Lib.hid hrows
      have HOB : Hid (∀ g, u9.ownBlock = some g → w2.heap.size ≤ g) := fun g hg => (HOWN.out.lt g hg).1
      have hbs := HX8.out.size
      have HBQ := Lib.hid (HBN.out q)
      clear hown hrows HM8
      refine wpList_append_own_src _ rfl (.tmp 97) (.tmp 109) 33 33 rfl w2.heap.size 45 i1 (.slice none 0 0) 1 24 Tryd.underlying33 HI'.out HZ0'.out HZ1'.out HZ2'.out rfl u9 q _ rfl HOWN.out _ 1 _ rfl HSRC.out (by unfold maxLen; omega) (by omega) hbs ?_
      intro v' w9 ho9 hg9 _
      have HP : Hid (w2.Extends w9 ∧ Mats w9 w2.heap.size 0 45 v' (q + 1) (DM.bothTo r a c (q + 1))) := by
        refine ⟨Gr.ext_of ((Gr.below_of HX8.out).grown hg9 hbs HOB.out), ?_⟩
        rw [← HS1.out]
        exact Mats.snoc (Nat.zero_le _) (by decide) HBQ.out.symm HOWN.out HROWS.out HOK8.out hg9 ho9
      clear ho9 hg9
      go_wp2
      go_roundw
      case rel => exact ⟨q + 1, by omega, by go_num, Lib.hid HP.out.1, Lib.hid HP.out.2, HQ2⟩
      case measure => simp [intOf]; omega
    · obtain rfl : q = n := by omega
      have HRC : Hid (Rws wr u9 s) := by
        have h := HM.out.rws (HBN.out q).symm
        rw [HBA.out q rfl] at h
        exact h
      have HXW := Lib.hid (Gr.ext_trans HX2.out HX.out)
      have HTCX := Lib.hid (HTC.out HQ.out)
      have hfin := HFIN.out HQ.out
      clear HX HM HTC HFIN HBA HBN HBS
      have hu9 := HRC.out.slice
      obtain ⟨a9, c9, rfl, _⟩ := hu9
      go_wp2_with fail
      refine (HTA.out wr (HVA.out.ext HXW.out)).mono ?_
      rintro e w3 ⟨v3, rfl, hb3, hr3, _⟩
      have HX3 := Lib.hid (Gr.ext_trans HXW.out (Gr.ext_of hb3))
      have HS3 := Lib.hid (HRC.out.ext (Gr.ext_of hb3))
      have HR3 := Lib.hid hr3
      clear hb3 hr3 HXW HRC
      rcases hfin with h5 | hB
      · have H5 := Lib.hid h5
        clear h5
        go_wp2_with fail
        refine (H5.out.1.new v3 w3 HR3.out (HT.out.ext HX3.out)).mono ?_
        rintro e w4 ⟨rfl, hx4⟩
        have HX4 := Lib.hid (Gr.ext_trans HX3.out hx4)
        have HS4 := Lib.hid (HS3.out.ext hx4)
        clear hx4 HX3 HS3 HR3
        go_wp2_with fail
        refine (HTCX.out w4 (HVC.out.ext HX4.out)).mono ?_
        rintro e w5 ⟨v5, rfl, hb5, hr5, _⟩
        have HX5 := Lib.hid (Gr.ext_trans HX4.out (Gr.ext_of hb5))
        have HS5 := Lib.hid (HS4.out.ext (Gr.ext_of hb5))
        have HR5 := Lib.hid hr5
        clear hb5 hr5 HX4 HS4
        go_wp2_with fail
        refine (H5.out.2.1.new v5 w5 HR5.out (HT.out.ext HX5.out)).mono ?_
        rintro e w6 ⟨rfl, hx6⟩
        have HX6 := Lib.hid (Gr.ext_trans HX5.out hx6)
        have HS6 := Lib.hid (HS5.out.ext hx6)
        clear hx6 HX5 HS5 HR5
        go_wp2_with fail
        refine (HTS.out _ w6 HS6.out).mono ?_
        rintro e w7 ⟨v7, rfl, hb7, hr7, _⟩
        have HX7 := Lib.hid (Gr.ext_trans HX6.out (Gr.ext_of hb7))
        have HR7 := Lib.hid hr7
        clear hb7 hr7 HX6 HS6
        go_wp2_with fail
        refine (H5.out.2.2.new v7 w7 HR7.out (HT.out.ext HX7.out)).mono ?_
        rintro e w8 ⟨rfl, hx8⟩
        have HX8 := Lib.hid (Gr.ext_trans HX7.out hx8)
        clear hx8 HX7 HR7
        go_wp2_with fail
        refine (num10_any _ w8).mono ?_
        rintro e w' ⟨rfl, rfl⟩
        go_wp2_with fail
        refine (num10_any _ w8).mono ?_
        rintro e w' ⟨rfl, rfl⟩
        go_wp2
        go_ret
        exact ⟨rfl, HX8.out⟩
      · obtain ⟨k, j, pa, pc, ps, hba, hbc, hbs, hse, hzl, hzs⟩ := hB
        have HNA := Lib.hid hba.new
        have HNC := Lib.hid hbc.new
        have HNS := Lib.hid hbs.new
        have HYA := Lib.hid (fun b v w => hba.symbol b esi v w)
        have HYC := Lib.hid (fun b v w => hbc.symbol b esi v w)
        have HYS := Lib.hid (fun b v w => hbs.symbol b esi v w)
        rw [hse] at HYA HYC HYS
        have HZL := Lib.hid hzl
        have HZS := Lib.hid hzs
        clear hba hbc hbs hse hzl hzs
        generalize symOf k j r pa esi = x at *
        generalize symOf k j r pc esi = y at *
        generalize symOf k j r ps esi = z at *
        go_wp2_with fail
        refine (HNA.out v3 w3 HR3.out (HT.out.ext HX3.out)).mono ?_
        rintro e w4 ⟨ba, vba, rfl, hx4, hb4, hr4⟩
        have HX4 := Lib.hid (Gr.ext_trans HX3.out hx4)
        have HS4 := Lib.hid (HS3.out.ext hx4)
        have HBA4 := Lib.hid hb4
        have HRA4 := Lib.hid hr4
        clear hx4 hb4 hr4 HX3 HS3 HR3 HNA
        go_wp2_with fail
        refine (HTCX.out w4 (HVC.out.ext HX4.out)).mono ?_
        rintro e w5 ⟨v5, rfl, hb5, hr5, _⟩
        have HX5 := Lib.hid (Gr.ext_trans HX4.out (Gr.ext_of hb5))
        have HS5 := Lib.hid (HS4.out.ext (Gr.ext_of hb5))
        have HBA5 := Lib.hid (HBA4.out.ext (Gr.ext_of hb5))
        have HRA5 := Lib.hid (HRA4.out.ext (Gr.ext_of hb5))
        have HR5 := Lib.hid hr5
        clear hb5 hr5 HX4 HS4 HBA4 HRA4
        go_wp2_with fail
        refine (HNC.out v5 w5 HR5.out (HT.out.ext HX5.out)).mono ?_
        rintro e w6 ⟨bc, vbc, rfl, hx6, hb6, hr6⟩
        have HX6 := Lib.hid (Gr.ext_trans HX5.out hx6)
        have HS6 := Lib.hid (HS5.out.ext hx6)
        have HBA6 := Lib.hid (HBA5.out.ext hx6)
        have HRA6 := Lib.hid (HRA5.out.ext hx6)
        have HBC6 := Lib.hid hb6
        have HRC6 := Lib.hid hr6
        clear hx6 hb6 hr6 HX5 HS5 HBA5 HRA5 HR5 HNC
        go_wp2_with fail
        refine (HTS.out _ w6 HS6.out).mono ?_
        rintro e w7 ⟨v7, rfl, hb7, hr7, _⟩
        have HX7 := Lib.hid (Gr.ext_trans HX6.out (Gr.ext_of hb7))
        have HBA7 := Lib.hid (HBA6.out.ext (Gr.ext_of hb7))
        have HRA7 := Lib.hid (HRA6.out.ext (Gr.ext_of hb7))
        have HBC7 := Lib.hid (HBC6.out.ext (Gr.ext_of hb7))
        have HRC7 := Lib.hid (HRC6.out.ext (Gr.ext_of hb7))
        have HR7 := Lib.hid hr7
        clear hb7 hr7 HX6 HS6 HBA6 HRA6 HBC6 HRC6
        go_wp2_with fail
        refine (HNS.out v7 w7 HR7.out (HT.out.ext HX7.out)).mono ?_
        rintro e w8 ⟨bs, vbs, rfl, hx8, hb8, hr8⟩
        have HX8 := Lib.hid (Gr.ext_trans HX7.out hx8)
        have HBA8 := Lib.hid (HBA7.out.ext hx8)
        have HRA8 := Lib.hid (HRA7.out.ext hx8)
        have HBC8 := Lib.hid (HBC7.out.ext hx8)
        have HRC8 := Lib.hid (HRC7.out.ext hx8)
        have HBS8 := Lib.hid hb8
        have HRS8 := Lib.hid hr8
        clear hx8 hb8 hr8 HX7 HBA7 HRA7 HBC7 HRC7 HR7 HNS
        go_wp2_with fail
        refine (num10_any _ w8).mono ?_
        rintro e w' ⟨rfl, rfl⟩
        go_wp2_with fail
        refine (HYA.out ba vba w8 HBA8.out HRA8.out (HT.out.ext HX8.out)).mono ?_
        rintro e w9 ⟨ux, rfl, hx9, hu9⟩
        have HX9 := Lib.hid (Gr.ext_trans HX8.out hx9)
        have HBC9 := Lib.hid (HBC8.out.ext hx9)
        have HRC9 := Lib.hid (HRC8.out.ext hx9)
        have HBS9 := Lib.hid (HBS8.out.ext hx9)
        have HRS9 := Lib.hid (HRS8.out.ext hx9)
        have HU9 := Lib.hid hu9.1
        obtain ⟨ax, cx, rfl, _⟩ := hu9.1.slice
        clear hx9 hu9 HX8 HBA8 HRA8 HBC8 HRC8 HBS8 HRS8 HYA
        go_wp2_with fail
        refine (HYC.out bc vbc w9 HBC9.out HRC9.out (HT.out.ext HX9.out)).mono ?_
        rintro e wa ⟨uy, rfl, hxa, hua⟩
        have HXA := Lib.hid (Gr.ext_trans HX9.out hxa)
        have HBSA := Lib.hid (HBS9.out.ext hxa)
        have HRSA := Lib.hid (HRS9.out.ext hxa)
        have HUA := Lib.hid (HU9.out.ext hxa)
        have HVA' := Lib.hid hua.1
        obtain ⟨ay, cy, rfl, _⟩ := hua.1.slice
        clear hxa hua HX9 HBC9 HRC9 HBS9 HRS9 HU9 HYC
        go_wp2_with fail
        refine (HYS.out bs vbs wa HBSA.out HRSA.out (HT.out.ext HXA.out)).mono ?_
        rintro e wb ⟨uz, rfl, hxb, hub⟩
        have HXB := Lib.hid (Gr.ext_drew (Gr.ext_trans HXA.out hxb))
        have HUB := Lib.hid (HUA.out.ext (Gr.ext_drew hxb))
        have HVB := Lib.hid (HVA'.out.ext (Gr.ext_drew hxb))
        have HZB := Lib.hid (hub.1.ext (Gr.ext_drew (Gr.ext_refl wb)))
        obtain ⟨az, cz, rfl, _⟩ := hub.1.slice
        rw [HZL.out] at HZB ⊢
        clear hxb hub HXA HBSA HRSA HUA HVA' HYS
        go_wp2_with fail
        refine Gr.region 20 [(false,0),(true,1),(false,2),(false,3),(false,4),(false,5),(false,6),(false,7),(false,8),(false,9),(false,10),(false,11),(false,12),(false,13),(false,14),(true,15),(true,16),(false,17),(false,18),(false,19)] (by kernel_rfl) (by kernel_rfl) (fun d _ _ _ _ h => by cases d <;> exact h) ?_
        simp only [Gr.pick, List.getElem?_cons_zero, List.getElem?_cons_succ, List.drop_succ_cons, List.drop_zero]
        generalize wb.drew = wc at *
        refine Gr.walk_t ?_ (Or.inl ⟨by rfl, ?_⟩) ?_
        rotate_left
        · intro w' hw'
          clear hw'
          go_simp
          try with_reducible rfl
        simp only [Act.put, List.setIfInBounds_toArray, List.set_cons_zero, List.set_cons_succ]
        refine Gr.walk_c (fun K hK => ?_)
        go_simp
        refine (num10_any _ wc).mono ?_
        rintro e w' ⟨rfl, rfl⟩
        try go_simp
        refine hK.out _ _ (Gr.ext_refl _) ?_
        clear hK K
        iterate 13
          refine Gr.walk_t ?_ (Or.inl ⟨by rfl, ?_⟩) ?_
          rotate_left
          · intro w' hw'
            have hvz := conv_drow (HZB.out.ext hw')
            clear hw'
            go_simp
            try with_reducible rfl
          simp only [Act.put, List.setIfInBounds_toArray, List.set_cons_zero, List.set_cons_succ]
        refine Gr.walk_c (fun K hK => ?_)
        go_simp
        generalize hw : World.alloc _ _ = wd
        have hx : wc.Extends wd := by subst hw; exact ext_alloc _ _
        have HRD : Hid (Rws wd (.slice (some ⟨wc.heap.size, 0, none⟩) 2 2) [x, y]) := by subst hw; exact rws_two wc _ _ _ _ _ _ HUB.out HVB.out
        have HXD := Lib.hid (Gr.ext_trans HXB.out hx)
        clear hw HUB HVB HZB HXB
        refine hK.out _ _ hx ?_
        clear hK K hx
        refine Gr.walk_c (fun K hK => ?_)
        go_simp
        refine (rsum_any (r : Int) _ [x, y] wd HRD.out).mono ?_
        rintro e we ⟨rfl, hbe, hoe⟩
        rw [HCUT.out] at hoe ⊢
        have HSE := Lib.hid hoe.u8s
        rw [← HZS.out, HZL.out] at HSE
        have HXE := Lib.hid (Gr.ext_trans HXD.out (Gr.ext_of hbe))
        clear hoe HXD HRD
        try go_simp
        refine hK.out _ _ (Gr.ext_of hbe) ?_
        clear hK K
        clear hbe
        refine Gr.walk_t ?_ (Or.inl ⟨by rfl, ?_⟩) ?_
        rotate_left
        · intro w' hw'
          have hvs := conv_b (HSE.out.ext hw')
          clear hw'
          go_simp
          try with_reducible rfl
        simp only [Act.put, List.setIfInBounds_toArray, List.set_cons_zero, List.set_cons_succ]
        iterate 2
          refine Gr.walk_t ?_ (Or.inl ⟨by rfl, ?_⟩) ?_
          rotate_left
          · intro w' hw'
            clear hw'
            go_simp
            try with_reducible rfl
          simp only [Act.put, List.setIfInBounds_toArray, List.set_cons_zero, List.set_cons_succ]
        refine Gr.walk_nil ?_
        go_wp2
        go_ret
        exact ⟨by simp, HXE.out⟩
theorem BlockSums_walk (va : Value) (a : List (List Nat)) (vc : Value) (c : List (List Nat)) (esi : Int) (w : World) (ha : Rws w va a ∧ ∀ k, (a.getD k []).length ≤ 140737488351232) (hc : Rws w vc c ∧ ∀ k, (c.getD k []).length ≤ 140737488351232) (_ : -9223372036854775808 ≤ esi ∧ esi ≤ 9223372036854775807) (hT : Tab w) :
    Calls Tryd.prog 7 #[va, vc, .int .i64 esi] w fun e w' => e = .returned (.bool true) ∧ Below w.heap.size w w' := by
  suffices H : Calls Tryd.prog 7 #[va, vc, .int .i64 esi] w fun e w' => e = .returned (.bool true) ∧ w.Extends w' from H.mono fun e w' h => ⟨h.1, Gr.below_of h.2⟩
  obtain ⟨ha, hma⟩ := ha
  obtain ⟨hc, hmc⟩ := hc
  by_cases hn : a.length < 1 ∨ 10 < a.length ∨ c.length ≠ a.length
  · have hm1 := ha.len
    have hm2 := hc.len
    obtain ⟨aa, ca, rfl, _⟩ := ha.slice
    obtain ⟨ac, cc, rfl, _⟩ := hc.slice
    exact sums10_far esi aa ac a.length ca c.length cc w hT hn hm1 hm2
  · have hlc : c.length = a.length := by omega
    obtain ⟨ac, cc, hvc, _⟩ := hc.slice
    cases hf : few a with
    | false => rw [hvc, hlc]; exact sums10_few esi va a ac cc _ w hT ha hma rfl (by omega) (by omega) hf
    | true =>
      by_cases h0 : (a.getD 0 []).length < 1 ∨ 64 < (a.getD 0 []).length ∨ esi < 0 ∨ 16777216 ≤ esi
      · rw [hvc, hlc]; exact sums10_row esi va a ac cc _ w hT ha hma rfl (by omega) (by omega) hf h0
      · obtain ⟨en, rfl⟩ := Int.eq_ofNat_of_zero_le (show 0 ≤ esi by omega)
        exact sums10_main en va vc a c _ w hT ha hc hma hmc rfl hlc (by omega) (by omega) hf _ rfl (by omega) (by omega) (by omega)
end Go.Proofs.YtbaeieloncmiaaaDoor
