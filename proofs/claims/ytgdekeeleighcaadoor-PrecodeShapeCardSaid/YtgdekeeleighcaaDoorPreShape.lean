/- The statement's function PrecodeShape answers true. -/
import Derived.Test.YtgdekeeleighcaaDoorPreLaw
import Derived.Test.YtgdekeeleighcaaDoorGrowB
import Derived.Test.YtgdekeeleighcaaDoorConv
import Derived.Test.YtgdekeeleighcaaDoorTupLaw
import Derived.Laws.BitsLemmas
namespace Go.Proofs.YtgdekeeleighcaaDoor
open Go.RowKit Go.Deep
set_option linter.unusedVariables false
theorem i64_and24 (n : Int) : bits .and .i64 n 16777215 = n % 16777216 := by
  have h24 : (BitVec.ofInt 64 16777215).toNat = 2 ^ 24 - 1 := by decide
  have key : (BitVec.ofInt 64 n &&& BitVec.ofInt 64 16777215).toNat = (n % ((2 ^ 64 : Nat) : Int)).toNat % 2 ^ 24 := by
    rw [BitVec.toNat_and, BitVec.toNat_ofInt, h24, Nat.and_two_pow_sub_one_eq_mod]
  show IntKind.i64.wrap ((BitVec.ofInt 64 n &&& BitVec.ofInt 64 16777215).toNat : Nat) = n % 16777216
  rw [key, IntKind.wrap_i64]
  omega
/-- The numbers, each within its limit. -/
def masked (es : List Int) : List Int := es.map fun x => x % 16777216
theorem masked_length (es : List Int) : (masked es).length = es.length := by simp [masked]
theorem masked_at (es : List Int) (i : Nat) (h : i < es.length) : (masked es).getD i 0 = es.getD i 0 % 16777216 := by simp [masked, h]
theorem masked_ok (es : List Int) : AllOk (masked es) := fun i hi => by
  rw [masked_length] at hi
  rw [masked_at es i hi]
  exact ⟨by omega, by omega⟩
theorem masked_snoc (es : List Int) (i : Nat) (h : i < es.length) : i64vs ((masked es).take i) ++ [.int .i64 (es.getD i 0 % 16777216)] = i64vs ((masked es).take (i + 1)) := by
  rw [List.take_succ_eq_append_getElem (by rw [masked_length]; exact h), i64vs_snoc]
  congr 2
  simp [masked, h]
theorem ok_snoc_bad (l : List Int) (x : Int) (h : x < 0 ∨ 16777216 ≤ x) : ¬ AllOk (l ++ [x]) := fun ha => by
  have := ha l.length (by simp)
  rw [show (l ++ [x]).getD l.length 0 = x by simp] at this
  have h1 := this.1; have h2 := this.2
  omega
theorem mat_row_length (k j : Nat) (l : List Int) (i : Nat) (h : i < PM.s k + 2 + l.length) : ((QM.mat k j l).getD i []).length = PM.l k := by
  have hall : ∀ r ∈ QM.mat k j l, r.length = PM.l k := fun r hr => by
    unfold QM.mat QM.low QM.high QM.syms QM.grid at hr
    rcases List.mem_append.1 hr with h' | h'
    · rcases List.mem_append.1 h' with h'' | h''
      · obtain ⟨x, _, rfl⟩ := List.mem_map.1 h''; exact QM.tab_length _ _
      · obtain ⟨x, _, rfl⟩ := List.mem_map.1 h''; exact QM.tab_length _ _
    · obtain ⟨x, _, rfl⟩ := List.mem_map.1 h'; unfold TM.row; exact TM.marks_length _ _
  have hi : i < (QM.mat k j l).length := by rw [QM.mat_length]; exact h
  rw [List.getD_eq_getElem?_getD, List.getElem?_eq_getElem hi]
  exact hall _ (List.getElem_mem hi)
theorem sym_at (a : List (List Nat)) (f : Nat → List Nat) (l : List Int) (q : Nat) (h : q < l.length) (e : Nat) (he : l.getD q 0 = (e : Int)) : (a ++ l.map fun x => f x.toNat).getD (a.length + q) [] = f e := by
  have h0 : l[q] = (e : Int) := by rw [← he]; simp [h]
  rw [List.getD_eq_getElem?_getD, List.getElem?_append_right (by omega), Nat.add_sub_cancel_left, List.getElem?_map, List.getElem?_eq_getElem h, h0]
  simp
theorem mat_sym (k j : Nat) (l : List Int) (q : Nat) (h : q < l.length) (e : Nat) (he : l.getD q 0 = (e : Int)) : (QM.mat k j l).getD (PM.s k + 2 + q) [] = TM.row k j e := by
  have hlen : (QM.low k ++ QM.high k).length = PM.s k + 2 := by unfold QM.low QM.high; rw [List.length_append, QM.grid_length, QM.grid_length]
  have := sym_at (QM.low k ++ QM.high k) (TM.row k j) l q h e he
  rw [hlen] at this
  exact this
theorem shape_far (k j bad : Int) (v : Value) (es : List Int) (w : World) (hv : Ints w v es) (hb : k < 1 ∨ k > 40 ∨ j < 0 ∨ j > 255 ∨ 40 < es.length ∨ 0 ≤ bad ∧ bad < 16777216) :
    Calls Tryd.prog 7 #[.int .i64 k, .int .i64 j, v, .int .i64 bad] w fun e w' => e = .returned (.bool true) ∧ w.Extends w' := by
  have HA := Lib.hid (alive7_any w)
  obtain ⟨a, cap, rfl, _, _⟩ := hv.slice
  have hlen := hv.len
  unfold maxLen at hlen
  clear hv
  generalize es.length = n at *
  by_cases c1 : k < 1
  rotate_left
  by_cases c2 : k > 40
  rotate_left
  by_cases c3 : j < 0
  rotate_left
  by_cases c4 : j > 255
  rotate_left
  by_cases c5 : (n : Int) > 40
  rotate_left
  have c6 : bad ≥ 0 := by omega
  have c7 : bad < 16777216 := by omega
  all_goals
    clear hb
    go_enter Tryd.func7, Tryd.ntmps7
    go_wp2_with fail
    refine HA.out.mono ?_
    rintro e w1 ⟨rfl, hx1⟩
    have HX1 := Lib.hid hx1
    clear hx1
    go_wp2
    go_ret
    exact ⟨rfl, HX1.out⟩
set_option maxHeartbeats 2000000 in
set_option maxRecDepth 100000 in
theorem shape_near (k j : Nat) (bad : Int) (v : Value) (es : List Int) (w : World) (hT : Tab w) (hv : Ints w v es) (h1 : 1 ≤ k) (h2 : k ≤ 40) (hj : j ≤ 255) (hl : es.length ≤ 40) (hb : bad < 0 ∨ 16777216 ≤ bad) (hb64 : -9223372036854775808 ≤ bad ∧ bad ≤ 9223372036854775807) :
    Calls Tryd.prog 7 #[.int .i64 k, .int .i64 j, v, .int .i64 bad] w fun e w' => e = .returned (.bool true) ∧ w.Extends w' := by
  have HA := Lib.hid (alive7_any w)
  have HO := Lib.hid (fun w => prmOf_good k w h1 h2)
  have HT := Lib.hid hT
  have hs7 := PM.s_le k h2
  have hs2 : 2 ≤ PM.s k := by unfold PM.s; omega
  have hl49 := PM.l_le k h2
  have hL0 : (PM.l k : Int) = k + PM.s k + 2 := by unfold PM.l PM.w; omega
  have HLC : Hid (∀ w, Calls Tryd.prog 15 #[PV k (PM.s k) 2] w fun e w' => e = .returned (.int .i64 (PM.l k)) ∧ w.Extends w') := fun w => by rw [hL0]; exact prmL_any k (PM.s k) 2 w (by omega) (by omega)
  have HMAT : Hid (∀ v w, Tab w → Ints w v (masked es) → Calls Tryd.prog 24 #[PV k (PM.s k) 2, .int .i64 j, v] w (MadeRows w (QM.mat k j (masked es)))) := fun v w hT hv => mat_some k j v (masked es) w h1 h2 hj (masked_ok es) (by rw [masked_length]; omega) hv hT
  have HNO : Hid (∀ v w, Ints w v (masked es ++ [bad]) → Calls Tryd.prog 24 #[PV k (PM.s k) 2, .int .i64 j, v] w fun e w' => e = .returned (.slice none 0 0) ∧ w.Extends w') := fun v w hv => mat_none k (PM.s k) 2 j v _ w (fun hc => ok_snoc_bad _ _ hb hc.2.2.2) hv
  have HROW : Hid (∀ (e : Nat) w, e < 16777216 → Calls Tryd.prog 14 #[.int .i64 k, .int .i64 j, .int .i64 e] w (MadeRow w (TM.row k j e))) := fun e w he => refRow_some k j e w h1 h2 hj he
  have HRL := Lib.hid (mat_row_length k j (masked es))
  have HSY := Lib.hid (mat_sym k j (masked es))
  have HML := Lib.hid (QM.mat_length k j (masked es))
  have HOK := Lib.hid (masked_ok es)
  have HSN := Lib.hid (masked_snoc es)
  have HMS := Lib.hid (masked_length es)
  have HTK : Hid ((masked es).take es.length = masked es) := by show _ = _; rw [← masked_length es]; exact List.take_length
  obtain ⟨a, cap, rfl, hcap, hcap2⟩ := hv.slice
  have HCL := Lib.hid hv.cell.2
  clear hv hcap hcap2 hT hL0
  obtain ⟨n, hn⟩ : ∃ n, n = es.length := ⟨_, rfl⟩
  rw [← hn] at HCL hl HTK HMS ⊢
  have HN := Lib.hid hn
  clear hn
  generalize hml : masked es = ml at *
  clear hml
  generalize hmm : QM.mat k j ml = mm at *
  have HMM := Lib.hid hmm
  clear hmm
  generalize PM.l k = L at *
  generalize PM.s k = S at *
  obtain ⟨i0, hi, hz0, hz1, hz2⟩ := info_parts intinfo
  have HI := Lib.hid hi; clear hi
  have HZ0 := Lib.hid hz0; clear hz0
  have HZ1 := Lib.hid hz1; clear hz1
  have HZ2 := Lib.hid hz2; clear hz2
  have c5 : ¬ ((n : Int) > 40) := by omega
  go_enter Tryd.func7, Tryd.ntmps7
  have HB := Lib.hid (show bad < 0 ∨ (bad ≥ 0 ∧ ¬ bad < 16777216) by omega)
  clear hb
  go_wp2_with fail
  refine HA.out.mono ?_
  rintro e w1 ⟨rfl, hx1⟩
  have HX1 := Lib.hid hx1
  clear hx1 HA
  go_upto_region 2 with fail
  go_cut [47] (fun s47 wx => s47 = .bool false ∧ w1 = wx)
  case first =>
    rcases HB.out with c6 | ⟨c6, c7⟩
    all_goals
      go_wp2_with fail
      go_meet
      exact ⟨by simp; omega, rfl⟩
  obtain ⟨rfl, rfl⟩ := hcut
  go_wp2_with fail
  refine (HO.out w1).mono ?_
  rintro e w2 ⟨rfl, hx2⟩
  have HX2 := Lib.hid (Gr.ext_trans HX1.out hx2)
  clear hx2 HX1 HO
  go_wp2_with fail
  generalize hw3 : World.alloc w2 _ = w3
  have hx3 : w2.Extends w3 := by subst hw3; exact prm_ext_alloc _ _
  have hp : PAt w3 w2.heap.size k S 2 := by subst hw3; exact PAt.new w2 24 k S 2
  generalize w2.heap.size = b at hp ⊢
  clear hw3
  have HX3 := Lib.hid (Gr.ext_trans HX2.out hx3)
  have HP3 := Lib.hid hp
  clear hx3 hp HX2
  go_loopw [12, 13] (fun o i wr => ∃ m : Nat, m ≤ n ∧ i = .int .i64 m ∧ Hid (w3.Extends wr) ∧ Hid (wr.ownsRow w3.heap.size 3 1 o m (i64vs (ml.take m)))) (fun _ i _ => (n - intOf i).toNat)
  case atStart => exact ⟨0, by omega, rfl, Lib.hid (Gr.ext_refl _), Lib.hid (World.ownsRow_nil _ _ _ _)⟩
  case round =>
    obtain ⟨m, hm, rfl, HX, HOWN⟩ := hrel
    by_cases h5 : m < n
    · obtain ⟨bp, off, rfl, hbp, hc⟩ := HCL.out (by omega)
      have hc1 := HX.out.cell_of (HX3.out.cell_of (hc m h5))
      have HSN1 := Lib.hid (HSN.out m (by have := HN.out; omega))
      have hbits := i64_and24 (es.getD m 0)
      have HOB : Hid (∀ g, u12.ownBlock = some g → w3.heap.size ≤ g) := fun g hg => (HOWN.out.lt g hg).1
      have hbs := HX.out.size
      clear hc hbp
      generalize es.getD m 0 = x at *
      generalize x % 16777216 = y at *
      go_wp2_with (at_builtin; refine wpList_append_own_src _ rfl _ _ 29 29 rfl w3.heap.size 3 i0 (.int .i64 0) 1 8 Tryd.underlying29 HI.out HZ0.out HZ1.out HZ2.out rfl _ _ _ rfl (HOWN.out.alloc _) _ 1 [.int .i64 y] rfl (src_one Tryd.underlying29 _ _ rfl rfl) (by unfold maxLen; omega) (by omega) (by simp; omega) ?_)
      intro v' w9 ho9 hg9 _
      have HP1 : Hid (w3.Extends w9) := Gr.ext_of (((Gr.below_of HX.out).alloc hbs _).grown hg9 (by simp; omega) HOB.out)
      rw [HSN1.out] at ho9
      have HP2 := Lib.hid ho9
      clear ho9 hg9
      go_wp2
      go_roundw
      case rel => exact ⟨m + 1, by omega, by go_num, HP1, HP2⟩
      case measure => simp [intOf]; omega
    · obtain rfl : m = n := by omega
      rw [HTK.out] at HOWN
      have hint := owns_ints HOWN.out
      obtain ⟨la, lcap, rfl, hlc, hlc2⟩ := hint.slice
      rw [HMS.out] at hint hlc HOWN ⊢
      have HINT := Lib.hid hint
      have HX4 := HX
      obtain ⟨p0, p1, p2⟩ := HP3.out.ext HX4.out
      clear hint hlc hlc2 HSN HX HTK
      go_wp2_with fail
      refine (HMAT.out _ wr (HT.out.ext (Gr.ext_trans HX3.out HX4.out)) HINT.out).mono ?_
      rintro e w5 ⟨u, rfl, hx5, hm5⟩
      rw [HML.out, HMS.out] at hm5
      have hrw := hm5.rws (by rw [HML.out, HMS.out])
      obtain ⟨ua, ucap, rfl⟩ := hm5.slice
      have HUR := Lib.hid hrw.at.2
      have HX5 := Lib.hid (Gr.ext_trans HX4.out hx5)
      have HOWN5 := Lib.hid (owns_ext HOWN.out hx5)
      have HINT5 := Lib.hid (HINT.out.ext hx5)
      clear hx5 hm5 hrw HOWN HINT HMAT p0 p1 p2 HX4
      obtain ⟨p0, p1, p2⟩ := HP3.out.ext HX5.out
      obtain ⟨N, hN⟩ : ∃ N, N = S + 2 + m := ⟨_, rfl⟩
      rw [← hN] at HUR ⊢
      have eN : (S : Int) + 2 + (m : Int) = (N : Int) := by omega
      have hN50 : N ≤ 60 := by omega
      have HNN := Lib.hid hN
      clear hN
      go_wp2_with fail
      clear p0 p1 p2
      go_loopw [15] (fun i wy => ∃ q : Nat, q ≤ N ∧ i = .int .i64 q ∧ Hid (w5.Extends wy)) (fun i _ => (N - intOf i).toNat)
      case atStart => exact ⟨0, by omega, rfl, Lib.hid (Gr.ext_refl _)⟩
      case round =>
        obtain ⟨i, hi, rfl, HY⟩ := hrel
        by_cases h6 : i < N
        · obtain ⟨b1, o1, rfl, hb1, hc1⟩ := HUR.out (by omega)
          obtain ⟨ra, rc, hc2, hr2⟩ := hc1 i h6
          rw [HRL.out i (by rw [HMS.out, ← HNN.out]; exact h6)] at hc2 hr2
          have HX6 := Lib.hid (Gr.ext_drew (Gr.ext_trans HX5.out HY.out))
          have HCX : Hid (∀ w', wr.drew.Extends w' → w'.cell? ⟨b1, o1 + i, none⟩ = some (.slice ra L rc)) := fun w' hw' => hw'.cell_of ((Gr.ext_drew HY.out).cell_of hc2)
          have HPX : Hid (∀ w', wr.drew.Extends w' → PAt w' b k S 2) := fun w' hw' => HP3.out.ext (Gr.ext_trans HX6.out hw')
          have HRX : Hid (∀ w', wr.drew.Extends w' → U8s w' (.slice ra L rc) (mm.getD i [])) := fun w' hw' => hr2.ext (Gr.ext_trans (Gr.ext_drew HY.out) hw')
          have HYD := Lib.hid (Gr.ext_drew HY.out)
          clear hc1 hc2 hr2 HY
          have ws : IntKind.i64.wrap ((S : Int) + 2) = (S : Int) + 2 := IntWalk.i64_in _ (by omega)
          by_cases h7 : i < S + 2
          · have hge : ¬ ((i : Int) ≥ (S : Int) + 2) := by omega
            have hged : decide ((S : Int) + 2 ≤ (i : Int)) = false := decide_eq_false (by omega)
            go_wp2_with fail
            refine Gr.region 38 [(false,0),(false,1),(false,2),(false,3),(false,4),(false,5),(true,6),(false,7),(false,8),(false,9),(false,10),(false,11),(false,12),(false,13),(false,14),(false,15),(false,16),(false,17),(false,18),(false,19),(false,20),(false,21),(false,22),(false,23),(false,24),(false,25),(false,26),(false,27),(false,28),(false,29),(false,30),(false,31),(false,32),(false,33),(false,34),(false,35),(false,36),(false,37)] (by kernel_rfl) (by kernel_rfl) (fun d _ _ _ _ h => by cases d <;> exact h) ?_
            simp only [Gr.pick, List.getElem?_cons_zero, List.getElem?_cons_succ, List.drop_succ_cons, List.drop_zero]
            generalize wr.drew = wd at *
            iterate 6
              refine Gr.walk_t ?_ (Or.inl ⟨by rfl, ?_⟩) ?_
              rotate_left
              · intro w' hw'
                have hc := HCX.out w' hw'
                obtain ⟨p0, p1, p2⟩ := HPX.out w' hw'
                clear hw'
                go_simp
                try with_reducible rfl
              simp only [Act.put, List.setIfInBounds_toArray, List.set_cons_zero, List.set_cons_succ]
            refine Gr.walk_c (fun K hK => ?_)
            go_simp
            refine (HLC.out wd).mono ?_
            rintro e we ⟨rfl, hxe⟩
            have HYE := Lib.hid (Gr.ext_trans HYD.out hxe)
            have HPX : Hid (∀ w', we.Extends w' → PAt w' b k S 2) := fun w' hw' => HPX.out _ (Gr.ext_trans hxe hw')
            try go_simp
            refine hK.out _ _ (hxe) ?_
            clear hK K
            clear hxe HCX HRX HYD
            iterate 10
              refine Gr.walk_t ?_ (Or.inl ⟨by rfl, ?_⟩) ?_
              rotate_left
              · intro w' hw'
                obtain ⟨p0, p1, p2⟩ := HPX.out w' hw'
                clear hw'
                go_simp
                try with_reducible rfl
              simp only [Act.put, List.setIfInBounds_toArray, List.set_cons_zero, List.set_cons_succ]
            refine Gr.walk_t _ (Or.inr ⟨by rfl, rfl⟩) ?_
            simp only [Act.put, List.setIfInBounds_toArray, List.set_cons_zero, List.set_cons_succ]
            refine Gr.walk_t _ (Or.inr ⟨by rfl, rfl⟩) ?_
            simp only [Act.put, List.setIfInBounds_toArray, List.set_cons_zero, List.set_cons_succ]
            refine Gr.walk_t _ (Or.inr ⟨by rfl, rfl⟩) ?_
            simp only [Act.put, List.setIfInBounds_toArray, List.set_cons_zero, List.set_cons_succ]
            refine Gr.walk_t _ (Or.inr ⟨by rfl, rfl⟩) ?_
            simp only [Act.put, List.setIfInBounds_toArray, List.set_cons_zero, List.set_cons_succ]
            refine Gr.walk_t _ (Or.inr ⟨by rfl, rfl⟩) ?_
            simp only [Act.put, List.setIfInBounds_toArray, List.set_cons_zero, List.set_cons_succ]
            refine Gr.walk_t _ (Or.inr ⟨by rfl, rfl⟩) ?_
            simp only [Act.put, List.setIfInBounds_toArray, List.set_cons_zero, List.set_cons_succ]
            refine Gr.walk_t _ (Or.inr ⟨by rfl, rfl⟩) ?_
            simp only [Act.put, List.setIfInBounds_toArray, List.set_cons_zero, List.set_cons_succ]
            refine Gr.walk_t _ (Or.inr ⟨by rfl, rfl⟩) ?_
            simp only [Act.put, List.setIfInBounds_toArray, List.set_cons_zero, List.set_cons_succ]
            refine Gr.walk_t _ (Or.inr ⟨by rfl, rfl⟩) ?_
            simp only [Act.put, List.setIfInBounds_toArray, List.set_cons_zero, List.set_cons_succ]
            refine Gr.walk_t _ (Or.inr ⟨by rfl, rfl⟩) ?_
            simp only [Act.put, List.setIfInBounds_toArray, List.set_cons_zero, List.set_cons_succ]
            refine Gr.walk_t _ (Or.inr ⟨by rfl, rfl⟩) ?_
            simp only [Act.put, List.setIfInBounds_toArray, List.set_cons_zero, List.set_cons_succ]
            refine Gr.walk_t _ (Or.inr ⟨by rfl, rfl⟩) ?_
            simp only [Act.put, List.setIfInBounds_toArray, List.set_cons_zero, List.set_cons_succ]
            refine Gr.walk_t _ (Or.inr ⟨by rfl, rfl⟩) ?_
            simp only [Act.put, List.setIfInBounds_toArray, List.set_cons_zero, List.set_cons_succ]
            refine Gr.walk_t _ (Or.inr ⟨by rfl, rfl⟩) ?_
            simp only [Act.put, List.setIfInBounds_toArray, List.set_cons_zero, List.set_cons_succ]
            refine Gr.walk_t _ (Or.inr ⟨by rfl, rfl⟩) ?_
            simp only [Act.put, List.setIfInBounds_toArray, List.set_cons_zero, List.set_cons_succ]
            refine Gr.walk_t _ (Or.inr ⟨by rfl, rfl⟩) ?_
            simp only [Act.put, List.setIfInBounds_toArray, List.set_cons_zero, List.set_cons_succ]
            refine Gr.walk_t _ (Or.inr ⟨by rfl, rfl⟩) ?_
            simp only [Act.put, List.setIfInBounds_toArray, List.set_cons_zero, List.set_cons_succ]
            refine Gr.walk_t _ (Or.inr ⟨by rfl, rfl⟩) ?_
            simp only [Act.put, List.setIfInBounds_toArray, List.set_cons_zero, List.set_cons_succ]
            refine Gr.walk_t _ (Or.inr ⟨by rfl, rfl⟩) ?_
            simp only [Act.put, List.setIfInBounds_toArray, List.set_cons_zero, List.set_cons_succ]
            refine Gr.walk_t _ (Or.inr ⟨by rfl, rfl⟩) ?_
            simp only [Act.put, List.setIfInBounds_toArray, List.set_cons_zero, List.set_cons_succ]
            refine Gr.walk_t ?_ (Or.inl ⟨by rfl, ?_⟩) ?_
            rotate_left
            · intro w' hw'
              clear hw'
              go_simp
              try with_reducible rfl
            simp only [Act.put, List.setIfInBounds_toArray, List.set_cons_zero, List.set_cons_succ]
            refine Gr.walk_nil ?_
            go_wp2
            go_roundw
            case rel => exact ⟨i + 1, by omega, by go_num, HYE⟩
            case measure => simp [intOf]; omega
          · obtain ⟨q, hq⟩ : ∃ q, q = i - (S + 2) := ⟨_, rfl⟩
            have hqm : q < m := by have := HNN.out; omega
            have eq1 : (i : Int) - (S : Int) - 2 = (q : Int) := by omega
            have eiq : i = S + 2 + q := by omega
            have hged : decide ((S : Int) + 2 ≤ (i : Int)) = true := decide_eq_true (by omega)
            have hok := HOK.out q (by rw [HMS.out]; exact hqm)
            obtain ⟨e, he⟩ := Int.eq_ofNat_of_zero_le hok.1
            have he2 : e < 16777216 := by have := hok.2; omega
            have HSYQ := Lib.hid (HSY.out q (by rw [HMS.out]; exact hqm) e he)
            have HEI : Hid (mm.getD i [] = TM.row k j e) := by show _ = _; rw [eiq]; exact HSYQ.out
            obtain ⟨bl, ol, rfl, hbl, hcl⟩ := HINT5.out.cell.2 (by omega)
            have hlc := hcl q hqm
            rw [he] at hlc
            have HLX : Hid (∀ w', wr.drew.Extends w' → w'.cell? ⟨bl, ol + q, none⟩ = some (.int .i64 (e : Int))) := fun w' hw' => (Gr.ext_trans HYD.out hw').cell_of hlc
            have HRX : Hid (∀ w', wr.drew.Extends w' → U8s w' (.slice ra L rc) (TM.row k j e)) := fun w' hw' => by rw [← HEI.out]; exact HRX.out w' hw'
            have ws2 : IntKind.i64.wrap ((i : Int) - (S : Int)) = (i : Int) - S := IntWalk.i64_in _ (by omega)
            have ws3 : IntKind.i64.wrap (q : Int) = (q : Int) := IntWalk.i64_in _ (by omega)
            have hqi : (q : Int) < (m : Int) := by omega
            have HRW := Lib.hid (fun w => HROW.out e w he2)
            clear hq eiq hok he hcl hbl HSYQ
            generalize TM.row k j e = row at *
            go_wp2_with fail
            refine Gr.region 38 [(false,0),(false,1),(false,2),(false,3),(false,4),(false,5),(true,6),(false,7),(false,8),(false,9),(false,10),(false,11),(false,12),(false,13),(false,14),(false,15),(false,16),(false,17),(false,18),(false,19),(false,20),(false,21),(false,22),(false,23),(false,24),(false,25),(false,26),(false,27),(false,28),(false,29),(false,30),(false,31),(false,32),(false,33),(true,34),(false,35),(false,36),(false,37)] (by kernel_rfl) (by kernel_rfl) (fun d _ _ _ _ h => by cases d <;> exact h) ?_
            simp only [Gr.pick, List.getElem?_cons_zero, List.getElem?_cons_succ, List.drop_succ_cons, List.drop_zero]
            generalize wr.drew = wd at *
            iterate 6
              refine Gr.walk_t ?_ (Or.inl ⟨by rfl, ?_⟩) ?_
              rotate_left
              · intro w' hw'
                have hc := HCX.out w' hw'
                obtain ⟨p0, p1, p2⟩ := HPX.out w' hw'
                clear hw'
                go_simp
                try with_reducible rfl
              simp only [Act.put, List.setIfInBounds_toArray, List.set_cons_zero, List.set_cons_succ]
            refine Gr.walk_c (fun K hK => ?_)
            go_simp
            refine (HLC.out wd).mono ?_
            rintro e we ⟨rfl, hxe⟩
            have HYE := Lib.hid (Gr.ext_trans HYD.out hxe)
            have HPX : Hid (∀ w', we.Extends w' → PAt w' b k S 2) := fun w' hw' => HPX.out _ (Gr.ext_trans hxe hw')
            have HCX : Hid (∀ w', we.Extends w' → w'.cell? ⟨b1, o1 + i, none⟩ = some (.slice ra L rc)) := fun w' hw' => HCX.out _ (Gr.ext_trans hxe hw')
            have HLX : Hid (∀ w', we.Extends w' → w'.cell? ⟨bl, ol + q, none⟩ = some (.int .i64 (e : Int))) := fun w' hw' => HLX.out _ (Gr.ext_trans hxe hw')
            have HRX : Hid (∀ w', we.Extends w' → U8s w' (.slice ra L rc) row) := fun w' hw' => HRX.out _ (Gr.ext_trans hxe hw')
            try go_simp
            refine hK.out _ _ (hxe) ?_
            clear hK K
            clear hxe HYD
            iterate 27
              refine Gr.walk_t ?_ (Or.inl ⟨by rfl, ?_⟩) ?_
              rotate_left
              · intro w' hw'
                have hc := HCX.out w' hw'
                obtain ⟨p0, p1, p2⟩ := HPX.out w' hw'
                have hcl := HLX.out w' hw'
                have hcv := conv_row (HRX.out w' hw')
                clear hw'
                go_simp
                try with_reducible rfl
              simp only [Act.put, List.setIfInBounds_toArray, List.set_cons_zero, List.set_cons_succ]
            refine Gr.walk_c (fun K hK => ?_)
            go_simp
            refine (HRW.out we).mono ?_
            rintro e2 wf ⟨g, rfl, hxf, hgf, hof⟩
            have HYF := Lib.hid (Gr.ext_trans HYE.out hxf)
            have HUF := Lib.hid hof.u8s
            try go_simp
            refine hK.out _ _ (hxf) ?_
            clear hK K
            clear hxf hgf hof HYE HCX HPX HLX HRX
            refine Gr.walk_t ?_ (Or.inl ⟨by rfl, ?_⟩) ?_
            rotate_left
            · intro w' hw'
              have hv := conv_bs (HUF.out.ext hw')
              clear hw'
              go_simp
              try with_reducible rfl
            simp only [Act.put, List.setIfInBounds_toArray, List.set_cons_zero, List.set_cons_succ]
            iterate 2
              refine Gr.walk_t ?_ (Or.inl ⟨by rfl, ?_⟩) ?_
              rotate_left
              · intro w' hw'
                clear hw'
                go_simp
                try with_reducible rfl
              simp only [Act.put, List.setIfInBounds_toArray, List.set_cons_zero, List.set_cons_succ]
            refine Gr.walk_nil ?_
            go_wp2
            go_roundw
            case rel => exact ⟨i + 1, by omega, by go_num, HYF⟩
            case measure => simp [intOf]; omega
        · obtain rfl : i = N := by omega
          have HXF := Lib.hid (Gr.ext_trans HX5.out HY.out)
          have HOWN6 := Lib.hid (owns_ext HOWN5.out HY.out)
          clear HY HOWN5 HINT5 HUR HRL HSY
          go_wp2_with fail
          have hX : wr.Extends wr.drew := Gr.ext_drew (Gr.ext_refl wr)
          have HX7 := Lib.hid (Gr.ext_trans HXF.out hX)
          have HOWN7 := Lib.hid (owns_ext HOWN6.out hX)
          have HB7 : Hid (Below w3.heap.size w3 wr.drew) := Gr.below_of HX7.out
          clear hX HXF HOWN6
          refine GrB.region w3.heap.size 6 [(false,0),(false,1),(false,2),(false,3),(true,4),(true,5)] (by kernel_rfl) (by kernel_rfl) (fun d _ _ _ _ h => by cases d <;> exact h) ?_
          simp only [Gr.pick, List.getElem?_cons_zero, List.getElem?_cons_succ, List.drop_succ_cons, List.drop_zero]
          generalize wr.drew = wd at *
          have HPX : Hid (∀ w', Below w3.heap.size wd w' → PAt w' b k S 2) := fun w' hw' => HP3.out.ext (Gr.ext_of (HB7.out.trans hw'))
          iterate 4
            refine GrB.walk_t ?_ (Or.inl ⟨by rfl, ?_⟩) ?_
            rotate_left
            · intro w' hw'
              obtain ⟨p0, p1, p2⟩ := HPX.out w' hw'
              clear hw'
              go_simp
              try with_reducible rfl
            simp only [Act.put, List.setIfInBounds_toArray, List.set_cons_zero, List.set_cons_succ]
          refine GrB.walk_c (fun K hK => ?_)
          go_simp
          generalize hw : World.alloc _ _ = wx
          have hx : Below w3.heap.size wd wx := by subst hw; exact (Below.refl _ _).alloc HB7.out.size _
          have HSRC : Hid (Src Tryd.prog 1 29 (.slice (some ⟨wd.heap.size, 0, none⟩) 1 1) 1 [.int .i64 bad] wx) := by subst hw; exact src_one (W := wd) (u := .int .i64 bad) Tryd.underlying29 _ _ rfl rfl
          have HOWN8 : Hid (wx.ownsRow w3.heap.size 3 1 (.slice la m lcap) m (i64vs ml)) := by subst hw; exact HOWN7.out.alloc _
          have HB8 := Lib.hid (HB7.out.trans hx)
          refine hK.out _ _ hx ?_
          clear hK K hx hw HOWN7
          have HOB : Hid (∀ g, (Value.slice la m lcap).ownBlock = some g → w3.heap.size ≤ g) := fun g hg => (HOWN8.out.lt g hg).1
          refine GrB.walk_c (fun K hK => ?_)
          rw [if_pos (by rfl)]
          refine wp_append_own_src wx (.tmp 130) (.tmp 132) 29 29 rfl w3.heap.size 3 i0 (.int .i64 0) 1 8 Tryd.underlying29 HI.out HZ0.out HZ1.out HZ2.out rfl (.slice la m lcap) m _ rfl HOWN8.out _ 1 _ rfl HSRC.out (by unfold maxLen; omega) (by omega) HB8.out.size ?_
          intro v' wz ho hg _
          have hz : Below w3.heap.size wx wz := (Below.refl _ _).grown hg HB8.out.size HOB.out
          have hin : Ints wz v' (ml ++ [bad]) := owns_ints (n := m + 1) (by rw [i64vs_snoc]; exact ho)
          obtain ⟨va, vcap, hv', _, _⟩ := hin.slice
          rw [show (ml ++ [bad]).length = m + 1 by rw [List.length_append, HMS.out]; rfl] at hv'
          subst hv'
          have HIN := Lib.hid hin
          have HBZ := Lib.hid (HB8.out.trans hz)
          simp only [Act.put, List.setIfInBounds_toArray, List.set_cons_zero, List.set_cons_succ]
          refine hK.out _ _ hz ?_
          clear hK K hz ho hg hin HSRC HOWN8 HB8 HOB
          refine GrB.walk_nil ?_
          have HXZ : Hid (w.Extends wz) := Gr.ext_trans HX3.out (Gr.ext_of HBZ.out)
          go_wp2_with fail
          refine (HNO.out _ wz HIN.out).mono ?_
          rintro e wy ⟨rfl, hxy⟩
          have HXY := Lib.hid (Gr.ext_trans HXZ.out hxy)
          clear hxy
          go_wp2
          go_ret
          exact ⟨rfl, HXY.out⟩
theorem PrecodeShape_walk (k j : Int) (v : Value) (es : List Int) (bad : Int) (w : World) (_ : -9223372036854775808 ≤ k ∧ k ≤ 9223372036854775807) (_ : -9223372036854775808 ≤ j ∧ j ≤ 9223372036854775807) (hv : Ints w v es ∧ ∀ x ∈ es, -9223372036854775808 ≤ x ∧ x ≤ 9223372036854775807)
    (hb64 : -9223372036854775808 ≤ bad ∧ bad ≤ 9223372036854775807) (hT : Tab w) :
    Calls Tryd.prog 7 #[.int .i64 k, .int .i64 j, v, .int .i64 bad] w fun e w' => e = .returned (.bool true) ∧ Below w.heap.size w w' := by
  suffices H : Calls Tryd.prog 7 #[.int .i64 k, .int .i64 j, v, .int .i64 bad] w fun e w' => e = .returned (.bool true) ∧ w.Extends w' from H.mono fun e w' h => ⟨h.1, Gr.below_of h.2⟩
  by_cases hb : k < 1 ∨ k > 40 ∨ j < 0 ∨ j > 255 ∨ 40 < es.length ∨ 0 ≤ bad ∧ bad < 16777216
  · exact shape_far k j bad v es w hv.1 hb
  · obtain ⟨kn, rfl⟩ := Int.eq_ofNat_of_zero_le (show 0 ≤ k by omega)
    obtain ⟨jn, rfl⟩ := Int.eq_ofNat_of_zero_le (show 0 ≤ j by omega)
    exact shape_near kn jn bad v es w hT hv.1 (by omega) (by omega) (by omega) (by omega) (by omega) hb64
end Go.Proofs.YtgdekeeleighcaaDoor
