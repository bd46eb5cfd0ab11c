/- In one text: LetRefRead. -/
import Derived.Test.YtdbdnfjgmdkneaaMD2
import Derived.Test.YtdbdnfjgmdkneaaMD12
namespace Go.Proofs.Ytdbdnfjgmdkneaa
set_option maxRecDepth 20000
open Go.RowKit Go.Deep
set_option linter.unusedVariables false
theorem conv_lb {w : World} {v : Value} {xs : List Nat} (h : U8s w v xs) : (convert 26 9 v).run Try.prog w = .ok (.string (strOf xs)) w := conv_any h _ _ _ Try.underlying26 Try.underlying5 Try.underlying9
set_option maxHeartbeats 8000000 in
theorem rlread_is (v : Value) (xs : List Nat) (w : World) (hv : U8s w v xs) (hxs : xs.length ≤ 1000000000) (L : Lt) (er : Nat) (hi : LQ.Is xs L er) :
    Calls Try.prog 51 #[v] w (LROut L (er : Nat) w) := by
  have HLT : Hid (∀ x ∈ xs, x < 256) := hv.lt
  obtain ⟨va, vc, rfl, hcap, hcm⟩ := hv.slice
  obtain ⟨xl, hxl⟩ : ∃ xl, xl = xs.length := ⟨_, rfl⟩
  have hxlen : xl ≤ 1000000000 := by omega
  rw [← hxl] at hv ⊢
  have HV := Lib.hid hv
  have HXL := Lib.hid hxl
  have HIS := Lib.hid hi
  have HXS := Lib.hid hxs
  obtain ⟨s0, hs0⟩ : ∃ s, s = ((xs, false) : List Nat × Bool) := ⟨_, rfl⟩
  have HS0 := Lib.hid hs0
  have HNW : Hid (∀ w' t, w' = w.alloc (.cells ([.int .i64 0, .int .i64 0, .int .i64 0, .int .i64 0, .int .i64 0, .int .i64 0, .slice none 0 0, .slice none 0 0] : List Value).toArray 83) → t = w'.heap.size → CurAt 102 (w'.alloc (.cells #[.slice va xl vc, .bool false] 102)) t s0) := fun w' t hw ht => by subst hw; subst ht; rw [hs0, hxl]; exact CurAt.new (by rw [← hxl]; exact HV.out.ext (ext_alloc _ _))
  clear hv hxl hs0 hi hxs hcap hcm
  go_enter Try.func51, Try.ntmps51
  go_wp2_with fail
  generalize hw1 : World.alloc w _ = w1
  generalize hw2 : World.alloc w1 _ = w2
  have hx1 : w.Extends w1 := by subst hw1; exact ext_alloc _ _
  have hx2 : w1.Extends w2 := by subst hw2; exact ext_alloc _ _
  have ha : L8 w1 w.heap.size [.int .i64 0, .int .i64 0, .int .i64 0, .int .i64 0, .int .i64 0, .int .i64 0, .slice none 0 0, .slice none 0 0] := by subst hw1; exact heap_alloc_new _ _
  have hs1 : w1.heap.size = w.heap.size + 1 := by subst hw1; simp
  have hc : CurAt 102 w2 (w.heap.size + 1) s0 := by subst hw2; exact HNW.out w1 _ hw1.symm hs1.symm
  obtain ⟨W0, hB⟩ : ∃ B, B = w.heap.size := ⟨_, rfl⟩
  obtain ⟨t, ht⟩ : ∃ t, t = w.heap.size + 1 := ⟨_, rfl⟩
  obtain ⟨b2, hb2⟩ : ∃ b, b = w.heap.size := ⟨_, rfl⟩
  rw [← ht] at hc ⊢
  rw [← hb2] at ha ⊢
  have HE : Hid (∀ w', Below W0 w w' → w.Extends w') := fun w' h => ext_below h hB
  have HNE : Hid (b2 ≠ t ∧ W0 ≤ t ∧ W0 ≤ b2) := by show _ ∧ _; omega
  have HA2 := Lib.hid (ha.ext hx2)
  have HC2 := Lib.hid hc
  have HB2 : Hid (Below W0 w w2) := by rw [hB]; exact Gr.below_of (Gr.ext_trans hx1 hx2)
  have HZ2 : Hid (W0 ≤ w2.heap.size) := by have := hx2.size; show _ ≤ _; omega
  have HZERO : Hid (∀ wf, (∀ l, LQ.Right l → LQ.bytes l ≠ xs) → Below W0 w wf → LROut L (er : Nat) w (.returned (.tuple #[.agg #[.int .i64 0, .int .i64 0, .int .i64 0, .int .i64 0, .int .i64 0, .int .i64 0, .slice none 0 0, .slice none 0 0], .int .i64 2])) wf) := fun wf hno hb => by
    obtain ⟨h1, h2⟩ : er = 2 ∧ L = LQ.zero := by
      rcases HIS.out with ⟨_, h2, h3⟩ | ⟨h1, h2, _⟩
      · exact absurd h3 (hno _ h2)
      · exact ⟨h1, h2⟩
    rw [h1, h2]
    exact ⟨.slice none 0 0, .slice none 0 0, rfl, ⟨nil_ints _ _ _, Recs.nil _ _ _⟩, HE.out _ hb⟩
  clear hw1 hw2 hx1 hx2 ha hs1 hc ht hb2 hB HNW
  refine (get_any t 1 s0 w2 (by omega) HC2.out).mono ?_
  rintro e' w3 ⟨rfl, hc, hg⟩
  obtain ⟨kk, hL⟩ : ∃ q, q = KM.gn 1 s0 := ⟨_, rfl⟩
  obtain ⟨s1, hs⟩ : ∃ s', s' = KM.gs 1 s0 := ⟨_, rfl⟩
  rw [← hL]
  rw [← hs] at hc
  have HLkk := Lib.hid hL
  have HS1 := Lib.hid hs
  have HC3 := Lib.hid hc
  have HB3 : Hid (Below W0 w w3) := HB2.out.grown hg HZ2.out (fun j hj => by have := Option.some.inj hj; have := HNE.out; omega)
  have HZ3 : Hid (W0 ≤ w3.heap.size) := Nat.le_trans HZ2.out hg.size
  have HA3 := Lib.hid (HA2.out.kept hg HNE.out.1)

  clear hL hs hc hg HC2 HA2 HB2 HZ2 
  go_wp2_with fail
  refine (get_any t 4 s1 w3 (by omega) HC3.out).mono ?_
  rintro e' w4 ⟨rfl, hc, hg⟩
  obtain ⟨ff, hL⟩ : ∃ q, q = KM.gn 4 s1 := ⟨_, rfl⟩
  obtain ⟨s2, hs⟩ : ∃ s', s' = KM.gs 4 s1 := ⟨_, rfl⟩
  rw [← hL]
  rw [← hs] at hc
  have HLff := Lib.hid hL
  have HS2 := Lib.hid hs
  have HC4 := Lib.hid hc
  have HB4 : Hid (Below W0 w w4) := HB3.out.grown hg HZ3.out (fun j hj => by have := Option.some.inj hj; have := HNE.out; omega)
  have HZ4 : Hid (W0 ≤ w4.heap.size) := Nat.le_trans HZ3.out hg.size
  have HA4 := Lib.hid (HA3.out.kept hg HNE.out.1)

  clear hL hs hc hg HC3 HA3 HB3 HZ3 
  go_wp2_with fail
  refine (get_any t 4 s2 w4 (by omega) HC4.out).mono ?_
  rintro e' w5 ⟨rfl, hc, hg⟩
  obtain ⟨tt, hL⟩ : ∃ q, q = KM.gn 4 s2 := ⟨_, rfl⟩
  obtain ⟨s3, hs⟩ : ∃ s', s' = KM.gs 4 s2 := ⟨_, rfl⟩
  rw [← hL]
  rw [← hs] at hc
  have HLtt := Lib.hid hL
  have HS3 := Lib.hid hs
  have HC5 := Lib.hid hc
  have HB5 : Hid (Below W0 w w5) := HB4.out.grown hg HZ4.out (fun j hj => by have := Option.some.inj hj; have := HNE.out; omega)
  have HZ5 : Hid (W0 ≤ w5.heap.size) := Nat.le_trans HZ4.out hg.size
  have HA5 := Lib.hid (HA4.out.kept hg HNE.out.1)

  clear hL hs hc hg HC4 HA4 HB4 HZ4 
  go_wp2_with fail
  refine (get_any t 4 s3 w5 (by omega) HC5.out).mono ?_
  rintro e' w6 ⟨rfl, hc, hg⟩
  obtain ⟨gg, hL⟩ : ∃ q, q = KM.gn 4 s3 := ⟨_, rfl⟩
  obtain ⟨s4, hs⟩ : ∃ s', s' = KM.gs 4 s3 := ⟨_, rfl⟩
  rw [← hL]
  rw [← hs] at hc
  have HLgg := Lib.hid hL
  have HS4 := Lib.hid hs
  have HC6 := Lib.hid hc
  have HB6 : Hid (Below W0 w w6) := HB5.out.grown hg HZ5.out (fun j hj => by have := Option.some.inj hj; have := HNE.out; omega)
  have HZ6 : Hid (W0 ≤ w6.heap.size) := Nat.le_trans HZ5.out hg.size
  have HA6 := Lib.hid (HA5.out.kept hg HNE.out.1)

  clear hL hs hc hg HC5 HA5 HB5 HZ5 
  have hlt := HA6.out.lt
  go_wp2_with fail
  generalize hw7 : World.alloc w6 _ = w7
  have hx : w6.Extends w7 := by subst hw7; exact ext_alloc _ _
  have hr : L8 w7 w6.heap.size [.int .i64 (kk : Nat), .int .i64 (ff : Nat), .int .i64 (tt : Nat), .int .i64 (gg : Nat), .int .i64 0, .int .i64 0, .slice none 0 0, .slice none 0 0] := by subst hw7; exact heap_alloc_new _ _
  have htt := HC6.out.lt
  have hs7 : w7.heap.size = w6.heap.size + 1 := by subst hw7; simp
  obtain ⟨b5, hb5⟩ : ∃ b, b = w6.heap.size := ⟨_, rfl⟩
  rw [← hb5] at hr ⊢
  obtain ⟨B, hB⟩ : ∃ B, B = w7.heap.size := ⟨_, rfl⟩
  have HNE5 : Hid (b5 ≠ t ∧ b5 ≠ b2 ∧ W0 ≤ b5 ∧ t < B ∧ b2 < B ∧ b5 < B ∧ W0 ≤ B) := by have := HNE.out; have := HZ6.out; show _ ∧ _; omega
  have HBB : Hid (B ≤ w7.heap.size) := Nat.le_of_eq hB
  have HR7 := Lib.hid hr
  have HA7 := Lib.hid (HA6.out.ext hx)
  have HC7 := Lib.hid (HC6.out.ext hx)
  have HB7 := Lib.hid (below_ext HB6.out hx HZ6.out)
  have HZ7 : Hid (W0 ≤ w7.heap.size) := Nat.le_trans HZ6.out hx.size
  clear hw7 hx hr htt hlt hb5 hs7 hB HA6 HC6 HB6 HZ6
  refine (get_any t 4 s4 w7 (by omega) HC7.out).mono ?_
  rintro e' w8 ⟨rfl, hc, hg⟩
  obtain ⟨pp, hL⟩ : ∃ q, q = KM.gn 4 s4 := ⟨_, rfl⟩
  obtain ⟨s5, hs⟩ : ∃ s', s' = KM.gs 4 s4 := ⟨_, rfl⟩
  rw [← hL]
  rw [← hs] at hc
  have HLpp := Lib.hid hL
  have HS5 := Lib.hid hs
  have HC8 := Lib.hid hc
  have HB8 : Hid (Below W0 w w8) := HB7.out.grown hg HZ7.out (fun j hj => by have := Option.some.inj hj; have := HNE.out; omega)
  have HZ8 : Hid (W0 ≤ w8.heap.size) := Nat.le_trans HZ7.out hg.size
  have HBB8 : Hid (B ≤ w8.heap.size) := Nat.le_trans HBB.out hg.size
  have HA8 := Lib.hid (HA7.out.kept hg HNE.out.1)
  have HR8 := Lib.hid (HR7.out.kept hg HNE5.out.1)
  clear hL hs hc hg HC7 HA7 HB7 HZ7 HR7
  go_wp2_with fail
  refine (get_any t 4 s5 w8 (by omega) HC8.out).mono ?_
  rintro e' w9 ⟨rfl, hc, hg⟩
  obtain ⟨nn, hL⟩ : ∃ q, q = KM.gn 4 s5 := ⟨_, rfl⟩
  obtain ⟨s6, hs⟩ : ∃ s', s' = KM.gs 4 s5 := ⟨_, rfl⟩
  rw [← hL]
  rw [← hs] at hc
  have HLnn := Lib.hid hL
  have HS6 := Lib.hid hs
  have HC9 := Lib.hid hc
  have HB9 : Hid (Below W0 w w9) := HB8.out.grown hg HZ8.out (fun j hj => by have := Option.some.inj hj; have := HNE.out; omega)
  have HZ9 : Hid (W0 ≤ w9.heap.size) := Nat.le_trans HZ8.out hg.size
  have HBB9 : Hid (B ≤ w9.heap.size) := Nat.le_trans HBB8.out hg.size
  have HA9 := Lib.hid (HA8.out.kept hg HNE.out.1)
  have HR9 := Lib.hid (HR8.out.kept hg HNE5.out.1)
  clear hL hs hc hg HC8 HA8 HB8 HZ8 HR8
  have t4 := HR9.out.cell 4 _ rfl
  have t5 := HR9.out.cell 5 _ rfl
  have f4 := HR9.out.frozen 4
  have f5 := HR9.out.frozen 5
  have hb := HR9.out.lt
  go_wp2_with fail
  clear t4 t5 f4 f5 hb
  obtain ⟨w10, hw⟩ : ∃ w', w' = (w9.setCell ⟨b5, 4, none⟩ (.int .i64 (pp : Nat))).setCell ⟨b5, 5, none⟩ (.int .i64 (nn : Nat)) := ⟨_, rfl⟩
  rw [← hw]
  have hg : w9.grownBy w10 (some b5) := by subst hw; exact (grown_set w9 b5 4 _).trans (grown_set _ b5 5 _)
  have HR10 : Hid (L8 w10 b5 [.int .i64 (kk : Nat), .int .i64 (ff : Nat), .int .i64 (tt : Nat), .int .i64 (gg : Nat), .int .i64 (pp : Nat), .int .i64 (nn : Nat), .slice none 0 0, .slice none 0 0]) := by subst hw; exact (HR9.out.set 4 (.int .i64 (pp : Nat))).set 5 (.int .i64 (nn : Nat))
  have HA10 := Lib.hid (HA9.out.kept hg (fun e => HNE5.out.2.1 e.symm))
  have HC10 := Lib.hid (HC9.out.by8 HR9.out (by intro y hy n e; subst e; simp at hy) hg HNE5.out.1)
  have HB10 : Hid (Below W0 w w10) := HB9.out.grown hg HZ9.out (fun j hj => by have := Option.some.inj hj; have := HNE5.out; omega)
  have HZ10 : Hid (W0 ≤ w10.heap.size) := Nat.le_trans HZ9.out hg.size
  have HBB10 : Hid (B ≤ w10.heap.size) := Nat.le_trans HBB9.out hg.size
  clear hw hg HR9 HA9 HC9 HB9 HZ9
  refine (get_any t 1 s6 w10 (by omega) HC10.out).mono ?_
  rintro e' w11 ⟨rfl, hc, hg⟩
  obtain ⟨cc, hL⟩ : ∃ q, q = KM.gn 1 s6 := ⟨_, rfl⟩
  obtain ⟨s7, hs⟩ : ∃ s', s' = KM.gs 1 s6 := ⟨_, rfl⟩
  rw [← hL]
  rw [← hs] at hc
  have HLcc := Lib.hid hL
  have HS7 := Lib.hid hs
  have HC11 := Lib.hid hc
  have HB11 : Hid (Below W0 w w11) := HB10.out.grown hg HZ10.out (fun j hj => by have := Option.some.inj hj; have := HNE.out; omega)
  have HZ11 : Hid (W0 ≤ w11.heap.size) := Nat.le_trans HZ10.out hg.size
  have HBB11 : Hid (B ≤ w11.heap.size) := Nat.le_trans HBB10.out hg.size
  have HA11 := Lib.hid (HA10.out.kept hg HNE.out.1)
  have HR11 := Lib.hid (HR10.out.kept hg HNE5.out.1)
  clear hL hs hc hg HC10 HA10 HB10 HZ10 HR10
  have HHD : Hid (LQ.hd xs = ⟨kk, ff, tt, gg, pp, nn, cc, s7⟩) := by
    show _ = _
    unfold LQ.hd
    simp only
    rw [← HS0.out, ← HS1.out, ← HS2.out, ← HS3.out, ← HS4.out, ← HS5.out, ← HS6.out, ← HS7.out, ← HLkk.out, ← HLff.out, ← HLtt.out, ← HLgg.out, ← HLpp.out, ← HLnn.out, ← HLcc.out]
  have HCC : Hid (cc < 256) := by have h := LQ.hd_c HLT.out; rw [HHD.out] at h; exact h
  clear HS0 HS1 HS2 HS3 HS4 HS5 HS6 HS7 HLkk HLff HLtt HLgg HLpp HLnn HLcc
  have hcc := HCC.out
  go_wp2_with fail
  go_loopw [7] (fun s7_ wr => ∃ (q : Nat) (pa : Option Addr) (pc : Nat) (ps : List Int) (sl : List Nat) (sb : Bool), q ≤ cc ∧ s7_ = .int .i64 (q : Nat) ∧ Hid (ps = (LQ.tkp q s7).1 ∧ (sl, sb) = (LQ.tkp q s7).2) ∧ Hid (CurAt 102 wr t (sl, sb)) ∧ Hid (L8 wr b2 [.int .i64 0, .int .i64 0, .int .i64 0, .int .i64 0, .int .i64 0, .int .i64 0, .slice none 0 0, .slice none 0 0]) ∧ Hid (L8 wr b5 [.int .i64 (kk : Nat), .int .i64 (ff : Nat), .int .i64 (tt : Nat), .int .i64 (gg : Nat), .int .i64 (pp : Nat), .int .i64 (nn : Nat), .slice pa q pc, .slice none 0 0]) ∧ Hid (OI wr B (.slice pa q pc) ps) ∧ Hid (Below W0 w wr) ∧ Hid (W0 ≤ wr.heap.size) ∧ Hid (B ≤ wr.heap.size)) (fun s7_ _ => cc - (intOf s7_).toNat)
  case atStart => exact ⟨0, none, 0, [], s7.1, s7.2, by omega, by rfl, ⟨rfl, rfl⟩, HC11, HA11, HR11, OI.nil _ _, HB11, HZ11, HBB11⟩
  case round =>
    obtain ⟨q, pa, pc, ps, sl, sb, hq, rfl, HT, HC, HA, HR, HO, HBL, HZ, HBB⟩ := hrel
    clear HC11 HA11 HR11 HB11 HZ11 HBB11
    go_upto_region 6 with fail
    go_cut [43] (fun s43 wx => s43 = .bool (decide (q < cc) && !sb) ∧ wr = wx)
    case first =>
      obtain ⟨ca, cc', c0, c1, z0, z1, hu, hh⟩ := HC.out.cells
      simp only at c0 c1
      have htl := HC.out.lt
      clear hu hh z0 z1
      by_cases h1 : q < cc
      · cases sb
        all_goals
          go_wp2
          go_meet
          exact ⟨by simp [h1], rfl⟩
      · go_wp2
        go_meet
        exact ⟨by simp [h1], rfl⟩
    case rest =>
      obtain ⟨rfl, rfl⟩ := hcut
      by_cases h1 : q < cc ∧ sb = false
      · obtain ⟨h1, rfl⟩ := h1
        have hd : (decide (q < cc) && !false) = true := by simp [h1]
        rw [hd]
        clear hd
        have hxd : wr.Extends wr.drew := Gr.ext_drew (Gr.ext_refl wr)
        have HCd := Lib.hid (HC.out.ext hxd)
        have HAd := Lib.hid (HA.out.ext hxd)
        have HRd := Lib.hid (HR.out.ext hxd)
        have HOd := Lib.hid (HO.out.ext hxd)
        have HBd := Lib.hid (below_ext HBL.out hxd HZ.out)
        have HZd : Hid (W0 ≤ wr.drew.heap.size) := Nat.le_trans HZ.out hxd.size
        have HBBd : Hid (B ≤ wr.drew.heap.size) := Nat.le_trans HBB.out hxd.size
        clear HC HA HR HO HBL HZ HBB hxd
        have HPL : Hid (ps.length = q) := by show _ = _; rw [HT.out.1, LQ.tkp_len]
        go_wp2_with fail
        refine GrF.region (fun i => ¬ i = b5) 5 [(false,0),(false,1),(false,2),(true,3),(true,4)] (by kernel_rfl) (by kernel_rfl) (fun d _ _ _ _ h => by cases d <;> exact h) ?_
        simp only [Gr.pick, List.getElem?_cons_zero, List.getElem?_cons_succ, List.drop_succ_cons, List.drop_zero]
        generalize wr.drew = wd at *
        iterate 3
          refine GrF.walk_t ?_ (Or.inl ⟨by rfl, ?_⟩) ?_
          rotate_left
          · intro w' hw'
            have hq5 := HRd.out.away hw' (fun h => h rfl)
            have q6 := hq5.cell 6 _ rfl
            have hlt5 := hq5.lt
            clear hq5
            clear hw'
            go_simp
            try with_reducible rfl
          simp only [Act.put, List.setIfInBounds_toArray, List.set_cons_zero, List.set_cons_succ]
        refine GrF.walk_c (fun K hK => ?_)
        go_simp
        refine (get_any t 4 (sl, false) wd (by omega) HCd.out).mono ?_
        rintro e w2 ⟨rfl, hc, hg⟩
        obtain ⟨n, hL⟩ : ∃ n, n = KM.gn 4 (sl, false) := ⟨_, rfl⟩
        obtain ⟨s', hs⟩ : ∃ s', s' = KM.gs 4 (sl, false) := ⟨_, rfl⟩
        rw [← hL]
        rw [← hs] at hc
        have HN : Hid (ps ++ [(n : Int)] = (LQ.tkp (q + 1) s7).1 ∧ s' = (LQ.tkp (q + 1) s7).2) := by
          show _ ∧ _
          rw [hL, hs, HT.out.1, HT.out.2]
          exact ⟨rfl, rfl⟩
        have HC2 := Lib.hid hc
        have HA2 := Lib.hid (HAd.out.kept hg HNE.out.1)
        have HR2 := Lib.hid (HRd.out.kept hg HNE5.out.1)
        have HO2 := Lib.hid (HOd.out.lo hg HNE5.out.2.2.2.1)
        have HB2 : Hid (Below W0 w w2) := HBd.out.grown hg HZd.out (fun j hj => by have := Option.some.inj hj; have := HNE.out; omega)
        have HZ2 : Hid (W0 ≤ w2.heap.size) := Nat.le_trans HZd.out hg.size
        have HBB2 : Hid (B ≤ w2.heap.size) := Nat.le_trans HBBd.out hg.size
        have hfr := fr_one (D := fun i => ¬ i = b5) hg (fun e => HNE5.out.1 e.symm)
        clear hL hs hc hg
        try go_simp
        refine hK.out _ _ (hfr) ?_
        clear hK K
        clear hfr HCd HAd HRd HOd HBd HZd HBBd HT
        refine GrF.walk_c (fun K hK => ?_)
        go_simp
        generalize hw : World.alloc _ _ = w3
        have hx : w2.Extends w3 := by subst hw; exact ext_alloc _ _
        have HSRC : Hid (Src Try.prog 1 76 (.slice (some ⟨w2.heap.size, 0, none⟩) 1 1) 1 (i64vs [(n : Int)]) w3) := by subst hw; exact one_src (heap_alloc_new _ _)
        have HC3 := Lib.hid (HC2.out.ext hx)
        have HA3 := Lib.hid (HA2.out.ext hx)
        have HR3 := Lib.hid (HR2.out.ext hx)
        have HO3 := Lib.hid (HO2.out.ext hx)
        have HB3 := Lib.hid (below_ext HB2.out hx HZ2.out)
        have HZ3 : Hid (W0 ≤ w3.heap.size) := Nat.le_trans HZ2.out hx.size
        have HBB3 : Hid (B ≤ w3.heap.size) := Nat.le_trans HBB2.out hx.size
        refine hK.out _ _ (Fr.ext hx) ?_
        clear hK K hw hx HC2 HA2 HR2 HO2 HB2 HZ2 HBB2
        refine GrF.walk_nil ?_
        go_wp2_with (at_builtin; refine wpList_app_oi rfl (.tmp 47) (.tmp 50) rfl B _ ps rfl HO3.out _ 1 [(n : Int)] rfl rfl HSRC.out (by rw [HPL.out]; show q + 1 ≤ _; omega) HBB3.out ?_)
        intro v9 w4 ho4 hg4
        obtain ⟨a9, c9, hv9⟩ := ho4.slice
        rw [List.length_append, HPL.out] at hv9
        obtain rfl : v9 = .slice a9 (q + 1) c9 := hv9
        have HC4 := Lib.hid (HC3.out.row HO3.out.own HO3.out.clean hg4 HNE5.out.2.2.2.1)
        have HA4 := Lib.hid (HA3.out.own HO3.out.own hg4 HNE5.out.2.2.2.2.1)
        have HR4 := Lib.hid (HR3.out.own HO3.out.own hg4 HNE5.out.2.2.2.2.2.1)
        have HB4 : Hid (Below W0 w w4) := HB3.out.grown hg4 HZ3.out (fun j hj => by have h1 := (HO3.out.own.lt j hj).1; have h2 := HNE5.out; omega)
        have HZ4 : Hid (W0 ≤ w4.heap.size) := Nat.le_trans HZ3.out hg4.size
        have HBB4 : Hid (B ≤ w4.heap.size) := Nat.le_trans HBB3.out hg4.size
        have HO4 := Lib.hid ho4
        clear ho4 hg4 HC3 HA3 HR3 HO3 HB3 HZ3 HBB3 HSRC
        have t6 := HR4.out.cell 6 _ rfl
        have f6 := HR4.out.frozen 6
        have hb := HR4.out.lt
        go_wp2_with fail
        clear t6 f6 hb
        obtain ⟨w5, hw⟩ : ∃ w', w' = w4.setCell ⟨b5, 6, none⟩ (.slice a9 (q + 1) c9) := ⟨_, rfl⟩
        have hg : w4.grownBy w5 (some b5) := by subst hw; exact grown_set w4 b5 6 _
        have HR5 : Hid (L8 w5 b5 [.int .i64 (kk : Nat), .int .i64 (ff : Nat), .int .i64 (tt : Nat), .int .i64 (gg : Nat), .int .i64 (pp : Nat), .int .i64 (nn : Nat), .slice a9 (q + 1) c9, .slice none 0 0]) := by subst hw; exact HR4.out.set 6 _
        have HA5 := Lib.hid (HA4.out.kept hg (fun e => HNE5.out.2.1 e.symm))
        have HC5 := Lib.hid (HC4.out.by8 HR4.out (by intro y hy n e; subst e; simp at hy) hg HNE5.out.1)
        have HO5 := Lib.hid (HO4.out.lo hg HNE5.out.2.2.2.2.2.1)
        have HB5 : Hid (Below W0 w w5) := HB4.out.grown hg HZ4.out (fun j hj => by have := Option.some.inj hj; have := HNE5.out; omega)
        have HZ5 : Hid (W0 ≤ w5.heap.size) := Nat.le_trans HZ4.out hg.size
        have HBB5 : Hid (B ≤ w5.heap.size) := Nat.le_trans HBB4.out hg.size
        try rw [← hw]
        clear hw hg HR4 HA4 HC4 HB4 HO4 HZ4 HBB4
        obtain ⟨sl', sb'⟩ := s'
        go_wp2
        go_roundw
        case rel => exact ⟨q + 1, a9, c9, _, sl', sb', by omega, by go_num, HN, HC5, HA5, HR5, HO5, HB5, HZ5, HBB5⟩
        case measure => simp [intOf]; omega
      · have hd : (decide (q < cc) && !sb) = false := by
          cases sb
          · have h2 : ¬ q < cc := fun h => h1 ⟨h, rfl⟩
            simp [h2]
          · simp
        rw [hd]
        clear hd
        have HST : Hid ((sl, sb) = (LQ.tkp q s7).2) := HT.out.2
        have HQE : Hid (q = cc ∨ (LQ.tkp q s7).2.2 = true) := by
          show _ ∨ _
          rw [← HST.out]
          cases sb
          · left
            have : ¬ q < cc := fun h => h1 ⟨h, rfl⟩
            omega
          · right; rfl
        have HFAR : Hid (∀ rs, LQ.far xs q rs = ⟨kk, ff, tt, gg, pp, nn, ps, rs⟩) := fun rs => by
          unfold LQ.far
          rw [HHD.out, HT.out.1]
        have HPL : Hid (ps.length = q) := by show _ = _; rw [HT.out.1, LQ.tkp_len]
        have HLTS : Hid (∀ x ∈ sl, x < 256) := by
          have h := LQ.tkp_lt s7 (by have h := LQ.hd_lt HLT.out; rw [HHD.out] at h; exact h) q
          rw [← HST.out] at h
          exact h
        clear h1 HT
        go_wp2_with fail
        refine (get_any t 1 (sl, sb) wr (by omega) HC.out).mono ?_
        rintro e' w12 ⟨rfl, hc, hg⟩
        obtain ⟨m, hL⟩ : ∃ m, m = KM.gn 1 (sl, sb) := ⟨_, rfl⟩
        obtain ⟨s9, hs⟩ : ∃ s', s' = KM.gs 1 (sl, sb) := ⟨_, rfl⟩
        rw [← hL]
        rw [← hs] at hc
        have HM : Hid (m = KM.gn 1 (LQ.tkp q s7).2 ∧ s9 = KM.gs 1 (LQ.tkp q s7).2) := by show _ ∧ _; rw [← HST.out]; exact ⟨hL, hs⟩
        have HMB : Hid (m < 256) := by show m < 256; rw [hL]; exact KM.gn_lt (W := 1) HLTS.out
        have HQC : Hid (0 < m → LQ.cm xs = m ∧ LQ.sm xs = s9) := fun h0 => by
          have hsb : sb = false := by
            cases sb with
            | false => rfl
            | true => rw [hL, LQ.gn_short 1 _ rfl] at h0; omega
          have hqc : q = cc := by
            rcases HQE.out with h | h
            · exact h
            · rw [← HST.out, hsb] at h; cases h
          unfold LQ.cm LQ.sm
          rw [HHD.out]
          simp only
          rw [← hqc]
          exact ⟨HM.out.1.symm, HM.out.2.symm⟩
        have HC12 := Lib.hid hc
        have HA12 := Lib.hid (HA.out.kept hg HNE.out.1)
        have HR12 := Lib.hid (HR.out.kept hg HNE5.out.1)
        have HO12 := Lib.hid (HO.out.lo hg HNE5.out.2.2.2.1)
        have HB12 : Hid (Below W0 w w12) := HBL.out.grown hg HZ.out (fun j hj => by have := Option.some.inj hj; have := HNE.out; omega)
        have HZ12 : Hid (W0 ≤ w12.heap.size) := Nat.le_trans HZ.out hg.size
        have HBB12 : Hid (B ≤ w12.heap.size) := Nat.le_trans HBB.out hg.size
        clear hL hs hc hg HC HA HR HO HBL HZ HBB hcc
        have hmb := HMB.out
        go_wp2_with fail
        go_loopw [9] (fun s9_ wr => ∃ (j : Nat) (ra : Option Addr) (rc : Nat) (rs : List Pr) (sl : List Nat) (sb : Bool), j ≤ m ∧ s9_ = .int .i64 (j : Nat) ∧ Hid (LQ.RT j s9 (rs.map Prod.fst) (sl, sb)) ∧ Hid (CurAt 102 wr t (sl, sb)) ∧ Hid (L8 wr b2 [.int .i64 0, .int .i64 0, .int .i64 0, .int .i64 0, .int .i64 0, .int .i64 0, .slice none 0 0, .slice none 0 0]) ∧ Hid (L8 wr b5 [.int .i64 (kk : Nat), .int .i64 (ff : Nat), .int .i64 (tt : Nat), .int .i64 (gg : Nat), .int .i64 (pp : Nat), .int .i64 (nn : Nat), .slice pa q pc, .slice ra j rc]) ∧ Hid (OI wr B (.slice pa q pc) ps) ∧ Hid (RS wr B (.slice ra j rc) rs) ∧ Hid (Below W0 w wr) ∧ Hid (W0 ≤ wr.heap.size) ∧ Hid (B ≤ wr.heap.size)) (fun s9_ _ => m - (intOf s9_).toNat)
        case atStart => exact ⟨0, none, 0, [], s9.1, s9.2, by omega, by rfl, ⟨rfl, rfl⟩, HC12, HA12, HR12, HO12, RS.nil _ _, HB12, HZ12, HBB12⟩
        case round =>
          clear HC12 HA12 HR12 HO12 HB12 HZ12 HBB12
          obtain ⟨j, ra, rc, rs, sl, sb, hj, rfl, HT, HC, HA, HR, HO, HS, HBL, HZ, HBB⟩ := hrel
          have HRL : Hid (rs.length = j) := by have h := HT.out.len; rw [List.length_map] at h; exact h
          go_upto_region 11 with fail
          go_cut [64] (fun s64 wx => s64 = .bool (decide (j < m) && !sb) ∧ wr = wx)
          case first =>
            obtain ⟨ca, cc', c0, c1, z0, z1, hu, hh⟩ := HC.out.cells
            simp only at c0 c1
            have htl := HC.out.lt
            clear hu hh z0 z1
            by_cases h1 : j < m
            · cases sb
              all_goals
                go_wp2
                go_meet
                exact ⟨by simp [h1], rfl⟩
            · go_wp2
              go_meet
              exact ⟨by simp [h1], rfl⟩
          case rest =>
            obtain ⟨rfl, rfl⟩ := hcut
            by_cases h1 : j < m ∧ sb = false
            · obtain ⟨h1, rfl⟩ := h1
              have hd : (decide (j < m) && !false) = true := by simp [h1]
              rw [hd]
              clear hd
              have HCM := Lib.hid (HQC.out (by omega))
              have HRT0 : Hid (LQ.RT j (LQ.sm xs) (rs.map Prod.fst) (sl, false) ∧ j < LQ.cm xs) := by show _ ∧ _; rw [HCM.out.1, HCM.out.2]; exact ⟨HT.out, h1⟩
              have HLS : Hid (∀ x ∈ sl, x < 256) := HRT0.out.1.lt (LQ.sm_lt HLT.out)
              have HLN : Hid (sl.length ≤ 1000000000) := by
                have h1 := HRT0.out.1.slen
                have h2 := LQ.sm_len xs
                have h3 := HXS.out
                show _ ≤ _
                simp only at h1
                omega
              go_wp2_with fail
              refine (get_any t 2 (sl, false) wr (by omega) HC.out).mono ?_
              rintro e' w2 ⟨rfl, hc, hg⟩
              obtain ⟨k, hL⟩ : ∃ k, k = KM.gn 2 (sl, false) := ⟨_, rfl⟩
              obtain ⟨sa, hs⟩ : ∃ s', s' = KM.gs 2 (sl, false) := ⟨_, rfl⟩
              rw [← hL]
              rw [← hs] at hc
              obtain ⟨al, ab⟩ := sa
              have hkb : k < 65536 := by rw [hL]; exact KM.gn_lt (W := 2) HLS.out
              have HLSA : Hid (∀ x ∈ al, x < 256) := by have h := KM.gs_lt (W := 2) (s := (sl, false)) HLS.out; rw [← hs] at h; exact h
              have HLNA : Hid (al.length ≤ 1000000000) := by have h := KM.gs_len 2 (sl, false); rw [← hs] at h; exact Nat.le_trans h HLN.out
              have HKS : Hid (k = KM.gn 2 (sl, false) ∧ (al, ab) = KM.gs 2 (sl, false)) := ⟨hL, hs⟩
              have HC2 := Lib.hid hc
              have HA2 := Lib.hid (HA.out.kept hg HNE.out.1)
              have HR2 := Lib.hid (HR.out.kept hg HNE5.out.1)
              have HO2 := Lib.hid (HO.out.lo hg HNE5.out.2.2.2.1)
              have HS2 := Lib.hid (HS.out.byCur HC.out hg HNE5.out.2.2.2.1)
              have HB2 : Hid (Below W0 w w2) := HBL.out.grown hg HZ.out (fun j hj => by have := Option.some.inj hj; have := HNE.out; omega)
              have HZ2 : Hid (W0 ≤ w2.heap.size) := Nat.le_trans HZ.out hg.size
              have HBB2 : Hid (B ≤ w2.heap.size) := Nat.le_trans HBB.out hg.size
              clear hL hs hc hg HC HA HR HO HS HBL HZ HBB HLS HLN
              obtain ⟨ca, cc', c0, c1, z0, z1, hu, hh⟩ := HC2.out.cells
              simp only at c0 c1 hu
              have htl := HC2.out.lt
              clear hh
              cases ab with
              | true =>
                have hno := LQ.piece_none HRT0.out.1 HRT0.out.2 (.inl (by rw [← HKS.out.2]))
                clear hu z0 z1 HO2 HR2 HS2
                go_wp2_with (refine wpList_store_l8 rfl _ _ rfl b2 _ [.int .i64 0, .int .i64 0, .int .i64 0, .int .i64 0, .int .i64 0, .int .i64 0, .slice none 0 0, .slice none 0 0] rfl rfl HA2.out rfl rfl one_z8 ?_)
                intro wf haf hg
                have HPF := Lib.hid (HZERO.out wf hno (HB2.out.grown hg HZ2.out (fun j hj => by have := Option.some.inj hj; have := HNE.out; omega)))
                clear hg
                obtain ⟨t0, t1, t2, t3, t4, t5, t6, t7⟩ := haf.all
                have hbl := haf.lt
                clear haf
                repeat (first | go_step | go_upon)
                refine bodyPost_ret (by simp [results, Try.results51, go_sem, t0, t1, t2, t3, t4, t5, t6, t7]; try rfl) rfl ?_
                exact HPF.out
              | false =>
                by_cases h2 : al.length < k
                · have hno := LQ.piece_none HRT0.out.1 HRT0.out.2 (.inr (by rw [← HKS.out.2, ← HKS.out.1]; exact h2))
                  clear hu z0 z1 HO2 HR2 HS2
                  generalize al.length = an at *
                  go_wp2_with (refine wpList_store_l8 rfl _ _ rfl b2 _ [.int .i64 0, .int .i64 0, .int .i64 0, .int .i64 0, .int .i64 0, .int .i64 0, .slice none 0 0, .slice none 0 0] rfl rfl HA2.out rfl rfl one_z8 ?_)
                  intro wf haf hg
                  have HPF := Lib.hid (HZERO.out wf hno (HB2.out.grown hg HZ2.out (fun j hj => by have := Option.some.inj hj; have := HNE.out; omega)))
                  clear hg
                  obtain ⟨t0, t1, t2, t3, t4, t5, t6, t7⟩ := haf.all
                  have hbl := haf.lt
                  clear haf
                  repeat (first | go_step | go_upon)
                  refine bodyPost_ret (by simp [results, Try.results51, go_sem, t0, t1, t2, t3, t4, t5, t6, t7]; try rfl) rfl ?_
                  exact HPF.out
                · obtain ⟨a2, c2, hsl, hd2⟩ := cut_to hu k (by omega)
                  have HSL := Lib.hid hsl
                  have HY := Lib.hid hd2
                  have HPC : Hid (al.take k = KM.pc (KM.gn 2 (sl, false)) (KM.gs 2 (sl, false)) ∧ (al.drop k, false) = KM.gs (KM.gn 2 (sl, false)) (KM.gs 2 (sl, false)) ∧ (al.take k).length = k) := by
                    show _ ∧ _
                    rw [← HKS.out.2, ← HKS.out.1]
                    have c : ¬ ((al, false).2 = true ∨ (al, false).1.length < k) := by simp; omega
                    unfold KM.pc KM.gs
                    rw [if_neg c, if_neg c]
                    exact ⟨rfl, rfl, by rw [List.length_take]; omega⟩
                  have HKA : Hid (k ≤ al.length) := by show _ ≤ _; omega
                  obtain ⟨an, han⟩ : ∃ an, an = al.length := ⟨_, rfl⟩
                  rw [← han] at c0 h2 hu HSL
                  have HAN := Lib.hid han
                  clear hsl hd2 hu han
                  obtain ⟨ys, hys⟩ : ∃ ys, ys = al.take k := ⟨_, rfl⟩
                  rw [← hys] at HY
                  have HYS := Lib.hid hys
                  have HYL : Hid (∀ x ∈ ys, x < 256) := HY.out.lt
                  have HYN : Hid (ys.length ≤ 1000000000) := by show _ ≤ _; rw [hys, HPC.out.2.2]; omega
                  clear hys
                  obtain ⟨r, er2, hri, _, hrd⟩ := asked14_new ys HYL.out HYN.out
                  have HRI := Lib.hid hri
                  have HRD := Lib.hid (hrd (.slice a2 k c2) w2 HY.out)
                  clear hri hrd HYL HYN HY
                  obtain ⟨dl, hdl⟩ : ∃ dl, dl = r.d.length := ⟨_, rfl⟩
                  have HDL := Lib.hid hdl
                  clear hdl
                  go_wp2_with (refine wpList_slice rfl 26 (.tmp 87) none (some (.tmp 88)) rfl elemBytes _ _ _ rfl rfl rfl (HSL.out _) ?_)
                  go_wp2_with fail
                  refine HRD.out.mono ?_
                  rintro e' w4 ⟨da, dc, rfl, hu, hx, hn⟩
                  rw [← HDL.out] at hu ⊢
                  have HU4 := Lib.hid hu
                  have HC4 := Lib.hid (HC2.out.ext hx)
                  have HA4 := Lib.hid (HA2.out.ext hx)
                  have HR4 := Lib.hid (HR2.out.ext hx)
                  have HO4 := Lib.hid (HO2.out.ext hx)
                  have HS4 := Lib.hid (HS2.out.ext hx)
                  have HB4 := Lib.hid (below_ext HB2.out hx HZ2.out)
                  have HZ4 : Hid (W0 ≤ w4.heap.size) := Nat.le_trans HZ2.out hx.size
                  have HBB4 : Hid (B ≤ w4.heap.size) := Nat.le_trans HBB2.out hx.size
                  clear hu hx hn HC2 HA2 HR2 HO2 HS2 HB2 HZ2 HBB2 HRD h2 c0 c1 z0 z1 htl HSL
                  simp only [Rc.val]
                  rcases HRI.out with ⟨rfl, hrr, hrb⟩ | ⟨rfl, rfl, hrn⟩
                  · have HRT : Hid (LQ.RT (j + 1) s9 ((rs ++ [((r, Value.slice da dl dc) : Pr)]).map Prod.fst) (al.drop k, false)) := by
                      refine ⟨rs.map Prod.fst, (sl, false), r, HT.out, by rw [List.map_append]; rfl, hrr, by rw [hrb, HYS.out]; exact HPC.out.1, HPC.out.2.1⟩
                    have HSLC : Hid (Slc ((r, Value.slice da dl dc) : Pr)) := ⟨da, dc, by rw [HDL.out]⟩
                    clear hrr hrb HRI
                    go_upto_region 19 with fail
                    generalize hw : World.alloc w4 _ = w5
                    have hx : w4.Extends w5 := by subst hw; exact ext_alloc _ _
                    have hbx : R10 w5 w4.heap.size [.int .i64 r.p, .int .i64 r.n, .int .i64 r.b, .int .i64 r.s, .int .i64 r.m, .int .i64 r.k, .int .i64 r.e, .bool r.g, .int .i64 r.u, .slice da dl dc] := by subst hw; exact heap_alloc_new _ _
                    have htb := HC4.out.lt
                    obtain ⟨bx, hbn⟩ : ∃ b, b = w4.heap.size := ⟨_, rfl⟩
                    rw [← hbn] at hbx ⊢
                    have HBT : Hid (bx ≠ t) := by show _ ≠ _; omega
                    have HBX := Lib.hid hbx
                    have HU5 := Lib.hid (HU4.out.ext hx)
                    have HC5 := Lib.hid (HC4.out.ext hx)
                    have HA5 := Lib.hid (HA4.out.ext hx)
                    have HR5 := Lib.hid (HR4.out.ext hx)
                    have HO5 := Lib.hid (HO4.out.ext hx)
                    have HS5 := Lib.hid (HS4.out.ext hx)
                    have HB5 := Lib.hid (below_ext HB4.out hx HZ4.out)
                    have HZ5 : Hid (W0 ≤ w5.heap.size) := Nat.le_trans HZ4.out hx.size
                    have HBB5 : Hid (B ≤ w5.heap.size) := Nat.le_trans HBB4.out hx.size
                    clear hw hx hbx hbn htb HC4 HA4 HR4 HO4 HS4 HB4 HZ4 HBB4 HU4
                    obtain ⟨ca, cc', c0, c1, z0, z1, hu, hh⟩ := HC5.out.cells
                    simp only at c0 c1 hu hh
                    have htl := HC5.out.lt
                    obtain ⟨a3, c3, hsl, hd3⟩ := cut_from hu k HKA.out
                    have HSL := Lib.hid hsl
                    have HLEFT : Hid (∀ w6, w6 = w5.setCell ⟨t, 0, none⟩ (.slice a3 (al.length - k) c3) → CurAt 102 w6 t (al.drop k, false) ∧ U8s w6 (.slice da dl dc) r.d) := fun w6 e => by
                      subst e
                      exact ⟨CurAt.left hh (by rw [List.length_drop]) hd3, HU5.out.beside hh (cur_cells _ _ _ _) (grown_set _ _ _ _)⟩
                    rw [← HAN.out] at c0 HSL HLEFT
                    clear hsl hd3 hu hh
                    go_upto_region 20 with (refine wpList_slice rfl 26 (.tmp 101) (some (.tmp 102)) none rfl elemBytes _ _ _ rfl rfl rfl (HSL.out _) ?_)
                    clear c0 c1 z0 z1 htl
                    obtain ⟨w6, hw⟩ : ∃ w', w' = w5.setCell ⟨t, 0, none⟩ (.slice a3 (an - k) c3) := ⟨_, rfl⟩
                    rw [← hw]
                    have hg : w5.grownBy w6 (some t) := by subst hw; exact grown_set w5 t 0 _
                    have HC6 := Lib.hid (HLEFT.out w6 hw).1
                    have HU6 := Lib.hid (HLEFT.out w6 hw).2
                    have HA6 := Lib.hid (HA5.out.kept hg HNE.out.1)
                    have HR6 := Lib.hid (HR5.out.kept hg HNE5.out.1)
                    have HO6 := Lib.hid (HO5.out.lo hg HNE5.out.2.2.2.1)
                    have HS6 := Lib.hid (HS5.out.byCur HC5.out hg HNE5.out.2.2.2.1)
                    have HBX6 := Lib.hid (HBX.out.kept hg HBT.out)
                    have HB6 : Hid (Below W0 w w6) := HB5.out.grown hg HZ5.out (fun j hj => by have := Option.some.inj hj; have := HNE.out; omega)
                    have HZ6 : Hid (W0 ≤ w6.heap.size) := Nat.le_trans HZ5.out hg.size
                    have HBB6 : Hid (B ≤ w6.heap.size) := Nat.le_trans HBB5.out hg.size
                    clear hw hg HC5 HU5 HA5 HR5 HO5 HS5 HBX HB5 HZ5 HBB5 HSL HLEFT HBT
                    have q7 := HR6.out.cell 7 _ rfl
                    have hlt := HR6.out.lt
                    have d0 := HBX6.out.cell 0 _ rfl
                    have d1 := HBX6.out.cell 1 _ rfl
                    have d2 := HBX6.out.cell 2 _ rfl
                    have d3 := HBX6.out.cell 3 _ rfl
                    have d4 := HBX6.out.cell 4 _ rfl
                    have d5 := HBX6.out.cell 5 _ rfl
                    have d6 := HBX6.out.cell 6 _ rfl
                    have d7 := HBX6.out.cell 7 _ rfl
                    have d8 := HBX6.out.cell 8 _ rfl
                    have d9 := HBX6.out.cell 9 _ rfl
                    have dlt := HBX6.out.lt
                    go_wp2_with (at_builtin; refine wpList_app_rs rfl (.tmp 107) (.tmp 109) rfl B _ rs rfl (HS6.out.ext (ext_alloc _ _)) _ ((r, Value.slice da dl dc) : Pr) rfl (src_rec (r := r) Try.underlying47 _ _ rfl rfl) HSLC.out (HU6.out.ext (ext_alloc _ _)) (by rw [HRL.out]; omega) (Nat.le_trans HBB6.out (ext_alloc _ _).size) ?_)
                    intro v9 w7 ho6 hg6
                    obtain ⟨a9, c9, hv9⟩ := ho6.slice
                    rw [List.length_append, HRL.out] at hv9
                    obtain rfl : v9 = .slice a9 (j + 1) c9 := hv9
                    have HS7 := Lib.hid ho6
                    have HC7 := Lib.hid ((HC6.out.ext (ext_alloc _ _)).row (HS6.out.ext (ext_alloc _ _)).own (HS6.out.ext (ext_alloc _ _)).clean hg6 HNE5.out.2.2.2.1)
                    have HA7 := Lib.hid ((HA6.out.ext (ext_alloc _ _)).own (HS6.out.ext (ext_alloc _ _)).own hg6 HNE5.out.2.2.2.2.1)
                    have HR7 := Lib.hid ((HR6.out.ext (ext_alloc _ _)).own (HS6.out.ext (ext_alloc _ _)).own hg6 HNE5.out.2.2.2.2.2.1)
                    have HO7 := Lib.hid ((HO6.out.ext (ext_alloc _ _)).kept hg6 (owns_unlike HO6.out.own HS6.out.own (by decide)))
                    have HB7 : Hid (Below W0 w w7) := (below_ext HB6.out (ext_alloc _ _) HZ6.out).grown hg6 (Nat.le_trans HZ6.out (ext_alloc _ _).size) (fun i hi => by have h1 := (HS6.out.own.lt i hi).1; have h2 := HNE5.out; omega)
                    have HZ7 : Hid (W0 ≤ w7.heap.size) := Nat.le_trans HZ6.out (Nat.le_trans (ext_alloc _ _).size hg6.size)
                    have HBB7 : Hid (B ≤ w7.heap.size) := Nat.le_trans HBB6.out (Nat.le_trans (ext_alloc _ _).size hg6.size)
                    clear ho6 hg6 q7 hlt d0 d1 d2 d3 d4 d5 d6 d7 d8 d9 dlt HBX6 HC6 HA6 HR6 HO6 HS6 HB6 HZ6 HBB6 HU6
                    have t7 := HR7.out.cell 7 _ rfl
                    have f7 := HR7.out.frozen 7
                    have hb := HR7.out.lt
                    go_wp2_with fail
                    clear t7 f7 hb
                    obtain ⟨w8, hw⟩ : ∃ w', w' = w7.setCell ⟨b5, 7, none⟩ (.slice a9 (j + 1) c9) := ⟨_, rfl⟩
                    have hg : w7.grownBy w8 (some b5) := by subst hw; exact grown_set w7 b5 7 _
                    have HR8 : Hid (L8 w8 b5 [.int .i64 (kk : Nat), .int .i64 (ff : Nat), .int .i64 (tt : Nat), .int .i64 (gg : Nat), .int .i64 (pp : Nat), .int .i64 (nn : Nat), .slice pa q pc, .slice a9 (j + 1) c9]) := by subst hw; exact HR7.out.set 7 _
                    have HA8 := Lib.hid (HA7.out.kept hg (fun e => HNE5.out.2.1 e.symm))
                    have HC8 := Lib.hid (HC7.out.by8 HR7.out (by intro y hy n e; subst e; simp at hy) hg HNE5.out.1)
                    have HO8 := Lib.hid (HO7.out.lo hg HNE5.out.2.2.2.2.2.1)
                    have HS8 := Lib.hid (HS7.out.by8 HR7.out (by intro y hy n e; subst e; simp at hy) hg HNE5.out.2.2.2.2.2.1)
                    have HB8 : Hid (Below W0 w w8) := HB7.out.grown hg HZ7.out (fun j hj => by have := Option.some.inj hj; have := HNE5.out; omega)
                    have HZ8 : Hid (W0 ≤ w8.heap.size) := Nat.le_trans HZ7.out hg.size
                    have HBB8 : Hid (B ≤ w8.heap.size) := Nat.le_trans HBB7.out hg.size
                    try rw [← hw]
                    clear hw hg HR7 HA7 HC7 HB7 HO7 HS7 HZ7 HBB7
                    go_wp2
                    go_roundw
                    case rel => exact ⟨j + 1, a9, c9, _, _, _, by omega, by go_num, HRT, HC8, HA8, HR8, HO8, HS8, HB8, HZ8, HBB8⟩
                    case measure => simp [intOf]; omega
                  · have hno := LQ.none_rec HRT0.out.1 HRT0.out.2 (fun r' h2 h3 => hrn r' h2 (by rw [h3, HYS.out]; exact HPC.out.1.symm))
                    clear hrn HRI HC4 HR4 HO4 HS4 HU4 HT HRL HFAR
                    go_upto_region 18 with fail
                    generalize hw : World.alloc w4 _ = w5
                    have hx : w4.Extends w5 := by subst hw; exact ext_alloc _ _
                    have HA5 := Lib.hid (HA4.out.ext hx)
                    have HB5 := Lib.hid (below_ext HB4.out hx HZ4.out)
                    have HZ5 : Hid (W0 ≤ w5.heap.size) := Nat.le_trans HZ4.out hx.size
                    clear hw hx HA4 HB4 HZ4
                    go_wp2_with (refine wpList_store_l8 rfl _ _ rfl b2 _ [.int .i64 0, .int .i64 0, .int .i64 0, .int .i64 0, .int .i64 0, .int .i64 0, .slice none 0 0, .slice none 0 0] rfl rfl HA5.out rfl rfl one_z8 ?_)
                    intro wf haf hg
                    have HPF := Lib.hid (HZERO.out wf hno (HB5.out.grown hg HZ5.out (fun j hj => by have := Option.some.inj hj; have := HNE.out; omega)))
                    clear hg
                    obtain ⟨t0, t1, t2, t3, t4, t5, t6, t7⟩ := haf.all
                    have hbl := haf.lt
                    clear haf
                    repeat (first | go_step | go_upon)
                    refine bodyPost_ret (by simp [results, Try.results51, go_sem, t0, t1, t2, t3, t4, t5, t6, t7]; try rfl) rfl ?_
                    exact HPF.out
            · have hd : (decide (j < m) && !sb) = false := by
                cases sb
                · have h2 : ¬ j < m := fun h => h1 ⟨h, rfl⟩
                  simp [h2]
                · simp
              rw [hd]
              clear hd
              have HEND : Hid (∀ l', LQ.Right l' → LQ.bytes l' = xs → sb = false ∧ (⟨kk, ff, tt, gg, pp, nn, ps, rs.map Prod.fst⟩ : Lt) = l') := fun l' h2 h3 => by
                have hT := HT.out
                rw [HM.out.2] at hT
                have hje : j = m ∨ sb = true := by
                  cases sb
                  · left
                    have : ¬ j < m := fun h => h1 ⟨h, rfl⟩
                    omega
                  · right; rfl
                have e : ∀ (Q : Nat), cc = Q → q ≤ cc → q ≤ Q := fun Q h h' => by omega
                have hcd : (LQ.hd xs).c = cc := by rw [HHD.out]
                have hsd : (LQ.hd xs).s = s7 := by rw [HHD.out]
                obtain ⟨e1, e2⟩ := LQ.end_some (xs := xs) (q := q) (j := j) (rs := rs.map Prod.fst) (s := (sl, sb)) (by rw [hcd]; exact hq) (by rw [hcd, hsd]; exact HQE.out) (by rw [hsd]; exact hT) (by rw [hsd, ← HM.out.1]; exact hj) (by rw [hsd, ← HM.out.1]; exact hje) h2 h3
                rw [HFAR.out] at e2
                exact ⟨e1, e2⟩
              have HLV : Hid (LetV wr (.slice pa q pc) (.slice ra j rc) ⟨kk, ff, tt, gg, pp, nn, ps, rs.map Prod.fst⟩) := ⟨HO.out.own.ints, HS.out.recs⟩
              have HLB := Lib.hid (rlbytes_any _ _ _ wr HLV.out)
              have HLB2 : Hid (Calls Try.prog 52 #[.agg #[.int .i64 (kk : Nat), .int .i64 (ff : Nat), .int .i64 (tt : Nat), .int .i64 (gg : Nat), .int .i64 (pp : Nat), .int .i64 (nn : Nat), .slice pa q pc, .slice ra j rc]] wr (RLB ⟨kk, ff, tt, gg, pp, nn, ps, rs.map Prod.fst⟩ wr)) := HLB.out
              clear HLB HT HM HQC HQE HHD HFAR HST HMB HCC HLTS h1
              obtain ⟨q0, q1, q2, q3, q4, q5, q6, q7⟩ := HR.out.all
              have hbq := HR.out.lt
              go_wp2_with fail
              clear q0 q1 q2 q3 q4 q5 q6 q7 hbq
              refine HLB2.out.mono ?_
              rintro e' w23 ⟨bs, yv, rfl, hy, hx, hbs⟩
              obtain ⟨ya, yc, rfl, _, _⟩ := hy.slice
              obtain ⟨bl, hbl⟩ : ∃ bl, bl = bs.length := ⟨_, rfl⟩
              rw [← hbl] at hy ⊢
              have HY := Lib.hid hy
              have HBLN := Lib.hid hbl
              have HBS := Lib.hid hbs
              have HC23 := Lib.hid (HC.out.ext hx)
              have HA23 := Lib.hid (HA.out.ext hx)
              have HR23 := Lib.hid (HR.out.ext hx)
              have HLV23 := Lib.hid (HLV.out.ext hx)
              have HB23 := Lib.hid (below_ext HBL.out hx HZ.out)
              have HZ23 : Hid (W0 ≤ w23.heap.size) := Nat.le_trans HZ.out hx.size
              have HON : Hid ((Value.slice pa q pc).ownBlock ≠ some b2 ∧ (Value.slice ra j rc).ownBlock ≠ some b2) := by
                have h2 := HNE5.out
                exact ⟨fun e => by have := (HO.out.own.lt b2 e).1; omega, fun e => by have := (HS.out.own.lt b2 e).1; omega⟩
              clear hy hbl hbs hx HC HA HR HO HS HBL HZ HBB HLV HLB2
              obtain ⟨ca, cc', c0, c1, z0, z1, hu, hh⟩ := HC23.out.cells
              simp only at c0 c1
              have htl := HC23.out.lt
              clear hu hh z0 z1 c0
              cases sb with
              | true =>
                have hno : ∀ l', LQ.Right l' → LQ.bytes l' ≠ xs := fun l' h2 h3 => by have := (HEND.out l' h2 h3).1; cases this
                clear HR23 HLV23
                go_wp2_with (refine wpList_store_l8 rfl _ _ rfl b2 _ [.int .i64 0, .int .i64 0, .int .i64 0, .int .i64 0, .int .i64 0, .int .i64 0, .slice none 0 0, .slice none 0 0] rfl rfl HA23.out rfl rfl one_z8 ?_)
                intro wf haf hg
                have HPF := Lib.hid (HZERO.out wf hno (HB23.out.grown hg HZ23.out (fun j hj => by have := Option.some.inj hj; have := HNE.out; omega)))
                clear hg
                obtain ⟨t0, t1, t2, t3, t4, t5, t6, t7⟩ := haf.all
                have hbl := haf.lt
                clear haf
                repeat (first | go_step | go_upon)
                refine bodyPost_ret (by simp [results, Try.results51, go_sem, t0, t1, t2, t3, t4, t5, t6, t7]; try rfl) rfl ?_
                exact HPF.out
              | false =>
                rcases HBS.out with ⟨hR, hbb⟩ | ⟨hR, hbb⟩
                · have hlen : 23 ≤ bl := by rw [HBLN.out, hbb]; exact LQ.bytes_pos _
                  have hlen0 : (((bl : Int)) == 0) = false := by rw [beq_eq_false_iff_ne]; omega
                  have hv1 := conv_lb HY.out
                  have hv2 := conv_lb ((HV.out).ext (HE.out w23 HB23.out))
                  obtain ⟨sx, hsx⟩ : ∃ sx, sx = strOf xs := ⟨_, rfl⟩
                  rw [← hsx] at hv2
                  have HBSL : Hid (∀ x ∈ bs, x < 256) := HY.out.lt
                  clear hlen
                  by_cases he : bs = xs
                  case neg =>
                    have hno : ∀ l', LQ.Right l' → LQ.bytes l' ≠ xs := fun l' h2 h3 => he (by rw [hbb, (HEND.out l' h2 h3).2, h3])
                    obtain ⟨sy, hsy⟩ : ∃ sy, sy = strOf bs := ⟨_, rfl⟩
                    rw [← hsy] at hv1
                    have hne : sy ≠ sx := fun h => he (strOf_inj HBSL.out HLT.out (by rw [← hsy, ← hsx]; exact h))
                    have hne1 : (sy.toList == sx.toList) = false := str_list_ne hne
                    clear hsy hsx he hne hbb HR23 HLV23
                    go_wp2_with (refine wpList_store_l8 rfl _ _ rfl b2 _ [.int .i64 0, .int .i64 0, .int .i64 0, .int .i64 0, .int .i64 0, .int .i64 0, .slice none 0 0, .slice none 0 0] rfl rfl HA23.out rfl rfl one_z8 ?_)
                    intro wf haf hg
                    have HPF := Lib.hid (HZERO.out wf hno (HB23.out.grown hg HZ23.out (fun j hj => by have := Option.some.inj hj; have := HNE.out; omega)))
                    clear hg
                    obtain ⟨t0, t1, t2, t3, t4, t5, t6, t7⟩ := haf.all
                    have hbl := haf.lt
                    clear haf
                    repeat (first | go_step | go_upon)
                    refine bodyPost_ret (by simp [results, Try.results51, go_sem, t0, t1, t2, t3, t4, t5, t6, t7]; try rfl) rfl ?_
                    exact HPF.out
                  rw [he, ← hsx] at hv1
                  obtain ⟨rfl, rfl⟩ : er = 0 ∧ L = ⟨kk, ff, tt, gg, pp, nn, ps, rs.map Prod.fst⟩ := by
                    obtain ⟨e1, e2⟩ := LQ.is_uniq HIS.out (.inl ⟨rfl, hR, by rw [← hbb, he]⟩)
                    exact ⟨e2, e1⟩
                  have HGOOD : Hid (∀ wf, w23.grownBy wf (some b2) → LROut ⟨kk, ff, tt, gg, pp, nn, ps, rs.map Prod.fst⟩ ((0 : Nat) : Int) w (.returned (.tuple #[.agg #[.int .i64 (kk : Nat), .int .i64 (ff : Nat), .int .i64 (tt : Nat), .int .i64 (gg : Nat), .int .i64 (pp : Nat), .int .i64 (nn : Nat), .slice pa q pc, .slice ra j rc], .int .i64 0])) wf) := fun wf hg =>
                    ⟨_, _, rfl, HLV23.out.by8 HA23.out (by intro y hy n e; subst e; simp at hy) hg HON.out.1 HON.out.2, HE.out _ (HB23.out.grown hg HZ23.out (fun j hj => by have := Option.some.inj hj; have := HNE.out; omega))⟩
                  clear hsx he hbb hR HIS HZERO
                  obtain ⟨r0, r1, r2, r3, r4, r5, r6, r7⟩ := HR23.out.all
                  have hbl5 := HR23.out.lt
                  go_wp2_with (refine wpList_store_l8 rfl _ _ rfl b2 _ [.int .i64 (kk : Nat), .int .i64 (ff : Nat), .int .i64 (tt : Nat), .int .i64 (gg : Nat), .int .i64 (pp : Nat), .int .i64 (nn : Nat), .slice pa q pc, .slice ra j rc] rfl rfl HA23.out rfl rfl (one_l8 _ _ _ _ _ _ _ _ _ _ _ _) ?_)
                  intro wf haf hg
                  clear r0 r1 r2 r3 r4 r5 r6 r7 hbl5
                  have HPF := Lib.hid (HGOOD.out wf hg)
                  clear hg
                  obtain ⟨t0, t1, t2, t3, t4, t5, t6, t7⟩ := haf.all
                  have hbl := haf.lt
                  clear haf
                  repeat (first | go_step | go_upon)
                  refine bodyPost_ret (by simp [results, Try.results51, go_sem, t0, t1, t2, t3, t4, t5, t6, t7]; try rfl) rfl ?_
                  exact HPF.out
                · have hno : ∀ l', LQ.Right l' → LQ.bytes l' ≠ xs := fun l' h2 h3 => hR ((HEND.out l' h2 h3).2 ▸ h2)
                  have hbl0 : bl = 0 := by rw [HBLN.out, hbb]; rfl
                  subst hbl0
                  clear hR hbb HR23 HLV23
                  go_wp2_with (refine wpList_store_l8 rfl _ _ rfl b2 _ [.int .i64 0, .int .i64 0, .int .i64 0, .int .i64 0, .int .i64 0, .int .i64 0, .slice none 0 0, .slice none 0 0] rfl rfl HA23.out rfl rfl one_z8 ?_)
                  intro wf haf hg
                  have HPF := Lib.hid (HZERO.out wf hno (HB23.out.grown hg HZ23.out (fun j hj => by have := Option.some.inj hj; have := HNE.out; omega)))
                  clear hg
                  obtain ⟨t0, t1, t2, t3, t4, t5, t6, t7⟩ := haf.all
                  have hbl := haf.lt
                  clear haf
                  repeat (first | go_step | go_upon)
                  refine bodyPost_ret (by simp [results, Try.results51, go_sem, t0, t1, t2, t3, t4, t5, t6, t7]; try rfl) rfl ?_
                  exact HPF.out
end Go.Proofs.Ytdbdnfjgmdkneaa
