/- In one text: TabNearW. -/
import Derived.Deep.DeepCutAuto
import Derived.Test.YtffcjnabhblbaaaMA14
namespace Go.Proofs.Ytffcjnabhblbaaa
set_option maxRecDepth 20000
open Go.RowKit Go.Deep
set_option linter.unusedVariables false
/-- x[lo:lo+1]. -/
theorem cut_one {w : World} {a : Option Addr} {N cap lo hi : Nat} {l : List Int} (h : Ints w (.slice a N cap) l) (hh : hi = lo + 1) (hlo : lo < N) : ∃ a' c',
    (∀ w' : World, (Instr.slice 36 (.slice a N cap) (some (.int .i64 (lo : Nat))) (some (.int .i64 (hi : Nat))) none).run Try.prog w' = .ok (.slice a' 1 c') w') ∧ Ints w (.slice a' 1 c') [l.getD lo 0] := by
  obtain ⟨hn, hc⟩ := h.cell
  obtain ⟨_, cap', hv, h1, h2⟩ := h.slice
  cases hv
  obtain ⟨b, off, rfl, hb, hcell⟩ := hc (by omega)
  refine ⟨some ⟨b, off + lo, none⟩, cap - lo, fun w' => ?_, .inr ⟨b, off + lo, cap - lo, rfl, by simp; omega, by omega, hb, fun k hk => ?_⟩⟩
  · rw [run_slice_lh (P := Try.prog) w' 36 _ _ cap intSlice .i64 .i64 ((lo : Nat) : Int) ((hi : Nat) : Int) (by omega) (by omega) (by omega), intSize]
    simp only [Result.andThen_ok, Int.toNat_natCast, sliced, Nat.mul_one, if_neg (show ¬ cap = lo by omega), show hi - lo = 1 by omega, Option.map_some, Addr.add_mid]
  · obtain rfl : k = 0 := by simpa using hk
    exact hcell lo hlo
theorem near_in {kk : List Nat} {b : Nat → List Ct} {c : Nat} {x : Int} (h : x ∈ (nearT kk b).take c) : x ∈ allT b :=
  ((nearT_perm kk b).trans (allT_perm b).symm).subset (List.mem_of_mem_take h)
theorem near_row {kk : List Nat} (hK : KY.Ok kk) {b : Nat → List Ct} {c i q : Nat} (hi : i < ((nearT kk b).take c).length) (hq : i = q + 1) : KY.lt (far kk (((nearT kk b).take c).getD i 0)) (far kk (((nearT kk b).take c).getD q 0)) = false := by
  rw [List.length_take] at hi
  have h1 : i < (nearT kk b).length := by omega
  have h2 : q < (nearT kk b).length := by omega
  have := List.pairwise_iff_getElem.1 (nearT_srt hK b) q i h2 h1 (by omega)
  have e1 : ((nearT kk b).take c).getD i 0 = (nearT kk b)[i] := by simp [show i < c by omega, h1]
  have e2 : ((nearT kk b).take c).getD q 0 = (nearT kk b)[q] := by simp [show q < c by omega, h2]
  rw [e1, e2]
  exact nlt_far this
theorem near_out {kk : List Nat} (hK : KY.Ok kk) {b : Nat → List Ct} {c : Nat} {x z : Int} (hx : x ∈ (nearT kk b).take c) (hz : z ∈ allT b) (hn : z ∉ (nearT kk b).take c) : KY.lt (far kk z) (far kk x) = false := by
  have hs := nearT_srt hK b
  have hzs : z ∈ nearT kk b := ((allT_perm b).trans (nearT_perm kk b).symm).subset hz
  rw [← List.take_append_drop c (nearT kk b)] at hs hzs
  have hzd : z ∈ (nearT kk b).drop c := by
    rcases List.mem_append.1 hzs with h | h
    · exact absurd h hn
    · exact h
  exact nlt_far ((List.pairwise_append.1 hs).2.2 x hx z hzd)
theorem near_len {kk : List Nat} {b : Nat → List Ct} {n : Int} (h0 : 0 ≤ n) (h1 : n ≤ 100) {N M : Nat} (hN : (allT b).length = N) (hM : ((nearT kk b).take (cutN n)).length = M) : (M : Int) ≤ n ∧ M ≤ N ∧ ((M : Int) < n → M = N) := by
  have e : (nearT kk b).length = N := by rw [← hN]; exact ((nearT_perm kk b).trans (allT_perm b).symm).length_eq
  have hc : cutN n = n.toNat := by unfold cutN; omega
  rw [List.length_take, e, hc] at hM
  omega
/-- The variable d. -/
def MidD (W0 : World) (d : List Nat) (s15 : Value) (wx : World) : Prop := ∃ y, s15 = .pointer (some ⟨y, 0, none⟩) ∧ KAt wx y d ∧ W0.Extends wx
theorem midd_of {W0 wd W : World} {y : Nat} {d : List Nat} (h0 : W0.Extends wd) (hx : wd.Extends W) (h : KAt W y KY.zero ∧ wd.heap.size ≤ y) (hd : d.length = 20) : MidD W0 d (.pointer (some ⟨y, 0, none⟩)) (W.setRow y (KC d)) :=
  ⟨y, rfl, kat_put h.1 hd, Gr.ext_of ((Gr.below_of (Gr.ext_trans h0 hx)).trans ⟨rfl, rfl, rfl, by simp, fun i hi => setRow_other _ _ i _ (by have := h.2; have := h0.size; omega)⟩)⟩
set_option maxHeartbeats 16000000 in
theorem TableNear_walk (p : Int) (v : Value) (l : List Int) (kk : List Nat) (n : Int) (w : World) (_hp : (Lit.int .i64 p).wf = true) (hv : Ints w v l ∧ ∀ y ∈ l, -9223372036854775808 ≤ y ∧ y ≤ 9223372036854775807) (hK : KY.Ok kk) (_hn : (Lit.int .i64 n).wf = true) :
    Calls Try.prog 4 #[.int .i64 p, v, KV kk, .int .i64 n] w fun e w' => e = .returned (.bool true) ∧ Below w.heap.size w w' := by
  obtain ⟨ln, hln⟩ : ∃ ln, l.length = ln := ⟨_, rfl⟩
  obtain ⟨va, vc, rfl, _, _⟩ := hv.1.slice
  rw [hln] at hv ⊢
  have HV := Lib.hid hv.1
  have HLN := Lib.hid hln
  have HK := Lib.hid hK
  have HLK := Lib.hid hK.1
  obtain ⟨s0, hs0⟩ : ∃ s, w.heap.size = s := ⟨_, rfl⟩
  have HBOX : Hid (∀ w1, w1 = w.alloc (.cells (KC kk) 24) → w.Extends w1 ∧ KAt w1 s0 kk) := fun w1 e => by
    subst e; subst hs0
    exact ⟨ext_alloc _ _, KAt.new w hK.1⟩
  have HI := Lib.hid (key_info hK.1)
  clear hv hln hK
  go_enter Try.func4, Try.ntmps4
  go_upto_region 1 with fail
  generalize hw1 : World.alloc w _ = wb
  obtain ⟨hxb, hkb⟩ := HBOX.out wb hw1.symm
  have HXB := Lib.hid hxb
  have HKB := Lib.hid hkb
  clear hw1 HBOX hxb hkb hs0
  go_wp2_with fail
  refine (alive19_any wb).mono ?_
  rintro e w1 ⟨rfl, hx1⟩
  have HX1 := Lib.hid (Gr.ext_trans HXB.out hx1)
  have HKA1 : Hid (KAt w1 s0 kk) := HKB.out.ext hx1
  clear hx1
  by_cases h60 : 60 < ln
  · have h1 : decide (((ln : Nat) : Int) > 60) = true := decide_eq_true (by omega)
    have h2 : ((ln : Nat) : Int) > 60 := by omega
    have h3 : (60 : Int) < ((ln : Nat) : Int) := by omega
    go_wp2
    go_ret
    exact ⟨rfl, Gr.below_of HX1.out⟩
  · have h1 : ¬ ((ln : Nat) : Int) > 60 := by omega
    have h2 : ¬ (60 : Int) < ((ln : Nat) : Int) := by omega
    by_cases hn0 : n < 0
    · go_wp2
      go_ret
      exact ⟨rfl, Gr.below_of HX1.out⟩
    · by_cases hn1 : 100 < n
      · have h3 : n > 100 := hn1
        go_wp2
        go_ret
        exact ⟨rfl, Gr.below_of HX1.out⟩
      · have h3 : ¬ n > 100 := hn1
        have HN0 : Hid (0 ≤ n ∧ n ≤ 100) := ⟨by omega, by omega⟩
        have HNT := Lib.hid (tnew_any p w1)
        go_wp2_with fail
        refine HNT.out.mono ?_
        rintro e w2 ⟨rfl, hx2, ht2⟩
        obtain ⟨s, hs⟩ : ∃ s, s = w1.heap.size := ⟨_, rfl⟩
        rw [← hs] at ht2 ⊢
        have HS2 : Hid (Seen w1 w2 s p l (fun _ => [])) := ⟨hx2, Nat.le_of_eq hs.symm, ht2, TInv.new p, fun i c hc => nomatch hc⟩
        clear hx2 ht2 HNT h1 h2 h3 h60 hn0 hn1 hs
        go_wp2_with fail
        go_loopw [11] (fun s11 wr => ∃ k : Nat, k ≤ ln ∧ s11 = .int .i64 k ∧ ∃ b, Hid (Seen w1 wr s p l b)) (fun s11 _ => ln - (intOf s11).toNat)
        case atStart => exact ⟨0, by omega, rfl, _, HS2⟩
        case round =>
          obtain ⟨k, hk, rfl, b, HS⟩ := hrel
          by_cases h1 : k < ln
          · obtain ⟨vg, vo, rfl, _, hc⟩ := (HV.out.ext (Gr.ext_trans HX1.out HS.out.ext)).cell.2 (by omega)
            have hck := hc k h1
            obtain ⟨x, hx⟩ : ∃ x, x = l.getD k 0 := ⟨_, rfl⟩
            rw [← hx] at hck
            have HXL : Hid (x ∈ l) := by
              have : k < l.length := by rw [HLN.out]; exact h1
              rw [hx]; show _ ∈ l; simp [this]
            clear hx hc
            go_wp2_with fail
            refine (tsee_any s p x b wr HS.out.t).mono ?_
            rintro e w3 ⟨rfl, ht3, hg3⟩
            have HS3 := Lib.hid (HS.out.see (.inl HXL.out) ht3 hg3)
            clear ht3 hg3 hck
            go_wp2
            go_roundw
            case rel => exact ⟨k + 1, by omega, by go_num, _, HS3⟩
            case measure => simp [intOf]; omega
          · have HX0 := Lib.hid (Gr.ext_trans HX1.out HS.out.ext)
            go_wp2_with fail
            refine (tall_any s p b wr HS.out.t).mono ?_
            rintro e w4 ⟨u, rfl, hx4, hu4⟩
            have HS4 := Lib.hid (HS.out.on hx4)
            have HX4 := Lib.hid (Gr.ext_trans HX0.out hx4)
            obtain ⟨N, hN⟩ : ∃ N, (allT b).length = N := ⟨_, rfl⟩
            obtain ⟨aa, ac, rfl, _, _⟩ := hu4.slice
            have hNs := HS.out.len
            rw [hN] at hu4 hNs ⊢
            have HNN := Lib.hid hN
            have HA4 := Lib.hid hu4
            have HKA4 : Hid (KAt w4 s0 kk) := (HKA1.out.ext HS.out.ext).ext hx4
            have hb4 := HKA4.out.block HLK.out
            clear hx4 hu4 hN
            go_wp2_with (first | (refine wpList_load_row rfl 24 (.tmp 6) rfl s0 rfl 24 (KC kk) (0, 0) _ hb4 Try.underlying24 rfl HI.out ?_) | fail)
            refine (tnear_any s p b kk n w4 HS4.out.t HS4.out.inv HK.out).mono ?_
            rintro e w5 ⟨u, rfl, hx5, hu5⟩
            have HX5 := Lib.hid (Gr.ext_trans HX4.out hx5)
            have HA5 : Hid (Ints w5 (.slice aa N ac) (allT b)) := HA4.out.ext hx5
            have HKA5 : Hid (KAt w5 s0 kk) := HKA4.out.ext hx5
            obtain ⟨M, hM⟩ : ∃ M, ((nearT kk b).take (cutN n)).length = M := ⟨_, rfl⟩
            obtain ⟨na, nc, rfl, _, _⟩ := hu5.slice
            rw [hM] at hu5 ⊢
            have HMM := Lib.hid hM
            have HB5 := Lib.hid hu5
            obtain ⟨hl1, hl2, hl3⟩ := near_len (kk := kk) (b := b) HN0.out.1 HN0.out.2 HNN.out hM
            have HIN : Hid (∀ x, x ∈ (nearT kk b).take (cutN n) → x ∈ allT b) := fun x hx => near_in hx
            have HROW : Hid (∀ i q, i < M → i = q + 1 → KY.lt (far kk (((nearT kk b).take (cutN n)).getD i 0)) (far kk (((nearT kk b).take (cutN n)).getD q 0)) = false) := fun i q hi hq => near_row HK.out (by rw [hM]; exact hi) hq
            have HOUT : Hid (∀ x z, x ∈ (nearT kk b).take (cutN n) → z ∈ allT b → z ∉ (nearT kk b).take (cutN n) → KY.lt (far kk z) (far kk x) = false) := fun x z h1 h2 h3 => near_out HK.out h1 h2 h3
            clear hx5 hu5 hM hb4
            generalize (nearT kk b).take (cutN n) = ne at *
            generalize allT b = al at *
            have hMs : M ≤ 483 := by omega
            have HL1 : Hid ((M : Int) ≤ n) := hl1
            have HL2 : Hid (M ≤ N) := hl2
            have HL3 : Hid ((M : Int) < n → M = N) := hl3
            clear hl1 hl2 hl3
            have g1 : ¬ ((M : Nat) : Int) > n := by have := HL1.out; omega
            have g1' : ¬ n < ((M : Nat) : Int) := by have := HL1.out; omega
            have g2 : ¬ ((M : Nat) : Int) > ((N : Nat) : Int) := by have := HL2.out; omega
            have g2' : ¬ N < M := by have := HL2.out; omega
            go_upto_region 13 with fail
            go_cut [79] (fun s79 wx => s79 = .bool false ∧ w5 = wx)
            case first =>
              by_cases g3 : ((M : Nat) : Int) < n
              · have g4 : ¬ M < N := by have := HL3.out g3; omega
                have g5 : ¬ ((M : Nat) : Int) < ((N : Nat) : Int) := by omega
                go_wp2
                go_meet
                exact ⟨congrArg Value.bool (decide_eq_false (by omega)), rfl⟩
              · go_wp2
                go_meet
                exact ⟨congrArg Value.bool (decide_eq_false (by omega)), rfl⟩
            case rest =>
              obtain ⟨rfl, rfl⟩ := hcut
              clear g1 g1' g2 g2'
              go_wp2_with fail
              go_loopw [14] (fun s14 wz => ∃ i : Nat, i ≤ M ∧ s14 = .int .i64 i ∧ Hid (w5.Extends wz)) (fun s14 _ => M - (intOf s14).toNat)
              case atStart => exact ⟨0, by omega, rfl, Gr.ext_refl _⟩
              case round =>
                obtain ⟨i, hi, rfl, HXI⟩ := hrel
                by_cases h2 : i < M
                · obtain ⟨x, hx⟩ : ∃ x, x = ne.getD i 0 := ⟨_, rfl⟩
                  have HXX := Lib.hid hx
                  have HXIN : Hid (x ∈ ne) := by
                    have : i < ne.length := by rw [HMM.out]; exact h2
                    rw [hx]; show _ ∈ ne; simp [this]
                  obtain ⟨ia, ic, q1, i1⟩ := cut_one (lo := i) (hi := i + 1) HB5.out rfl h2
                  rw [← hx] at i1
                  rw [show ((i + 1 : Nat) : Int) = (i : Int) + 1 by omega] at q1
                  have HQ1 := Lib.hid q1
                  have HI1 := Lib.hid i1
                  have hwr : IntKind.i64.wrap ((i : Int) + 1) = (i : Int) + 1 := by rw [IntKind.wrap_i64]; omega
                  obtain ⟨d, hd⟩ : ∃ d, d = far kk x := ⟨_, rfl⟩
                  have HD := Lib.hid hd
                  have hdo : KY.Ok d := by rw [hd]; exact far_ok HK.out x
                  have HDO := Lib.hid hdo
                  have HDI := Lib.hid (key_info hdo.1)
                  have HDS : Hid ((KC KY.zero).size = (KC d).size) := by show _ = _; rw [KC_size, KC_size, hdo.1]; rfl
                  have HK1 : Hid (∀ w v, Ints w v [x] → Calls Try.prog 19 #[v] w fun e w' => e = .returned (KV (KY.of [x])) ∧ w.Extends w') := fun w v h => rkof_any w h
                  have HD1 : Hid (∀ w, Calls Try.prog 18 #[KV (KY.of [x]), KV kk] w fun e w' => e = .returned (KV d) ∧ w.Extends w') := fun w => by rw [hd]; exact rkdist_any (KY.of_ok _) HK.out w
                  obtain ⟨xk, hxk⟩ : ∃ x, KV kk = x := ⟨_, rfl⟩
                  have HXK := Lib.hid hxk
                  rw [hxk] at HD1
                  obtain ⟨yd, hyd⟩ : ∃ x, KV d = x := ⟨_, rfl⟩
                  have HYD := Lib.hid hyd
                  rw [hyd] at HD1
                  generalize KV (KY.of [x]) = x1 at *
                  clear hx q1 i1 hd hdo hxk hyd
                  go_upto_region 18 with fail
                  go_cut [15] (fun s15 wx => MidD w5 d s15 wx)
                  case first =>
                    refine Gr.regionE 9 3 [(false,0),(false,1),(false,2),(false,3),(false,4),(false,6)] (by kernel_rfl) (by kernel_rfl) (fun d _ _ _ _ h => by cases d <;> exact h) ?_
                    simp only [Gr.pick, List.getElem?_cons_zero, List.getElem?_cons_succ]
                    generalize hwd0 : wr.drew = wd
                    have HX0 : Hid (w5.Extends wd) := by rw [← hwd0]; exact Gr.ext_drew HXI.out
                    have HX : Hid (wd.Extends wd) := Gr.ext_refl _
                    clear hwd0
                    iterate 4
                      refine Gr.walkE_t ?_ (Or.inl ⟨by rfl, ?_⟩) ?_
                      rotate_left
                      · intro w' hw'
                        clear hw'
                        go_simp
                        try with_reducible rfl
                      simp only [Act.put, List.setIfInBounds_toArray, List.set_cons_zero, List.set_cons_succ]
                    refine Gr.walkE_t ?_ (Or.inl ⟨by rfl, ?_⟩) ?_
                    rotate_left
                    · intro w' hw'
                      have hs1 := HQ1.out w'
                      clear hw'
                      go_simp
                      try with_reducible rfl
                    simp only [Act.put, List.setIfInBounds_toArray, List.set_cons_zero, List.set_cons_succ]
                    refine Gr.walkE_t _ (Or.inl ⟨by rfl, fun w' hw' => key_yields (HKA5.out.ext (Gr.ext_trans HX0.out hw')) HLK.out (by rfl) (by rfl) (by exact HXK.out)⟩) ?_
                    simp only [Act.put, List.setIfInBounds_toArray, List.set_cons_zero, List.set_cons_succ]
                    refine Gr.walkE_nil ?_
                    refine Gr.Left.two (i := 5) (j := 8) (by kernel_rfl) (by kernel_rfl) (Gr.Step.mk rfl (fun K hK => ?_)) (Gr.Step.mk rfl (fun K hK => ?_))
                    · skip
                      go_simp
                      refine (HK1.out _ _ (HI1.out.ext (Gr.ext_trans HX0.out HX.out))).mono ?_
                      rintro e w1_ ⟨rfl, hx⟩
                      try go_simp
                      refine hK.out _ _ hx ?_
                      clear hK K
                      have HX := Lib.hid (Gr.ext_trans HX.out hx)
                      clear hx
                      refine Gr.Left.two (i := 7) (j := 8) (by kernel_rfl) (by kernel_rfl) (Gr.Step.mk rfl (fun K hK => ?_)) (Gr.Step.mk rfl (fun K hK => ?_))
                      · skip
                        go_simp
                        refine (HD1.out _).mono ?_
                        rintro e w2_ ⟨rfl, hx⟩
                        try go_simp
                        refine hK.out _ _ hx ?_
                        clear hK K
                        have HX := Lib.hid (Gr.ext_trans HX.out hx)
                        clear hx
                        refine Gr.Left.one (i := 8) (by kernel_rfl) (by kernel_rfl) (Gr.Step.mk rfl (fun K hK => ?_))
                        go_simp
                        generalize hw : World.alloc _ _ = w3_
                        have hx : w2_.Extends w3_ := by subst hw; exact ext_alloc _ _
                        have Y0 : KAt w3_ w2_.heap.size KY.zero ∧ wd.heap.size ≤ w2_.heap.size := by subst hw; exact ⟨KAt.zero_new w2_, HX.out.size⟩
                        clear hw
                        refine hK.out _ _ hx ?_
                        clear hK K
                        have HX := Lib.hid (Gr.ext_trans HX.out hx)
                        have Y := Lib.hid Y0
                        clear Y0
                        clear hx
                        refine Gr.Left.done (by kernel_rfl) ?_
                        simp only [List.drop_succ_cons, List.drop_zero]
                        have b8 := Y.out.1.block rfl
                        have HE := Lib.hid (midd_of (d := d) HX0.out HX.out Y.out HDO.out.1)
                        go_wp2_with (first | (refine wpList_store_row rfl 24 (.tmp 15) (.tmp 93) rfl _ (KC d) rfl HYD.out.symm 24 (KC KY.zero) b8 HDI.out HDS.out KC_one ?_) | fail)
                        go_meet
                        exact HE.out
                      · skip
                        go_simp
                        generalize hw : World.alloc _ _ = w4_
                        have hx : w1_.Extends w4_ := by subst hw; exact ext_alloc _ _
                        have Y0 : KAt w4_ w1_.heap.size KY.zero ∧ wd.heap.size ≤ w1_.heap.size := by subst hw; exact ⟨KAt.zero_new w1_, HX.out.size⟩
                        clear hw
                        refine hK.out _ _ hx ?_
                        clear hK K
                        have HX := Lib.hid (Gr.ext_trans HX.out hx)
                        have Y := Lib.hid Y0
                        clear Y0
                        clear hx
                        refine Gr.Left.one (i := 7) (by kernel_rfl) (by kernel_rfl) (Gr.Step.mk rfl (fun K hK => ?_))
                        go_simp
                        refine (HD1.out _).mono ?_
                        rintro e w5_ ⟨rfl, hx⟩
                        try go_simp
                        refine hK.out _ _ hx ?_
                        clear hK K
                        have HX := Lib.hid (Gr.ext_trans HX.out hx)
                        have Y := Lib.hid (And.intro (Y.out.1.ext hx) Y.out.2)
                        clear hx
                        refine Gr.Left.done (by kernel_rfl) ?_
                        simp only [List.drop_succ_cons, List.drop_zero]
                        have b8 := Y.out.1.block rfl
                        have HE := Lib.hid (midd_of (d := d) HX0.out HX.out Y.out HDO.out.1)
                        go_wp2_with (first | (refine wpList_store_row rfl 24 (.tmp 15) (.tmp 93) rfl _ (KC d) rfl HYD.out.symm 24 (KC KY.zero) b8 HDI.out HDS.out KC_one ?_) | fail)
                        go_meet
                        exact HE.out
                    · skip
                      go_simp
                      generalize hw : World.alloc _ _ = w6_
                      have hx : wd.Extends w6_ := by subst hw; exact ext_alloc _ _
                      have Y0 : KAt w6_ wd.heap.size KY.zero ∧ wd.heap.size ≤ wd.heap.size := by subst hw; exact ⟨KAt.zero_new wd, HX.out.size⟩
                      clear hw
                      refine hK.out _ _ hx ?_
                      clear hK K
                      have HX := Lib.hid (Gr.ext_trans HX.out hx)
                      have Y := Lib.hid Y0
                      clear Y0
                      clear hx
                      refine Gr.Left.one (i := 5) (by kernel_rfl) (by kernel_rfl) (Gr.Step.mk rfl (fun K hK => ?_))
                      go_simp
                      refine (HK1.out _ _ (HI1.out.ext (Gr.ext_trans HX0.out HX.out))).mono ?_
                      rintro e w7_ ⟨rfl, hx⟩
                      try go_simp
                      refine hK.out _ _ hx ?_
                      clear hK K
                      have HX := Lib.hid (Gr.ext_trans HX.out hx)
                      have Y := Lib.hid (And.intro (Y.out.1.ext hx) Y.out.2)
                      clear hx
                      refine Gr.Left.one (i := 7) (by kernel_rfl) (by kernel_rfl) (Gr.Step.mk rfl (fun K hK => ?_))
                      go_simp
                      refine (HD1.out _).mono ?_
                      rintro e w8_ ⟨rfl, hx⟩
                      try go_simp
                      refine hK.out _ _ hx ?_
                      clear hK K
                      have HX := Lib.hid (Gr.ext_trans HX.out hx)
                      have Y := Lib.hid (And.intro (Y.out.1.ext hx) Y.out.2)
                      clear hx
                      refine Gr.Left.done (by kernel_rfl) ?_
                      simp only [List.drop_succ_cons, List.drop_zero]
                      have b8 := Y.out.1.block rfl
                      have HE := Lib.hid (midd_of (d := d) HX0.out HX.out Y.out HDO.out.1)
                      go_wp2_with (first | (refine wpList_store_row rfl 24 (.tmp 15) (.tmp 93) rfl _ (KC d) rfl HYD.out.symm 24 (KC KY.zero) b8 HDI.out HDS.out KC_one ?_) | fail)
                      go_meet
                      exact HE.out
                  case rest =>
                    obtain ⟨y, rfl, hky, hxc⟩ := hcut
                    have HKY := Lib.hid hky
                    have HXC := Lib.hid hxc
                    clear hky hxc
                    obtain ⟨nb, no, rfl, _, hnc⟩ := HB5.out.cell.2 (by omega)
                    have hnx := hnc i h2
                    rw [← HXX.out] at hnx
                    have HNX := Lib.hid hnx
                    have hiM : ((i : Nat) : Int) < ((M : Nat) : Int) := by omega
                    have HHAS : Hid (∀ wz, w5.Extends wz → Calls Try.prog 20 #[.slice aa N ac, .int .i64 x] wz fun e w' => e = .returned (.bool true) ∧ wz = w') := fun wz hz => (has_any _ al x wz (HA5.out.ext hz)).mono fun e w' ⟨he, hw⟩ => ⟨by rw [he]; simp [HIN.out x HXIN.out], hw.symm⟩
                    clear hnx hwr hnc
                    obtain ⟨wm, hwm⟩ : ∃ wm, wm = wc := ⟨_, rfl⟩
                    subst hwm
                    go_upto_region 19 with fail
                    go_cut [116] (fun s116 wx => s116 = .bool false ∧ Hid (wm.Extends wx))
                    case first =>
                      refine Gr.region 22 [(false,0),(false,1),(false,2),(false,3),(false,4),(true,5),(false,6),(false,7),(false,8),(false,9),(false,10),(false,11),(false,12),(false,13),(false,14),(false,15),(false,16),(false,18),(true,17),(true,19),(true,20),(false,21)] (by kernel_rfl) (by kernel_rfl) (fun d _ _ _ _ h => by cases d <;> exact h) ?_
                      simp only [Gr.pick, List.getElem?_cons_zero, List.getElem?_cons_succ, List.drop_succ_cons, List.drop_zero]
                      generalize hwd1 : wm.drew = wd1
                      have HDW : Hid (wm.Extends wd1) := by rw [← hwd1]; exact Gr.ext_drew (Gr.ext_refl _)
                      have HDX : Hid (w5.Extends wd1) := Gr.ext_trans HXC.out HDW.out
                      clear hwd1
                      iterate 4
                        refine Gr.walk_t ?_ (Or.inl ⟨by rfl, ?_⟩) ?_
                        rotate_left
                        · intro w' hw'
                          clear hw'
                          go_simp
                          try with_reducible rfl
                        simp only [Act.put, List.setIfInBounds_toArray, List.set_cons_zero, List.set_cons_succ]
                      refine Gr.walk_t ?_ (Or.inl ⟨by rfl, ?_⟩) ?_
                      rotate_left
                      · intro w' hw'
                        have c1 := (Gr.ext_trans HDX.out hw').cell_of HNX.out
                        clear hw'
                        go_simp
                        try with_reducible rfl
                      simp only [Act.put, List.setIfInBounds_toArray, List.set_cons_zero, List.set_cons_succ]
                      refine Gr.walk_c (fun K hK => ?_)
                      go_simp
                      refine (HHAS.out wd1 HDX.out).mono ?_
                      rintro e w6 ⟨rfl, rfl⟩
                      try go_simp
                      refine hK.out _ _ ((Gr.ext_refl _)) ?_
                      clear hK K
                      by_cases h6 : i = 0
                      · have HM0 := Lib.hid h6
                        have hg0 : ¬ 0 < ((i : Nat) : Int) := by omega
                        have hg1 : decide (0 < ((i : Nat) : Int)) = false := decide_eq_false hg0
                        have hg2 : ¬ 0 < i := by omega
                        have hg3 : decide (0 < i) = false := decide_eq_false hg2
                        clear h6
                        iterate 5
                          refine Gr.walk_t ?_ (Or.inl ⟨by rfl, ?_⟩) ?_
                          rotate_left
                          · intro w' hw'
                            clear hw'
                            go_simp
                            try with_reducible rfl
                          simp only [Act.put, List.setIfInBounds_toArray, List.set_cons_zero, List.set_cons_succ]
                        refine Gr.walk_t _ (Or.inr ⟨by rfl, rfl⟩) ?_
                        simp only [Act.put, List.setIfInBounds_toArray, List.set_cons_zero, List.set_cons_succ]
                        refine Gr.walk_t _ (Or.inr ⟨by rfl, rfl⟩) ?_
                        simp only [Act.put, List.setIfInBounds_toArray, List.set_cons_zero, List.set_cons_succ]
                        refine Gr.walk_t _ (Or.inr ⟨by rfl, rfl⟩) ?_
                        simp only [Act.put, List.setIfInBounds_toArray, List.set_cons_zero, List.set_cons_succ]
                        refine Gr.walk_t _ (Or.inr ⟨by rfl, rfl⟩) ?_
                        simp only [Act.put, List.setIfInBounds_toArray, List.set_cons_zero, List.set_cons_succ]
                        refine Gr.walk_t _ (Or.inr ⟨by rfl, rfl⟩) ?_
                        simp only [Act.put, List.setIfInBounds_toArray, List.set_cons_zero, List.set_cons_succ]
                        refine Gr.walk_t _ (Or.inr ⟨by rfl, rfl⟩) ?_
                        simp only [Act.put, List.setIfInBounds_toArray, List.set_cons_zero, List.set_cons_succ]
                        refine Gr.walk_t _ (Or.inr ⟨by rfl, rfl⟩) ?_
                        simp only [Act.put, List.setIfInBounds_toArray, List.set_cons_zero, List.set_cons_succ]
                        refine Gr.walk_c (fun K hK => ?_)
                        rw [if_neg (by intro h; cases h)]
                        refine hK.out _ _ (Gr.ext_refl _) ?_
                        clear hK K
                        simp only [Act.put, List.setIfInBounds_toArray, List.set_cons_zero, List.set_cons_succ]
                        refine Gr.walk_c (fun K hK => ?_)
                        rw [if_neg (by intro h; cases h)]
                        refine hK.out _ _ (Gr.ext_refl _) ?_
                        clear hK K
                        simp only [Act.put, List.setIfInBounds_toArray, List.set_cons_zero, List.set_cons_succ]
                        refine Gr.walk_c (fun K hK => ?_)
                        rw [if_neg (by intro h; cases h)]
                        refine hK.out _ _ (Gr.ext_refl _) ?_
                        clear hK K
                        simp only [Act.put, List.setIfInBounds_toArray, List.set_cons_zero, List.set_cons_succ]
                        refine Gr.walk_t ?_ (Or.inl ⟨by rfl, ?_⟩) ?_
                        rotate_left
                        · intro w' hw'
                          clear hw'
                          go_simp
                          try with_reducible rfl
                        simp only [Act.put, List.setIfInBounds_toArray, List.set_cons_zero, List.set_cons_succ]
                        refine Gr.walk_nil ?_
                        go_wp2
                        go_meet
                        exact ⟨rfl, HDW⟩
                      · obtain ⟨q, hq⟩ : ∃ q, i = q + 1 := ⟨i - 1, by omega⟩
                        have hqM : q < M := by omega
                        have hg0 : 0 < ((i : Nat) : Int) := by omega
                        have hg2 : 0 < i := by omega
                        have hjw : IntKind.i64.wrap (((i : Nat) : Int) - 1) = ((q : Nat) : Int) := by rw [IntKind.wrap_i64]; omega
                        obtain ⟨z, hz⟩ : ∃ z, z = ne.getD q 0 := ⟨_, rfl⟩
                        obtain ⟨ja, jc, q2, i2⟩ := cut_one (lo := q) (hi := i) HB5.out hq hqM
                        rw [← hz] at i2
                        have HQ2 := Lib.hid q2
                        have HI2 := Lib.hid i2
                        have hlt := HROW.out i q h2 hq
                        rw [← HXX.out, ← hz, ← HD.out] at hlt
                        have HL : Hid (∀ w, Calls Try.prog 21 #[KV d, KV (far kk z)] w fun e w' => e = .returned (.bool false) ∧ w.Extends w') := fun w => by rw [← hlt]; exact rkless_any HDO.out (far_ok HK.out z) w
                        have HK2 : Hid (∀ w v, Ints w v [z] → Calls Try.prog 19 #[v] w fun e w' => e = .returned (KV (KY.of [z])) ∧ w.Extends w') := fun w v h => rkof_any w h
                        have HD2 : Hid (∀ w, Calls Try.prog 18 #[KV (KY.of [z]), KV kk] w fun e w' => e = .returned (KV (far kk z)) ∧ w.Extends w') := fun w => rkdist_any (KY.of_ok _) HK.out w
                        rw [HXK.out] at HD2
                        rw [HYD.out] at HL
                        generalize KV (KY.of [z]) = x2 at *
                        generalize KV (far kk z) = x3 at *
                        clear h6 hz hq q2 i2 hlt hqM
                        iterate 5
                          refine Gr.walk_t ?_ (Or.inl ⟨by rfl, ?_⟩) ?_
                          rotate_left
                          · intro w' hw'
                            clear hw'
                            go_simp
                            try with_reducible rfl
                          simp only [Act.put, List.setIfInBounds_toArray, List.set_cons_zero, List.set_cons_succ]
                        refine Gr.walk_t _ (Or.inl ⟨by rfl, fun w' hw' => key_yields (HKY.out.ext (Gr.ext_trans HDW.out hw')) HDO.out.1 (by rfl) (by rfl) (by exact HYD.out)⟩) ?_
                        simp only [Act.put, List.setIfInBounds_toArray, List.set_cons_zero, List.set_cons_succ]
                        iterate 4
                          refine Gr.walk_t ?_ (Or.inl ⟨by rfl, ?_⟩) ?_
                          rotate_left
                          · intro w' hw'
                            clear hw'
                            go_simp
                            try with_reducible rfl
                          simp only [Act.put, List.setIfInBounds_toArray, List.set_cons_zero, List.set_cons_succ]
                        refine Gr.walk_t ?_ (Or.inl ⟨by rfl, ?_⟩) ?_
                        rotate_left
                        · intro w' hw'
                          have c1 := HQ2.out w'
                          clear hw'
                          go_simp
                          try with_reducible rfl
                        simp only [Act.put, List.setIfInBounds_toArray, List.set_cons_zero, List.set_cons_succ]
                        refine Gr.walk_t _ (Or.inl ⟨by rfl, fun w' hw' => key_yields (HKA5.out.ext (Gr.ext_trans HDX.out hw')) HLK.out (by rfl) (by rfl) (by exact HXK.out)⟩) ?_
                        simp only [Act.put, List.setIfInBounds_toArray, List.set_cons_zero, List.set_cons_succ]
                        refine Gr.walk_c (fun K hK => ?_)
                        go_simp
                        refine (HK2.out _ _ (HI2.out.ext HDX.out)).mono ?_
                        rintro e w7 ⟨rfl, hx7⟩
                        have HX7 := Lib.hid (Gr.ext_trans HDW.out hx7)
                        try go_simp
                        refine hK.out _ _ (hx7) ?_
                        clear hK K
                        clear hx7
                        refine Gr.walk_c (fun K hK => ?_)
                        go_simp
                        refine (HD2.out w7).mono ?_
                        rintro e w8 ⟨rfl, hx8⟩
                        have HX8 := Lib.hid (Gr.ext_trans HX7.out hx8)
                        try go_simp
                        refine hK.out _ _ (hx8) ?_
                        clear hK K
                        clear hx8
                        refine Gr.walk_c (fun K hK => ?_)
                        go_simp
                        refine (HL.out w8).mono ?_
                        rintro e w9 ⟨rfl, hx9⟩
                        have HX9 := Lib.hid (Gr.ext_trans HX8.out hx9)
                        try go_simp
                        refine hK.out _ _ (hx9) ?_
                        clear hK K
                        clear hx9
                        refine Gr.walk_t ?_ (Or.inl ⟨by rfl, ?_⟩) ?_
                        rotate_left
                        · intro w' hw'
                          clear hw'
                          go_simp
                          try with_reducible rfl
                        simp only [Act.put, List.setIfInBounds_toArray, List.set_cons_zero, List.set_cons_succ]
                        refine Gr.walk_nil ?_
                        go_wp2
                        go_meet
                        exact ⟨rfl, HX9⟩
                    case rest =>
                      obtain ⟨rfl, HXD⟩ := hcut
                      have HXE : Hid (w5.Extends wc) := Gr.ext_trans HXC.out HXD.out
                      obtain ⟨we, hwe⟩ : ∃ we, we = wc := ⟨_, rfl⟩
                      subst hwe
                      clear hiM
                      go_wp2_with fail
                      go_loopw [16] (fun s16 wz => ∃ m : Nat, m ≤ N ∧ s16 = .int .i64 m ∧ Hid (we.Extends wz)) (fun s16 _ => N - (intOf s16).toNat)
                      case atStart => exact ⟨0, by omega, rfl, Gr.ext_refl _⟩
                      case round =>
                        obtain ⟨m, hm, rfl, HXM⟩ := hrel
                        by_cases h3 : m < N
                        · obtain ⟨z, hz⟩ : ∃ z, z = al.getD m 0 := ⟨_, rfl⟩
                          have hzal : z ∈ al := by
                            have : m < al.length := by rw [HNN.out]; exact h3
                            rw [hz]; simp [this]
                          obtain ⟨ja, jc, q2, i2⟩ := cut_one (lo := m) (hi := m + 1) HA5.out rfl h3
                          rw [← hz] at i2
                          rw [show ((m + 1 : Nat) : Int) = (m : Int) + 1 by omega] at q2
                          have HQ2 := Lib.hid q2
                          have HI2 := Lib.hid i2
                          have hwr : IntKind.i64.wrap ((m : Int) + 1) = (m : Int) + 1 := by rw [IntKind.wrap_i64]; omega
                          obtain ⟨ab, ao, rfl, _, hac⟩ := HA5.out.cell.2 (by omega)
                          have hax := hac m h3
                          rw [← hz] at hax
                          have HAX := Lib.hid hax
                          have hmN : ((m : Nat) : Int) < ((N : Nat) : Int) := by omega
                          obtain ⟨hin, hhin⟩ : ∃ q, decide (z ∈ ne) = q := ⟨_, rfl⟩
                          have HHB : Hid (∀ wz, w5.Extends wz → Calls Try.prog 20 #[.slice (some ⟨nb, no, none⟩) M nc, .int .i64 z] wz fun e w' => e = .returned (.bool hin) ∧ wz = w') := fun wz hzz => (has_any _ ne z wz (HB5.out.ext hzz)).mono fun e w' ⟨he, hw⟩ => ⟨by rw [he, hhin], hw.symm⟩
                          have HHIN := Lib.hid hhin
                          have HZA : Hid (z ∈ al) := hzal
                          clear hz hzal q2 i2 hac hax hhin
                          go_upto_region 24 with fail
                          refine Gr.region 18 [(false,0),(false,1),(false,2),(false,3),(false,4),(true,5),(false,6),(false,7),(false,8),(false,9),(false,10),(false,11),(false,12),(false,14),(false,16),(true,13),(true,15),(true,17)] (by kernel_rfl) (by kernel_rfl) (fun d _ _ _ _ h => by cases d <;> exact h) ?_
                          simp only [Gr.pick, List.getElem?_cons_zero, List.getElem?_cons_succ, List.drop_succ_cons, List.drop_zero]
                          generalize hwd1 : wr.drew = wd1
                          have HDW : Hid (we.Extends wd1) := by rw [← hwd1]; exact Gr.ext_drew HXM.out
                          have HDX : Hid (w5.Extends wd1) := Gr.ext_trans HXE.out HDW.out
                          clear hwd1
                          iterate 4
                            refine Gr.walk_t ?_ (Or.inl ⟨by rfl, ?_⟩) ?_
                            rotate_left
                            · intro w' hw'
                              clear hw'
                              go_simp
                              try with_reducible rfl
                            simp only [Act.put, List.setIfInBounds_toArray, List.set_cons_zero, List.set_cons_succ]
                          refine Gr.walk_t ?_ (Or.inl ⟨by rfl, ?_⟩) ?_
                          rotate_left
                          · intro w' hw'
                            have c1 := (Gr.ext_trans HDX.out hw').cell_of HAX.out
                            clear hw'
                            go_simp
                            try with_reducible rfl
                          simp only [Act.put, List.setIfInBounds_toArray, List.set_cons_zero, List.set_cons_succ]
                          refine Gr.walk_c (fun K hK => ?_)
                          go_simp
                          refine (HHB.out wd1 HDX.out).mono ?_
                          rintro e w6 ⟨rfl, rfl⟩
                          try go_simp
                          refine hK.out _ _ ((Gr.ext_refl _)) ?_
                          clear hK K
                          cases hin with
                          | true =>
                            iterate 2
                              refine Gr.walk_t ?_ (Or.inl ⟨by rfl, ?_⟩) ?_
                              rotate_left
                              · intro w' hw'
                                clear hw'
                                go_simp
                                try with_reducible rfl
                              simp only [Act.put, List.setIfInBounds_toArray, List.set_cons_zero, List.set_cons_succ]
                            refine Gr.walk_t _ (Or.inr ⟨by rfl, rfl⟩) ?_
                            simp only [Act.put, List.setIfInBounds_toArray, List.set_cons_zero, List.set_cons_succ]
                            refine Gr.walk_t _ (Or.inr ⟨by rfl, rfl⟩) ?_
                            simp only [Act.put, List.setIfInBounds_toArray, List.set_cons_zero, List.set_cons_succ]
                            refine Gr.walk_t _ (Or.inr ⟨by rfl, rfl⟩) ?_
                            simp only [Act.put, List.setIfInBounds_toArray, List.set_cons_zero, List.set_cons_succ]
                            refine Gr.walk_t _ (Or.inr ⟨by rfl, rfl⟩) ?_
                            simp only [Act.put, List.setIfInBounds_toArray, List.set_cons_zero, List.set_cons_succ]
                            refine Gr.walk_t _ (Or.inr ⟨by rfl, rfl⟩) ?_
                            simp only [Act.put, List.setIfInBounds_toArray, List.set_cons_zero, List.set_cons_succ]
                            refine Gr.walk_t _ (Or.inr ⟨by rfl, rfl⟩) ?_
                            simp only [Act.put, List.setIfInBounds_toArray, List.set_cons_zero, List.set_cons_succ]
                            refine Gr.walk_t _ (Or.inr ⟨by rfl, rfl⟩) ?_
                            simp only [Act.put, List.setIfInBounds_toArray, List.set_cons_zero, List.set_cons_succ]
                            refine Gr.walk_c (fun K hK => ?_)
                            rw [if_neg (by intro h; cases h)]
                            refine hK.out _ _ (Gr.ext_refl _) ?_
                            clear hK K
                            simp only [Act.put, List.setIfInBounds_toArray, List.set_cons_zero, List.set_cons_succ]
                            refine Gr.walk_c (fun K hK => ?_)
                            rw [if_neg (by intro h; cases h)]
                            refine hK.out _ _ (Gr.ext_refl _) ?_
                            clear hK K
                            simp only [Act.put, List.setIfInBounds_toArray, List.set_cons_zero, List.set_cons_succ]
                            refine Gr.walk_c (fun K hK => ?_)
                            rw [if_neg (by intro h; cases h)]
                            refine hK.out _ _ (Gr.ext_refl _) ?_
                            clear hK K
                            simp only [Act.put, List.setIfInBounds_toArray, List.set_cons_zero, List.set_cons_succ]
                            refine Gr.walk_nil ?_
                            go_wp2
                            go_roundw
                            case rel => exact ⟨m + 1, by omega, by go_num, HDW⟩
                            case measure => simp [intOf]; omega
                          | false =>
                            have hlt := HOUT.out x z HXIN.out HZA.out (by have := HHIN.out; simpa using this)
                            rw [← HD.out] at hlt
                            have HL : Hid (∀ w, Calls Try.prog 21 #[KV (far kk z), KV d] w fun e w' => e = .returned (.bool false) ∧ w.Extends w') := fun w => by rw [← hlt]; exact rkless_any (far_ok HK.out z) HDO.out w
                            have HK2 : Hid (∀ w v, Ints w v [z] → Calls Try.prog 19 #[v] w fun e w' => e = .returned (KV (KY.of [z])) ∧ w.Extends w') := fun w v h => rkof_any w h
                            have HD2 : Hid (∀ w, Calls Try.prog 18 #[KV (KY.of [z]), KV kk] w fun e w' => e = .returned (KV (far kk z)) ∧ w.Extends w') := fun w => rkdist_any (KY.of_ok _) HK.out w
                            rw [HXK.out] at HD2
                            rw [HYD.out] at HL
                            generalize KV (KY.of [z]) = x2 at *
                            generalize KV (far kk z) = x3 at *
                            clear hlt
                            iterate 6
                              refine Gr.walk_t ?_ (Or.inl ⟨by rfl, ?_⟩) ?_
                              rotate_left
                              · intro w' hw'
                                clear hw'
                                go_simp
                                try with_reducible rfl
                              simp only [Act.put, List.setIfInBounds_toArray, List.set_cons_zero, List.set_cons_succ]
                            refine Gr.walk_t ?_ (Or.inl ⟨by rfl, ?_⟩) ?_
                            rotate_left
                            · intro w' hw'
                              have c1 := HQ2.out w'
                              clear hw'
                              go_simp
                              try with_reducible rfl
                            simp only [Act.put, List.setIfInBounds_toArray, List.set_cons_zero, List.set_cons_succ]
                            refine Gr.walk_t _ (Or.inl ⟨by rfl, fun w' hw' => key_yields (HKA5.out.ext (Gr.ext_trans HDX.out hw')) HLK.out (by rfl) (by rfl) (by exact HXK.out)⟩) ?_
                            simp only [Act.put, List.setIfInBounds_toArray, List.set_cons_zero, List.set_cons_succ]
                            refine Gr.walk_t _ (Or.inl ⟨by rfl, fun w' hw' => key_yields (HKY.out.ext (Gr.ext_trans (Gr.ext_trans HXD.out HDW.out) hw')) HDO.out.1 (by rfl) (by rfl) (by exact HYD.out)⟩) ?_
                            simp only [Act.put, List.setIfInBounds_toArray, List.set_cons_zero, List.set_cons_succ]
                            refine Gr.walk_c (fun K hK => ?_)
                            go_simp
                            refine (HK2.out _ _ (HI2.out.ext HDX.out)).mono ?_
                            rintro e w7 ⟨rfl, hx7⟩
                            have HX7 := Lib.hid (Gr.ext_trans HDW.out hx7)
                            try go_simp
                            refine hK.out _ _ (hx7) ?_
                            clear hK K
                            clear hx7
                            refine Gr.walk_c (fun K hK => ?_)
                            go_simp
                            refine (HD2.out w7).mono ?_
                            rintro e w8 ⟨rfl, hx8⟩
                            have HX8 := Lib.hid (Gr.ext_trans HX7.out hx8)
                            try go_simp
                            refine hK.out _ _ (hx8) ?_
                            clear hK K
                            clear hx8
                            refine Gr.walk_c (fun K hK => ?_)
                            go_simp
                            refine (HL.out w8).mono ?_
                            rintro e w9 ⟨rfl, hx9⟩
                            have HX9 := Lib.hid (Gr.ext_trans HX8.out hx9)
                            try go_simp
                            refine hK.out _ _ (hx9) ?_
                            clear hK K
                            clear hx9
                            refine Gr.walk_nil ?_
                            go_wp2
                            go_roundw
                            case rel => exact ⟨m + 1, by omega, by go_num, HX9⟩
                            case measure => simp [intOf]; omega
                        · have HXN : Hid (w5.Extends wr) := Gr.ext_trans HXE.out HXM.out
                          go_wp2
                          go_roundw
                          case rel => exact ⟨i + 1, by omega, by go_num, HXN⟩
                          case measure => simp [intOf]; omega
                · have HP : Hid (Below w.heap.size w wr) := Gr.below_of (Gr.ext_trans HX5.out HXI.out)
                  go_wp2
                  go_ret
                  exact ⟨rfl, HP.out⟩
end Go.Proofs.Ytffcjnabhblbaaa
