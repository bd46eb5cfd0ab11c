/- In one text: StoCrashWalk. -/
import Derived.Test.YtdbdnfjgmdkneaaMB24
namespace Go.Proofs.Ytdbdnfjgmdkneaa
set_option maxRecDepth 20000
open Go.RowKit Go.Deep Go.Maps
set_option linter.unusedVariables false
set_option maxHeartbeats 4000000 in
theorem StoreCrashes_walk (most : Int) (va : Value) (la : List Rc) (vb : Value) (lb : List Rc) (keep again : Int) (w : World) (hn : (Lit.int .i64 most).wf = true) (hva : Recs w va la) (hvb : Recs w vb lb) (hk : (Lit.int .i64 keep).wf = true) (hag : (Lit.int .i64 again).wf = true) :
    Calls Try.prog 9 #[.int .i64 most, va, vb, .int .i64 keep, .int .i64 again] w fun e w' => e = .returned (.bool true) ∧ Below w.heap.size w w' := by
  have hbn := bounds_i64 hn
  have HBK := Lib.hid (bounds_i64 hk)
  have HBA := Lib.hid (bounds_i64 hag)
  have HFA := Lib.hid (fun w' (hx : w.Extends w') => few16_any va la w' (hva.ext hx))
  have HFB := Lib.hid (fun w' (hx : w.Extends w') => few16_any vb lb w' (hvb.ext hx))
  have HA8 := Lib.hid hva.all_lt
  have HB8 := Lib.hid hvb.all_lt
  have HAT := Lib.hid (fun k hk => arg_at hva (k := k) hk)
  have HBT := Lib.hid (fun k hk => arg_at hvb (k := k) hk)
  obtain ⟨aa, ca, rfl⟩ := hva.slice
  obtain ⟨ab, cb, rfl⟩ := hvb.slice
  clear hn hk hag hva hvb
  by_cases hA : FewL la
  rotate_left
  · rw [decide_eq_false hA] at HFA
    clear HFB hbn HBK HBA HA8 HB8 HAT HBT
    generalize la.length = na at *
    generalize lb.length = nb at *
    go_enter Try.func9, Try.ntmps9
    go_wp2_with fail
    refine (alive16_any w).mono ?_
    rintro e w1 ⟨rfl, hx1⟩
    have HX1 := Lib.hid hx1
    clear hx1
    go_wp2_with fail
    refine (HFA.out w1 HX1.out).mono ?_
    rintro e w2 ⟨rfl, hx2⟩
    have HX2 := Lib.hid (Gr.ext_trans HX1.out hx2)
    clear hx2
    go_wp2
    go_ret
    exact ⟨rfl, Gr.below_of HX2.out⟩
  · rw [decide_eq_true hA] at HFA
    by_cases hB : FewL lb
    rotate_left
    · rw [decide_eq_false hB] at HFB
      clear hbn HBK HBA HA8 HB8 HAT HBT
      generalize la.length = na at *
      generalize lb.length = nb at *
      go_enter Try.func9, Try.ntmps9
      go_wp2_with fail
      refine (alive16_any w).mono ?_
      rintro e w1 ⟨rfl, hx1⟩
      have HX1 := Lib.hid hx1
      clear hx1
      go_wp2_with fail
      refine (HFA.out w1 HX1.out).mono ?_
      rintro e w2 ⟨rfl, hx2⟩
      have HX2 := Lib.hid (Gr.ext_trans HX1.out hx2)
      clear hx2
      go_wp2_with fail
      refine (HFB.out w2 HX2.out).mono ?_
      rintro e w3 ⟨rfl, hx3⟩
      have HX3 := Lib.hid (Gr.ext_trans HX2.out hx3)
      clear hx3
      go_wp2
      go_ret
      exact ⟨rfl, Gr.below_of HX3.out⟩
    · rw [decide_eq_true hB] at HFB
      have hna : la.length ≤ 60 := hA.2
      have hnb : lb.length ≤ 60 := hB.2
      by_cases hm : 1 ≤ most ∧ most ≤ 100
      rotate_left
      · have hm2 : most < 1 ∨ (¬ most < 1 ∧ 100 < most) := by omega
        have HM2 := Lib.hid hm2
        clear hbn HBK HBA HA8 HB8 HAT HBT hm hm2
        generalize la.length = na at *
        generalize lb.length = nb at *
        go_enter Try.func9, Try.ntmps9
        go_wp2_with fail
        refine (alive16_any w).mono ?_
        rintro e w1 ⟨rfl, hx1⟩
        have HX1 := Lib.hid hx1
        clear hx1
        go_wp2_with fail
        refine (HFA.out w1 HX1.out).mono ?_
        rintro e w2 ⟨rfl, hx2⟩
        have HX2 := Lib.hid (Gr.ext_trans HX1.out hx2)
        clear hx2
        go_wp2_with fail
        refine (HFB.out w2 HX2.out).mono ?_
        rintro e w3 ⟨rfl, hx3⟩
        have HX3 := Lib.hid (Gr.ext_trans HX2.out hx3)
        clear hx3
        rcases HM2.out with h | ⟨h1, h2⟩
        all_goals
          go_wp2
          go_ret
          exact ⟨rfl, Gr.below_of HX3.out⟩
      · obtain ⟨hm1, hm2⟩ := hm
        have g1 : ¬ most < 1 := by omega
        have g2 : ¬ 100 < most := by omega
        have HSOME := Lib.hid (SM.crash_some most la lb keep HA8.out HB8.out)
        have HSAME := Lib.hid (SM.crash_same most la lb keep HA8.out HB8.out)
        have HAGA := Lib.hid (SM.crash_again most la lb keep again)
        have HRA := Lib.hid (SM.run_inv la (SM.inv_new most) (SM.made_new most) HA8.out)
        have HTA : Hid (∀ k, k < la.length → SM.run (SM.new most) (la.take (k + 1)) = SM.put1 (SM.run (SM.new most) (la.take k)) (la.getD k Rc.zero)) := fun k hk => SM.run_step hk
        have HTB : Hid (∀ (s0 : Sto) k, k < lb.length → SM.run s0 (lb.take (k + 1)) = SM.put1 (SM.run s0 (lb.take k)) (lb.getD k Rc.zero)) := fun s0 k hk => SM.run_step hk
        have HTAE : Hid (la.take la.length = la) := List.take_length
        have HTBE : Hid (lb.take lb.length = lb) := List.take_length
        have HCR : Hid (∀ k, SM.crashR most la lb k = SM.run (SM.run (SM.new most) la) (lb.take k)) := fun k => SM.run_append _ _ _
        clear HA8 HB8 hA hB
        generalize hna2 : la.length = na at *
        generalize hnb2 : lb.length = nb at *
        clear hna2 hnb2
        go_enter Try.func9, Try.ntmps9
        go_wp2_with fail
        refine (alive16_any w).mono ?_
        rintro e w1 ⟨rfl, hx1⟩
        have HX1 := Lib.hid hx1
        clear hx1
        go_wp2_with fail
        refine (HFA.out w1 HX1.out).mono ?_
        rintro e w2 ⟨rfl, hx2⟩
        have HX2 := Lib.hid (Gr.ext_trans HX1.out hx2)
        clear hx2 HX1
        go_wp2_with fail
        refine (HFB.out w2 HX2.out).mono ?_
        rintro e w3 ⟨rfl, hx3⟩
        have HX3 := Lib.hid (Gr.ext_trans HX2.out hx3)
        clear hx3 HX2 HFA HFB
        go_wp2_with fail
        refine (new16_any most w3 hbn).mono ?_
        rintro e w4 ⟨rfl, hx4, hs4, hsz4⟩
        have HS4 : Hid (SOk w w4 w3.heap.size (SM.new most) 0) := ⟨hs4.mono fun i hi => by have := HX3.out.size; omega, SM.inv_new _, Gr.ext_trans HX3.out hx4, Nat.zero_le _, Nat.zero_le _⟩
        clear hx4 hs4 hsz4 g1 g2 HX3
        generalize w3.heap.size = ts at *
        go_wp2_with fail
        go_loopw [13] (fun s13 wr => ∃ k : Nat, k ≤ na ∧ s13 = .int .i64 k ∧ Hid (SOk w wr ts (SM.run (SM.new most) (la.take k)) k)) (fun s13 _ => na - (intOf s13).toNat)
        case atStart => exact ⟨0, by omega, by rfl, HS4⟩
        case round =>
          obtain ⟨k, hk, rfl, HS⟩ := hrel
          by_cases h1 : k < na
          · obtain ⟨b, off, cap, ea, _, hb, ra, rc, hr, hu, hd⟩ := HAT.out k h1
            cases ea
            have hr := rangeAt_ext hr HS.out.ext
            have HPT := Lib.hid (fun w5 => put_one (w2 := w5) HS.out (by omega) (Gr.ext_refl _) (hu.ext HS.out.ext) (hd.imp id fun hd g hg => ⟨.inl (hd g hg), Nat.lt_of_lt_of_le (hd g hg) HS.out.ext.size⟩))
            rw [← HTA.out k h1] at HPT
            clear hu hd hb HS
            generalize la.getD k Rc.zero = r at *
            generalize (SM.keepOf _ r).2.2 = er at *
            obtain ⟨rp, rn, rb, rs, rm, rk, re, rg, ru, rd⟩ := r
            obtain ⟨c0, c1, c2, c3, c4, c5, c6, c7, c8, c9⟩ := RCell.ten hr
            simp only at c0 c1 c2 c3 c4 c5 c6 c7 c8 c9 HPT
            clear hr
            go_wp2_with fail
            refine (HPT.out _ rfl).mono ?_
            rintro e w5 ⟨rfl, hs5⟩
            have HS5 := Lib.hid hs5
            clear hs5 HPT c0 c1 c2 c3 c4 c5 c6 c7 c8 c9
            go_wp2
            go_roundw
            case rel => exact ⟨k + 1, by omega, by go_num, HS5⟩
            case measure => simp [intOf]; omega
          · obtain rfl : k = na := by omega
            rw [HTAE.out] at HS
            go_wp2_with fail
            refine HS.out.sure.mono ?_
            rintro e w6 ⟨rfl, hs6⟩
            have HS6 := Lib.hid hs6
            clear hs6 HS HS4
            obtain ⟨sb, hsb⟩ : ∃ sb, sb = SM.sure (SM.run (SM.new most) la) := ⟨_, rfl⟩
            have HSB := Lib.hid hsb
            rw [← hsb] at HS6
            clear hsb
            go_wp2_with fail
            go_loopw [14] (fun s14 wr => ∃ q : Nat, q ≤ nb ∧ s14 = .int .i64 q ∧ Hid (SOk w wr ts (SM.run sb (lb.take q)) (k + q))) (fun s14 _ => nb - (intOf s14).toNat)
            case atStart => exact ⟨0, by omega, by rfl, HS6⟩
            case round =>
              obtain ⟨q, hq, rfl, HS⟩ := hrel
              by_cases h2 : q < nb
              · obtain ⟨b, off, cap, ea, _, hb, ra, rc, hr, hu, hd⟩ := HBT.out q h2
                cases ea
                have hr := rangeAt_ext hr HS.out.ext
                have HPT := Lib.hid (fun w5 => put_one (w2 := w5) HS.out (by omega) (Gr.ext_refl _) (hu.ext HS.out.ext) (hd.imp id fun hd g hg => ⟨.inl (hd g hg), Nat.lt_of_lt_of_le (hd g hg) HS.out.ext.size⟩))
                rw [← HTB.out sb q h2] at HPT
                clear hu hd hb HS HS6
                generalize lb.getD q Rc.zero = r at *
                generalize (SM.keepOf _ r).2.2 = er at *
                obtain ⟨rp, rn, rb, rs, rm, rk, re, rg, ru, rd⟩ := r
                obtain ⟨c0, c1, c2, c3, c4, c5, c6, c7, c8, c9⟩ := RCell.ten hr
                simp only at c0 c1 c2 c3 c4 c5 c6 c7 c8 c9 HPT
                clear hr
                go_wp2_with fail
                refine (HPT.out _ rfl).mono ?_
                rintro e w5 ⟨rfl, hs5⟩
                have HS5 := Lib.hid hs5
                clear hs5 HPT c0 c1 c2 c3 c4 c5 c6 c7 c8 c9
                go_wp2
                go_roundw
                case rel => exact ⟨q + 1, by omega, by go_num, HS5⟩
                case measure => simp [intOf]; omega
              · obtain rfl : q = nb := by omega
                rw [HTBE.out] at HS
                have HRS := Lib.hid (HS.out.restart (by have := HS.out.size; omega) keep HBK.out)
                have hcs : SM.restart (SM.run sb lb) keep = SM.crashS most la lb keep := by rw [HSB.out]; rfl
                rw [hcs] at HRS
                clear HS HS6 hcs HSB
                generalize SM.crashS most la lb keep = SR at *
                go_wp2_with fail
                refine HRS.out.mono ?_
                rintro e w7 ⟨rfl, hs7, hz7⟩
                have HS7 := Lib.hid hs7
                have HZ7 := Lib.hid hz7
                have HLN := Lib.hid (slen_any ts _ _ w7 hs7.at_)
                clear hs7 hz7 HRS
                obtain ⟨N, hN⟩ : ∃ N, N = LM.size SR.lg := ⟨_, rfl⟩
                rw [← hN] at HLN HZ7 HAGA HSOME HSAME
                have HNE := Lib.hid hN
                clear hN
                go_wp2_with fail
                refine HLN.out.mono ?_
                rintro e w8 ⟨rfl, rfl⟩
                clear HLN
                obtain ⟨wS, hwS⟩ : ∃ wS, wS = w7 := ⟨_, rfl⟩
                subst hwS
                go_wp2_with fail
                go_loopw [16, 17] (fun s16 s17 wr => ∃ (kk : Nat) (f : Bool), kk ≤ q + 1 ∧ s17 = .int .i64 kk ∧ s16 = .bool f ∧ Hid (f = false → ∀ j, j < kk → LM.size (SM.crashR most la lb j).lg ≠ N) ∧ Hid (wS.Extends wr)) (fun _ s17 _ => q + 1 - (intOf s17).toNat)
                case atStart => exact ⟨0, false, by omega, by rfl, by rfl, Lib.hid (fun _ j hj => absurd hj (Nat.not_lt_zero _)), Lib.hid (Gr.ext_refl _)⟩
                case round =>
                  obtain ⟨kk, f, hkk, rfl, rfl, HNO, HX⟩ := hrel
                  have HEND : Hid (∀ wr', wS.Extends wr' → SOk w wr' ts SR 20000) := fun wr' hx => HS7.out.later hx
                  cases f with
                  | true =>
                    go_upto_region 20 with fail
                    go_cut [91] (fun s91 wx => s91 = .bool false ∧ wr = wx)
                    case first =>
                      by_cases h3 : kk ≤ q
                      all_goals
                        go_wp2_with fail
                        go_meet
                        refine ⟨?_, rfl⟩
                        first | rfl | (simp; omega) | (simp [*]; done)
                    obtain ⟨rfl, rfl⟩ := hcut
                    have HRS := Lib.hid ((HEND.out wr HX.out).restart (by rw [← HNE.out]; exact HZ7.out) again HBA.out)
                    clear HNO HEND HSOME HSAME
                    go_wp2_with fail
                    refine HRS.out.mono ?_
                    rintro e w9 ⟨rfl, hs9, _⟩
                    have HS9 := Lib.hid hs9
                    have hln := slen_any ts _ _ w9 hs9.at_
                    rw [HAGA.out] at hln
                    have HLN := Lib.hid hln
                    clear hs9 hln HRS
                    go_wp2_with fail
                    refine HLN.out.mono ?_
                    rintro e w10 ⟨rfl, rfl⟩
                    go_wp2
                    go_ret
                    exact ⟨rfl, Gr.below_of HS9.out.ext⟩
                  | false =>
                    have h3 : kk ≤ q := by
                      obtain ⟨j, hj, hjj⟩ := HSOME.out
                      rcases Nat.lt_or_ge q kk with h | h
                      · exact absurd hjj (HNO.out rfl j (by omega))
                      · exact h
                    go_wp2_with fail
                    refine (rnew16_any most wr hbn).mono ?_
                    rintro e w9 ⟨tr, rfl, hx9, hr9⟩
                    have HXW : Hid (w.Extends wr) := Gr.ext_trans HS7.out.ext HX.out
                    have HR9 : Hid (ROk wr w9 tr (SM.new most) 0) := ⟨hr9, SM.inv_new _, hx9, Nat.zero_le _, Nat.zero_le _⟩
                    clear hx9 hr9
                    obtain ⟨wk, hwk⟩ : ∃ wk, wk = wr := ⟨_, rfl⟩
                    rw [← hwk] at HXW HR9 HX
                    clear hwk
                    go_wp2_with fail
                    go_loopw [19] (fun s19 wr => ∃ i : Nat, i ≤ k ∧ s19 = .int .i64 i ∧ Hid (ROk wk wr tr (SM.run (SM.new most) (la.take i)) i)) (fun s19 _ => k - (intOf s19).toNat)
                    case atStart => exact ⟨0, by omega, by rfl, HR9⟩
                    case round =>
                      obtain ⟨i, hik, rfl, HS⟩ := hrel
                      by_cases h4 : i < k
                      · obtain ⟨b, off, cap, ea, hcap, hb, ra, rc, hr, hu, hd⟩ := HAT.out i h4
                        cases ea
                        have HSL := Lib.hid (cutr_one b off k ca i h4 hcap)
                        have HPT := Lib.hid (rput_one HS.out (by omega) (recs_cut (cap' := ca - i) (Gr.ext_trans HXW.out HS.out.ext) (fun j hj => Nat.le_trans HXW.out.size hj.1) hb hr hu hd))
                        rw [← HTA.out i h4] at HPT
                        have hw1 : IntKind.i64.wrap ((i : Int) + 1) = ((i + 1 : Nat) : Int) := by rw [IntKind.wrap_i64]; omega
                        clear hu hd hb HS hr HR9
                        generalize (SM.keepOf _ _).2.2 = er at *
                        go_wp2_with (refine wpList_slice rfl 47 (.tmp 103) (some (.tmp 104)) (some (.tmp 106)) rfl elemRec _ _ _ rfl rfl rfl (HSL.out _) ?_)
                        refine HPT.out.mono ?_
                        rintro e w11 ⟨rfl, hs11⟩
                        have HS11 := Lib.hid hs11
                        clear hs11 HPT HSL
                        go_wp2
                        go_roundw
                        case rel => exact ⟨i + 1, by omega, by go_num, HS11⟩
                        case measure => simp [intOf]; omega
                      · obtain rfl : i = k := by omega
                        rw [HTAE.out] at HS
                        clear HR9
                        go_wp2_with fail
                        go_loopw [20] (fun s20 wr => ∃ j : Nat, j ≤ kk ∧ s20 = .int .i64 j ∧ Hid (ROk wk wr tr (SM.run (SM.run (SM.new most) la) (lb.take j)) (i + j))) (fun s20 _ => kk - (intOf s20).toNat)
                        case atStart => exact ⟨0, by omega, by rfl, HS⟩
                        case round =>
                          clear HS
                          obtain ⟨j, hjk, rfl, HS⟩ := hrel
                          by_cases h5 : j < kk
                          · obtain ⟨b, off, cap, ea, hcap, hb, ra, rc, hr, hu, hd⟩ := HBT.out j (by omega)
                            cases ea
                            have HSL := Lib.hid (cutr_one b off q cb j (by omega) hcap)
                            have HPT := Lib.hid (rput_one HS.out (by omega) (recs_cut (cap' := cb - j) (Gr.ext_trans HXW.out HS.out.ext) (fun j hj => Nat.le_trans HXW.out.size hj.1) hb hr hu hd))
                            rw [← HTB.out _ j (by omega)] at HPT
                            have hw1 : IntKind.i64.wrap ((j : Int) + 1) = ((j + 1 : Nat) : Int) := by rw [IntKind.wrap_i64]; omega
                            clear hu hd hb HS hr
                            generalize (SM.keepOf _ _).2.2 = er at *
                            go_wp2_with (refine wpList_slice rfl 47 (.tmp 115) (some (.tmp 116)) (some (.tmp 118)) rfl elemRec _ _ _ rfl rfl rfl (HSL.out _) ?_)
                            refine HPT.out.mono ?_
                            rintro e w11 ⟨rfl, hs11⟩
                            have HS11 := Lib.hid hs11
                            clear hs11 HPT HSL
                            go_wp2
                            go_roundw
                            case rel => exact ⟨j + 1, by omega, by go_num, HS11⟩
                            case measure => simp [intOf]; omega
                          · obtain rfl : j = kk := by omega
                            rw [← HCR.out j] at HS
                            have HXE : Hid (wS.Extends wr) := Gr.ext_trans HX.out HS.out.ext
                            have HSAM : Hid (LM.size (SM.crashR most la lb j).lg = N → Calls Try.prog 47 #[.pointer (some ⟨ts, 0, none⟩), .pointer (some ⟨tr, 0, none⟩)] wr fun e w' => e = .returned (.bool true) ∧ wr.Extends w') := fun h => by
                              obtain ⟨e1, e2⟩ := HSAME.out j h
                              exact same16_any ts tr _ _ SR _ wr (HS7.out.later HXE.out).at_ HS.out.at_ e1 e2 HS7.out.inv (by have := HS7.out.few; omega)
                            obtain ⟨DB, v1, v2, ps, qs, hrs⟩ := HS.out.at_
                            obtain ⟨xa, xc, hb, c0, c1, c2, c3, f1, f2⟩ := hrs.cells
                            rw [LM.spell_length] at c3
                            clear hrs hb c0 c1 c2 f1 f2 HS HSAME HSOME
                            by_cases heq : LM.size (SM.crashR most la lb j).lg = N
                            · have HSM := Lib.hid (HSAM.out heq)
                              rw [heq] at c3
                              clear HSAM heq HNO
                              go_wp2_with fail
                              refine HSM.out.mono ?_
                              rintro e w12 ⟨rfl, hx12⟩
                              have HX12 := Lib.hid (Gr.ext_trans HXE.out hx12)
                              clear hx12 HSM c3 HXE
                              go_wp2
                              go_roundw
                              case rel => exact ⟨j + 1, true, by omega, by go_num, by rfl, Lib.hid (fun h => nomatch h), HX12⟩
                              case measure => simp [intOf]; omega
                            · have HNO2 : Hid (∀ i, i < j + 1 → LM.size (SM.crashR most la lb i).lg ≠ N) := fun i hi => by
                                by_cases e : i = j
                                · subst e; exact heq
                                · exact HNO.out (by first | rfl | trivial) i (by omega)
                              clear HSAM HNO
                              generalize LM.size (SM.crashR most la lb j).lg = z at *
                              have hz : (((z : Nat) : Int) == ((N : Nat) : Int)) = false := by rw [beq_eq_false_iff_ne]; omega
                              have hz2 : (z == N) = false := by rw [beq_eq_false_iff_ne]; exact heq
                              go_wp2
                              go_roundw
                              case rel => exact ⟨j + 1, false, by omega, by go_num, by rfl, Lib.hid (fun _ => HNO2.out), HXE⟩
                              case measure => simp [intOf]; omega
end Go.Proofs.Ytdbdnfjgmdkneaa
