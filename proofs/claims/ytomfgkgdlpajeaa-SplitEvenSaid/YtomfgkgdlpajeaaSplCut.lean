/- split.Cut. -/
import Derived.Test.YtomfgkgdlpajeaaSplCopy
import Derived.Handy
import Derived.Lib.Hide
namespace Go.Proofs.Ytomfgkgdlpajeaa
open Go.RowKit Go.Deep
set_option linter.unusedVariables false
theorem cut_wrong (b s m : Int) (v : Value) (w : World) (h : ¬ CM.Right b s m) :
    Calls Try.prog 18 #[PV b s m, v] w (CutOut w 1 []) := by
  go_enter Try.func18, Try.ntmps18
  go_wp2_with fail
  generalize hw1 : World.alloc w _ = w1
  have hx1 : w.Extends w1 := by subst hw1; exact prm_ext_alloc _ _
  have hp : PAt w1 w.heap.size b s m := by subst hw1; exact PAt.new w 23 b s m
  generalize w.heap.size = g at hp ⊢
  clear hw1
  have HX1 := Lib.hid hx1
  have hb1 := hp.lt
  obtain ⟨p0, p1, p2⟩ := hp
  clear hx1
  refine (right_no b s m w1 h).mono ?_
  rintro e w2 ⟨rfl, hx⟩
  have HX2 := Lib.hid (Gr.ext_trans HX1.out hx)
  go_wp2
  go_returns
  exact ⟨_, by rfl, HX2.out, RwsL.nil _ _ _⟩
theorem cut_other (b s m : Nat) (v : Value) (xs : List Nat) (w : World) (h : CM.Right b s m) (hn : xs.length ≠ b) (hv : U8s w v xs) :
    Calls Try.prog 18 #[PV b s m, v] w (CutOut w 10 []) := by
  obtain ⟨va, vc, rfl, _⟩ := hv.slice
  have hlen := hv.len
  unfold maxLen at hlen
  obtain ⟨n, hn0⟩ : ∃ n, n = xs.length := ⟨_, rfl⟩
  rw [← hn0] at hn hlen ⊢
  have hne : ((n : Int) != b) = true := by simp; omega
  have HR := Lib.hid h
  clear h hv hn0
  go_enter Try.func18, Try.ntmps18
  go_wp2_with fail
  generalize hw1 : World.alloc w _ = w1
  have hx1 : w.Extends w1 := by subst hw1; exact prm_ext_alloc _ _
  have hp : PAt w1 w.heap.size b s m := by subst hw1; exact PAt.new w 23 b s m
  generalize w.heap.size = g at hp ⊢
  clear hw1
  have HX1 := Lib.hid hx1
  have HP1 := Lib.hid hp
  have hb1 := hp.lt
  obtain ⟨p0, p1, p2⟩ := hp
  clear hx1
  refine (right_yes b s m w1 HR.out).mono ?_
  rintro e w2 ⟨rfl, hx⟩
  have HX2 := Lib.hid (Gr.ext_trans HX1.out hx)
  have HP2 := Lib.hid (HP1.out.ext hx)
  clear p0 p1 p2 hx
  obtain ⟨p0, p1, p2⟩ := HP2.out
  go_wp2
  go_returns
  exact ⟨_, by rfl, HX2.out, RwsL.nil _ _ _⟩
set_option maxHeartbeats 1000000 in
set_option maxRecDepth 100000 in
theorem cut_some (b s m : Nat) (v : Value) (xs : List Nat) (w : World) (h : CM.Right b s m) (hn : xs.length = b) (hv : U8s w v xs) :
    Calls Try.prog 18 #[PV b s m, v] w (CutOut w 0 (CM.cut b s m xs)) := by
  obtain ⟨va, vc, rfl, _⟩ := hv.slice
  obtain ⟨h1, h2, h3, h4, h5, h6⟩ := CM.right_of h
  have HLT := Lib.hid hv.lt
  have HB := Lib.hid (fun w => blocks_yes b s m w h)
  have HK := Lib.hid (fun w i hi => k_in b s m i w h hi)
  have hyl := CM.sy_le b s h1
  have hnl := CM.bl_le b s m
  have hnp := CM.bl_pos b s m
  have HKI : Hid (∀ i, i < CM.bl b s m → CM.kk b s m i = CM.deal (CM.sy b s) (CM.bl b s m) i) := fun i hi => CM.kk_in b s m i hi
  have HKL : Hid (∀ i, CM.kk b s m i ≤ 40) := fun i => Nat.le_trans (CM.kk_le b s m i h5) h6
  have HFIN : Hid (∀ w g vals, CutTo w g (CM.bl b s m) (CM.bl b s m) vals s (CM.sy b s) xs → RwsL w (.slice (some ⟨g, 0, none⟩) (CM.bl b s m) (CM.bl b s m)) (CM.cut b s m xs)) := fun w g vals hc => by
    subst hn; exact hc.rws rfl (by unfold maxLen; omega)
  have HMADE := Lib.hid (fun w => CutTo.made w (CM.bl b s m) s (CM.sy b s) xs)
  have hmk := fun w => mkRowLists (CM.bl b s m) (by omega) w
  have HAS := Lib.hid (CM.ahead_succ (CM.sy b s) (CM.bl b s m))
  have HU := Lib.hid hv
  have HD0 : Hid (xs.drop (CM.ahead (CM.sy b s) (CM.bl b s m) 0 * s) = xs) := by show _ = _; rw [CM.ahead_zero]; simp
  rw [hn] at HU ⊢
  obtain ⟨i1, hi', hz0', hz1', hz2'⟩ := info_parts rowinfo
  have HI' := Lib.hid hi'; clear hi'
  have HZ0' := Lib.hid hz0'; clear hz0'
  have HZ1' := Lib.hid hz1'; clear hz1'
  have HZ2' := Lib.hid hz2'; clear hz2'
  have hmr := fun w => mkRow s (by omega) w
  have HMR := Lib.hid hmr
  clear hmr
  generalize CM.cut b s m xs = L at *
  generalize CM.bl b s m = n at *
  generalize CM.sy b s = y at *
  generalize hkk : CM.kk b s m = kk at *
  have HR := Lib.hid h
  clear h hn hkk hv
  go_enter Try.func18, Try.ntmps18
  have HMK := Lib.hid hmk
  clear hmk
  go_wp2_with fail
  generalize hw1 : World.alloc w _ = w1
  have hx1 : w.Extends w1 := by subst hw1; exact prm_ext_alloc _ _
  have hp : PAt w1 w.heap.size b s m := by subst hw1; exact PAt.new w 23 b s m
  generalize w.heap.size = bx at hp ⊢
  clear hw1
  have HX1 := Lib.hid hx1
  have HP1 := Lib.hid hp
  have hb1 := hp.lt
  obtain ⟨p0, p1, p2⟩ := hp
  clear hx1
  refine (right_yes b s m w1 HR.out).mono ?_
  rintro e w2 ⟨rfl, hx⟩
  have HX2 := Lib.hid (Gr.ext_trans HX1.out hx)
  have HP2 := Lib.hid (HP1.out.ext hx)
  have hb2 := HP2.out.lt
  clear p0 p1 p2 hx
  obtain ⟨p0, p1, p2⟩ := HP2.out
  go_wp2_with fail
  refine (HB.out w2).mono ?_
  rintro e w3 ⟨rfl, hx⟩
  have HX3 := Lib.hid (Gr.ext_trans HX2.out hx)
  have HP3 := Lib.hid (HP2.out.ext hx)
  have hb3 := HP3.out.lt
  clear p0 p1 p2 hx
  have hmk := HMK.out
  go_upto_region 6 with fail
  clear hmk
  have HM3 := Lib.hid (HMADE.out w3)
  have HU4 : Hid (U8s (w3.alloc (.cells (madeCells #[.slice none 0 0] n) 30)) (.slice va b vc) xs) := (HU.out.ext HX3.out).ext (ext_alloc _ _)
  generalize hw4 : World.alloc w3 _ = w4 at *
  have HX4 : Hid (w3.Extends w4) := by subst hw4; exact ext_alloc _ _
  have HP4 := Lib.hid (HP3.out.ext HX4.out)
  have hgx : w.heap.size ≤ w3.heap.size := HX3.out.size
  generalize w3.heap.size = g at *
  have HX5 := Lib.hid (Gr.ext_trans HX3.out HX4.out)
  clear hw4 HX4 HX3 HMADE HU4
  go_wp2_with fail
  go_loopw [1, 22] (fun d i wr => ∃ (q : Nat) (vals : Nat → Value), q ≤ n ∧ i = .int .i64 q ∧ Hid (U8s w d (xs.drop (CM.ahead y n q * s))) ∧ Hid (w4.grownBy wr (some g)) ∧ Hid (CutTo wr g n q vals s y xs)) (fun _ i _ => (n - intOf i).toNat)
  case atStart => exact ⟨0, _, by omega, rfl, Lib.hid (by rw [HD0.out]; exact HU.out), Lib.hid (grown_refl _ _), HM3⟩
  case round =>
    obtain ⟨q, vals, hq, rfl, HD, HG, HC⟩ := hrel
    by_cases h7 : q < n
    · have HPr := Lib.hid (HP4.out.but HG.out (by omega))
      have hbr := HPr.out.lt
      obtain ⟨p0, p1, p2⟩ := HPr.out
      go_wp2_with fail
      refine (HK.out wr q h7).mono ?_
      rintro e wo ⟨rfl, hx⟩
      have HGo := Lib.hid (grown_ext HG.out hx)
      have HCo := Lib.hid (HC.out.ext hx)
      have HPo := Lib.hid (HPr.out.ext hx)
      have HKQ := Lib.hid (HKI.out q h7)
      have hkl := HKL.out q
      have HAQ := Lib.hid (HAS.out q)
      have hglt : g < wo.heap.size := HCo.out.1.lt
      generalize kk q = k at *
      generalize haq : CM.ahead y n q = a at *
      have HAE := Lib.hid haq
      clear haq
      clear HG HC HPr hx p0 p1 p2 hbr
      clear wr
      go_wp2_with fail
      go_loopw [1, 28] (fun d i wr => ∃ (z : Nat) (u : Value), z ≤ k ∧ i = .int .i64 z ∧ Hid (U8s w d (xs.drop ((a + z) * s))) ∧ Hid (wo.grownBy wr (some g)) ∧ Hid (wr.rowIs g 30 n (fun c => if c = q then u else vals c)) ∧ Hid (Mats wr wo.heap.size 0 49 u z (CM.blk s xs a z))) (fun _ i _ => (k - intOf i).toNat)
      case atStart =>
        refine ⟨0, .slice none 0 0, by omega, rfl, HD, Lib.hid (grown_refl _ _), Lib.hid (HCo.out.1.congr fun c hc => ?_), Lib.hid (Mats.nil _ _ _ _ _)⟩
        by_cases e : c = q
        · rw [if_pos e, HCo.out.2.2 c (by omega)]
        · rw [if_neg e]
      case round =>
        obtain ⟨z, u, hz, rfl, HD, HG, HRw, HM⟩ := hrel
        have HXW : Hid (w.Extends wr) := ext_grown (Gr.ext_trans HX5.out (Gr.ext_refl _)) (grown_trans HGo.out HG.out) hgx
        by_cases h8 : z < k
        · obtain ⟨da, dc, rfl, _⟩ := HD.out.slice
          have HDR := Lib.hid (HD.out.ext HXW.out)
          have hdl := HD.out.len
          have hcl0 : (u8vs ((xs.drop ((a + z) * s)).take s)).length = min s (xs.drop ((a + z) * s)).length := by rw [u8vs_length, List.length_take]
          obtain ⟨a2, c2, hsl, hd2⟩ := cut_from HD.out (u8vs ((xs.drop ((a + z) * s)).take s)).length (by omega)
          rw [drop_next] at hd2
          have HD2 := Lib.hid hd2
          have HCS := Lib.hid (copy_src (HDR.out.ext (ext_alloc _ _) : U8s (wr.alloc (.cells (madeCells #[.int .u8 0] s) 5)) _ _) s)
          have HONE := Lib.hid (u8vs_one ((xs.drop ((a + z) * s)).take s))
          have HOC : Hid (∀ (w : World) r, w.heap[r]? = some (.cells (splice (List.replicate s (Value.int .u8 0)) 0 (u8vs ((xs.drop ((a + z) * s)).take s))).toArray 5 (0, 0)) → Own w r 5 (CM.sym s xs (a + z))) := fun w r h => own_copied (by unfold maxLen; omega) HLT.out h
          have HSL := Lib.hid (CM.sym_length s xs (a + z))
          have HBS := Lib.hid (CM.blk_snoc s xs a z)
          have HBL := Lib.hid (CM.blk_length s xs a z)
          have HSLC := Lib.hid hsl
          clear hd2 HDR hsl
          generalize u8vs ((xs.drop ((a + z) * s)).take s) = cs at *
          generalize (xs.drop ((a + z) * s)).length = dn at *
          generalize CM.sym s xs (a + z) = row at *
          generalize hcn : cs.length = cn at *
          have HCN := Lib.hid hcn
          have HCL := Lib.hid hcl0
          clear hcn hcl0
          have HPr := Lib.hid (HPo.out.but HG.out (by omega))
          have hbr := HPr.out.lt
          obtain ⟨p0, p1, p2⟩ := HPr.out
          have hmk := HMR.out
          go_wp2_with (with_reducible refine wpList_copy_splice rfl (.tmp 34) (.tmp 35) 49 24 rfl 5 Try.underlying49 bytesize _ _ _ _ _ _ rfl rfl wr.heap.size 0 (List.replicate s (Value.int .u8 0)) 5 (made_bytes wr s) cs ?_ ?_ ?_ HONE.out wr.heap.size (wr.alloc (.cells (madeCells #[.int .u8 0] s) 5)) (Below.refl _ _) (Nat.le_refl _) ?_)
          · rw [HCN.out, HCL.out]; exact Nat.min_comm _ _
          · intro h0
            rw [HCN.out] at h0
            exact HCS.out h0
          · rw [HCN.out, List.length_replicate, HCL.out]; omega
          intro w2 HG2 hB2
          have HX2' : Hid (wr.Extends w2) := Gr.ext_of ((balloc (Below.refl _ _) _).trans hB2)
          have HOW := Lib.hid (HOC.out w2 _ HG2.out)
          have hbr2 : bx < w2.heap.size := Nat.lt_of_lt_of_le hbr HX2'.out.size
          have HR2 := Lib.hid (HRw.out.of_block (HX2'.out.block g HRw.out.lt))
          obtain ⟨ua, uc, rfl⟩ := HM.out.slice
          obtain ⟨vs, hown, hrows⟩ := HM.out.ext HX2'.out
          have HOWN := Lib.hid hown
          have HROWS := Lib.hid hrows
          have HNE : Hid (∀ x, (Value.slice ua z uc).ownBlock = some x → wo.heap.size ≤ x) := fun x hx => (HOWN.out.lt x hx).1
          have hcell : w2.cell? ⟨g, q, none⟩ = some (.slice ua z uc) := by have := HR2.out.cell h7; rwa [if_pos rfl] at this
          have hgl2 : g < w2.heap.size := HR2.out.lt
          have HGW := Lib.hid (grown_ext HG.out HX2'.out)
          have hwos := HGW.out.size
          rw [HCN.out]
          clear hown hrows HG2 hB2 p0 p1 p2 HM HG hmk HRw
          generalize wr.heap.size = r at *
          refine wpList_slice rfl 24 (.tmp 33) (some (.tmp 36)) none rfl elemBytes _ _ _ rfl rfl rfl (HSLC.out _) ?_
          go_wp2_with (at_builtin; refine wpList_append_own_src _ rfl _ _ 30 30 rfl wo.heap.size 49 i1 (.slice none 0 0) 1 24 Try.underlying30 HI'.out HZ0'.out HZ1'.out HZ2'.out rfl _ _ _ rfl (HOWN.out.alloc _) _ 1 [.slice (some ⟨r, 0, none⟩) s s] rfl (src_one Try.underlying30 _ _ rfl rfl) (by unfold maxLen; omega) (by omega) (by simp; omega) ?_)
          intro v' w3' ho3 hg3 _
          have HR3 := Lib.hid ((HR2.out.alloc (.cells #[.slice (some ⟨r, 0, none⟩) s s] 49)).of_block (hg3.block g (by simp; omega) (fun e => by have := HNE.out g e.symm; omega)))
          have HG3 := Lib.hid (grown_in (grown_ext HGW.out (ext_alloc _ _)) hg3 HNE.out)
          have HM3' : Hid (Mats w3' wo.heap.size 0 49 v' (z + 1) (CM.blk s xs a (z + 1))) := by
            show Mats _ _ _ _ _ _ _
            rw [← HBS.out]
            exact Mats.snoc (Nat.zero_le _) (by decide) HBL.out.symm (HOWN.out.alloc _) (fun j hj => by obtain ⟨x, e1, e2⟩ := HROWS.out j hj; exact ⟨x, e1, e2.ext (ext_alloc _ _)⟩) ((HOW.out.ok HSL.out).ext (ext_alloc _ _)) hg3 ho3
          have hcell3 : w3'.cell? ⟨g, q, none⟩ = some (.slice ua z uc) := by have := HR3.out.cell h7; rwa [if_pos rfl] at this
          have hfz3 := HR3.out.frozen q
          obtain ⟨xa, xc, rfl⟩ := HM3'.out.slice
          have HP : Hid (wo.grownBy (w3'.setCell ⟨g, q, none⟩ (.slice xa (z + 1) xc)) (some g) ∧ (w3'.setCell ⟨g, q, none⟩ (.slice xa (z + 1) xc)).rowIs g 30 n (fun c => if c = q then .slice xa (z + 1) xc else vals c) ∧
              Mats (w3'.setCell ⟨g, q, none⟩ (.slice xa (z + 1) xc)) wo.heap.size 0 49 (.slice xa (z + 1) xc) (z + 1) (CM.blk s xs a (z + 1))) := by
            refine ⟨grown_setCell HG3.out _ _, (HR3.out.set q _).congr fun c hc => ?_, HM3'.out.butRow hglt HR3.out (by decide) (grown_setCell (grown_refl _ _) _ _)⟩
            by_cases e : c = q
            · simp [e]
            · simp [e]
          clear hg3 ho3 hcell HR2 HOWN HROWS HNE HGW HR3 HG3 HM3'
          go_wp2
          go_roundw
          case rel => exact ⟨z + 1, _, by omega, by go_num, HD2, Lib.hid HP.out.1, Lib.hid HP.out.2.1, Lib.hid HP.out.2.2⟩
          case measure => simp [intOf]; omega
        · obtain rfl : z = k := by omega
          have HCN : Hid (CutTo wr g n (q + 1) (fun c => if c = q then u else vals c) s y xs) := by
            have hu := HM.out
            rw [HKQ.out, ← HAE.out] at hu
            exact HCo.out.next HG.out HRw.out hu
          have HGN := Lib.hid (grown_trans HGo.out HG.out)
          have HDN : Hid (U8s w u1 (xs.drop (CM.ahead y n (q + 1) * s))) := by
            show U8s _ _ _
            rw [HAQ.out, ← HKQ.out]; exact HD.out
          clear HD HG HRw HM
          go_wp2
          go_roundw
          case rel => exact ⟨q + 1, _, by omega, by go_num, HDN, HGN, HCN⟩
          case measure => simp [intOf]; omega
    · obtain rfl : q = n := by omega
      have HXW : Hid (w.Extends wr) := ext_grown HX5.out HG.out hgx
      have HRW := Lib.hid (HFIN.out _ _ _ HC.out)
      go_wp2
      go_returns
      exact ⟨_, by rfl, HXW.out, HRW.out⟩
end Go.Proofs.Ytomfgkgdlpajeaa
