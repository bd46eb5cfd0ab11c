/- In one text: SplJoin, SplRefCut, SplRefJoin. -/
import Derived.Handy
import Derived.Lib.Hide
import Derived.Test.YtippckajlghimaaGreatDoorM3
import Derived.Test.YtippckajlghimaaGreatDoorM18
/- split.Join. -/
namespace Go.Proofs.YtippckajlghimaaGreatDoor
set_option maxRecDepth 20000
open Go.RowKit Go.Deep
set_option linter.unusedVariables false
/-- What Join answers. -/
def JoinOut (w : World) (er : Nat) (xs : List Nat) (e : Ending) (w' : World) : Prop := ∃ v, e = .returned (.tuple #[v, .int .i64 (er : Nat)]) ∧ w.Extends w' ∧ U8s w' v xs
/-- The row of b bytes in which F is laid from its beginning on. -/
def jrow (b : Nat) (F : List Nat) : List Value := u8vs (F.take b) ++ List.replicate (b - F.length) (.int .u8 0)
theorem jrow_length (b : Nat) (F : List Nat) : (jrow b F).length = b := by unfold jrow; rw [List.length_append, u8vs_length, List.length_take, List.length_replicate]; omega
theorem u8vs_app (xs ys : List Nat) : u8vs (xs ++ ys) = u8vs xs ++ u8vs ys := by simp [u8vs]
theorem jrow_nil (b : Nat) : jrow b [] = List.replicate b (.int .u8 0) := by simp [jrow, u8vs]
theorem jrow_next (b : Nat) (F row : List Nat) : splice (jrow b F) (min F.length b) (u8vs (row.take (b - min F.length b))) = jrow b (F ++ row) := by
  by_cases h : b ≤ F.length
  · rw [Nat.min_eq_right h, Nat.sub_self, List.take_zero]
    have e : jrow b (F ++ row) = jrow b F := by
      unfold jrow
      rw [List.take_append_of_le_length h, List.length_append, show b - (F.length + row.length) = b - F.length by omega]
    rw [e]
    simp [splice, u8vs]
  · rw [Nat.min_eq_left (by omega)]
    unfold splice jrow
    rw [List.take_of_length_le (l := F) (by omega), u8vs_length, List.length_take]
    have e1 : (u8vs F ++ List.replicate (b - F.length) (Value.int .u8 0)).take F.length = u8vs F := by
      rw [List.take_append_of_le_length (by rw [u8vs_length]; exact Nat.le_refl _), List.take_of_length_le (by rw [u8vs_length]; exact Nat.le_refl _)]
    have e2 : (u8vs F ++ List.replicate (b - F.length) (Value.int .u8 0)).drop (F.length + min (b - F.length) row.length) = List.replicate (b - (F ++ row).length) (.int .u8 0) := by
      rw [List.drop_append, List.drop_eq_nil_of_le (by rw [u8vs_length]; omega), List.nil_append, u8vs_length, List.drop_replicate, List.length_append]
      congr 1; omega
    have e3 : (F ++ row).take b = F ++ row.take (b - F.length) := by rw [List.take_append, List.take_of_length_le (l := F) (by omega)]
    rw [e1, e2, e3, u8vs_app, List.append_assoc]
theorem at_next (b f r : Nat) : min f b + (min r (b - min f b)) = min (f + r) b := by omega
theorem jrow_own {w : World} {g b : Nat} {F : List Nat} (h : w.heap[g]? = some (.cells (jrow b F).toArray 5 (0, 0))) (hb : b ≤ maxLen) (hf : b ≤ F.length) (hl : ∀ x ∈ F, x < 256) : U8s w (.slice (some ⟨g, 0, none⟩) b b) (F.take b) := by
  have hlen : (F.take b).length = b := by rw [List.length_take]; omega
  have ho : Own w g 5 (F.take b) := by
    refine ⟨⟨_, h, ?_, fun i hi => ?_⟩, by omega, fun x hx => hl x (List.mem_of_mem_take hx)⟩
    · rw [List.size_toArray, jrow_length, hlen]
    · rw [List.getElem?_toArray]
      unfold jrow
      rw [List.getElem?_append_left (by rw [u8vs_length]; exact hi)]
      have hi' : i < F.length := by omega
      have hi2 : i < b := by omega
      simp [u8vs, hi', hi2]
  have := ho.u8s
  rwa [hlen] at this
/-- The rest of a row of the call's own. -/
theorem cut_own (g b n : Nat) (hn : n ≤ b) : ∃ dp, (∀ w', (Instr.slice 24 (.slice (some ⟨g, 0, none⟩) b b) (some (.int .i64 (n : Nat))) none none).run Tryz.prog w' = .ok (.slice dp (b - n) (b - n)) w') ∧ (n < b → dp = some ⟨g, n, none⟩) := by
  refine ⟨if b = n then some ⟨g, 0, none⟩ else some ⟨g, n, none⟩, fun w' => ?_, fun h => if_neg (by omega)⟩
  rw [run_slice_l (P := Tryz.prog) w' 24 (some ⟨g, 0, none⟩) b b elemBytes .i64 n (by omega) (by omega), sizeByte]
  simp only [Result.andThen_ok, Int.toNat_natCast, Go.sliced, Option.map_some, Nat.mul_one, Addr.add_mid, Nat.zero_add]
theorem made_row (w : World) (b : Nat) : (w.alloc (.cells (madeCells #[.int .u8 0] b) 5)).heap[w.heap.size]? = some (.cells (jrow b []).toArray 5 (0, 0)) := by rw [jrow_nil]; exact made_bytes w b
theorem RwsL.all_lt {w : World} {v : Value} {L : List (List (List Nat))} (h : RwsL w v L) : ∀ x ∈ CM.flat L, x < 256 := by
  intro x hx
  obtain ⟨r, hr, hxr⟩ := List.mem_flatten.1 hx
  obtain ⟨l, hl, hrl⟩ := List.mem_flatten.1 hr
  rcases h with ⟨rfl, _⟩ | ⟨b, off, cap, rfl, _, _, _, h4⟩
  · cases hl
  · obtain ⟨k, hk, rfl⟩ := List.mem_iff_getElem.1 hl
    obtain ⟨u, _, hs⟩ := h4 k hk
    rw [show L.getD k [] = L[k] by simp [hk]] at hs
    exact hs.all_lt r hrl x hxr
theorem flat_take (l : List (List Nat)) (z : Nat) (hz : z < l.length) : (l.take (z + 1)).flatten = (l.take z).flatten ++ l.getD z [] := by
  rw [List.take_succ_eq_append_getElem hz, CM.flatten_snoc]; simp [hz]
theorem join_wrong (b s m : Int) (v : Value) (w : World) (h : ¬ CM.Right b s m) :
    Calls Tryz.prog 34 #[PV b s m, v] w (JoinOut w 1 []) := by
  go_enter Tryz.func34, Tryz.ntmps34
  go_wp2_with fail
  generalize hw1 : World.alloc w _ = w1
  have hx1 : w.Extends w1 := by subst hw1; exact prm_ext_alloc _ _
  have hp : PAt w1 w.heap.size b s m := by subst hw1; exact PAt.new w 23 b s m
  generalize w.heap.size = g at hp ⊢
  clear hw1
  have HX1 := Lib.hid hx1
  have hb1 := hp.lt
  obtain ⟨p0, p1, p2⟩ := hp
  clear hx1
  refine (right_no b s m w1 h).mono ?_
  rintro e w2 ⟨rfl, hx⟩
  have HX2 := Lib.hid (Gr.ext_trans HX1.out hx)
  go_wp2
  go_returns
  exact ⟨_, by rfl, HX2.out, nil_u8s _ _ _⟩
set_option maxHeartbeats 1000000 in
set_option maxRecDepth 100000 in
theorem join_any (b s m : Nat) (v : Value) (L : List (List (List Nat))) (w : World) (h : CM.Right b s m) (hv : RwsL w v L) :
    Calls Tryz.prog 34 #[PV b s m, v] w fun e w' => (CM.Fit b s m L → JoinOut w 0 ((CM.flat L).take b) e w') ∧ (¬ CM.Fit b s m L → JoinOut w 10 [] e w') := by
  have hm := hv.len
  have HLT := Lib.hid hv.all_lt
  have HF := Lib.hid (fun v w hv => fit_any b s m v L w h hv)
  have HU := Lib.hid hv
  obtain ⟨va, vc, rfl, _⟩ := hv.slice
  have HV := Lib.hid hv.at.2
  obtain ⟨h1, h2, h3, h4, h5, h6⟩ := CM.right_of h
  have HFL : Hid (CM.Fit b s m L → b ≤ (CM.flat L).length) := fun hf => by rw [CM.flat_all b s m L hf]; exact CM.sy_hi b s h3
  have HFR : Hid (CM.Fit b s m L → ∀ q, q < L.length → (L.getD q []).length ≤ 40 ∧ ∀ j, j < (L.getD q []).length → ((L.getD q []).getD j []).length = s) := fun hf q hq => ⟨by rw [(hf.2 q hq).1]; exact Nat.le_trans (CM.kk_le b s m q h5) h6, (hf.2 q hq).2⟩
  have HFN : Hid (CM.Fit b s m L → L.length ≤ 4000) := fun hf => by rw [hf.1]; have := CM.bl_le b s m; have := CM.sy_le b s h1; omega
  have HT0 : Hid (CM.flat (L.take 0) = []) := by show _ = _; rw [List.take_zero]; rfl
  have HTS : Hid (∀ q, q < L.length → CM.flat (L.take (q + 1)) = CM.flat (L.take q) ++ (L.getD q []).flatten) := fun q hq => by
    rw [List.take_succ_eq_append_getElem hq, CM.flat_snoc]; simp [hq]
  have HTE : Hid (CM.flat (L.take L.length) = CM.flat L) := by show _ = _; rw [List.take_length]
  have hmk := fun w => mkBytes b (by omega) w
  have HMK := Lib.hid hmk
  clear hmk
  unfold maxLen at hm
  clear hv
  generalize CM.Fit b s m L = Ft at *
  generalize CM.flat L = FL at *
  obtain ⟨ln, hln⟩ : ∃ ln, ln = L.length := ⟨_, rfl⟩
  rw [← hln] at HV HFN HFR HTS HTE HU hm ⊢
  have HR := Lib.hid h
  clear hln h
  go_enter Tryz.func34, Tryz.ntmps34
  go_wp2_with fail
  generalize hw1 : World.alloc w _ = w1
  have hx1 : w.Extends w1 := by subst hw1; exact prm_ext_alloc _ _
  have hp : PAt w1 w.heap.size b s m := by subst hw1; exact PAt.new w 23 b s m
  generalize w.heap.size = bx at hp ⊢
  clear hw1
  have HX1 := Lib.hid hx1
  have HP1 := Lib.hid hp
  have hb1 := hp.lt
  obtain ⟨p0, p1, p2⟩ := hp
  clear hx1
  refine (right_yes b s m w1 HR.out).mono ?_
  rintro e w2 ⟨rfl, hx⟩
  have HX2 := Lib.hid (Gr.ext_trans HX1.out hx)
  have HP2 := Lib.hid (HP1.out.ext hx)
  have hb2 := HP2.out.lt
  clear p0 p1 p2 hx
  obtain ⟨p0, p1, p2⟩ := HP2.out
  go_wp2_with fail
  refine (HF.out _ w2 (HU.out.ext HX2.out)).mono ?_
  rintro e w3 ⟨⟨ok, rfl, hok⟩, hx⟩
  have HX3 := Lib.hid (Gr.ext_trans HX2.out hx)
  have HP3 := Lib.hid (HP2.out.ext hx)
  have hb3 := HP3.out.lt
  clear p0 p1 p2 hx
  obtain ⟨p0, p1, p2⟩ := HP3.out
  have HOK := Lib.hid hok
  clear hok
  cases ok with
  | false =>
    have HP : Hid (¬ Ft ∧ w.Extends w3) := ⟨fun hf => (by have := HOK.out.2 hf; cases this), HX3.out⟩
    go_wp2
    go_returns
    exact ⟨fun hf => absurd hf HP.out.1, fun _ => ⟨_, by rfl, HP.out.2, nil_u8s _ _ _⟩⟩
  | true =>
    have HFt : Hid Ft := HOK.out.1 rfl
    clear HOK
    have hlnl := HFN.out HFt.out
    have hmk := HMK.out
    go_upto_region 6 with fail
    clear hmk p0 p1 p2
    have HB4 : Hid (Below w3.heap.size w3 (w3.alloc (.cells (madeCells #[.int .u8 0] b) 5))) := (Below.refl _ _).alloc (Nat.le_refl _) _
    have HG4 := Lib.hid (made_row w3 b)
    generalize hw4 : World.alloc w3 _ = w4 at *
    obtain ⟨g, hg⟩ : ∃ g, g = w3.heap.size := ⟨_, rfl⟩
    rw [← hg] at HB4 HG4 ⊢
    have HGE := Lib.hid hg
    clear hg hw4
    go_wp2_with fail
    go_loopw [7, 24] (fun at' i wr => ∃ q : Nat, q ≤ ln ∧ i = .int .i64 q ∧ at' = .int .i64 (min (CM.flat (L.take q)).length b : Nat) ∧ Hid (Below g w3 wr) ∧ Hid (wr.heap[g]? = some (.cells (jrow b (CM.flat (L.take q))).toArray 5 (0, 0)))) (fun _ i _ => (ln - intOf i).toNat)
    case atStart => exact ⟨0, by omega, rfl, by rw [HT0.out]; simp, HB4, by rw [HT0.out]; exact HG4⟩
    case round =>
      obtain ⟨q, hq, rfl, rfl, HB, HG⟩ := hrel
      by_cases h8 : q < ln
      · obtain ⟨bb, o1, rfl, hbb, hc1⟩ := HV.out (by omega)
        obtain ⟨ra, rc, hc3, hr0⟩ := hc1 q h8
        have HXW : Hid (w.Extends wr) := Gr.ext_trans HX3.out (Gr.ext_of (by rw [← HGE.out]; exact HB.out))
        have hc2 := HXW.out.cell_of hc3
        have HR0 := Lib.hid hr0
        have HVR := Lib.hid hr0.at.2
        obtain ⟨hll, hls⟩ := HFR.out HFt.out q h8
        have HLS := Lib.hid hls
        have HTQ := Lib.hid (HTS.out q h8)
        have HFZ0 : Hid ((L.getD q []).take 0 = []) := by show _ = _; rw [List.take_zero]
        have HFZS : Hid (∀ z, z < (L.getD q []).length → ((L.getD q []).take (z + 1)).flatten = ((L.getD q []).take z).flatten ++ (L.getD q []).getD z []) := flat_take (L.getD q [])
        have HFZE : Hid ((L.getD q []).take (L.getD q []).length = L.getD q []) := by show _ = _; rw [List.take_length]
        clear hc1 hc3 hr0 hls
        generalize L.getD q [] = l at *
        generalize CM.flat (L.take q) = F at *
        obtain ⟨k, hk⟩ : ∃ k, k = l.length := ⟨_, rfl⟩
        rw [← hk] at hc2 hll HR0 HVR HLS HFZS HFZE
        clear hk
        obtain ⟨wo, hwo⟩ : ∃ wo, wo = wr := ⟨_, rfl⟩
        have HBo := HB
        rw [← hwo] at HBo hc2 ⊢
        have HGo := HG
        rw [← hwo] at HGo
        clear HB HG HXW hwo
        go_wp2_with fail
        go_loopw [7, 30] (fun at' i wr => ∃ z : Nat, z ≤ k ∧ i = .int .i64 z ∧ at' = .int .i64 (min (F ++ (l.take z).flatten).length b : Nat) ∧ Hid (Below g w3 wr) ∧ Hid (wr.heap[g]? = some (.cells (jrow b (F ++ (l.take z).flatten)).toArray 5 (0, 0)))) (fun _ i _ => (k - intOf i).toNat)
        case atStart => exact ⟨0, by omega, rfl, by rw [HFZ0.out]; simp, HBo, by rw [HFZ0.out]; simpa using HGo⟩
        case round =>
          obtain ⟨z, hz, rfl, rfl, HB, HG⟩ := hrel
          by_cases h9 : z < k
          · obtain ⟨bc, o2, rfl, hbc, hd1⟩ := HVR.out (by omega)
            obtain ⟨rb, rd, hd3, hu0⟩ := hd1 z h9
            have HXW : Hid (w.Extends wr) := Gr.ext_trans HX3.out (Gr.ext_of (by rw [← HGE.out]; exact HB.out))
            have hd2 := HXW.out.cell_of hd3
            have HU0 := Lib.hid (hu0.ext HXW.out)
            have HRS := Lib.hid (HLS.out z h9)
            have HFS := Lib.hid (HFZS.out z h9)
            have hrl := hu0.len
            unfold maxLen at hrl
            clear hd1 hd3 hu0 HXW
            generalize l.getD z [] = row at *
            generalize (l.take z).flatten = Fz at *
            have HJN := Lib.hid (jrow_next b (F ++ Fz) row)
            have HAN := Lib.hid (at_next b (F ++ Fz).length row.length)
            have hab : min (F ++ Fz).length b ≤ b := Nat.min_le_right _ _
            have HJL := Lib.hid (jrow_length b (F ++ Fz))
            have HAP := Lib.hid (List.append_assoc F Fz row)
            have HLA : Hid (((F ++ Fz) ++ row).length = (F ++ Fz).length + row.length) := List.length_append
            have HCS := Lib.hid (copy_src HU0.out (b - min (F ++ Fz).length b))
            have HONE := Lib.hid (u8vs_one (row.take (b - min (F ++ Fz).length b)))
            have HCL : Hid ((u8vs (row.take (b - min (F ++ Fz).length b))).length = min row.length (b - min (F ++ Fz).length b)) := by show _ = _; rw [u8vs_length, List.length_take, Nat.min_comm]
            generalize u8vs (row.take (b - min (F ++ Fz).length b)) = cs at *
            generalize F ++ Fz = FF at *
            generalize FF.length = fl at *
            generalize row.length = rl at *
            obtain ⟨p, hp0⟩ : ∃ p, p = min fl b := ⟨_, rfl⟩
            have HPE := Lib.hid hp0
            rw [← hp0] at hab HCL HJN HAN ⊢
            clear hp0
            obtain ⟨cn, hcn⟩ : ∃ cn, cn = cs.length := ⟨_, rfl⟩
            have HCN := Lib.hid hcn
            have HCL2 : Hid (cn = min rl (b - p)) := by show _ = _; rw [hcn]; exact HCL.out
            clear hcn HCL
            go_wp2_with (with_reducible refine wpList_copy_splice rfl (.tmp 37) (.tmp 38) 24 76 rfl 5 Tryz.underlying24 bytesize _ _ _ _ _ _ rfl rfl g p (jrow b FF) 5 HG.out cs ?_ ?_ ?_ HONE.out g w3 HB.out (Nat.le_refl _) ?_)
            case refine_1 => rw [← HCN.out, HCL2.out]; try rfl
            case refine_2.inl => exact List.eq_nil_of_length_eq_zero (by rw [← HCN.out, HCL2.out]; try omega)
            case refine_2.inr => exact HCS.out
            case refine_3 => rw [HJL.out, ← HCN.out, HCL2.out]; omega
            case refine_4.inl =>
              obtain rfl : b = p := by assumption
              intro w2 HG2 hB2
              rw [← HCN.out]
              have hpc : b + cn ≤ b := by have := HCL2.out; omega
              have HP : Hid (Below g w3 w2 ∧ w2.heap[g]? = some (.cells (jrow b (F ++ (l.take (z + 1)).flatten)).toArray 5 (0, 0)) ∧ b + cn = min (F ++ (l.take (z + 1)).flatten).length b) := by
                rw [HFS.out, ← HAP.out, ← HJN.out, HLA.out, ← HAN.out, HCL2.out]
                exact ⟨hB2, HG2.out, rfl⟩
              clear HG2 hB2
              go_wp2
              go_roundw
              case rel => exact ⟨z + 1, by omega, by go_num, by rw [← HP.out.2.2]; go_num, Lib.hid HP.out.1, Lib.hid HP.out.2.1⟩
              case measure => simp [intOf]; omega
            case refine_4.inr =>
              intro w2 HG2 hB2
              rw [← HCN.out]
              have hpc : p + cn ≤ b := by have := HCL2.out; omega
              have HP : Hid (Below g w3 w2 ∧ w2.heap[g]? = some (.cells (jrow b (F ++ (l.take (z + 1)).flatten)).toArray 5 (0, 0)) ∧ p + cn = min (F ++ (l.take (z + 1)).flatten).length b) := by
                rw [HFS.out, ← HAP.out, ← HJN.out, HLA.out, ← HAN.out, HCL2.out]
                exact ⟨hB2, HG2.out, rfl⟩
              clear HG2 hB2
              go_wp2
              go_roundw
              case rel => exact ⟨z + 1, by omega, by go_num, by rw [← HP.out.2.2]; go_num, Lib.hid HP.out.1, Lib.hid HP.out.2.1⟩
              case measure => simp [intOf]; omega
          · obtain rfl : z = k := by omega
            have HP : Hid (wr.heap[g]? = some (.cells (jrow b (CM.flat (L.take (q + 1)))).toArray 5 (0, 0)) ∧ CM.flat (L.take (q + 1)) = F ++ (l.take z).flatten) := by
              have e : CM.flat (L.take (q + 1)) = F ++ (l.take z).flatten := by rw [HTQ.out, HFZE.out]
              exact ⟨by rw [e]; exact HG.out, e⟩
            clear HG
            go_wp2
            go_roundw
            case rel => exact ⟨q + 1, by omega, by go_num, by rw [HP.out.2], HB, Lib.hid HP.out.1⟩
            case measure => simp [intOf]; omega
      · obtain rfl : q = ln := by omega
        have HXW : Hid (w.Extends wr) := Gr.ext_trans HX3.out (Gr.ext_of (by rw [← HGE.out]; exact HB.out))
        have HRW : Hid (U8s wr (.slice (some ⟨g, 0, none⟩) b b) (FL.take b)) := by
          have hg := HG.out
          rw [HTE.out] at hg
          exact jrow_own hg (by unfold maxLen; omega) (HFL.out HFt.out) HLT.out
        clear HB HG
        go_wp2
        go_returns
        exact ⟨fun _ => ⟨_, by rfl, HXW.out, HRW.out⟩, fun hf => absurd HFt.out hf⟩
end Go.Proofs.YtippckajlghimaaGreatDoor
/- The reference's CutUp. -/
namespace Go.Proofs.YtippckajlghimaaGreatDoor
set_option maxRecDepth 20000
open Go.RowKit Go.Deep
set_option linter.unusedVariables false
def slen : Value → Nat
  | .slice _ n _ => n
  | _ => 0
theorem byteslistinfo : (Tryz.prog.info? 75).map (fun i => (i.zero, i.size, i.bytes)) = some (some (.slice none 0 0), 1, 24) := by kernel_rfl
theorem CM.mod_end (y s n : Nat) (hs : 1 ≤ s) (h1 : (y - 1) * s < n) (h2 : n ≤ y * s) : n % s = 0 ↔ n = y * s := by
  constructor
  · intro h
    obtain ⟨k, rfl⟩ : ∃ k, n = k * s := ⟨n / s, by have := Nat.div_add_mod n s; rw [h, Nat.add_zero, Nat.mul_comm] at this; exact this.symm⟩
    have a1 : y - 1 < k := Nat.lt_of_mul_lt_mul_right h1
    have a2 : k ≤ y := Nat.le_of_mul_le_mul_right h2 (by omega)
    rw [show k = y by omega]
  · rintro rfl; exact Nat.mul_mod_left _ _
theorem CM.pad_of (xs : List Nat) (z : Nat) : xs ++ List.replicate z 0 = CM.pad (xs.length + z) xs := by
  refine CM.list_eq (by rw [CM.pad_length, List.length_append, List.length_replicate]) fun i hi => ?_
  rw [List.length_append, List.length_replicate] at hi
  rw [CM.pad_at _ _ _ hi]
  by_cases h : i < xs.length
  · rw [List.getD_eq_getElem?_getD, List.getElem?_append_left h, ← List.getD_eq_getElem?_getD]
  · rw [List.getD_eq_getElem?_getD, List.getElem?_append_right (by omega), List.getD_eq_getElem?_getD, List.getElem?_eq_none (l := xs) (by omega)]
    simp [show i - xs.length < z by omega]
theorem CM.pad_part (s : Nat) (xs : List Nat) (n j : Nat) (h : (j + 1) * s ≤ n) : ((CM.pad n xs).take (j * s + s)).drop (j * s) = CM.sym s xs j := by
  have hh : j * s + s ≤ n := by rw [Nat.add_mul, Nat.one_mul] at h; exact h
  refine CM.list_eq (by rw [List.length_drop, List.length_take, CM.pad_length, CM.sym_length]; omega) fun i hi => ?_
  rw [List.length_drop, List.length_take, CM.pad_length] at hi
  rw [CM.sym_at _ _ _ _ (by omega), List.getD_eq_getElem?_getD, List.getElem?_drop, List.getElem?_take, if_pos (by omega), ← List.getD_eq_getElem?_getD, CM.pad_at _ _ _ (by omega)]
theorem Own.owns {w : World} {b B : Nat} {T : TypeId} {xs : List Nat} (h : Own w b T xs) (hB : B ≤ b) : w.ownsRow B T 1 (.slice (some ⟨b, 0, none⟩) xs.length xs.length) xs.length (u8vs xs) := by
  obtain ⟨⟨cs, hc, hs, hi⟩, hm, _⟩ := h
  refine ⟨by rw [u8vs_length, Nat.mul_one], .inr ⟨b, xs.length, cs, rfl, hB, hc, Nat.le_refl _, hm, by rw [hs, Nat.mul_one], ?_⟩⟩
  rw [Nat.mul_one]
  apply List.ext_getElem?
  intro i
  by_cases h : i < xs.length
  · rw [List.getElem?_take, if_pos h, Array.getElem?_toList, hi i h]
    simp [u8vs, h]
  · rw [List.getElem?_take, if_neg h, List.getElem?_eq_none (by rw [u8vs_length]; omega)]
theorem Mats.raise {w : World} {B R R' : Nat} {T : TypeId} {v : Value} {k : Nat} {l : List (List Nat)} (h : Mats w B R T v k l) (hR : R ≤ R') : Mats w B R' T v k l := by
  obtain ⟨vs, ho, hr⟩ := h
  exact ⟨vs, ho, fun j hj => let ⟨u, h1, h2⟩ := hr j hj; ⟨u, h1, h2.mono hR⟩⟩
theorem CM.pad_lt (n : Nat) (xs : List Nat) (h : ∀ x ∈ xs, x < 256) : ∀ x ∈ CM.pad n xs, x < 256 := by
  intro x hx
  obtain ⟨j, hj, rfl⟩ := List.mem_map.1 hx
  exact getD_lt xs h j
theorem u8vs_zero (xs : List Nat) (z : Nat) : u8vs (xs ++ List.replicate z 0) ++ [Value.int .u8 0] = u8vs (xs ++ List.replicate (z + 1) 0) := by
  rw [List.replicate_succ', ← List.append_assoc]
  simp [u8vs]
theorem owns_at {w : World} {B n : Nat} {T : TypeId} {v : Value} {vs : List Value} (h : w.ownsRow B T 1 v n vs) (hn : 0 < n) : ∃ g cap, v = .slice (some ⟨g, 0, none⟩) n cap ∧ n ≤ cap ∧ cap ≤ maxLen := by
  rcases h.2 with ⟨rfl, rfl⟩ | ⟨g, cap, cur, rfl, _, _, h1, h2, _⟩
  · omega
  · exact ⟨g, cap, rfl, h1, h2⟩
theorem rcut_wrong (b s m : Int) (v : Value) (w : World) (h : ¬ CM.Right b s m) :
    Calls Tryz.prog 23 #[PV b s m, v] w (CutOut w 1 []) := by
  go_enter Tryz.func23, Tryz.ntmps23
  go_wp2_with fail
  generalize hw1 : World.alloc w _ = w1
  have hx1 : w.Extends w1 := by subst hw1; exact prm_ext_alloc _ _
  have hp : PAt w1 w.heap.size b s m := by subst hw1; exact PAt.new w 23 b s m
  generalize w.heap.size = g at hp ⊢
  clear hw1
  have HX1 := Lib.hid hx1
  have hb1 := hp.lt
  obtain ⟨p0, p1, p2⟩ := hp
  clear hx1
  refine (rright_no b s m w1 h).mono ?_
  rintro e w2 ⟨rfl, hx⟩
  have HX2 := Lib.hid (Gr.ext_trans HX1.out hx)
  go_wp2
  go_returns
  exact ⟨_, by rfl, HX2.out, RwsL.nil _ _ _⟩
theorem rcut_other (b s m : Nat) (v : Value) (xs : List Nat) (w : World) (h : CM.Right b s m) (hn : xs.length ≠ b) (hv : U8s w v xs) :
    Calls Tryz.prog 23 #[PV b s m, v] w (CutOut w 10 []) := by
  obtain ⟨va, vc, rfl, _⟩ := hv.slice
  have hlen := hv.len
  unfold maxLen at hlen
  obtain ⟨n, hn0⟩ : ∃ n, n = xs.length := ⟨_, rfl⟩
  rw [← hn0] at hn hlen ⊢
  have hne : ((n : Int) != b) = true := by simp; omega
  have HR := Lib.hid h
  clear h hv hn0
  go_enter Tryz.func23, Tryz.ntmps23
  go_wp2_with fail
  generalize hw1 : World.alloc w _ = w1
  have hx1 : w.Extends w1 := by subst hw1; exact prm_ext_alloc _ _
  have hp : PAt w1 w.heap.size b s m := by subst hw1; exact PAt.new w 23 b s m
  generalize w.heap.size = g at hp ⊢
  clear hw1
  have HX1 := Lib.hid hx1
  have HP1 := Lib.hid hp
  have hb1 := hp.lt
  obtain ⟨p0, p1, p2⟩ := hp
  clear hx1
  refine (rright_yes b s m w1 HR.out).mono ?_
  rintro e w2 ⟨rfl, hx⟩
  have HX2 := Lib.hid (Gr.ext_trans HX1.out hx)
  have HP2 := Lib.hid (HP1.out.ext hx)
  clear p0 p1 p2 hx
  obtain ⟨p0, p1, p2⟩ := HP2.out
  go_wp2
  go_returns
  exact ⟨_, by rfl, HX2.out, RwsL.nil _ _ _⟩
set_option maxHeartbeats 1000000 in
set_option maxRecDepth 100000 in
theorem rcut_some (b s m : Nat) (v : Value) (xs : List Nat) (w : World) (h : CM.Right b s m) (hn : xs.length = b) (hv : U8s w v xs) :
    Calls Tryz.prog 23 #[PV b s m, v] w (CutOut w 0 (CM.cut b s m xs)) := by
  obtain ⟨va, vc, rfl, _⟩ := hv.slice
  obtain ⟨h1, h2, h3, h4, h5, h6⟩ := CM.right_of h
  have HLT := Lib.hid hv.lt
  have HB := Lib.hid (fun w => rblocks_yes b s m w h)
  have HK := Lib.hid (fun w i hi => rk_in b s m i w h hi)
  have hyl := CM.sy_le b s h1
  have hyp := CM.sy_pos b s
  have hnl := CM.bl_le b s m
  have hnp := CM.bl_pos b s m
  have HLO := Lib.hid (CM.sy_lo b s h1 h3)
  have hhi := CM.sy_hi b s h3
  have hY : CM.sy b s * s ≤ 4000 * 64 := Nat.mul_le_mul (by omega) h4
  have HMOD : Hid (∀ z, b + z ≤ CM.sy b s * s → ((b + z) % s = 0 ↔ b + z = CM.sy b s * s)) := fun z hz => CM.mod_end (CM.sy b s) s (b + z) h3 (by have := HLO.out; omega) hz
  have HPAD : Hid (∀ z, xs ++ List.replicate z 0 = CM.pad (b + z) xs) := fun z => by rw [← hn]; exact CM.pad_of xs z
  have HPART : Hid (∀ j, j < CM.sy b s → ((CM.pad (CM.sy b s * s) xs).take (j * s + s)).drop (j * s) = CM.sym s xs j ∧ j * s + s ≤ CM.sy b s * s) := fun j hj => by
    have := Nat.mul_le_mul_right s (show j + 1 ≤ CM.sy b s from hj)
    exact ⟨CM.pad_part s xs _ j this, by rw [Nat.add_mul, Nat.one_mul] at this; exact this⟩
  have HKI : Hid (∀ i, i < CM.bl b s m → CM.kk b s m i = CM.deal (CM.sy b s) (CM.bl b s m) i) := fun i hi => CM.kk_in b s m i hi
  have HKL : Hid (∀ i, CM.kk b s m i ≤ 40) := fun i => Nat.le_trans (CM.kk_le b s m i h5) h6
  have HAS := Lib.hid (CM.ahead_succ (CM.sy b s) (CM.bl b s m))
  have HAL : Hid (∀ i, i ≤ CM.bl b s m → CM.ahead (CM.sy b s) (CM.bl b s m) i ≤ CM.sy b s) := fun i hi => CM.ahead_le _ _ _ hnp hi
  have HA0 : Hid (CM.ahead (CM.sy b s) (CM.bl b s m) 0 = 0) := CM.ahead_zero _ _
  have HSN : Hid (∀ i, i < CM.bl b s m → (CM.cut b s m xs).take i ++ [CM.blk s xs (CM.ahead (CM.sy b s) (CM.bl b s m) i) (CM.kk b s m i)] = (CM.cut b s m xs).take (i + 1)) := CM.cut_snoc b s m xs
  have HCL : Hid ((CM.cut b s m xs).length = CM.bl b s m) := CM.cut_length _ _ _ _
  have HC0 : Hid ((CM.cut b s m xs).take 0 = []) := by show _ = _; rw [List.take_zero]
  have HCE : Hid ((CM.cut b s m xs).take (CM.bl b s m) = CM.cut b s m xs) := by show _ = _; rw [← CM.cut_length b s m xs, List.take_length]
  have HU := Lib.hid hv
  rw [hn] at HU ⊢
  obtain ⟨i0, hi, hz0, hz1, hz2⟩ := info_parts u8info
  have HI := Lib.hid hi; clear hi
  have HZ0 := Lib.hid hz0; clear hz0
  have HZ1 := Lib.hid hz1; clear hz1
  have HZ2 := Lib.hid hz2; clear hz2
  obtain ⟨i1, hi', hz0', hz1', hz2'⟩ := info_parts bytesinfo
  have HI' := Lib.hid hi'; clear hi'
  have HZ0' := Lib.hid hz0'; clear hz0'
  have HZ1' := Lib.hid hz1'; clear hz1'
  have HZ2' := Lib.hid hz2'; clear hz2'
  obtain ⟨i2, hi'', hz0'', hz1'', hz2''⟩ := info_parts byteslistinfo
  have HI'' := Lib.hid hi''; clear hi''
  have HZ0'' := Lib.hid hz0''; clear hz0''
  have HZ1'' := Lib.hid hz1''; clear hz1''
  have HZ2'' := Lib.hid hz2''; clear hz2''
  have HN := Lib.hid hn
  generalize CM.cut b s m xs = L at *
  generalize CM.bl b s m = n at *
  generalize CM.sy b s = y at *
  generalize hkk : CM.kk b s m = kk at *
  have HR := Lib.hid h
  clear h hn hkk hv HLO
  obtain ⟨Y, hYY⟩ : ∃ Y, Y = y * s := ⟨_, rfl⟩
  rw [← hYY] at hY hhi HMOD HPART
  have HYY := Lib.hid hYY
  clear hYY
  go_enter Tryz.func23, Tryz.ntmps23
  go_wp2_with fail
  generalize hw1 : World.alloc w _ = w1
  have hx1 : w.Extends w1 := by subst hw1; exact prm_ext_alloc _ _
  have hp : PAt w1 w.heap.size b s m := by subst hw1; exact PAt.new w 23 b s m
  generalize w.heap.size = bx at hp ⊢
  clear hw1
  have HX1 := Lib.hid hx1
  have HP1 := Lib.hid hp
  have hb1 := hp.lt
  obtain ⟨p0, p1, p2⟩ := hp
  clear hx1
  refine (rright_yes b s m w1 HR.out).mono ?_
  rintro e w2 ⟨rfl, hx⟩
  have HX2 := Lib.hid (Gr.ext_trans HX1.out hx)
  have HP2 := Lib.hid (HP1.out.ext hx)
  have hb2 := HP2.out.lt
  clear p0 p1 p2 hx
  obtain ⟨p0, p1, p2⟩ := HP2.out
  go_wp2_with fail
  refine (rsum_any 0 _ [] w2 (Rws.nil _ _ _)).mono ?_
  rintro e w3 ⟨rfl, hb3, ho3⟩
  have hc0 : RM.cut 0 = 0 := by decide
  rw [hc0] at ho3 ⊢
  have HO3 : Hid (w3.ownsRow w2.heap.size 5 1 (.slice (some ⟨w2.heap.size, 0, none⟩) 0 0) 0 (u8vs [])) := ho3.owns (Nat.le_refl _)
  have hx3 := ext_below hb3 rfl
  have HX3 := Lib.hid (Gr.ext_trans HX2.out hx3)
  have HP3 := Lib.hid (HP2.out.ext hx3)
  have hs3 := hx3.size
  have HX23 := Lib.hid hx3
  clear p0 p1 p2 hb3 ho3 hc0 hx3
  have HB2 : Hid (w.heap.size ≤ w2.heap.size) := HX2.out.size
  generalize w2.heap.size = g at *
  go_wp2_with (at_builtin; refine wpList_append_own_src _ rfl _ _ 24 24 rfl g 5 i0 (.int .u8 0) 1 1 Tryz.underlying24 HI.out HZ0.out HZ1.out HZ2.out rfl _ _ _ rfl HO3.out _ b (u8vs xs) rfl (by have := (HU.out.ext HX3.out).src Tryz.underlying24; rw [HN.out] at this; exact this) (by unfold maxLen; omega) (by omega) (by omega) ?_)
  intro u w4 ho4 hg4 _
  have HO4 : Hid (w4.ownsRow g 5 1 u (b + 0) (u8vs (xs ++ List.replicate 0 0))) := by
    show World.ownsRow _ _ _ _ _ _ _
    rw [List.replicate_zero, List.append_nil]; exact ho4
  have HX4 : Hid (w.Extends w4) := ext_own HX3.out hg4 (fun x hx => by cases hx; exact HB2.out)
  have HP4 : Hid (PAt w4 bx b s m) := HP3.out.own hg4 (fun x hx => by cases hx; exact hb2)
  have hs4 : g ≤ w4.heap.size := Nat.le_trans hs3 hg4.size
  clear ho4 hg4 HO3
  go_wp2_with fail
  go_loopw [6] (fun u wr => ∃ z : Nat, b + z ≤ Y ∧ Hid (wr.ownsRow g 5 1 u (b + z) (u8vs (xs ++ List.replicate z 0))) ∧ Hid (w.Extends wr) ∧ Hid (PAt wr bx b s m) ∧ Hid (g ≤ wr.heap.size)) (fun u _ => Y - slen u)
  case atStart => exact ⟨0, by omega, HO4, HX4, HP4, Lib.hid hs4⟩
  case round =>
    obtain ⟨z, hz, HO, HX, HP, HS⟩ := hrel
    obtain ⟨ua, uc, rfl⟩ := owns_slice HO.out
    obtain ⟨p0, p1, p2⟩ := HP.out
    have hbr := HP.out.lt
    have HM := Lib.hid (HMOD.out z hz)
    obtain ⟨t, ht⟩ : ∃ t, t = b + z := ⟨_, rfl⟩
    rw [← ht] at HO HM hz ⊢
    have HT := Lib.hid ht
    clear ht
    have hrm : (t : Int) % s = (t % s : Nat) := by rw [Int.natCast_emod]
    obtain ⟨r, hr⟩ : ∃ r, r = t % s := ⟨_, rfl⟩
    rw [← hr] at HM hrm
    clear hr
    have hs0 := HS.out
    by_cases h7 : r = 0
    · subst h7
      obtain rfl : t = Y := HM.out.1 rfl
      have HO5 := HO.out
      rw [HPAD.out, ← HT.out] at HO5
      have HU5 : Hid (U8s wr (.slice ua t uc) (CM.pad t xs)) := owns_u8s HO5 (CM.pad_lt t xs HLT.out)
      obtain ⟨ga, cap, e, hc1, hc2⟩ := owns_at HO5 (by omega)
      cases e
      have HX5 := HX
      have HP5 := HP
      clear HO HO5 HX HP HM p0 p1 p2 hbr
      obtain ⟨w5, hw5⟩ : ∃ w5, w5 = wr := ⟨_, rfl⟩
      rw [← hw5] at HU5 HX5 HP5 hs0 HS ⊢
      clear hw5 wr
      have hb5 := HP5.out.lt
      obtain ⟨p0, p1, p2⟩ := HP5.out
      go_wp2_with fail
      clear p0 p1 p2 hrm
      go_loopw [7, 8, 9] (fun o nn i wr => ∃ q : Nat, q ≤ n ∧ i = .int .i64 q ∧ nn = .int .i64 (CM.ahead y n q * s : Nat) ∧ Hid (w5.Extends wr) ∧ Hid (Mts wr w5.heap.size 75 24 o q (L.take q))) (fun _ _ i _ => (n - intOf i).toNat)
      case atStart => exact ⟨0, by omega, rfl, by rw [HA0.out]; simp, Lib.hid (Gr.ext_refl _), by rw [HC0.out]; exact Lib.hid (Mts.nil _ _ _ _)⟩
      case round =>
        obtain ⟨q, hq, rfl, rfl, HX, HM⟩ := hrel
        have HPr := Lib.hid (HP5.out.ext HX.out)
        have hbr := HPr.out.lt
        obtain ⟨p0, p1, p2⟩ := HPr.out
        go_wp2_with fail
        refine (HB.out wr).mono ?_
        rintro e wo ⟨rfl, hx⟩
        have HXo := Lib.hid (Gr.ext_trans HX.out hx)
        have HMo := Lib.hid (HM.out.ext hx)
        have HPo := Lib.hid (HPr.out.ext hx)
        clear HX HM HPr hbr p0 p1 p2 hx
        by_cases h8 : q < n
        · have HKQ := Lib.hid (fun w => HK.out w q h8)
          have HDQ := Lib.hid (HKI.out q h8)
          have hkl := HKL.out q
          have HAQ := Lib.hid (HAS.out q)
          have haq := HAL.out (q + 1) (by omega)
          have HSQ := Lib.hid (HSN.out q h8)
          rw [HAQ.out, ← HDQ.out] at haq
          generalize kk q = k at *
          generalize CM.ahead y n q = a at *
          obtain ⟨oa, oc, rfl⟩ := HMo.out.slice
          go_wp2_with fail
          go_loopw [8, 10, 11] (fun nn l i wr => ∃ z : Nat, z ≤ k ∧ i = .int .i64 z ∧ nn = .int .i64 ((a + z) * s : Nat) ∧ Hid (wo.Extends wr) ∧ Hid (Mats wr wo.heap.size 0 24 l z (CM.blk s xs a z))) (fun _ _ i _ => (k - intOf i).toNat)
          case atStart => exact ⟨0, by omega, rfl, rfl, Lib.hid (Gr.ext_refl _), Lib.hid (Mats.nil _ _ _ _ _)⟩
          case round =>
            obtain ⟨z, hz, rfl, rfl, HX, HM⟩ := hrel
            have HPr := Lib.hid (HPo.out.ext HX.out)
            have hbr := HPr.out.lt
            obtain ⟨p0, p1, p2⟩ := HPr.out
            obtain ⟨pp, hpp⟩ : ∃ pp, pp = (a + z) * s := ⟨_, rfl⟩
            rw [← hpp]
            have HPP := Lib.hid hpp
            clear hpp
            go_wp2_with fail
            refine (HKQ.out wr).mono ?_
            rintro e w7 ⟨rfl, hx⟩
            have HX7 := Lib.hid (Gr.ext_trans HX.out hx)
            have HM7 := Lib.hid (HM.out.ext hx)
            have HP7 := Lib.hid (HPr.out.ext hx)
            have hb7 := HP7.out.lt
            clear HX HM HPr hbr p0 p1 p2 hx
            obtain ⟨p0, p1, p2⟩ := HP7.out
            by_cases h9 : z < k
            · obtain ⟨hpe, hple⟩ := HPART.out (a + z) (by omega)
              rw [← HPP.out] at hpe hple
              have HUP : Hid (U8s w7 (.slice (some ⟨ga, pp, none⟩) s (uc - pp)) (CM.sym s xs (a + z))) := by
                have hu := HU5.out.ext (Gr.ext_trans HXo.out HX7.out)
                have hu' : U8s w7 (.slice (some ⟨ga, 0, none⟩) (CM.pad t xs).length uc) (CM.pad t xs) := by rw [CM.pad_length]; exact hu
                obtain ⟨a', e, hv⟩ := hu'.sliced pp (pp + s) (by omega) (by rw [CM.pad_length]; exact hple)
                rw [hpe] at hv
                have e2 : Go.sliced (some ⟨ga, 0, none⟩) pp (pp + s) uc 1 = .slice (some ⟨ga, pp, none⟩) s (uc - pp) := by
                  unfold Go.sliced
                  rw [if_neg (by omega)]
                  simp [Addr.add_mid]
                rw [e2] at e
                injection e with e3 e4 e5
                subst e3
                rw [show pp + s - pp = s by omega] at hv
                exact hv
              have HSL := Lib.hid (CM.sym_length s xs (a + z))
              have HSLT := Lib.hid (CM.sym_lt s xs (a + z) HLT.out)
              have HBS := Lib.hid (CM.blk_snoc s xs a z)
              have HBL := Lib.hid (CM.blk_length s xs a z)
              generalize CM.sym s xs (a + z) = row at *
              have HSRC : Hid (Src Tryz.prog 1 24 (.slice (some ⟨ga, pp, none⟩) (pp + s - pp) (uc - pp)) s (u8vs row) w7) := by
                show Src _ _ _ _ _ _ _
                rw [show pp + s - pp = s by omega]
                have := HUP.out.src Tryz.underlying24
                rw [HSL.out] at this
                exact this
              have hnc : ¬ uc = pp := by omega
              have hsz7 := HX7.out.size
              obtain ⟨la, lc, rfl⟩ := HM7.out.slice
              go_wp2_with (at_builtin; refine wpList_append_own_src _ rfl (.const (.slice none 0 0)) _ 24 24 rfl wo.heap.size 5 i0 (.int .u8 0) 1 1 Tryz.underlying24 HI.out HZ0.out HZ1.out HZ2.out rfl _ _ _ rfl (World.ownsRow_nil _ _ _ _) _ s (u8vs row) rfl HSRC.out (by unfold maxLen; omega) (by omega) (by omega) ?_)
              intro x8 w8 ho8 hg8 _
              have hx8 : w7.Extends w8 := ext_own (Gr.ext_refl _) hg8 (fun x hx => by cases hx)
              have HX8 := Lib.hid (Gr.ext_trans HX7.out hx8)
              have HM8 := Lib.hid (HM7.out.ext hx8)
              have HOK8 : Hid (RowOk w8 0 x8 row) := owns_rowok ho8 HSLT.out
              obtain ⟨ra, rc, rfl⟩ := owns_slice ho8
              have hb8 : bx < w8.heap.size := Nat.lt_of_lt_of_le hb7 hx8.size
              have hsz8 := HX8.out.size
              have HP8 := Lib.hid (HP7.out.ext hx8)
              obtain ⟨vs, hown, hrows⟩ := HM8.out
              have HOWN := Lib.hid hown
              have HROWS := Lib.hid hrows
              have HNE : Hid (∀ x, (Value.slice la z lc).ownBlock = some x → wo.heap.size ≤ x) := fun x hx => (HOWN.out.lt x hx).1
              clear ho8 hg8 hx8 hown hrows HM7 HSRC HUP p0 p1 p2
              go_wp2_with (at_builtin; refine wpList_append_own_src _ rfl _ _ 75 75 rfl wo.heap.size 24 i1 (.slice none 0 0) 1 24 Tryz.underlying75 HI'.out HZ0'.out HZ1'.out HZ2'.out rfl _ _ _ rfl (HOWN.out.alloc _) _ 1 [.slice ra s rc] rfl (src_one Tryz.underlying75 _ _ rfl rfl) (by unfold maxLen; omega) (by omega) (by simp; omega) ?_)
              intro v9 w9 ho9 hg9 _
              have HX9 : Hid (wo.Extends w9) := ext_own (Gr.ext_trans HX8.out (ext_alloc _ _)) hg9 HNE.out
              have HP9 : Hid (PAt w9 bx b s m) := HPo.out.ext HX9.out
              have HM9 : Hid (Mats w9 wo.heap.size 0 24 v9 (z + 1) (CM.blk s xs a (z + 1))) := by
                show Mats _ _ _ _ _ _ _
                rw [← HBS.out]
                exact Mats.snoc (Nat.zero_le _) (by decide) HBL.out.symm (HOWN.out.alloc _) (fun j hj => by obtain ⟨x, e1, e2⟩ := HROWS.out j hj; exact ⟨x, e1, e2.ext (ext_alloc _ _)⟩) (HOK8.out.ext (ext_alloc _ _)) hg9 ho9
              obtain ⟨xa, xc, rfl⟩ := HM9.out.slice
              obtain ⟨p0, p1, p2⟩ := HP9.out
              have hb9 := HP9.out.lt
              have HPN : Hid (pp + s = (a + (z + 1)) * s) := by show _ = _; rw [HPP.out, ← Nat.add_assoc, Nat.add_mul _ 1, Nat.one_mul]
              clear ho9 hg9 HOWN HROWS HNE HM8
              go_wp2
              go_roundw
              case rel => exact ⟨z + 1, by omega, by go_num, by rw [← HPN.out]; go_num, HX9, HM9⟩
              case measure => simp [intOf]; omega
            · obtain rfl : z = k := by omega
              obtain ⟨la, lc, rfl⟩ := HM7.out.slice
              have HMS : Hid (Mats w7 w5.heap.size w5.heap.size 24 (.slice la z lc) (CM.blk s xs a z).length (CM.blk s xs a z)) := by
                show Mats _ _ _ _ _ _ _
                rw [CM.blk_length]; exact (HM7.out.base HXo.out.size).raise (Nat.zero_le _)
              have HXW := Lib.hid (Gr.ext_trans HXo.out HX7.out)
              have hs7 := HXW.out.size
              obtain ⟨vs, hown, hrows⟩ := HMo.out.ext HX7.out
              have HOWN := Lib.hid hown
              have HROWS := Lib.hid hrows
              have HNE : Hid (∀ x, (Value.slice oa q oc).ownBlock = some x → w5.heap.size ≤ x) := fun x hx => (HOWN.out.lt x hx).1
              clear hown hrows p0 p1 p2
              go_wp2_with (at_builtin; refine wpList_append_own_src _ rfl _ _ 66 66 rfl w5.heap.size 75 i2 (.slice none 0 0) 1 24 Tryz.underlying66 HI''.out HZ0''.out HZ1''.out HZ2''.out rfl _ _ _ rfl (HOWN.out.alloc _) _ 1 [.slice la z lc] rfl (src_one Tryz.underlying66 _ _ rfl rfl) (by unfold maxLen; omega) (by omega) (by simp; omega) ?_)
              intro v9 w9 ho9 hg9 _
              have HX9 : Hid (w5.Extends w9) := ext_own (Gr.ext_trans HXW.out (ext_alloc _ _)) hg9 HNE.out
              have HM9 : Hid (Mts w9 w5.heap.size 75 24 v9 (q + 1) (L.take (q + 1))) := by
                show Mts _ _ _ _ _ _ _
                rw [← HSQ.out]
                exact Mts.snoc (by decide) (by decide) (by rw [List.length_take, HCL.out]; omega) (HOWN.out.alloc _) (fun j hj => by obtain ⟨x, e1, e2⟩ := HROWS.out j hj; exact ⟨x, e1, e2.ext (ext_alloc _ _)⟩) (HMS.out.ext (ext_alloc _ _)) hg9 ho9
              have HPN : Hid (CM.ahead y n (q + 1) * s = pp) := by show _ = _; rw [HPP.out, HAQ.out, ← HDQ.out]
              clear ho9 hg9 HOWN HROWS HNE
              go_wp2
              go_roundw
              case rel => exact ⟨q + 1, by omega, by go_num, by rw [HPN.out], HX9, HM9⟩
              case measure => simp [intOf]; omega
        · obtain rfl : q = n := by omega
          have HF : Hid (w.Extends wo ∧ RwsL wo u7 L) := by
            have hm := HMo.out
            rw [HCE.out] at hm
            exact ⟨Gr.ext_trans HX5.out HXo.out, hm.rws HCL.out.symm⟩
          go_wp2
          go_returns
          exact ⟨_, by rfl, HF.out.1, HF.out.2⟩
    · have hne : ((r : Int) != 0) = true := by simp; omega
      have hlt : t < Y := by
        rcases Nat.lt_or_ge t Y with h' | h'
        · exact h'
        · exact absurd (HM.out.2 (by omega)) h7
      have HNE : Hid (∀ x, (Value.slice ua t uc).ownBlock = some x → g ≤ x) := fun x hx => (HO.out.lt x hx).1
      go_wp2_with (at_builtin; refine wpList_append_own_src _ rfl _ _ 24 24 rfl g 5 i0 (.int .u8 0) 1 1 Tryz.underlying24 HI.out HZ0.out HZ1.out HZ2.out rfl _ _ _ rfl (HO.out.alloc _) _ 1 [.int .u8 0] rfl (src_one Tryz.underlying24 _ _ rfl rfl) (by unfold maxLen; omega) (by omega) (by simp; omega) ?_)
      intro v' w' ho' hg' _
      have HP' : Hid (w'.ownsRow g 5 1 v' (t + 1) (u8vs (xs ++ List.replicate (z + 1) 0)) ∧ w.Extends w' ∧ PAt w' bx b s m ∧ g ≤ w'.heap.size) :=
        ⟨by rw [← u8vs_zero]; exact ho', ext_own (Gr.ext_trans HX.out (ext_alloc _ _)) hg' (fun x hx => Nat.le_trans HB2.out (HNE.out x hx)), (HP.out.ext (ext_alloc _ _)).own hg' (fun x hx => Nat.lt_of_lt_of_le hb2 (HNE.out x hx)), Nat.le_trans (Nat.le_trans hs0 (by simp)) hg'.size⟩
      obtain ⟨xa, xc, rfl⟩ := owns_slice HP'.out.1
      clear ho' hg'
      go_wp2
      go_roundw
      case rel => exact ⟨z + 1, by have := HT.out; omega, by rw [show b + (z + 1) = t + 1 by have := HT.out; omega]; exact Lib.hid HP'.out.1, Lib.hid HP'.out.2.1, Lib.hid HP'.out.2.2.1, Lib.hid HP'.out.2.2.2⟩
      case measure => simp [slen]; omega
end Go.Proofs.YtippckajlghimaaGreatDoor
/- The reference's Join. -/
namespace Go.Proofs.YtippckajlghimaaGreatDoor
set_option maxRecDepth 20000
open Go.RowKit Go.Deep
set_option linter.unusedVariables false
theorem owns_later {w w' : World} {B n : Nat} {T : TypeId} {v : Value} {xs : List Value} (h : w.ownsRow B T 1 v n xs) (hx : w.Extends w') : w'.ownsRow B T 1 v n xs :=
  h.kept (row := none) ⟨hx.os, hx.tape, hx.output, hx.size, fun i hi _ => hx.block i hi⟩ (by cases v.ownBlock <;> simp)
theorem rjoin_wrong (b s m : Int) (v : Value) (w : World) (h : ¬ CM.Right b s m) :
    Calls Tryz.prog 37 #[PV b s m, v] w (JoinOut w 1 []) := by
  go_enter Tryz.func37, Tryz.ntmps37
  go_wp2_with fail
  generalize hw1 : World.alloc w _ = w1
  have hx1 : w.Extends w1 := by subst hw1; exact prm_ext_alloc _ _
  have hp : PAt w1 w.heap.size b s m := by subst hw1; exact PAt.new w 23 b s m
  generalize w.heap.size = g at hp ⊢
  clear hw1
  have HX1 := Lib.hid hx1
  have hb1 := hp.lt
  obtain ⟨p0, p1, p2⟩ := hp
  clear hx1
  refine (rright_no b s m w1 h).mono ?_
  rintro e w2 ⟨rfl, hx⟩
  have HX2 := Lib.hid (Gr.ext_trans HX1.out hx)
  go_wp2
  go_returns
  exact ⟨_, by rfl, HX2.out, nil_u8s _ _ _⟩
set_option maxHeartbeats 1000000 in
set_option maxRecDepth 100000 in
theorem rjoin_any (b s m : Nat) (v : Value) (L : List (List (List Nat))) (w : World) (h : CM.Right b s m) (hv : RwsL w v L) :
    Calls Tryz.prog 37 #[PV b s m, v] w fun e w' => (CM.Fit b s m L → JoinOut w 0 ((CM.flat L).take b) e w') ∧ (¬ CM.Fit b s m L → JoinOut w 10 [] e w') := by
  have hm := hv.len
  have HLT := Lib.hid hv.all_lt
  obtain ⟨va, vc, rfl, _⟩ := hv.slice
  have HV := Lib.hid hv.at.2
  obtain ⟨h1, h2, h3, h4, h5, h6⟩ := CM.right_of h
  have HB := Lib.hid (fun w => rblocks_yes b s m w h)
  have HK := Lib.hid (fun w i hi => rk_in b s m i w h hi)
  have hyl := CM.sy_le b s h1
  have hnl := CM.bl_le b s m
  have hnp := CM.bl_pos b s m
  have hhi := CM.sy_hi b s h3
  have HY : Hid (∀ j, j ≤ CM.sy b s → j * s ≤ 4000 * 64) := fun j hj => Nat.mul_le_mul (by omega) h4
  have HKI : Hid (∀ i, i < CM.bl b s m → CM.kk b s m i = CM.deal (CM.sy b s) (CM.bl b s m) i) := fun i hi => CM.kk_in b s m i hi
  have HKL : Hid (∀ i, CM.kk b s m i ≤ 40) := fun i => Nat.le_trans (CM.kk_le b s m i h5) h6
  have HAS := Lib.hid (CM.ahead_succ (CM.sy b s) (CM.bl b s m))
  have HAL : Hid (∀ i, i ≤ CM.bl b s m → CM.ahead (CM.sy b s) (CM.bl b s m) i ≤ CM.sy b s) := fun i hi => CM.ahead_le _ _ _ hnp hi
  have HA0 : Hid (CM.ahead (CM.sy b s) (CM.bl b s m) 0 = 0) := CM.ahead_zero _ _
  have HAA : Hid (CM.ahead (CM.sy b s) (CM.bl b s m) (CM.bl b s m) = CM.sy b s) := CM.ahead_all _ _ hnp
  have HFIT : Hid ((L.length = CM.bl b s m ∧ ∀ i, i < L.length → (L.getD i []).length = CM.kk b s m i ∧ ∀ j, j < (L.getD i []).length → ((L.getD i []).getD j []).length = s) ↔ CM.Fit b s m L) := Iff.rfl
  have HT0 : Hid (CM.flat (L.take 0) = []) := by show _ = _; rw [List.take_zero]; rfl
  have HTS : Hid (∀ q, q < L.length → CM.flat (L.take (q + 1)) = CM.flat (L.take q) ++ (L.getD q []).flatten) := fun q hq => by
    rw [List.take_succ_eq_append_getElem hq, CM.flat_snoc]; simp [hq]
  have HTE : Hid (CM.flat (L.take L.length) = CM.flat L) := by show _ = _; rw [List.take_length]
  unfold maxLen at hm
  obtain ⟨i0, hi, hz0, hz1, hz2⟩ := info_parts u8info
  have HI := Lib.hid hi; clear hi
  have HZ0 := Lib.hid hz0; clear hz0
  have HZ1 := Lib.hid hz1; clear hz1
  have HZ2 := Lib.hid hz2; clear hz2
  clear hv
  generalize CM.Fit b s m L = Ft at *
  generalize CM.flat L = FL at *
  generalize CM.bl b s m = n at *
  generalize CM.sy b s = y at *
  generalize CM.kk b s m = kk at *
  obtain ⟨ln, hln⟩ : ∃ ln, ln = L.length := ⟨_, rfl⟩
  rw [← hln] at HV HFIT HTS HTE hm ⊢
  have HR := Lib.hid h
  clear hln h
  go_enter Tryz.func37, Tryz.ntmps37
  go_wp2_with fail
  generalize hw1 : World.alloc w _ = w1
  have hx1 : w.Extends w1 := by subst hw1; exact prm_ext_alloc _ _
  have hp : PAt w1 w.heap.size b s m := by subst hw1; exact PAt.new w 23 b s m
  generalize w.heap.size = bx at hp ⊢
  clear hw1
  have HX1 := Lib.hid hx1
  have HP1 := Lib.hid hp
  have hb1 := hp.lt
  obtain ⟨p0, p1, p2⟩ := hp
  clear hx1
  refine (rright_yes b s m w1 HR.out).mono ?_
  rintro e w2 ⟨rfl, hx⟩
  have HX2 := Lib.hid (Gr.ext_trans HX1.out hx)
  have HP2 := Lib.hid (HP1.out.ext hx)
  have hb2 := HP2.out.lt
  clear p0 p1 p2 hx
  obtain ⟨p0, p1, p2⟩ := HP2.out
  go_wp2_with fail
  refine (HB.out w2).mono ?_
  rintro e w3 ⟨rfl, hx⟩
  have HX3 := Lib.hid (Gr.ext_trans HX2.out hx)
  have HP3 := Lib.hid (HP2.out.ext hx)
  have hb3 := HP3.out.lt
  clear p0 p1 p2 hx
  by_cases h7 : ln = n
  · have hne : ((ln : Int) != n) = false := by simp; omega
    have HLN := Lib.hid h7
    clear h7
    go_wp2_with fail
    go_loopw [6, 7] (fun u i wr => ∃ q : Nat, q ≤ ln ∧ i = .int .i64 q ∧ Hid (w3.Extends wr) ∧ Hid (wr.ownsRow w3.heap.size 5 1 u (CM.ahead y n q * s) (u8vs (CM.flat (L.take q)))) ∧ Hid (∀ i, i < q → (L.getD i []).length = kk i ∧ ∀ j, j < (L.getD i []).length → ((L.getD i []).getD j []).length = s)) (fun _ i _ => (ln - intOf i).toNat)
    case atStart => exact ⟨0, by omega, rfl, Lib.hid (Gr.ext_refl _), by rw [HA0.out, HT0.out, Nat.zero_mul]; exact Lib.hid (World.ownsRow_nil _ _ _ _), Lib.hid (fun i hi => absurd hi (Nat.not_lt_zero _))⟩
    case round =>
      obtain ⟨q, hq, rfl, HX, HO, HQ⟩ := hrel
      by_cases h8 : q < ln
      · obtain ⟨bb, o1, rfl, hbb, hc1⟩ := HV.out (by omega)
        obtain ⟨ra, rc, hc3, hr0⟩ := hc1 q h8
        have HXW := Lib.hid (Gr.ext_trans HX3.out HX.out)
        have HVR := Lib.hid hr0.at.2
        have hrl := hr0.len
        unfold maxLen at hrl
        have hqn : q < n := by have := HLN.out; omega
        have hkl := HKL.out q
        have HKQ := Lib.hid (fun w => HK.out w q hqn)
        have HDQ := Lib.hid (HKI.out q hqn)
        have HAQ := Lib.hid (HAS.out q)
        have haq := HAL.out (q + 1) (by omega)
        rw [HAQ.out, ← HDQ.out] at haq
        have HNX : Hid ((L.getD q []).length = kk q → (∀ j, j < (L.getD q []).length → ((L.getD q []).getD j []).length = s) → ∀ i, i < q + 1 → (L.getD i []).length = kk i ∧ ∀ j, j < (L.getD i []).length → ((L.getD i []).getD j []).length = s) := fun e1 e2 i hi => by
          by_cases e : i = q
          · subst e; exact ⟨e1, e2⟩
          · exact HQ.out i (by omega)
        have HNO : Hid (Ft → (L.getD q []).length = kk q ∧ ∀ j, j < (L.getD q []).length → ((L.getD q []).getD j []).length = s) := fun hf => (HFIT.out.2 hf).2 q h8
        have HTQ := Lib.hid (HTS.out q h8)
        have HFZ0 : Hid ((L.getD q []).take 0 = []) := by show _ = _; rw [List.take_zero]
        have HFZS : Hid (∀ z, z < (L.getD q []).length → ((L.getD q []).take (z + 1)).flatten = ((L.getD q []).take z).flatten ++ (L.getD q []).getD z []) := flat_take (L.getD q [])
        have HFZE : Hid ((L.getD q []).take (L.getD q []).length = L.getD q []) := by show _ = _; rw [List.take_length]
        clear hc1 HQ hr0
        generalize L.getD q [] = l at *
        generalize kk q = k at *
        generalize CM.ahead y n q = a at *
        generalize CM.flat (L.take q) = F at *
        obtain ⟨r, hr⟩ : ∃ r, r = l.length := ⟨_, rfl⟩
        rw [← hr] at hc3 hrl HVR HNX HNO HFZS HFZE
        clear hr
        have hbb3 : bb < w3.heap.size := Nat.lt_of_lt_of_le hbb HX3.out.size
        have HCE : Hid (∀ w', wr.drew.Extends w' → w'.cell? ⟨bb, o1 + q, none⟩ = some (.slice ra r rc)) := fun w' hw' => (Gr.ext_trans HXW.out (Gr.of_drew hw')).cell_of hc3
        have HCP : Hid (∀ w', wr.drew.Extends w' → w'.cell? ⟨bx, 0, none⟩ = some (.int .i64 b) ∧ w'.cell? ⟨bx, 1, none⟩ = some (.int .i64 s) ∧ w'.cell? ⟨bx, 2, none⟩ = some (.int .i64 m)) := fun w' hw' => HP3.out.ext (Gr.ext_trans HX.out (Gr.of_drew hw'))
        have HXd := Lib.hid (Gr.ext_drew HX.out)
        have HOd : Hid (wr.drew.ownsRow w3.heap.size 5 1 u6 (a * s) (u8vs F)) := owns_later HO.out (Gr.ext_drew (Gr.ext_refl _))
        go_wp2_with fail
        refine Gr.region 8 [(false,0),(false,1),(false,2),(false,3),(false,4),(false,5),(false,6),(true,7)] (by kernel_rfl) (by kernel_rfl) (fun d _ _ _ _ h => by cases d <;> exact h) ?_
        simp only [Gr.pick, List.getElem?_cons_zero, List.getElem?_cons_succ, List.drop_succ_cons, List.drop_zero]
        generalize wr.drew = w4 at *
        iterate 7
          refine Gr.walk_t ?_ (Or.inl ⟨by rfl, ?_⟩) ?_
          rotate_left
          · intro w' hw'
            have q1 := HCE.out w' hw'
            obtain ⟨c0, c1, c2⟩ := HCP.out w' hw'
            clear hw'
            go_simp
            try with_reducible rfl
          simp only [Act.put, List.setIfInBounds_toArray, List.set_cons_zero, List.set_cons_succ]
        refine Gr.walk_c (fun K hK => ?_)
        go_simp
        refine (HKQ.out w4).mono ?_
        rintro e w5 ⟨rfl, hx⟩
        have HX5 := Lib.hid (Gr.ext_trans HXd.out hx)
        have HO5 : Hid (w5.ownsRow w3.heap.size 5 1 u6 (a * s) (u8vs F)) := owns_later HOd.out hx
        try go_simp
        refine hK.out _ _ (hx) ?_
        clear hK K
        refine Gr.walk_nil ?_
        clear HCE HCP HXd HOd HX HO HXW
        have HXW := Lib.hid (Gr.ext_trans HX3.out HX5.out)
        by_cases h9 : r = k
        · have hne2 : ((r : Int) != k) = false := by simp; omega
          have H9 := Lib.hid h9
          clear h9
          obtain ⟨ua, uc, rfl⟩ := owns_slice HO5.out
          go_wp2_with fail
          go_loopw [6, 8] (fun u i wr => ∃ z : Nat, z ≤ r ∧ i = .int .i64 z ∧ Hid (w3.Extends wr) ∧ Hid (wr.ownsRow w3.heap.size 5 1 u ((a + z) * s) (u8vs (F ++ (l.take z).flatten))) ∧ Hid (∀ j, j < z → (l.getD j []).length = s)) (fun _ i _ => (r - intOf i).toNat)
          case atStart => exact ⟨0, by omega, rfl, HX5, by rw [HFZ0.out]; simpa using HO5, Lib.hid (fun i hi => absurd hi (Nat.not_lt_zero _))⟩
          case round =>
            obtain ⟨z, hz, rfl, HX, HO, HZ⟩ := hrel
            have HX5r := HX
            have HXr := Lib.hid (Gr.ext_trans HX3.out HX.out)
            have hcb := HXr.out.cell_of hc3
            have HPr := Lib.hid (HP3.out.ext HX5r.out)
            by_cases h10 : z < r
            · obtain ⟨bc, o2, rfl, hbc, hd1⟩ := HVR.out (by omega)
              obtain ⟨rb, rd, hd3, hu0⟩ := hd1 z h10
              have hsl := hu0.len
              unfold maxLen at hsl
              have HU0 := Lib.hid (hu0.ext HXr.out)
              have HCB : Hid (∀ w', wr.drew.Extends w' → w'.cell? ⟨bb, o1 + q, none⟩ = some (.slice (some ⟨bc, o2, none⟩) r rc) ∧ w'.cell? ⟨bc, o2 + z, none⟩ = some (.slice rb (l.getD z []).length rd)) := fun w' hw' => ⟨(Gr.ext_trans HXr.out (Gr.of_drew hw')).cell_of hc3, (Gr.ext_trans HXr.out (Gr.of_drew hw')).cell_of hd3⟩
              have HCP : Hid (∀ w', wr.drew.Extends w' → w'.cell? ⟨bx, 0, none⟩ = some (.int .i64 b) ∧ w'.cell? ⟨bx, 1, none⟩ = some (.int .i64 s) ∧ w'.cell? ⟨bx, 2, none⟩ = some (.int .i64 m)) := fun w' hw' => HPr.out.ext (Gr.of_drew hw')
              have HFS := Lib.hid (HFZS.out z h10)
              have HZN : Hid ((l.getD z []).length = s → ∀ j, j < z + 1 → (l.getD j []).length = s) := fun e j hj => by
                by_cases e' : j = z
                · subst e'; exact e
                · exact HZ.out j (by omega)
              have HNZ : Hid (Ft → (l.getD z []).length = s) := fun hf => (HNO.out hf).2 z h10
              clear hd1 hd3 hu0 HZ
              generalize l.getD z [] = row at *
              generalize (l.take z).flatten = Fz at *
              obtain ⟨rl, hrl2⟩ : ∃ rl, rl = row.length := ⟨_, rfl⟩
              rw [← hrl2] at HU0 HCB HZN HNZ hsl
              have HRL := Lib.hid hrl2
              clear hrl2
              have hb10 : z < k := by have := H9.out; omega
              have HYZ := Lib.hid (HY.out (a + z + 1) (by omega))
              obtain ⟨ua2, uc2, rfl⟩ := owns_slice HO.out
              go_wp2_with fail
              refine Gr.region 10 [(false,0),(false,1),(false,2),(false,3),(false,4),(false,5),(false,6),(false,7),(false,8),(false,9)] (by kernel_rfl) (by kernel_rfl) (fun d _ _ _ _ h => by cases d <;> exact h) ?_
              simp only [Gr.pick, List.getElem?_cons_zero, List.getElem?_cons_succ, List.drop_succ_cons, List.drop_zero]
              have HXd : Hid (w3.Extends wr.drew) := Gr.ext_drew HX.out
              have HOd := Lib.hid (owns_later HO.out (Gr.ext_drew (Gr.ext_refl _)))
              have HUd := Lib.hid (HU0.out.ext (Gr.ext_drew (Gr.ext_refl _)))
              have hxrd := Lib.hid (Gr.ext_drew HXr.out)
              generalize wr.drew = w6 at *
              iterate 10
                refine Gr.walk_t ?_ (Or.inl ⟨by rfl, ?_⟩) ?_
                rotate_left
                · intro w' hw'
                  obtain ⟨q1, q2⟩ := HCB.out w' hw'
                  obtain ⟨c0, c1, c2⟩ := HCP.out w' hw'
                  clear hw'
                  go_simp
                  try with_reducible rfl
                simp only [Act.put, List.setIfInBounds_toArray, List.set_cons_zero, List.set_cons_succ]
              refine Gr.walk_nil ?_
              obtain ⟨q1, q2⟩ := HCB.out w6 (Gr.ext_refl _)
              clear hcb HCB HCP HPr
              by_cases h11 : rl = s
              · have hne3 : ((rl : Int) != s) = false := by simp; omega
                have HN1 := Lib.hid (HZN.out h11)
                have HE11 := Lib.hid h11
                clear h11
                have HSRC : Hid (Src Tryz.prog 1 24 (.slice rb rl rd) s (u8vs row) w6) := by
                  have := HUd.out.src Tryz.underlying24
                  rw [← HRL.out, HE11.out] at this
                  rw [HE11.out]; exact this
                have hs6 := HXd.out.size
                have hs5 := HX5.out.size
                have HNE : Hid (∀ x, (Value.slice ua2 ((a + z) * s) uc2).ownBlock = some x → w3.heap.size ≤ x) := fun x hx => (HOd.out.lt x hx).1
                have HBY : Hid (((a + z) * s + s) = (a + z + 1) * s) := by show _ = _; rw [Nat.add_mul _ 1, Nat.one_mul]
                have hby := HBY.out
                have hyz := HYZ.out
                rw [← hby] at hyz
                clear hby
                obtain ⟨pp, hpp⟩ : ∃ pp, pp = (a + z) * s := ⟨_, rfl⟩
                rw [← hpp] at HOd HNE hyz HBY ⊢
                clear hpp
                go_wp2_with (at_builtin; refine wpList_append_own_src _ rfl _ _ 24 24 rfl w3.heap.size 5 i0 (.int .u8 0) 1 1 Tryz.underlying24 HI.out HZ0.out HZ1.out HZ2.out rfl _ _ _ rfl HOd.out _ s (u8vs row) rfl HSRC.out (by unfold maxLen; omega) (by omega) (by omega) ?_)
                intro v9 w9 ho9 hg9 _
                have HX9 : Hid (w3.Extends w9) := ext_own HXd.out hg9 HNE.out
                have HO9 : Hid (w9.ownsRow w3.heap.size 5 1 v9 ((a + (z + 1)) * s) (u8vs (F ++ (l.take (z + 1)).flatten))) := by
                  show World.ownsRow _ _ _ _ _ _ _
                  rw [HFS.out, ← Nat.add_assoc, ← HBY.out, ← List.append_assoc, u8vs_app]; exact ho9
                obtain ⟨xa, xc, rfl⟩ := owns_slice ho9
                clear ho9 hg9 q1 q2
                go_wp2
                go_roundw
                case rel => exact ⟨z + 1, by omega, by go_num, HX9, HO9, HN1⟩
                case measure => simp [intOf]; omega
              · have hne3 : ((rl : Int) != s) = true := by simp; omega
                have HP : Hid (¬ Ft) := fun hf => h11 (HNZ.out hf)
                clear h11
                go_wp2
                go_returns
                exact ⟨fun hf => absurd hf HP.out, fun _ => ⟨_, by rfl, hxrd.out, nil_u8s _ _ _⟩⟩
            · obtain rfl : z = r := by omega
              have HN := Lib.hid (HNX.out H9.out HZ.out)
              have HON : Hid (wr.ownsRow w3.heap.size 5 1 u6 (CM.ahead y n (q + 1) * s) (u8vs (CM.flat (L.take (q + 1))))) := by
                show World.ownsRow _ _ _ _ _ _ _
                rw [HTQ.out, HAQ.out, ← HDQ.out, ← H9.out]
                have := HO.out
                rwa [HFZE.out] at this
              clear HO
              go_wp2
              go_roundw
              case rel => exact ⟨q + 1, by omega, by go_num, HX5r, HON, HN⟩
              case measure => simp [intOf]; omega
        · have hne2 : ((r : Int) != k) = true := by simp; omega
          have HP : Hid (¬ Ft) := fun hf => h9 (HNO.out hf).1
          clear h9
          go_wp2
          go_returns
          exact ⟨fun hf => absurd hf HP.out, fun _ => ⟨_, by rfl, HXW.out, nil_u8s _ _ _⟩⟩
      · obtain rfl : q = ln := by omega
        have HFt : Hid Ft := HFIT.out.1 ⟨HLN.out, HQ.out⟩
        have HXW := Lib.hid (Gr.ext_trans HX3.out HX.out)
        have ho := HO.out
        rw [HTE.out, HLN.out, HAA.out] at ho
        have HU := Lib.hid (owns_u8s ho HLT.out)
        obtain ⟨ga, cap, rfl, hc1, hc2⟩ := owns_at ho (by omega)
        have hl : FL.length = y * s := by have := ho.1; rw [u8vs_length, Nat.mul_one] at this; exact this
        have HU2 : Hid (U8s wr (.slice (some ⟨ga, 0, none⟩) b cap) (FL.take b)) := by
          have hu := HU.out
          rw [← hl] at hu
          obtain ⟨a', e, hv⟩ := hu.sliced 0 b (Nat.zero_le _) (by omega)
          rw [List.drop_zero] at hv
          have e2 : Go.sliced (some ⟨ga, 0, none⟩) 0 b cap 1 = .slice (some ⟨ga, 0, none⟩) b cap := by
            unfold Go.sliced
            rw [if_neg (by omega)]
            simp [Addr.add_mid]
          rw [e2] at e
          injection e with e3 e4 e5
          subst e3
          exact hv
        have hnc : ¬ cap = 0 := by omega
        have HPr := Lib.hid (HP3.out.ext HX.out)
        obtain ⟨p0, p1, p2⟩ := HPr.out
        have hbr := HPr.out.lt
        have hyb : b ≤ y * s := hhi
        clear HO ho HU hl
        generalize y * s = Y at *
        go_wp2
        go_returns
        exact ⟨fun _ => ⟨_, by rfl, HXW.out, HU2.out⟩, fun hf => absurd HFt.out hf⟩
  · have hne : ((ln : Int) != n) = true := by simp; omega
    have HP : Hid (¬ Ft) := fun hf => h7 (HFIT.out.2 hf).1
    clear h7
    go_wp2
    go_returns
    exact ⟨fun hf => absurd hf HP.out, fun _ => ⟨_, by rfl, HX3.out, nil_u8s _ _ _⟩⟩
end Go.Proofs.YtippckajlghimaaGreatDoor
