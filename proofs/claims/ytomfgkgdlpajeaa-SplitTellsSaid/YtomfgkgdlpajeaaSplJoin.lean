/- split.Join. -/
import Derived.Test.YtomfgkgdlpajeaaSplFit
namespace Go.Proofs.Ytomfgkgdlpajeaa
open Go.RowKit Go.Deep
set_option linter.unusedVariables false
/-- What Join answers. -/
def JoinOut (w : World) (er : Nat) (xs : List Nat) (e : Ending) (w' : World) : Prop := ∃ v, e = .returned (.tuple #[v, .int .i64 (er : Nat)]) ∧ w.Extends w' ∧ U8s w' v xs
/-- The row of b bytes in which F is laid from its beginning on. -/
def jrow (b : Nat) (F : List Nat) : List Value := u8vs (F.take b) ++ List.replicate (b - F.length) (.int .u8 0)
theorem jrow_length (b : Nat) (F : List Nat) : (jrow b F).length = b := by unfold jrow; rw [List.length_append, u8vs_length, List.length_take, List.length_replicate]; omega
theorem u8vs_append (xs ys : List Nat) : u8vs (xs ++ ys) = u8vs xs ++ u8vs ys := by simp [u8vs]
theorem jrow_nil (b : Nat) : jrow b [] = List.replicate b (.int .u8 0) := by simp [jrow, u8vs]
theorem jrow_next (b : Nat) (F row : List Nat) : splice (jrow b F) (min F.length b) (u8vs (row.take (b - min F.length b))) = jrow b (F ++ row) := by
  by_cases h : b ≤ F.length
  · rw [Nat.min_eq_right h, Nat.sub_self, List.take_zero]
    have e : jrow b (F ++ row) = jrow b F := by
      unfold jrow
      rw [List.take_append_of_le_length h, List.length_append, show b - (F.length + row.length) = b - F.length by omega]
    rw [e]
    simp [splice, u8vs]
  · rw [Nat.min_eq_left (by omega)]
    unfold splice jrow
    rw [List.take_of_length_le (l := F) (by omega), u8vs_length, List.length_take]
    have e1 : (u8vs F ++ List.replicate (b - F.length) (Value.int .u8 0)).take F.length = u8vs F := by
      rw [List.take_append_of_le_length (by rw [u8vs_length]; exact Nat.le_refl _), List.take_of_length_le (by rw [u8vs_length]; exact Nat.le_refl _)]
    have e2 : (u8vs F ++ List.replicate (b - F.length) (Value.int .u8 0)).drop (F.length + min (b - F.length) row.length) = List.replicate (b - (F ++ row).length) (.int .u8 0) := by
      rw [List.drop_append, List.drop_eq_nil_of_le (by rw [u8vs_length]; omega), List.nil_append, u8vs_length, List.drop_replicate, List.length_append]
      congr 1; omega
    have e3 : (F ++ row).take b = F ++ row.take (b - F.length) := by rw [List.take_append, List.take_of_length_le (l := F) (by omega)]
    rw [e1, e2, e3, u8vs_append, List.append_assoc]
theorem at_next (b f r : Nat) : min f b + (min r (b - min f b)) = min (f + r) b := by omega
theorem jrow_own {w : World} {g b : Nat} {F : List Nat} (h : w.heap[g]? = some (.cells (jrow b F).toArray 5 (0, 0))) (hb : b ≤ maxLen) (hf : b ≤ F.length) (hl : ∀ x ∈ F, x < 256) : U8s w (.slice (some ⟨g, 0, none⟩) b b) (F.take b) := by
  have hlen : (F.take b).length = b := by rw [List.length_take]; omega
  have ho : Own w g 5 (F.take b) := by
    refine ⟨⟨_, h, ?_, fun i hi => ?_⟩, by omega, fun x hx => hl x (List.mem_of_mem_take hx)⟩
    · rw [List.size_toArray, jrow_length, hlen]
    · rw [List.getElem?_toArray]
      unfold jrow
      rw [List.getElem?_append_left (by rw [u8vs_length]; exact hi)]
      have hi' : i < F.length := by omega
      have hi2 : i < b := by omega
      simp [u8vs, hi', hi2]
  have := ho.u8s
  rwa [hlen] at this
/-- The rest of a row of the call's own. -/
theorem cut_own (g b n : Nat) (hn : n ≤ b) : ∃ dp, (∀ w', (Instr.slice 24 (.slice (some ⟨g, 0, none⟩) b b) (some (.int .i64 (n : Nat))) none none).run Try.prog w' = .ok (.slice dp (b - n) (b - n)) w') ∧ (n < b → dp = some ⟨g, n, none⟩) := by
  refine ⟨if b = n then some ⟨g, 0, none⟩ else some ⟨g, n, none⟩, fun w' => ?_, fun h => if_neg (by omega)⟩
  rw [run_slice_l (P := Try.prog) w' 24 (some ⟨g, 0, none⟩) b b elemBytes .i64 n (by omega) (by omega), sizeByte]
  simp only [Result.andThen_ok, Int.toNat_natCast, Go.sliced, Option.map_some, Nat.mul_one, Addr.add_mid, Nat.zero_add]
theorem made_row (w : World) (b : Nat) : (w.alloc (.cells (madeCells #[.int .u8 0] b) 5)).heap[w.heap.size]? = some (.cells (jrow b []).toArray 5 (0, 0)) := by rw [jrow_nil]; exact made_bytes w b
theorem RwsL.all_lt {w : World} {v : Value} {L : List (List (List Nat))} (h : RwsL w v L) : ∀ x ∈ CM.flat L, x < 256 := by
  intro x hx
  obtain ⟨r, hr, hxr⟩ := List.mem_flatten.1 hx
  obtain ⟨l, hl, hrl⟩ := List.mem_flatten.1 hr
  rcases h with ⟨rfl, _⟩ | ⟨b, off, cap, rfl, _, _, _, h4⟩
  · cases hl
  · obtain ⟨k, hk, rfl⟩ := List.mem_iff_getElem.1 hl
    obtain ⟨u, _, hs⟩ := h4 k hk
    rw [show L.getD k [] = L[k] by simp [hk]] at hs
    exact hs.all_lt r hrl x hxr
theorem flat_take (l : List (List Nat)) (z : Nat) (hz : z < l.length) : (l.take (z + 1)).flatten = (l.take z).flatten ++ l.getD z [] := by
  rw [List.take_succ_eq_append_getElem hz, CM.flatten_snoc]; simp [hz]
theorem join_wrong (b s m : Int) (v : Value) (w : World) (h : ¬ CM.Right b s m) :
    Calls Try.prog 20 #[PV b s m, v] w (JoinOut w 1 []) := by
  go_enter Try.func20, Try.ntmps20
  go_wp2_with fail
  generalize hw1 : World.alloc w _ = w1
  have hx1 : w.Extends w1 := by subst hw1; exact prm_ext_alloc _ _
  have hp : PAt w1 w.heap.size b s m := by subst hw1; exact PAt.new w 23 b s m
  generalize w.heap.size = g at hp ⊢
  clear hw1
  have HX1 := Lib.hid hx1
  have hb1 := hp.lt
  obtain ⟨p0, p1, p2⟩ := hp
  clear hx1
  refine (right_no b s m w1 h).mono ?_
  rintro e w2 ⟨rfl, hx⟩
  have HX2 := Lib.hid (Gr.ext_trans HX1.out hx)
  go_wp2
  go_returns
  exact ⟨_, by rfl, HX2.out, nil_u8s _ _ _⟩
set_option maxHeartbeats 1000000 in
set_option maxRecDepth 100000 in
theorem join_any (b s m : Nat) (v : Value) (L : List (List (List Nat))) (w : World) (h : CM.Right b s m) (hv : RwsL w v L) :
    Calls Try.prog 20 #[PV b s m, v] w fun e w' => (CM.Fit b s m L → JoinOut w 0 ((CM.flat L).take b) e w') ∧ (¬ CM.Fit b s m L → JoinOut w 10 [] e w') := by
  have hm := hv.len
  have HLT := Lib.hid hv.all_lt
  have HF := Lib.hid (fun v w hv => fit_any b s m v L w h hv)
  have HU := Lib.hid hv
  obtain ⟨va, vc, rfl, _⟩ := hv.slice
  have HV := Lib.hid hv.at.2
  obtain ⟨h1, h2, h3, h4, h5, h6⟩ := CM.right_of h
  have HFL : Hid (CM.Fit b s m L → b ≤ (CM.flat L).length) := fun hf => by rw [CM.flat_all b s m L hf]; exact CM.sy_hi b s h3
  have HFR : Hid (CM.Fit b s m L → ∀ q, q < L.length → (L.getD q []).length ≤ 40 ∧ ∀ j, j < (L.getD q []).length → ((L.getD q []).getD j []).length = s) := fun hf q hq => ⟨by rw [(hf.2 q hq).1]; exact Nat.le_trans (CM.kk_le b s m q h5) h6, (hf.2 q hq).2⟩
  have HFN : Hid (CM.Fit b s m L → L.length ≤ 4000) := fun hf => by rw [hf.1]; have := CM.bl_le b s m; have := CM.sy_le b s h1; omega
  have HT0 : Hid (CM.flat (L.take 0) = []) := by show _ = _; rw [List.take_zero]; rfl
  have HTS : Hid (∀ q, q < L.length → CM.flat (L.take (q + 1)) = CM.flat (L.take q) ++ (L.getD q []).flatten) := fun q hq => by
    rw [List.take_succ_eq_append_getElem hq, CM.flat_snoc]; simp [hq]
  have HTE : Hid (CM.flat (L.take L.length) = CM.flat L) := by show _ = _; rw [List.take_length]
  have hmk := fun w => mkBytes b (by omega) w
  have HMK := Lib.hid hmk
  clear hmk
  unfold maxLen at hm
  clear hv
  generalize CM.Fit b s m L = Ft at *
  generalize CM.flat L = FL at *
  obtain ⟨ln, hln⟩ : ∃ ln, ln = L.length := ⟨_, rfl⟩
  rw [← hln] at HV HFN HFR HTS HTE HU hm ⊢
  have HR := Lib.hid h
  clear hln h
  go_enter Try.func20, Try.ntmps20
  go_wp2_with fail
  generalize hw1 : World.alloc w _ = w1
  have hx1 : w.Extends w1 := by subst hw1; exact prm_ext_alloc _ _
  have hp : PAt w1 w.heap.size b s m := by subst hw1; exact PAt.new w 23 b s m
  generalize w.heap.size = bx at hp ⊢
  clear hw1
  have HX1 := Lib.hid hx1
  have HP1 := Lib.hid hp
  have hb1 := hp.lt
  obtain ⟨p0, p1, p2⟩ := hp
  clear hx1
  refine (right_yes b s m w1 HR.out).mono ?_
  rintro e w2 ⟨rfl, hx⟩
  have HX2 := Lib.hid (Gr.ext_trans HX1.out hx)
  have HP2 := Lib.hid (HP1.out.ext hx)
  have hb2 := HP2.out.lt
  clear p0 p1 p2 hx
  obtain ⟨p0, p1, p2⟩ := HP2.out
  go_wp2_with fail
  refine (HF.out _ w2 (HU.out.ext HX2.out)).mono ?_
  rintro e w3 ⟨⟨ok, rfl, hok⟩, hx⟩
  have HX3 := Lib.hid (Gr.ext_trans HX2.out hx)
  have HP3 := Lib.hid (HP2.out.ext hx)
  have hb3 := HP3.out.lt
  clear p0 p1 p2 hx
  obtain ⟨p0, p1, p2⟩ := HP3.out
  have HOK := Lib.hid hok
  clear hok
  cases ok with
  | false =>
    have HP : Hid (¬ Ft ∧ w.Extends w3) := ⟨fun hf => (by have := HOK.out.2 hf; cases this), HX3.out⟩
    go_wp2
    go_returns
    exact ⟨fun hf => absurd hf HP.out.1, fun _ => ⟨_, by rfl, HP.out.2, nil_u8s _ _ _⟩⟩
  | true =>
    have HFt : Hid Ft := HOK.out.1 rfl
    clear HOK
    have hlnl := HFN.out HFt.out
    have hmk := HMK.out
    go_upto_region 6 with fail
    clear hmk p0 p1 p2
    have HB4 : Hid (Below w3.heap.size w3 (w3.alloc (.cells (madeCells #[.int .u8 0] b) 5))) := (Below.refl _ _).alloc (Nat.le_refl _) _
    have HG4 := Lib.hid (made_row w3 b)
    generalize hw4 : World.alloc w3 _ = w4 at *
    obtain ⟨g, hg⟩ : ∃ g, g = w3.heap.size := ⟨_, rfl⟩
    rw [← hg] at HB4 HG4 ⊢
    have HGE := Lib.hid hg
    clear hg hw4
    go_wp2_with fail
    go_loopw [7, 24] (fun at' i wr => ∃ q : Nat, q ≤ ln ∧ i = .int .i64 q ∧ at' = .int .i64 (min (CM.flat (L.take q)).length b : Nat) ∧ Hid (Below g w3 wr) ∧ Hid (wr.heap[g]? = some (.cells (jrow b (CM.flat (L.take q))).toArray 5 (0, 0)))) (fun _ i _ => (ln - intOf i).toNat)
    case atStart => exact ⟨0, by omega, rfl, by rw [HT0.out]; simp, HB4, by rw [HT0.out]; exact HG4⟩
    case round =>
      obtain ⟨q, hq, rfl, rfl, HB, HG⟩ := hrel
      by_cases h8 : q < ln
      · obtain ⟨bb, o1, rfl, hbb, hc1⟩ := HV.out (by omega)
        obtain ⟨ra, rc, hc3, hr0⟩ := hc1 q h8
        have HXW : Hid (w.Extends wr) := Gr.ext_trans HX3.out (Gr.ext_of (by rw [← HGE.out]; exact HB.out))
        have hc2 := HXW.out.cell_of hc3
        have HR0 := Lib.hid hr0
        have HVR := Lib.hid hr0.at.2
        obtain ⟨hll, hls⟩ := HFR.out HFt.out q h8
        have HLS := Lib.hid hls
        have HTQ := Lib.hid (HTS.out q h8)
        have HFZ0 : Hid ((L.getD q []).take 0 = []) := by show _ = _; rw [List.take_zero]
        have HFZS : Hid (∀ z, z < (L.getD q []).length → ((L.getD q []).take (z + 1)).flatten = ((L.getD q []).take z).flatten ++ (L.getD q []).getD z []) := flat_take (L.getD q [])
        have HFZE : Hid ((L.getD q []).take (L.getD q []).length = L.getD q []) := by show _ = _; rw [List.take_length]
        clear hc1 hc3 hr0 hls
        generalize L.getD q [] = l at *
        generalize CM.flat (L.take q) = F at *
        obtain ⟨k, hk⟩ : ∃ k, k = l.length := ⟨_, rfl⟩
        rw [← hk] at hc2 hll HR0 HVR HLS HFZS HFZE
        clear hk
        obtain ⟨wo, hwo⟩ : ∃ wo, wo = wr := ⟨_, rfl⟩
        have HBo := HB
        rw [← hwo] at HBo hc2 ⊢
        have HGo := HG
        rw [← hwo] at HGo
        clear HB HG HXW hwo
        go_wp2_with fail
        go_loopw [7, 30] (fun at' i wr => ∃ z : Nat, z ≤ k ∧ i = .int .i64 z ∧ at' = .int .i64 (min (F ++ (l.take z).flatten).length b : Nat) ∧ Hid (Below g w3 wr) ∧ Hid (wr.heap[g]? = some (.cells (jrow b (F ++ (l.take z).flatten)).toArray 5 (0, 0)))) (fun _ i _ => (k - intOf i).toNat)
        case atStart => exact ⟨0, by omega, rfl, by rw [HFZ0.out]; simp, HBo, by rw [HFZ0.out]; simpa using HGo⟩
        case round =>
          obtain ⟨z, hz, rfl, rfl, HB, HG⟩ := hrel
          by_cases h9 : z < k
          · obtain ⟨bc, o2, rfl, hbc, hd1⟩ := HVR.out (by omega)
            obtain ⟨rb, rd, hd3, hu0⟩ := hd1 z h9
            have HXW : Hid (w.Extends wr) := Gr.ext_trans HX3.out (Gr.ext_of (by rw [← HGE.out]; exact HB.out))
            have hd2 := HXW.out.cell_of hd3
            have HU0 := Lib.hid (hu0.ext HXW.out)
            have HRS := Lib.hid (HLS.out z h9)
            have HFS := Lib.hid (HFZS.out z h9)
            have hrl := hu0.len
            unfold maxLen at hrl
            clear hd1 hd3 hu0 HXW
            generalize l.getD z [] = row at *
            generalize (l.take z).flatten = Fz at *
            have HJN := Lib.hid (jrow_next b (F ++ Fz) row)
            have HAN := Lib.hid (at_next b (F ++ Fz).length row.length)
            have hab : min (F ++ Fz).length b ≤ b := Nat.min_le_right _ _
            have HJL := Lib.hid (jrow_length b (F ++ Fz))
            have HAP := Lib.hid (List.append_assoc F Fz row)
            have HLA : Hid (((F ++ Fz) ++ row).length = (F ++ Fz).length + row.length) := List.length_append
            have HCS := Lib.hid (copy_src HU0.out (b - min (F ++ Fz).length b))
            have HONE := Lib.hid (u8vs_one (row.take (b - min (F ++ Fz).length b)))
            have HCL : Hid ((u8vs (row.take (b - min (F ++ Fz).length b))).length = min row.length (b - min (F ++ Fz).length b)) := by show _ = _; rw [u8vs_length, List.length_take, Nat.min_comm]
            generalize u8vs (row.take (b - min (F ++ Fz).length b)) = cs at *
            generalize F ++ Fz = FF at *
            generalize FF.length = fl at *
            generalize row.length = rl at *
            obtain ⟨p, hp0⟩ : ∃ p, p = min fl b := ⟨_, rfl⟩
            have HPE := Lib.hid hp0
            rw [← hp0] at hab HCL HJN HAN ⊢
            clear hp0
            obtain ⟨cn, hcn⟩ : ∃ cn, cn = cs.length := ⟨_, rfl⟩
            have HCN := Lib.hid hcn
            have HCL2 : Hid (cn = min rl (b - p)) := by show _ = _; rw [hcn]; exact HCL.out
            clear hcn HCL
            go_wp2_with (with_reducible refine wpList_copy_splice rfl (.tmp 37) (.tmp 38) 24 49 rfl 5 Try.underlying24 bytesize _ _ _ _ _ _ rfl rfl g p (jrow b FF) 5 HG.out cs ?_ ?_ ?_ HONE.out g w3 HB.out (Nat.le_refl _) ?_)
            case refine_1 => rw [← HCN.out, HCL2.out]; try rfl
            case refine_2.inl => exact List.eq_nil_of_length_eq_zero (by rw [← HCN.out, HCL2.out]; try omega)
            case refine_2.inr => exact HCS.out
            case refine_3 => rw [HJL.out, ← HCN.out, HCL2.out]; omega
            case refine_4.inl =>
              obtain rfl : b = p := by assumption
              intro w2 HG2 hB2
              rw [← HCN.out]
              have hpc : b + cn ≤ b := by have := HCL2.out; omega
              have HP : Hid (Below g w3 w2 ∧ w2.heap[g]? = some (.cells (jrow b (F ++ (l.take (z + 1)).flatten)).toArray 5 (0, 0)) ∧ b + cn = min (F ++ (l.take (z + 1)).flatten).length b) := by
                rw [HFS.out, ← HAP.out, ← HJN.out, HLA.out, ← HAN.out, HCL2.out]
                exact ⟨hB2, HG2.out, rfl⟩
              clear HG2 hB2
              go_wp2
              go_roundw
              case rel => exact ⟨z + 1, by omega, by go_num, by rw [← HP.out.2.2]; go_num, Lib.hid HP.out.1, Lib.hid HP.out.2.1⟩
              case measure => simp [intOf]; omega
            case refine_4.inr =>
              intro w2 HG2 hB2
              rw [← HCN.out]
              have hpc : p + cn ≤ b := by have := HCL2.out; omega
              have HP : Hid (Below g w3 w2 ∧ w2.heap[g]? = some (.cells (jrow b (F ++ (l.take (z + 1)).flatten)).toArray 5 (0, 0)) ∧ p + cn = min (F ++ (l.take (z + 1)).flatten).length b) := by
                rw [HFS.out, ← HAP.out, ← HJN.out, HLA.out, ← HAN.out, HCL2.out]
                exact ⟨hB2, HG2.out, rfl⟩
              clear HG2 hB2
              go_wp2
              go_roundw
              case rel => exact ⟨z + 1, by omega, by go_num, by rw [← HP.out.2.2]; go_num, Lib.hid HP.out.1, Lib.hid HP.out.2.1⟩
              case measure => simp [intOf]; omega
          · obtain rfl : z = k := by omega
            have HP : Hid (wr.heap[g]? = some (.cells (jrow b (CM.flat (L.take (q + 1)))).toArray 5 (0, 0)) ∧ CM.flat (L.take (q + 1)) = F ++ (l.take z).flatten) := by
              have e : CM.flat (L.take (q + 1)) = F ++ (l.take z).flatten := by rw [HTQ.out, HFZE.out]
              exact ⟨by rw [e]; exact HG.out, e⟩
            clear HG
            go_wp2
            go_roundw
            case rel => exact ⟨q + 1, by omega, by go_num, by rw [HP.out.2], HB, Lib.hid HP.out.1⟩
            case measure => simp [intOf]; omega
      · obtain rfl : q = ln := by omega
        have HXW : Hid (w.Extends wr) := Gr.ext_trans HX3.out (Gr.ext_of (by rw [← HGE.out]; exact HB.out))
        have HRW : Hid (U8s wr (.slice (some ⟨g, 0, none⟩) b b) (FL.take b)) := by
          have hg := HG.out
          rw [HTE.out] at hg
          exact jrow_own hg (by unfold maxLen; omega) (HFL.out HFt.out) HLT.out
        clear HB HG
        go_wp2
        go_returns
        exact ⟨fun _ => ⟨_, by rfl, HXW.out, HRW.out⟩, fun hf => absurd HFt.out hf⟩
end Go.Proofs.Ytomfgkgdlpajeaa
