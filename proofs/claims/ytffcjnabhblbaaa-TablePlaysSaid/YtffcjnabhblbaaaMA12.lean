/- In one text: TabRall. -/
import Derived.Test.YtffcjnabhblbaaaMA10
import Derived.Test.YtffcjnabhblbaaaMA11
namespace Go.Proofs.Ytffcjnabhblbaaa
set_option maxRecDepth 20000
open Go.RowKit Go.Deep
set_option linter.unusedVariables false
/-- The peers of the first i buckets, and of the first k of the next. -/
def PL (b : Nat → List Ct) (i k : Nat) : List Int := ((List.range i).flatMap b ++ (b i).take k).map Ct.p
theorem PL_len {b : Nat → List Ct} (h : ∀ i, (b i).length ≤ 3) {i : Nat} (hi : i ≤ 161) (k : Nat) : (PL b i k).length ≤ 486 := by
  have := flat_le h i
  have := h i
  unfold PL
  rw [List.length_map, List.length_append, List.length_take]; omega
theorem PL_next (b : Nat → List Ct) (i : Nat) : PL b i (b i).length = PL b (i + 1) 0 := by
  unfold PL
  rw [List.take_length, flat_next, List.take_zero, List.append_nil]
theorem PL_step (b : Nat → List Ct) {i k : Nat} (hk : k < (b i).length) : (((b i).getD k z21).p :: PL b i k).Perm (PL b i (k + 1)) := by
  unfold PL
  rw [List.take_add_one, ← List.append_assoc, List.map_append (l₂ := (b i)[k]?.toList)]
  have e : ((b i)[k]?.toList).map Ct.p = [((b i).getD k z21).p] := by simp [hk]
  rw [e]
  exact (List.perm_append_singleton _ _).symm
theorem PL_all (b : Nat → List Ct) : PL b 161 0 = peersT b := by
  unfold PL peersT flatT
  rw [List.take_zero, List.append_nil]
/-- What stands in the loops: out, in order, has these. -/
structure Rall (R : Int → Int → Bool) (w wr : World) (v : Value) (out L : List Int) : Prop where
  ext : w.Extends wr
  own : OwnI wr w.heap.size v out
  srt : Srt R out
  perm : out.Perm L
theorem Rall.insert {R : Int → Int → Bool} (hR : Ord R) {w wr W : World} {v v' : Value} {out L L' : List Int} {j B : Nat} {x : Int} (h : Rall R w wr v out L) (hj : j ≤ out.length) (h1 : ∀ m, j ≤ m → m < out.length → R x (out.getD m 0) = true) (h2 : 0 < j → R x (out.getD (j - 1) 0) = false) (hp : (x :: L).Perm L')
    (hx : w.Extends W) (ho : OwnI W B v' (out.take j ++ [x] ++ out.drop j)) (hB : w.heap.size ≤ B) : Rall R w W v' (out.take j ++ [x] ++ out.drop j) L' :=
  ⟨hx, ho.mono hB, h.srt.insert hR hj h1 h2, (insert_perm out x j).trans ((List.Perm.cons x h.perm).trans hp)⟩
set_option maxHeartbeats 8000000 in
theorem rall_any (g : Nat) (p : Int) (vs : Nat → Value) (b : Nat → List Ct) (w : World) (h : RTAt w g p vs b) (hi : TInv p b) :
    Calls Try.prog 15 #[.pointer (some ⟨g, 0, none⟩)] w (IntsOut w (allT b)) := by
  have HR := Lib.hid h
  have HLE := Lib.hid hi.le
  have HEND : Hid (∀ v wr out, Rall ltI w wr v out (PL b 161 0) → IntsOut w (allT b) (.returned v) wr) := fun v wr out hr => by
    refine ⟨v, rfl, hr.ext, ?_⟩
    have e : out = allT b := hr.srt.uniq ltI_ord (allT_srt b) (hr.perm.trans (by rw [PL_all]; exact (allT_perm b).symm))
    rw [← e]
    exact hr.own.ints
  generalize IntsOut w (allT b) = POST at *
  clear h hi
  go_enter Try.func15, Try.ntmps15
  go_wp2_with fail
  go_loopw [3, 4] (fun s3 s4 wr => ∃ i : Nat, i ≤ 161 ∧ s4 = .int .i64 i ∧ ∃ out, Hid (Rall ltI w wr s3 out (PL b i 0))) (fun _ s4 _ => (161 - intOf s4).toNat)
  case atStart => exact ⟨0, by omega, rfl, [], Gr.ext_refl _, OwnI.nil _ _, List.Pairwise.nil, List.Perm.refl _⟩
  case round =>
    obtain ⟨i, hi1, rfl, out, HS⟩ := hrel
    by_cases h1 : i < 161
    · obtain ⟨va, vc, hv⟩ := (HR.out.own i).slice
      obtain ⟨n, hn⟩ : ∃ n, (b i).length = n := ⟨_, rfl⟩
      rw [hn] at hv
      have HN3 := Lib.hid hn
      have hn3 : n ≤ 3 := by rw [← hn]; exact HLE.out i
      have HC1 : Hid (∀ wz, w.Extends wz → wz.cell? ⟨g, 1 + i, none⟩ = some (.slice va n vc)) := fun wz hx => by
        rw [← hv]
        exact ((HR.out.ext hx).bkt h1).cell (rpreT_length p vs i)
      have HCT : Hid (Cts w (.slice va n vc) (b i)) := by show Cts _ _ _; rw [← hv]; exact (HR.out.own i).cts
      have HFIN1 : Hid (∀ wr v out, Rall ltI w wr v out (PL b i n) → Rall ltI w wr v out (PL b (i + 1) 0)) := fun wr v out hr => by rw [← PL_next, HN3.out]; exact hr
      have HPL := Lib.hid (PL_len HLE.out hi1)
      have hib : ((i : Nat) : Int) < 161 := by omega
      clear hv hn
      go_wp2_with fail
      go_loopw [3, 5] (fun s3 s5 wr => ∃ k : Nat, k ≤ n ∧ s5 = .int .i64 k ∧ ∃ out, Hid (Rall ltI w wr s3 out (PL b i k))) (fun _ s5 _ => n - (intOf s5).toNat)
      case atStart => exact ⟨0, by omega, rfl, out, HS⟩
      case round =>
        obtain ⟨k, hk, rfl, out2, HRA⟩ := hrel
        have HXR : Hid (w.Extends wr) := HRA.out.ext
        have hc1 := HC1.out wr HXR.out
        by_cases h2 : k < n
        · obtain ⟨vg, vo, rfl, hr⟩ := (HCT.out.ext HXR.out).at (k := k) (by rw [HN3.out]; exact h2)
          have hpe := range_peer hr
          obtain ⟨x, hx⟩ : ∃ x, x = ((b i).getD k z21).p := ⟨_, rfl⟩
          rw [← hx] at hpe
          have HST : Hid ((x :: PL b i k).Perm (PL b i (k + 1))) := by show List.Perm _ _; rw [hx]; exact PL_step b (by rw [HN3.out]; exact h2)
          obtain ⟨N, hN⟩ : ∃ N, out2.length = N := ⟨_, rfl⟩
          obtain ⟨oa, oc, rfl⟩ := HRA.out.own.slice
          rw [hN] at HRA ⊢
          have HN := Lib.hid hN
          have hNL : N ≤ 486 := by rw [← hN, HRA.out.perm.length_eq]; exact HPL.out k
          have HNL := Lib.hid hNL
          have HOR : Hid (OwnI wr w.heap.size (.slice oa N oc) out2) := HRA.out.own
          clear hx hN hr
          go_wp2_with fail
          obtain ⟨wo, hwo⟩ : ∃ wo, wo = wr := ⟨_, rfl⟩
          subst hwo
          go_loopw [7] (fun s7 wz => ∃ j : Nat, j ≤ N ∧ s7 = .int .i64 j ∧ wz = wo ∧ Hid (∀ m, j ≤ m → m < N → ltI x (out2.getD m 0) = true)) (fun s7 _ => (intOf s7).toNat)
          case atStart => exact ⟨N, Nat.le_refl _, rfl, rfl, fun m h1 h2 => absurd h2 (by omega)⟩
          case round =>
            obtain ⟨j, hj, rfl, hw, HB⟩ := hrel
            subst hw
            by_cases h3 : j = 0
            · have HJ0 : Hid (0 < j → ltI x (out2.getD (j - 1) 0) = false) := fun h => absurd h (by omega)
              have HH3 := Lib.hid h3
              have hg0 : ¬ 0 < ((j : Nat) : Int) := by omega
              have hg1 : decide (0 < ((j : Nat) : Int)) = false := decide_eq_false hg0
              have hg2 : ¬ 0 < j := by omega
              clear h3
              go_upto_region 12 with fail
              obtain ⟨ca1, cc1, ca2, cc2, q1, s1, q2, s2⟩ := HOR.out.cuts (j := j) (by rw [HN.out]; exact hj)
              rw [HN.out] at q2 s2
              have HQ1 := Lib.hid q1
              have HQ2 := Lib.hid q2
              have HS1 := Lib.hid s1
              have HS2 := Lib.hid s2
              clear q1 q2 s1 s2
              obtain ⟨B, hB⟩ : ∃ B, B = wr.heap.size := ⟨_, rfl⟩
              have HBR : Hid (B ≤ wr.drew.heap.size) := Nat.le_of_eq hB
              have HWB : Hid (w.heap.size ≤ B) := by rw [hB]; exact HXR.out.size
              have HOB := Lib.hid (HOR.out.lts hB)
              have HJN : Hid (j ≤ N) := hj
              clear hB
              refine GrL.regionE (B := B) 11 4 [(false,0),(false,1),(false,2),(false,4),(false,7),(false,8),(false,9)] (by kernel_rfl) (by kernel_rfl) (fun d _ _ _ _ h => by cases d <;> exact h) ?_
              simp only [Gr.pick, List.getElem?_cons_zero, List.getElem?_cons_succ]
              generalize hwd0 : wr.drew = wd
              have HX : Hid (w.Extends wd) := by rw [← hwd0]; exact Gr.ext_drew HXR.out
              have HO := Lib.hid (HOR.out.ext (show wr.Extends wd by rw [← hwd0]; exact Gr.ext_drew (Gr.ext_refl _)))
              have HBW : Hid (B ≤ wd.heap.size) := by rw [← hwd0]; exact HBR.out
              clear hwd0
              refine GrL.walkE_t ?_ (Or.inl ⟨by rfl, ?_⟩) ?_
              rotate_left
              · intro w' hw'
                clear hw'
                go_simp
                try with_reducible rfl
              simp only [Act.put, List.setIfInBounds_toArray, List.set_cons_zero, List.set_cons_succ]
              refine GrL.walkE_t ?_ (Or.inl ⟨by rfl, ?_⟩) ?_
              rotate_left
              · intro w' hw'
                clear hw'
                go_simp
                try with_reducible rfl
              simp only [Act.put, List.setIfInBounds_toArray, List.set_cons_zero, List.set_cons_succ]
              refine GrL.walkE_t ?_ (Or.inl ⟨by rfl, ?_⟩) ?_
              rotate_left
              · intro w' hw'
                have hs1 := HQ1.out w'
                clear hw'
                go_simp
                try with_reducible rfl
              simp only [Act.put, List.setIfInBounds_toArray, List.set_cons_zero, List.set_cons_succ]
              refine GrL.walkE_t ?_ (Or.inl ⟨by rfl, ?_⟩) ?_
              rotate_left
              · intro w' hw'
                clear hw'
                go_simp
                try with_reducible rfl
              simp only [Act.put, List.setIfInBounds_toArray, List.set_cons_zero, List.set_cons_succ]
              refine GrL.walkE_t ?_ (Or.inl ⟨by rfl, ?_⟩) ?_
              rotate_left
              · intro w' hw'
                clear hw'
                go_simp
                try with_reducible rfl
              simp only [Act.put, List.setIfInBounds_toArray, List.set_cons_zero, List.set_cons_succ]
              refine GrL.walkE_t ?_ (Or.inl ⟨by rfl, ?_⟩) ?_
              rotate_left
              · intro w' hw'
                clear hw'
                go_simp
                try with_reducible rfl
              simp only [Act.put, List.setIfInBounds_toArray, List.set_cons_zero, List.set_cons_succ]
              refine GrL.walkE_t ?_ (Or.inl ⟨by rfl, ?_⟩) ?_
              rotate_left
              · intro w' hw'
                have hs2 := HQ2.out w'
                clear hw'
                go_simp
                try with_reducible rfl
              simp only [Act.put, List.setIfInBounds_toArray, List.set_cons_zero, List.set_cons_succ]
              refine GrL.walkE_nil ?_
              refine GrL.Left.two (i := 3) (j := 5) (by kernel_rfl) (by kernel_rfl) (GrL.Step.mk rfl (fun K hK => ?_)) (GrL.Step.mk rfl (fun K hK => ?_))
              · skip
                rw [if_pos (by rfl)]
                refine wp_app_ints (.const (.slice none 0 0)) (.tmp 52) rfl B (.slice none 0 0) [] rfl (OwnI.nil _ _) _ j (out2.take j) rfl (by rw [List.length_take]; have := HJN.out; have := HN.out; omega) (HS1.out _ HO.out) (by rw [List.length_take]; show 0 + _ ≤ _; have := HJN.out; have := HN.out; have := HNL.out; omega) HBW.out ?_
                intro va5 w1_ ho hg
                have hx : wd.Extends w1_ := ext_own (Gr.ext_refl _) hg (fun x hx => nomatch hx)
                have A0 : OwnI w1_ B va5 (out2.take j) := ho
                clear ho hg
                simp only [Act.put, List.setIfInBounds_toArray, List.set_cons_zero, List.set_cons_succ]
                refine hK.out _ _ ((Gr.below_of hx).mono HBW.out) ?_
                clear hK K
                have HX := Lib.hid (Gr.ext_trans HX.out hx)
                have HO := Lib.hid (HO.out.ext hx)
                have HBW := Lib.hid (Nat.le_trans HBW.out hx.size)
                have A := Lib.hid A0
                clear A0
                clear hx
                refine GrL.Left.one (i := 5) (by kernel_rfl) (by kernel_rfl) (GrL.Step.mk rfl (fun K hK => ?_))
                go_simp
                generalize hw : World.alloc _ _ = w2_
                have hx : w1_.Extends w2_ := by subst hw; exact ext_alloc _ _
                have O0 : w2_.heap[w1_.heap.size]? = some (.cells #[.int .i64 x] 3 (0, 0)) := by subst hw; exact heap_alloc_new w1_ _
                clear hw
                refine hK.out _ _ ((Gr.below_of hx).mono HBW.out) ?_
                clear hK K
                have HX := Lib.hid (Gr.ext_trans HX.out hx)
                have HO := Lib.hid (HO.out.ext hx)
                have HBW := Lib.hid (Nat.le_trans HBW.out hx.size)
                have A := Lib.hid (A.out.ext hx)
                have O := Lib.hid O0
                clear O0
                clear hx
                refine GrL.Left.one (i := 6) (by kernel_rfl) (by kernel_rfl) (GrL.Step.mk rfl (fun K hK => ?_))
                rw [if_pos (by rfl)]
                refine wp_app_ints (.tmp 53) (.tmp 55) rfl B va5 (out2.take j) rfl A.out _ 1 [x] rfl rfl (one_src O.out) (by rw [List.length_take]; show _ + 1 ≤ _; have := HJN.out; have := HN.out; have := HNL.out; omega) HBW.out ?_
                intro va6 w3_ ho hg
                have hx : Below B w2_ w3_ := (Below.refl B _).grown hg HBW.out (fun k hk => (A.out.lt k hk).1)
                have A60 : OwnI w3_ B va6 (out2.take j ++ [x]) := ho
                clear ho hg
                simp only [Act.put, List.setIfInBounds_toArray, List.set_cons_zero, List.set_cons_succ]
                refine hK.out _ _ (hx) ?_
                clear hK K
                have HX := Lib.hid (Gr.ext_of ((Gr.below_of HX.out).trans (hx.mono HWB.out)))
                have HO := Lib.hid (HO.out.below HOB.out hx)
                have HBW := Lib.hid (Nat.le_trans HBW.out hx.size)
                clear A
                clear O
                have A6 := Lib.hid A60
                clear A60
                clear hx
                refine GrL.Left.one (i := 10) (by kernel_rfl) (by kernel_rfl) (GrL.Step.mk rfl (fun K hK => ?_))
                rw [if_pos (by rfl)]
                refine wp_app_ints (.tmp 56) (.tmp 59) rfl B va6 (out2.take j ++ [x]) rfl A6.out _ (N - j) (out2.drop j) rfl (by rw [List.length_drop, HN.out]) (HS2.out _ HO.out) (by rw [List.length_append, List.length_take, List.length_drop]; show _ + 1 + _ ≤ _; have := HJN.out; have := HN.out; have := HNL.out; omega) HBW.out ?_
                intro va7 w4_ ho hg
                have hx : Below B w3_ w4_ := (Below.refl B _).grown hg HBW.out (fun k hk => (A6.out.lt k hk).1)
                have A70 : OwnI w4_ B va7 (out2.take j ++ [x] ++ out2.drop j) := ho
                clear ho hg
                simp only [Act.put, List.setIfInBounds_toArray, List.set_cons_zero, List.set_cons_succ]
                refine hK.out _ _ (hx) ?_
                clear hK K
                have HX := Lib.hid (Gr.ext_of ((Gr.below_of HX.out).trans (hx.mono HWB.out)))
                have HO := Lib.hid (HO.out.below HOB.out hx)
                have HBW := Lib.hid (Nat.le_trans HBW.out hx.size)
                clear A6
                have A7 := Lib.hid A70
                clear A70
                clear hx
                refine GrL.Left.done (by kernel_rfl) ?_
                simp only [List.drop_succ_cons, List.drop_zero]
                have HP : Hid (Rall ltI w w4_ va7 (out2.take j ++ [x] ++ out2.drop j) (PL b i (k + 1))) := HRA.out.insert ltI_ord (by rw [HN.out]; exact HJN.out) (by rw [HN.out]; exact HB.out) HJ0.out HST.out HX.out A7.out HWB.out
                go_wp2
                go_roundw
                case rel => exact ⟨k + 1, by omega, by go_num, _, HP⟩
                case measure => simp [intOf]; omega
              · skip
                go_simp
                generalize hw : World.alloc _ _ = w5_
                have hx : wd.Extends w5_ := by subst hw; exact ext_alloc _ _
                have O0 : w5_.heap[wd.heap.size]? = some (.cells #[.int .i64 x] 3 (0, 0)) := by subst hw; exact heap_alloc_new wd _
                clear hw
                refine hK.out _ _ ((Gr.below_of hx).mono HBW.out) ?_
                clear hK K
                have HX := Lib.hid (Gr.ext_trans HX.out hx)
                have HO := Lib.hid (HO.out.ext hx)
                have HBW := Lib.hid (Nat.le_trans HBW.out hx.size)
                have O := Lib.hid O0
                clear O0
                clear hx
                refine GrL.Left.one (i := 3) (by kernel_rfl) (by kernel_rfl) (GrL.Step.mk rfl (fun K hK => ?_))
                rw [if_pos (by rfl)]
                refine wp_app_ints (.const (.slice none 0 0)) (.tmp 52) rfl B (.slice none 0 0) [] rfl (OwnI.nil _ _) _ j (out2.take j) rfl (by rw [List.length_take]; have := HJN.out; have := HN.out; omega) (HS1.out _ HO.out) (by rw [List.length_take]; show 0 + _ ≤ _; have := HJN.out; have := HN.out; have := HNL.out; omega) HBW.out ?_
                intro va5 w6_ ho hg
                have hx : w5_.Extends w6_ := ext_own (Gr.ext_refl _) hg (fun x hx => nomatch hx)
                have A0 : OwnI w6_ B va5 (out2.take j) := ho
                clear ho hg
                simp only [Act.put, List.setIfInBounds_toArray, List.set_cons_zero, List.set_cons_succ]
                refine hK.out _ _ ((Gr.below_of hx).mono HBW.out) ?_
                clear hK K
                have HX := Lib.hid (Gr.ext_trans HX.out hx)
                have HO := Lib.hid (HO.out.ext hx)
                have HBW := Lib.hid (Nat.le_trans HBW.out hx.size)
                have O := Lib.hid ((hx.block _ (Array.getElem?_eq_some_iff.1 O.out).1).trans O.out)
                have A := Lib.hid A0
                clear A0
                clear hx
                refine GrL.Left.one (i := 6) (by kernel_rfl) (by kernel_rfl) (GrL.Step.mk rfl (fun K hK => ?_))
                rw [if_pos (by rfl)]
                refine wp_app_ints (.tmp 53) (.tmp 55) rfl B va5 (out2.take j) rfl A.out _ 1 [x] rfl rfl (one_src O.out) (by rw [List.length_take]; show _ + 1 ≤ _; have := HJN.out; have := HN.out; have := HNL.out; omega) HBW.out ?_
                intro va6 w7_ ho hg
                have hx : Below B w6_ w7_ := (Below.refl B _).grown hg HBW.out (fun k hk => (A.out.lt k hk).1)
                have A60 : OwnI w7_ B va6 (out2.take j ++ [x]) := ho
                clear ho hg
                simp only [Act.put, List.setIfInBounds_toArray, List.set_cons_zero, List.set_cons_succ]
                refine hK.out _ _ (hx) ?_
                clear hK K
                have HX := Lib.hid (Gr.ext_of ((Gr.below_of HX.out).trans (hx.mono HWB.out)))
                have HO := Lib.hid (HO.out.below HOB.out hx)
                have HBW := Lib.hid (Nat.le_trans HBW.out hx.size)
                clear O
                clear A
                have A6 := Lib.hid A60
                clear A60
                clear hx
                refine GrL.Left.one (i := 10) (by kernel_rfl) (by kernel_rfl) (GrL.Step.mk rfl (fun K hK => ?_))
                rw [if_pos (by rfl)]
                refine wp_app_ints (.tmp 56) (.tmp 59) rfl B va6 (out2.take j ++ [x]) rfl A6.out _ (N - j) (out2.drop j) rfl (by rw [List.length_drop, HN.out]) (HS2.out _ HO.out) (by rw [List.length_append, List.length_take, List.length_drop]; show _ + 1 + _ ≤ _; have := HJN.out; have := HN.out; have := HNL.out; omega) HBW.out ?_
                intro va7 w8_ ho hg
                have hx : Below B w7_ w8_ := (Below.refl B _).grown hg HBW.out (fun k hk => (A6.out.lt k hk).1)
                have A70 : OwnI w8_ B va7 (out2.take j ++ [x] ++ out2.drop j) := ho
                clear ho hg
                simp only [Act.put, List.setIfInBounds_toArray, List.set_cons_zero, List.set_cons_succ]
                refine hK.out _ _ (hx) ?_
                clear hK K
                have HX := Lib.hid (Gr.ext_of ((Gr.below_of HX.out).trans (hx.mono HWB.out)))
                have HO := Lib.hid (HO.out.below HOB.out hx)
                have HBW := Lib.hid (Nat.le_trans HBW.out hx.size)
                clear A6
                have A7 := Lib.hid A70
                clear A70
                clear hx
                refine GrL.Left.done (by kernel_rfl) ?_
                simp only [List.drop_succ_cons, List.drop_zero]
                have HP : Hid (Rall ltI w w8_ va7 (out2.take j ++ [x] ++ out2.drop j) (PL b i (k + 1))) := HRA.out.insert ltI_ord (by rw [HN.out]; exact HJN.out) (by rw [HN.out]; exact HB.out) HJ0.out HST.out HX.out A7.out HWB.out
                go_wp2
                go_roundw
                case rel => exact ⟨k + 1, by omega, by go_num, _, HP⟩
                case measure => simp [intOf]; omega
            · obtain ⟨q, hq⟩ : ∃ q, j = q + 1 := ⟨j - 1, by omega⟩
              have hqN : q < N := by omega
              have hg0 : 0 < ((j : Nat) : Int) := by omega
              have hg2 : 0 < j := by omega
              have hjw : IntKind.i64.wrap (((j : Nat) : Int) - 1) = ((q : Nat) : Int) := by rw [IntKind.wrap_i64]; omega
              obtain ⟨ob, oo, rfl, _, hoc⟩ := HOR.out.ints.cell.2 (by omega)
              have hco := hoc q hqN
              have hqi : ((q : Nat) : Int) < ((N : Nat) : Int) := by omega
              obtain ⟨y, hy⟩ : ∃ y, y = out2.getD q 0 := ⟨_, rfl⟩
              rw [← hy] at hco
              have HY := Lib.hid hy
              have HQ := Lib.hid hq
              clear hy hq h3 hoc
              by_cases h4 : x < y
              · have HB2 : Hid (∀ m, q ≤ m → m < N → ltI x (out2.getD m 0) = true) := fun m hm hm2 => by
                  by_cases e : m = q
                  · rw [e, ← HY.out]; unfold ltI; exact decide_eq_true h4
                  · exact HB.out m (by have := HQ.out; omega) hm2
                go_wp2
                go_roundw
                case rel => exact ⟨q, by omega, by go_num, trivial, HB2⟩
                case measure => have := HQ.out; simp [intOf]; omega
              · have HJ0 : Hid (0 < j → ltI x (out2.getD (j - 1) 0) = false) := fun _ => by
                  rw [show j - 1 = q by have := HQ.out; omega, ← HY.out]; unfold ltI; exact decide_eq_false h4
                clear hqi
                go_upto_region 12 with fail
                obtain ⟨ca1, cc1, ca2, cc2, q1, s1, q2, s2⟩ := HOR.out.cuts (j := j) (by rw [HN.out]; exact hj)
                rw [HN.out] at q2 s2
                have HQ1 := Lib.hid q1
                have HQ2 := Lib.hid q2
                have HS1 := Lib.hid s1
                have HS2 := Lib.hid s2
                clear q1 q2 s1 s2
                obtain ⟨B, hB⟩ : ∃ B, B = wr.heap.size := ⟨_, rfl⟩
                have HBR : Hid (B ≤ wr.drew.heap.size) := Nat.le_of_eq hB
                have HWB : Hid (w.heap.size ≤ B) := by rw [hB]; exact HXR.out.size
                have HOB := Lib.hid (HOR.out.lts hB)
                have HJN : Hid (j ≤ N) := hj
                clear hB
                refine GrL.regionE (B := B) 11 4 [(false,0),(false,1),(false,2),(false,4),(false,7),(false,8),(false,9)] (by kernel_rfl) (by kernel_rfl) (fun d _ _ _ _ h => by cases d <;> exact h) ?_
                simp only [Gr.pick, List.getElem?_cons_zero, List.getElem?_cons_succ]
                generalize hwd0 : wr.drew = wd
                have HX : Hid (w.Extends wd) := by rw [← hwd0]; exact Gr.ext_drew HXR.out
                have HO := Lib.hid (HOR.out.ext (show wr.Extends wd by rw [← hwd0]; exact Gr.ext_drew (Gr.ext_refl _)))
                have HBW : Hid (B ≤ wd.heap.size) := by rw [← hwd0]; exact HBR.out
                clear hwd0
                refine GrL.walkE_t ?_ (Or.inl ⟨by rfl, ?_⟩) ?_
                rotate_left
                · intro w' hw'
                  clear hw'
                  go_simp
                  try with_reducible rfl
                simp only [Act.put, List.setIfInBounds_toArray, List.set_cons_zero, List.set_cons_succ]
                refine GrL.walkE_t ?_ (Or.inl ⟨by rfl, ?_⟩) ?_
                rotate_left
                · intro w' hw'
                  clear hw'
                  go_simp
                  try with_reducible rfl
                simp only [Act.put, List.setIfInBounds_toArray, List.set_cons_zero, List.set_cons_succ]
                refine GrL.walkE_t ?_ (Or.inl ⟨by rfl, ?_⟩) ?_
                rotate_left
                · intro w' hw'
                  have hs1 := HQ1.out w'
                  clear hw'
                  go_simp
                  try with_reducible rfl
                simp only [Act.put, List.setIfInBounds_toArray, List.set_cons_zero, List.set_cons_succ]
                refine GrL.walkE_t ?_ (Or.inl ⟨by rfl, ?_⟩) ?_
                rotate_left
                · intro w' hw'
                  clear hw'
                  go_simp
                  try with_reducible rfl
                simp only [Act.put, List.setIfInBounds_toArray, List.set_cons_zero, List.set_cons_succ]
                refine GrL.walkE_t ?_ (Or.inl ⟨by rfl, ?_⟩) ?_
                rotate_left
                · intro w' hw'
                  clear hw'
                  go_simp
                  try with_reducible rfl
                simp only [Act.put, List.setIfInBounds_toArray, List.set_cons_zero, List.set_cons_succ]
                refine GrL.walkE_t ?_ (Or.inl ⟨by rfl, ?_⟩) ?_
                rotate_left
                · intro w' hw'
                  clear hw'
                  go_simp
                  try with_reducible rfl
                simp only [Act.put, List.setIfInBounds_toArray, List.set_cons_zero, List.set_cons_succ]
                refine GrL.walkE_t ?_ (Or.inl ⟨by rfl, ?_⟩) ?_
                rotate_left
                · intro w' hw'
                  have hs2 := HQ2.out w'
                  clear hw'
                  go_simp
                  try with_reducible rfl
                simp only [Act.put, List.setIfInBounds_toArray, List.set_cons_zero, List.set_cons_succ]
                refine GrL.walkE_nil ?_
                refine GrL.Left.two (i := 3) (j := 5) (by kernel_rfl) (by kernel_rfl) (GrL.Step.mk rfl (fun K hK => ?_)) (GrL.Step.mk rfl (fun K hK => ?_))
                · skip
                  rw [if_pos (by rfl)]
                  refine wp_app_ints (.const (.slice none 0 0)) (.tmp 52) rfl B (.slice none 0 0) [] rfl (OwnI.nil _ _) _ j (out2.take j) rfl (by rw [List.length_take]; have := HJN.out; have := HN.out; omega) (HS1.out _ HO.out) (by rw [List.length_take]; show 0 + _ ≤ _; have := HJN.out; have := HN.out; have := HNL.out; omega) HBW.out ?_
                  intro va5 w1_ ho hg
                  have hx : wd.Extends w1_ := ext_own (Gr.ext_refl _) hg (fun x hx => nomatch hx)
                  have A0 : OwnI w1_ B va5 (out2.take j) := ho
                  clear ho hg
                  simp only [Act.put, List.setIfInBounds_toArray, List.set_cons_zero, List.set_cons_succ]
                  refine hK.out _ _ ((Gr.below_of hx).mono HBW.out) ?_
                  clear hK K
                  have HX := Lib.hid (Gr.ext_trans HX.out hx)
                  have HO := Lib.hid (HO.out.ext hx)
                  have HBW := Lib.hid (Nat.le_trans HBW.out hx.size)
                  have A := Lib.hid A0
                  clear A0
                  clear hx
                  refine GrL.Left.one (i := 5) (by kernel_rfl) (by kernel_rfl) (GrL.Step.mk rfl (fun K hK => ?_))
                  go_simp
                  generalize hw : World.alloc _ _ = w2_
                  have hx : w1_.Extends w2_ := by subst hw; exact ext_alloc _ _
                  have O0 : w2_.heap[w1_.heap.size]? = some (.cells #[.int .i64 x] 3 (0, 0)) := by subst hw; exact heap_alloc_new w1_ _
                  clear hw
                  refine hK.out _ _ ((Gr.below_of hx).mono HBW.out) ?_
                  clear hK K
                  have HX := Lib.hid (Gr.ext_trans HX.out hx)
                  have HO := Lib.hid (HO.out.ext hx)
                  have HBW := Lib.hid (Nat.le_trans HBW.out hx.size)
                  have A := Lib.hid (A.out.ext hx)
                  have O := Lib.hid O0
                  clear O0
                  clear hx
                  refine GrL.Left.one (i := 6) (by kernel_rfl) (by kernel_rfl) (GrL.Step.mk rfl (fun K hK => ?_))
                  rw [if_pos (by rfl)]
                  refine wp_app_ints (.tmp 53) (.tmp 55) rfl B va5 (out2.take j) rfl A.out _ 1 [x] rfl rfl (one_src O.out) (by rw [List.length_take]; show _ + 1 ≤ _; have := HJN.out; have := HN.out; have := HNL.out; omega) HBW.out ?_
                  intro va6 w3_ ho hg
                  have hx : Below B w2_ w3_ := (Below.refl B _).grown hg HBW.out (fun k hk => (A.out.lt k hk).1)
                  have A60 : OwnI w3_ B va6 (out2.take j ++ [x]) := ho
                  clear ho hg
                  simp only [Act.put, List.setIfInBounds_toArray, List.set_cons_zero, List.set_cons_succ]
                  refine hK.out _ _ (hx) ?_
                  clear hK K
                  have HX := Lib.hid (Gr.ext_of ((Gr.below_of HX.out).trans (hx.mono HWB.out)))
                  have HO := Lib.hid (HO.out.below HOB.out hx)
                  have HBW := Lib.hid (Nat.le_trans HBW.out hx.size)
                  clear A
                  clear O
                  have A6 := Lib.hid A60
                  clear A60
                  clear hx
                  refine GrL.Left.one (i := 10) (by kernel_rfl) (by kernel_rfl) (GrL.Step.mk rfl (fun K hK => ?_))
                  rw [if_pos (by rfl)]
                  refine wp_app_ints (.tmp 56) (.tmp 59) rfl B va6 (out2.take j ++ [x]) rfl A6.out _ (N - j) (out2.drop j) rfl (by rw [List.length_drop, HN.out]) (HS2.out _ HO.out) (by rw [List.length_append, List.length_take, List.length_drop]; show _ + 1 + _ ≤ _; have := HJN.out; have := HN.out; have := HNL.out; omega) HBW.out ?_
                  intro va7 w4_ ho hg
                  have hx : Below B w3_ w4_ := (Below.refl B _).grown hg HBW.out (fun k hk => (A6.out.lt k hk).1)
                  have A70 : OwnI w4_ B va7 (out2.take j ++ [x] ++ out2.drop j) := ho
                  clear ho hg
                  simp only [Act.put, List.setIfInBounds_toArray, List.set_cons_zero, List.set_cons_succ]
                  refine hK.out _ _ (hx) ?_
                  clear hK K
                  have HX := Lib.hid (Gr.ext_of ((Gr.below_of HX.out).trans (hx.mono HWB.out)))
                  have HO := Lib.hid (HO.out.below HOB.out hx)
                  have HBW := Lib.hid (Nat.le_trans HBW.out hx.size)
                  clear A6
                  have A7 := Lib.hid A70
                  clear A70
                  clear hx
                  refine GrL.Left.done (by kernel_rfl) ?_
                  simp only [List.drop_succ_cons, List.drop_zero]
                  have HP : Hid (Rall ltI w w4_ va7 (out2.take j ++ [x] ++ out2.drop j) (PL b i (k + 1))) := HRA.out.insert ltI_ord (by rw [HN.out]; exact HJN.out) (by rw [HN.out]; exact HB.out) HJ0.out HST.out HX.out A7.out HWB.out
                  go_wp2
                  go_roundw
                  case rel => exact ⟨k + 1, by omega, by go_num, _, HP⟩
                  case measure => simp [intOf]; omega
                · skip
                  go_simp
                  generalize hw : World.alloc _ _ = w5_
                  have hx : wd.Extends w5_ := by subst hw; exact ext_alloc _ _
                  have O0 : w5_.heap[wd.heap.size]? = some (.cells #[.int .i64 x] 3 (0, 0)) := by subst hw; exact heap_alloc_new wd _
                  clear hw
                  refine hK.out _ _ ((Gr.below_of hx).mono HBW.out) ?_
                  clear hK K
                  have HX := Lib.hid (Gr.ext_trans HX.out hx)
                  have HO := Lib.hid (HO.out.ext hx)
                  have HBW := Lib.hid (Nat.le_trans HBW.out hx.size)
                  have O := Lib.hid O0
                  clear O0
                  clear hx
                  refine GrL.Left.one (i := 3) (by kernel_rfl) (by kernel_rfl) (GrL.Step.mk rfl (fun K hK => ?_))
                  rw [if_pos (by rfl)]
                  refine wp_app_ints (.const (.slice none 0 0)) (.tmp 52) rfl B (.slice none 0 0) [] rfl (OwnI.nil _ _) _ j (out2.take j) rfl (by rw [List.length_take]; have := HJN.out; have := HN.out; omega) (HS1.out _ HO.out) (by rw [List.length_take]; show 0 + _ ≤ _; have := HJN.out; have := HN.out; have := HNL.out; omega) HBW.out ?_
                  intro va5 w6_ ho hg
                  have hx : w5_.Extends w6_ := ext_own (Gr.ext_refl _) hg (fun x hx => nomatch hx)
                  have A0 : OwnI w6_ B va5 (out2.take j) := ho
                  clear ho hg
                  simp only [Act.put, List.setIfInBounds_toArray, List.set_cons_zero, List.set_cons_succ]
                  refine hK.out _ _ ((Gr.below_of hx).mono HBW.out) ?_
                  clear hK K
                  have HX := Lib.hid (Gr.ext_trans HX.out hx)
                  have HO := Lib.hid (HO.out.ext hx)
                  have HBW := Lib.hid (Nat.le_trans HBW.out hx.size)
                  have O := Lib.hid ((hx.block _ (Array.getElem?_eq_some_iff.1 O.out).1).trans O.out)
                  have A := Lib.hid A0
                  clear A0
                  clear hx
                  refine GrL.Left.one (i := 6) (by kernel_rfl) (by kernel_rfl) (GrL.Step.mk rfl (fun K hK => ?_))
                  rw [if_pos (by rfl)]
                  refine wp_app_ints (.tmp 53) (.tmp 55) rfl B va5 (out2.take j) rfl A.out _ 1 [x] rfl rfl (one_src O.out) (by rw [List.length_take]; show _ + 1 ≤ _; have := HJN.out; have := HN.out; have := HNL.out; omega) HBW.out ?_
                  intro va6 w7_ ho hg
                  have hx : Below B w6_ w7_ := (Below.refl B _).grown hg HBW.out (fun k hk => (A.out.lt k hk).1)
                  have A60 : OwnI w7_ B va6 (out2.take j ++ [x]) := ho
                  clear ho hg
                  simp only [Act.put, List.setIfInBounds_toArray, List.set_cons_zero, List.set_cons_succ]
                  refine hK.out _ _ (hx) ?_
                  clear hK K
                  have HX := Lib.hid (Gr.ext_of ((Gr.below_of HX.out).trans (hx.mono HWB.out)))
                  have HO := Lib.hid (HO.out.below HOB.out hx)
                  have HBW := Lib.hid (Nat.le_trans HBW.out hx.size)
                  clear O
                  clear A
                  have A6 := Lib.hid A60
                  clear A60
                  clear hx
                  refine GrL.Left.one (i := 10) (by kernel_rfl) (by kernel_rfl) (GrL.Step.mk rfl (fun K hK => ?_))
                  rw [if_pos (by rfl)]
                  refine wp_app_ints (.tmp 56) (.tmp 59) rfl B va6 (out2.take j ++ [x]) rfl A6.out _ (N - j) (out2.drop j) rfl (by rw [List.length_drop, HN.out]) (HS2.out _ HO.out) (by rw [List.length_append, List.length_take, List.length_drop]; show _ + 1 + _ ≤ _; have := HJN.out; have := HN.out; have := HNL.out; omega) HBW.out ?_
                  intro va7 w8_ ho hg
                  have hx : Below B w7_ w8_ := (Below.refl B _).grown hg HBW.out (fun k hk => (A6.out.lt k hk).1)
                  have A70 : OwnI w8_ B va7 (out2.take j ++ [x] ++ out2.drop j) := ho
                  clear ho hg
                  simp only [Act.put, List.setIfInBounds_toArray, List.set_cons_zero, List.set_cons_succ]
                  refine hK.out _ _ (hx) ?_
                  clear hK K
                  have HX := Lib.hid (Gr.ext_of ((Gr.below_of HX.out).trans (hx.mono HWB.out)))
                  have HO := Lib.hid (HO.out.below HOB.out hx)
                  have HBW := Lib.hid (Nat.le_trans HBW.out hx.size)
                  clear A6
                  have A7 := Lib.hid A70
                  clear A70
                  clear hx
                  refine GrL.Left.done (by kernel_rfl) ?_
                  simp only [List.drop_succ_cons, List.drop_zero]
                  have HP : Hid (Rall ltI w w8_ va7 (out2.take j ++ [x] ++ out2.drop j) (PL b i (k + 1))) := HRA.out.insert ltI_ord (by rw [HN.out]; exact HJN.out) (by rw [HN.out]; exact HB.out) HJ0.out HST.out HX.out A7.out HWB.out
                  go_wp2
                  go_roundw
                  case rel => exact ⟨k + 1, by omega, by go_num, _, HP⟩
                  case measure => simp [intOf]; omega
        · obtain rfl : k = n := by omega
          have HP := Lib.hid (HFIN1.out wr _ out2 HRA.out)
          go_wp2
          go_roundw
          case rel => exact ⟨i + 1, by omega, by go_num, out2, HP⟩
          case measure => simp [intOf]; omega
    · obtain rfl : i = 161 := by omega
      have HP := Lib.hid (HEND.out _ wr out HS.out)
      go_wp2
      exact HP.out
end Go.Proofs.Ytffcjnabhblbaaa
