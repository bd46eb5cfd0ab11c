/- The reference's Row, and SameInts. -/
import Derived.Test.YtgdekeeleighcaaDoorTupRefParts
namespace Go.Proofs.YtgdekeeleighcaaDoor
open Go.RowKit Go.Deep
set_option linter.unusedVariables false
theorem refRow_none (k j esi : Int) (w : World) (hf : ¬ FitsK k j esi) :
    Calls Tryd.prog 14 #[.int .i64 k, .int .i64 j, .int .i64 esi] w fun e w' => e = .returned (.slice none 0 0) ∧ w = w' := by
  have HN := Lib.hid (fun w => refParts_none k j esi w hf)
  clear hf
  go_enter Tryd.func14, Tryd.ntmps14
  go_wp2_with fail
  refine (HN.out w).mono ?_
  rintro e w' ⟨rfl, rfl⟩
  go_wp2
  go_ret
  exact ⟨rfl, rfl⟩
set_option maxRecDepth 100000 in
theorem refRow_some (k j esi : Nat) (w : World) (h1 : 1 ≤ k) (h2 : k ≤ 40) (hj : j ≤ 255) (he : esi < 16777216) :
    Calls Tryd.prog 14 #[.int .i64 k, .int .i64 j, .int .i64 esi] w (MadeRow w (TM.row k j esi)) := by
  have HS := Lib.hid (fun w => refParts_some k j esi w h1 h2 hj he)
  have hl2 := PM.l_le k h2
  have HL := Lib.hid (fun w => refL_any k w (by omega))
  have HPL := Lib.hid (parts_at k j esi)
  have hpl := parts_len k j esi
  change Hid (∀ (w : World), Calls _ _ _ w (MadeInts w (TM.parts k j esi))) at HS
  have HR : Hid (TM.row k j esi = TM.marks (PM.l k) (TM.parts k j esi)) := rfl
  have HLM : Hid (∀ l, (TM.marks (PM.l k) l).length = PM.l k) := fun l => TM.marks_length _ l
  have HMK := Lib.hid (TM.marks_take (PM.l k) (TM.parts k j esi))
  clear he
  generalize TM.row k j esi = row at *
  generalize TM.parts k j esi = l at *
  generalize PM.l k = L at *
  obtain ⟨n, hn⟩ : ∃ n, n = l.length := ⟨_, rfl⟩
  rw [← hn] at hpl HMK HPL
  have HN := Lib.hid hn
  clear hn
  obtain ⟨hn1, hn2⟩ := hpl
  have hn0 : ((n : Int) == 0) = false := by rw [beq_eq_false_iff_ne]; omega
  have hmk := fun w => mkBytes L (by omega) w
  go_enter Tryd.func14, Tryd.ntmps14
  go_wp2_with fail
  refine (HS.out w).mono ?_
  rintro e w2 ⟨v, rfl, hx2, hown⟩
  have hints := owns_ints hown
  obtain ⟨a, cap, rfl, hcap, hcap2⟩ := hints.slice
  rw [nats_length, ← HN.out] at hints ⊢
  have HIN := Lib.hid hints
  have HX2 := Lib.hid hx2
  clear hx2 hown hints hcap hcap2
  go_wp2_with fail
  refine (HL.out w2).mono ?_
  rintro e w' ⟨rfl, rfl⟩
  go_wp2_with fail
  clear hmk hn0
  generalize hw4 : World.alloc w2 _ = w4
  have hx4 : w2.Extends w4 := by subst hw4; exact ext_alloc _ _
  have hown : Own w4 w2.heap.size 5 (TM.marks L (l.take 0)) := by subst hw4; exact Own.made w2 L 5 (by unfold maxLen; omega)
  generalize hgg : w2.heap.size = g at hown ⊢
  have HG : Hid (w2.heap.size ≤ g) := by show _ ≤ _; omega
  clear hw4 hgg
  have HX4 := Lib.hid hx4
  have HO4 := Lib.hid hown
  have HTK : Hid (l.take n = l) := by show _ = _; rw [HN.out]; exact List.take_length
  clear hx4 hown
  have HINC := Lib.hid HIN.out.cell.2
  clear HIN
  go_loopw [9] (fun i wr => ∃ k : Nat, k ≤ n ∧ i = .int .i64 k ∧ Hid (w2.Extends wr) ∧ Hid (Own wr g 5 (TM.marks L (l.take k)))) (fun i _ => (n - intOf i).toNat)
  case atStart => exact ⟨0, by omega, rfl, HX4, HO4⟩
  case round =>
    obtain ⟨i, hi, rfl, HX, HO⟩ := hrel
    by_cases h5 : i < n
    · obtain ⟨bp, off, rfl, hbp, hc⟩ := HINC.out (by omega)
      have hc1 := HX.out.cell_of (hc i h5)
      rw [nats_at] at hc1
      have HMK1 := Lib.hid (HMK.out i h5)
      have hpL := HPL.out i h5
      clear hc hbp
      generalize l.getD i 0 = p at *
      have hcg : wr.cell? ⟨g, p, none⟩ = some (.int .u8 ((TM.marks L (l.take i)).getD p 0 : Nat)) := HO.out.1.cell (by rw [HLM.out]; exact hpL)
      have hfg : wr.frozen? ⟨g, p, none⟩ = false := HO.out.1.frozen p
      have HX5 := Lib.hid (HX.out.setCell ⟨g, p, none⟩ (.int .u8 1) HG.out)
      have HO5 : Hid (Own (wr.setCell ⟨g, p, none⟩ (.int .u8 1)) g 5 (TM.marks L (l.take (i + 1)))) := by
        rw [HMK1.out]; exact HO.out.set p 1 (by rw [HLM.out]; exact hpL) (by decide)
      generalize (TM.marks L (l.take i)).getD p 0 = z at *
      go_wp2
      go_roundw
      case rel => exact ⟨i + 1, by omega, by go_num, HX5, HO5⟩
      case measure => simp [intOf]; omega
    · obtain rfl : i = n := by omega
      have HP : Hid (MadeRow w row (.returned (.slice (some ⟨g, 0, none⟩) L L)) wr) := by
        have h := HO.out
        rw [HTK.out] at h
        rw [HR.out]
        exact ⟨g, by rw [HLM.out], Gr.ext_trans HX2.out HX.out, Nat.le_trans HX2.out.size HG.out, h⟩
      go_wp2
      go_ret
      exact HP.out
set_option maxHeartbeats 1000000 in
theorem sameInts_any (u v : Value) (l : List Int) (w : World) (hu : Ints w u l) (hv : Ints w v l) :
    Calls Tryd.prog 10 #[u, v] w fun e w' => e = .returned (.bool true) ∧ w.Extends w' := by
  have hm := hu.len
  obtain ⟨a, cap, rfl, _⟩ := hu.slice
  obtain ⟨a', cap', rfl, _⟩ := hv.slice
  have HU := Lib.hid hu.cell.2
  have HV := Lib.hid hv.cell.2
  clear hu hv
  generalize l.length = n at *
  unfold maxLen at hm
  go_enter Tryd.func10, Tryd.ntmps10
  go_wp2
  go_loopw [5] (fun i wr => ∃ k : Nat, k ≤ n ∧ i = .int .i64 k ∧ Hid (w.Extends wr)) (fun i _ => (n - intOf i).toNat)
  case atStart => exact ⟨0, by omega, rfl, Lib.hid (Gr.ext_refl _)⟩
  case round =>
    obtain ⟨k, hk, rfl, HX⟩ := hrel
    by_cases h1 : k < n
    · obtain ⟨b1, o1, rfl, hb1, hc1⟩ := HU.out (by omega)
      obtain ⟨b2, o2, rfl, hb2, hc2⟩ := HV.out (by omega)
      have HL1 : Hid (∀ w', wr.Extends w' → w'.cell? ⟨b1, o1 + k, none⟩ = some (.int .i64 (l.getD k 0))) := fun w' hw' => hw'.cell_of (HX.out.cell_of (hc1 k h1))
      have HL2 : Hid (∀ w', wr.Extends w' → w'.cell? ⟨b2, o2 + k, none⟩ = some (.int .i64 (l.getD k 0))) := fun w' hw' => hw'.cell_of (HX.out.cell_of (hc2 k h1))
      clear hc1 hc2
      generalize l.getD k 0 = x at *
      go_wp2_with fail
      refine Gr.region 8 [(false,0),(false,1),(false,2),(false,3),(false,4),(false,5),(false,6),(false,7)] (by kernel_rfl) (by kernel_rfl) (fun d _ _ _ _ h => by cases d <;> exact h) ?_
      simp only [Gr.pick, List.getElem?_cons_zero, List.getElem?_cons_succ, List.drop_succ_cons, List.drop_zero]
      iterate 8
        refine Gr.walk_t ?_ (Or.inl ⟨by rfl, ?_⟩) ?_
        rotate_left
        · intro w' hw'
          have hc1 := HL1.out w' (Gr.of_drew hw')
          have hc2 := HL2.out w' (Gr.of_drew hw')
          clear hw'
          go_simp
          try with_reducible rfl
        simp only [Act.put, List.setIfInBounds_toArray, List.set_cons_zero, List.set_cons_succ]
      refine Gr.walk_nil ?_
      go_wp2
      go_roundw
      case rel => exact ⟨k + 1, by omega, by go_num, Lib.hid (Gr.ext_drew HX.out)⟩
      case measure => simp [intOf]; omega
    · obtain rfl : k = n := by omega
      go_wp2
      go_ret
      exact ⟨rfl, HX.out⟩
end Go.Proofs.YtgdekeeleighcaaDoor
