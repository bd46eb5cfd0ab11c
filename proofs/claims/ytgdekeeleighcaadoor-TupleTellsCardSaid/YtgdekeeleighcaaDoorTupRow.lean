/- tuple.Row. -/
import Derived.Test.YtgdekeeleighcaaDoorTupParts
import Derived.Test.YtgdekeeleighcaaDoorMarks
namespace Go.Proofs.YtgdekeeleighcaaDoor
open Go.RowKit Go.Deep
set_option linter.unusedVariables false
/-- The numbers of a symbol's parts, and its row. -/
def TM.parts (k j esi : Nat) : List Nat := TM.partsW (PM.w k) (TM.num j esi)
def TM.row (k j esi : Nat) : List Nat := TM.marks (PM.l k) (TM.parts k j esi)
theorem getD_mem_of (l : List Nat) (i : Nat) (h : i < l.length) : l.getD i 0 ∈ l := by simp [h]
theorem parts_at (k j esi i : Nat) (h : i < (TM.parts k j esi).length) : (TM.parts k j esi).getD i 0 < PM.l k := by
  have h1 := TM.partsW_lt (PM.w k) (TM.num j esi)
  unfold TM.parts at h ⊢
  unfold PM.l
  generalize TM.partsW (PM.w k) (TM.num j esi) = l at *
  exact h1 _ (getD_mem_of l i h)
theorem parts_len (k j esi : Nat) : 1 ≤ (TM.parts k j esi).length ∧ (TM.parts k j esi).length ≤ 9 := by
  unfold TM.parts; rw [TM.partsW_length]; have := TM.deg_le (PM.w k) (TM.num j esi); omega
theorem row_none (k s h j esi : Int) (w : World) (hf : ¬ Fits k s h j esi) :
    Calls Tryd.prog 13 #[PV k s h, .int .i64 j, .int .i64 esi] w fun e w' => e = .returned (.slice none 0 0) ∧ w.Extends w' := by
  have HN := Lib.hid (fun w => parts_none k s h j esi w hf)
  clear hf
  go_enter Tryd.func13, Tryd.ntmps13
  go_wp2_with fail
  generalize hw1 : World.alloc w _ = w1
  have hx1 : w.Extends w1 := by subst hw1; exact prm_ext_alloc _ _
  have hp : PAt w1 w.heap.size k s h := by subst hw1; exact PAt.new w 24 k s h
  generalize w.heap.size = b at hp ⊢
  clear hw1
  have HX1 := Lib.hid hx1
  have HP1 := Lib.hid hp
  clear hx1 hp
  obtain ⟨p0, p1, p2⟩ := HP1.out
  refine (HN.out w1).mono ?_
  rintro e w2 ⟨rfl, hx2⟩
  have HX2 := Lib.hid (Gr.ext_trans HX1.out hx2)
  clear hx2 HX1 HP1
  go_wp2
  go_ret
  exact ⟨rfl, HX2.out⟩
set_option maxRecDepth 100000 in
theorem row_some (k j esi : Nat) (w : World) (h1 : 1 ≤ k) (h2 : k ≤ 40) (hj : j ≤ 255) (he : esi < 16777216) (hT : Tab w) :
    Calls Tryd.prog 13 #[PV k (PM.s k) 2, .int .i64 j, .int .i64 esi] w (MadeRow w (TM.row k j esi)) := by
  have HS := Lib.hid (fun w hT => parts_some k j esi w h1 h2 hj he hT)
  have hs := PM.s_le k h2
  have hl : (PM.l k : Int) = k + PM.s k + 2 := by unfold PM.l PM.w; omega
  have hl2 := PM.l_le k h2
  have hL := prmL_any k (PM.s k) 2
  rw [← hl] at hL
  have HL := Lib.hid (fun w => hL w (by omega) (by omega))
  have HPL := Lib.hid (parts_at k j esi)
  have hpl := parts_len k j esi
  change Hid (∀ (w : World), Tab w → Calls _ _ _ w (MadeInts w (TM.parts k j esi))) at HS
  have HR : Hid (TM.row k j esi = TM.marks (PM.l k) (TM.parts k j esi)) := rfl
  have HLM : Hid (∀ l, (TM.marks (PM.l k) l).length = PM.l k) := fun l => TM.marks_length _ l
  have HMK := Lib.hid (TM.marks_take (PM.l k) (TM.parts k j esi))
  have HT := Lib.hid hT
  clear hT hl hL he
  generalize TM.row k j esi = row at *
  generalize TM.parts k j esi = l at *
  generalize PM.l k = L at *
  generalize PM.s k = m at *
  obtain ⟨n, hn⟩ : ∃ n, n = l.length := ⟨_, rfl⟩
  rw [← hn] at hpl HMK HPL
  have HN := Lib.hid hn
  clear hn
  obtain ⟨hn1, hn2⟩ := hpl
  have hn0 : ((n : Int) == 0) = false := by rw [beq_eq_false_iff_ne]; omega
  have hmk := fun w => mkRow L (by omega) w
  go_enter Tryd.func13, Tryd.ntmps13
  go_wp2_with fail
  generalize hw1 : World.alloc w _ = w1
  have hx1 : w.Extends w1 := by subst hw1; exact prm_ext_alloc _ _
  have hp : PAt w1 w.heap.size k m 2 := by subst hw1; exact PAt.new w 24 k m 2
  generalize w.heap.size = b at hp ⊢
  clear hw1
  have HX1 := Lib.hid hx1
  have HP1 := Lib.hid hp
  clear hx1 hp
  obtain ⟨p0, p1, p2⟩ := HP1.out
  refine (HS.out w1 (HT.out.ext HX1.out)).mono ?_
  rintro e w2 ⟨v, rfl, hx2, hown⟩
  have hints := owns_ints hown
  obtain ⟨a, cap, rfl, hcap, hcap2⟩ := hints.slice
  rw [nats_length, ← HN.out] at hints ⊢
  have HIN := Lib.hid hints
  have HX2 := Lib.hid (Gr.ext_trans HX1.out hx2)
  have HP2 := Lib.hid (HP1.out.ext hx2)
  clear hx2 HX1 HP1 p0 p1 p2 hown hints hcap hcap2
  obtain ⟨p0, p1, p2⟩ := HP2.out
  go_wp2_with fail
  refine (HL.out w2).mono ?_
  rintro e w3 ⟨rfl, hx3⟩
  have HX3 := Lib.hid (Gr.ext_trans HX2.out hx3)
  have HIN3 := Lib.hid (HIN.out.ext hx3)
  clear hx3 HX2 HP2 p0 p1 p2 HIN
  go_wp2_with fail
  clear hmk hn0
  generalize hw4 : World.alloc w3 _ = w4
  have hx4 : w3.Extends w4 := by subst hw4; exact ext_alloc _ _
  have hown : Own w4 w3.heap.size 5 (TM.marks L (l.take 0)) := by subst hw4; exact Own.made w3 L 5 (by unfold maxLen; omega)
  have hg : w3.heap.size ≤ w3.heap.size := Nat.le_refl _
  generalize hgg : w3.heap.size = g at hown ⊢
  rw [hgg] at hg
  have HG : Hid (w3.heap.size ≤ g) := by show _ ≤ _; omega
  clear hw4 hg hgg
  have HX4 := Lib.hid hx4
  have HO4 := Lib.hid hown
  have HTK : Hid (l.take n = l) := by show _ = _; rw [HN.out]; exact List.take_length
  clear hx4 hown
  have HIN := Lib.hid HIN3.out.cell.2
  go_loopw [23] (fun i wr => ∃ k : Nat, k ≤ n ∧ i = .int .i64 k ∧ Hid (w3.Extends wr) ∧ Hid (Own wr g 5 (TM.marks L (l.take k)))) (fun i _ => (n - intOf i).toNat)
  case atStart => exact ⟨0, by omega, rfl, HX4, HO4⟩
  case round =>
    obtain ⟨i, hi, rfl, HX, HO⟩ := hrel
    by_cases h5 : i < n
    · obtain ⟨bp, off, rfl, hbp, hc⟩ := HIN.out (by omega)
      have hc1 := HX.out.cell_of (hc i h5)
      rw [nats_at] at hc1
      have HMK1 := Lib.hid (HMK.out i h5)
      have hpL := HPL.out i h5
      clear hc hbp
      generalize l.getD i 0 = p at *
      have hcg : wr.cell? ⟨g, p, none⟩ = some (.int .u8 ((TM.marks L (l.take i)).getD p 0 : Nat)) := HO.out.1.cell (by rw [HLM.out]; exact hpL)
      have hfg : wr.frozen? ⟨g, p, none⟩ = false := HO.out.1.frozen p
      have HX5 := Lib.hid (HX.out.setCell ⟨g, p, none⟩ (.int .u8 1) HG.out)
      have HO5 : Hid (Own (wr.setCell ⟨g, p, none⟩ (.int .u8 1)) g 5 (TM.marks L (l.take (i + 1)))) := by
        rw [HMK1.out]; exact HO.out.set p 1 (by rw [HLM.out]; exact hpL) (by decide)
      generalize (TM.marks L (l.take i)).getD p 0 = z at *
      go_wp2
      go_roundw
      case rel => exact ⟨i + 1, by omega, by go_num, HX5, HO5⟩
      case measure => simp [intOf]; omega
    · obtain rfl : i = n := by omega
      have HP : Hid (MadeRow w row (.returned (.slice (some ⟨g, 0, none⟩) L L)) wr) := by
        have h := HO.out
        rw [HTK.out] at h
        rw [HR.out]
        exact ⟨g, by rw [HLM.out], Gr.ext_trans HX3.out HX.out, Nat.le_trans HX3.out.size HG.out, h⟩
      go_wp2
      go_ret
      exact HP.out
end Go.Proofs.YtgdekeeleighcaaDoor
