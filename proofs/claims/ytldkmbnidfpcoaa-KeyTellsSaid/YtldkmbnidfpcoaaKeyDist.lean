/- How far two keys are from each other, in both programs. -/
import Derived.Test.YtldkmbnidfpcoaaKeyAt
import Derived.WalkLawsBesides
import Derived.Outline
import Derived.BigRegion
import Derived.Laws.BitsAllLaws
import Derived.Deep.DeepCutAuto
namespace Go.Proofs.Ytldkmbnidfpcoaa
set_option maxRecDepth 20000
open Go.RowKit
set_option linter.unusedVariables false
/-- What stands where a call on two keys has boxed both, and laid two variables. -/
structure Four (w w1 : World) (s : Nat) (a b : List Nat) : Prop where
  below : Below w.heap.size w w1
  at_ : w.heap.size = s
  a : KAt w1 s a
  b : KAt w1 (s + 1) b
  r : KAt w1 (s + 1 + 1) KY.zero
  v : KAt w1 (s + 1 + 1 + 1) KY.zero
theorem Four.made (w : World) {a b : List Nat} (ha : KY.Ok a) (hb : KY.Ok b) :
    Four w ((((w.alloc (.cells (KC a) 24)).alloc (.cells (KC b) 24)).alloc (.cells Z20 24)).alloc (.cells Z20 24)) w.heap.size a b := by
  have h2 := KAt.new (w.alloc (.cells (KC a) 24)) hb.1
  have h3 := KAt.zeros ((w.alloc (.cells (KC a) 24)).alloc (.cells (KC b) 24))
  have h4 := KAt.zeros (((w.alloc (.cells (KC a) 24)).alloc (.cells (KC b) 24)).alloc (.cells Z20 24))
  have e : ∀ (w : World) (o : Obj), (w.alloc o).heap.size = w.heap.size + 1 := fun w o => by simp
  rw [e] at h2
  rw [e, e] at h3
  rw [e, e, e] at h4
  exact ⟨((((Below.refl _ _).alloc (Nat.le_refl _) _).alloc (by simp) _).alloc (by simp; omega) _).alloc (by simp; omega) _, rfl, (((KAt.new w ha.1).alloc _).alloc _).alloc _, (h2.alloc _).alloc _, h3.alloc _, h4⟩
set_option maxHeartbeats 1000000 in
theorem kdist_any {a b : List Nat} (ha : KY.Ok a) (hb : KY.Ok b) (w : World) :
    Calls Try.prog 9 #[KV a, KV b] w fun e w' => e = .returned (KV (KY.dist a b)) ∧ w.Extends w' := by
  obtain ⟨d, hd⟩ : ∃ d, d = KY.dist a b := ⟨_, rfl⟩
  have hdl : d.length = 20 := by rw [hd]; exact KY.dist_len ha.1 hb.1
  have HG := Lib.hid fun i => KY.dist_get ha.1 hb.1 i
  rw [← hd] at HG ⊢
  have HDL := Lib.hid hdl
  clear hd hdl
  go_enter Try.func9, Try.ntmps9
  go_wp2_with fail
  have HF := Lib.hid (Four.made w ha hb)
  generalize hw1 : World.alloc _ _ = w1 at *
  clear hw1
  obtain ⟨s, hs⟩ : ∃ s, s = w.heap.size := ⟨_, rfl⟩
  rw [← hs] at HF ⊢
  clear hs
  go_loopw [7] (fun i wr => ∃ k : Nat, k ≤ 20 ∧ i = .int .i64 k ∧ w1.grownBy wr (some (s + 1 + 1 + 1)) ∧ wr.rowIs (s + 1 + 1 + 1) 24 20 (KTo d k)) (fun i _ => (20 - intOf i).toNat)
  case atStart => exact ⟨0, by omega, rfl, grown_refl _ _, KTo.start _ HF.out.v⟩
  case round =>
    obtain ⟨k, hk, rfl, hg, hr⟩ := hrel
    by_cases h1 : k < 20
    · have hra := HF.out.a.of_block (hg.block s (by have := HF.out.a.lt; omega) (by simp; omega))
      have hrb := HF.out.b.of_block (hg.block (s + 1) (by have := HF.out.b.lt; omega) (by simp))
      have hc1 := hra.cell h1
      have hc2 := hrb.cell h1
      have hc3 := hr.cell h1
      have hf3 := hr.frozen k
      have hx := ha.lt k
      have hy := hb.lt k
      have HN := Lib.hid (KTo.next hr (i := k) rfl)
      have HGR := Lib.hid (grown_setCell hg k (.int .u8 (d.getD k 0 : Nat)))
      have HV := Lib.hid (u8_xor_nat _ _ hx hy)
      rw [HG.out k] at HN HGR
      clear hg hr hra hrb
      generalize a.getD k 0 = x at *
      generalize b.getD k 0 = y at *
      generalize KTo d k k = old at *
      go_wp2_with fail
      go_region
      rw [HV.out]
      have HR := Lib.hid HN.out.drew
      have HW := Lib.hid (grown_drew HGR.out)
      clear HN HGR
      go_wp2
      go_roundw
      case rel => exact ⟨k + 1, by omega, by go_num, HW.out, HR.out⟩
      case measure => simp [intOf]; omega
    · obtain rfl : k = 20 := by omega
      have hk1 := KAt.block (KTo.done hr) HDL.out
      have hro := HF.out.r.of_block (hg.block (s + 1 + 1) (by have := HF.out.v.lt; omega) (by simp))
      obtain ⟨old, hk4, hk5⟩ := key_block hro
      have hi := key_info HDL.out
      have hsame : old.size = (KC d).size := by rw [KC_size, HDL.out, hk5]
      have hb := HF.out.below.grown hg (by have := HF.out.below.size; omega) (fun q hq => by have := HF.out.at_; cases hq; omega)
      have HFIN := Lib.hid (key_left (r := s + 1 + 1) (k := d) (by have := HF.out.at_; omega) hb ⟨old, hk4, hk5⟩)
      clear hg hr hro hb
      go_wp2_with (first | (refine wpList_load_row rfl 24 (.tmp 5) rfl (s + 1 + 1 + 1) rfl 24 (KC d) (0, 0) _ hk1 Try.underlying24 rfl hi ?_) | (refine wpList_store_row rfl 24 (.tmp 4) (.tmp 20) rfl (s + 1 + 1) (KC d) rfl rfl 24 old hk4 hi hsame KC_one ?_))
      refine bodyPost_ret (v := KV d) (results_cell_row rfl _ _ (s + 1 + 1) 24 (KC d) (0, 0) _ rfl HFIN.out.2 Try.underlying24 rfl hi) rfl ⟨rfl, Gr.ext_of HFIN.out.1⟩
set_option maxHeartbeats 1000000 in
theorem rkdist_any {a b : List Nat} (ha : KY.Ok a) (hb : KY.Ok b) (w : World) :
    Calls Try.prog 10 #[KV a, KV b] w fun e w' => e = .returned (KV (KY.dist a b)) ∧ w.Extends w' := by
  obtain ⟨d, hd⟩ : ∃ d, d = KY.dist a b := ⟨_, rfl⟩
  have hdl : d.length = 20 := by rw [hd]; exact KY.dist_len ha.1 hb.1
  have HG := Lib.hid fun i => KY.dist_get ha.1 hb.1 i
  rw [← hd] at HG ⊢
  have HDL := Lib.hid hdl
  clear hd hdl
  go_enter Try.func10, Try.ntmps10
  go_wp2_with fail
  have HF := Lib.hid (Four.made w ha hb)
  generalize hw1 : World.alloc _ _ = w1 at *
  clear hw1
  obtain ⟨s, hs⟩ : ∃ s, s = w.heap.size := ⟨_, rfl⟩
  rw [← hs] at HF ⊢
  clear hs
  go_loopw [6] (fun i wr => ∃ k : Nat, k ≤ 20 ∧ i = .int .i64 k ∧ w1.grownBy wr (some (s + 1 + 1 + 1)) ∧ wr.rowIs (s + 1 + 1 + 1) 24 20 (KTo d k)) (fun i _ => (20 - intOf i).toNat)
  case atStart => exact ⟨0, by omega, rfl, grown_refl _ _, KTo.start _ HF.out.v⟩
  case round =>
    obtain ⟨k, hk, rfl, hg, hr⟩ := hrel
    by_cases h1 : k < 20
    · have hra := HF.out.a.of_block (hg.block s (by have := HF.out.a.lt; omega) (by simp; omega))
      have hrb := HF.out.b.of_block (hg.block (s + 1) (by have := HF.out.b.lt; omega) (by simp))
      have hc1 := hra.cell h1
      have hc2 := hrb.cell h1
      have hc3 := hr.cell h1
      have hf3 := hr.frozen k
      have hx := ha.lt k
      have hy := hb.lt k
      have HN := Lib.hid (KTo.next hr (i := k) rfl)
      have HGR := Lib.hid (grown_setCell hg k (.int .u8 (d.getD k 0 : Nat)))
      have HV := Lib.hid (u8_xor_nat _ _ hx hy)
      rw [HG.out k] at HN HGR
      clear hg hr hra hrb
      generalize a.getD k 0 = x at *
      generalize b.getD k 0 = y at *
      generalize KTo d k k = old at *
      go_wp2_with fail
      go_region
      rw [HV.out]
      have HR := Lib.hid HN.out.drew
      have HW := Lib.hid (grown_drew HGR.out)
      clear HN HGR
      go_wp2
      go_roundw
      case rel => exact ⟨k + 1, by omega, by go_num, HW.out, HR.out⟩
      case measure => simp [intOf]; omega
    · obtain rfl : k = 20 := by omega
      have hk1 := KAt.block (KTo.done hr) HDL.out
      have hro := HF.out.r.of_block (hg.block (s + 1 + 1) (by have := HF.out.v.lt; omega) (by simp))
      obtain ⟨old, hk4, hk5⟩ := key_block hro
      have hi := key_info HDL.out
      have hsame : old.size = (KC d).size := by rw [KC_size, HDL.out, hk5]
      have hb := HF.out.below.grown hg (by have := HF.out.below.size; omega) (fun q hq => by have := HF.out.at_; cases hq; omega)
      have HFIN := Lib.hid (key_left (r := s + 1 + 1) (k := d) (by have := HF.out.at_; omega) hb ⟨old, hk4, hk5⟩)
      clear hg hr hro hb
      go_wp2_with (first | (refine wpList_load_row rfl 24 (.tmp 5) rfl (s + 1 + 1 + 1) rfl 24 (KC d) (0, 0) _ hk1 Try.underlying24 rfl hi ?_) | (refine wpList_store_row rfl 24 (.tmp 4) (.tmp 20) rfl (s + 1 + 1) (KC d) rfl rfl 24 old hk4 hi hsame KC_one ?_))
      refine bodyPost_ret (v := KV d) (results_cell_row rfl _ _ (s + 1 + 1) 24 (KC d) (0, 0) _ rfl HFIN.out.2 Try.underlying24 rfl hi) rfl ⟨rfl, Gr.ext_of HFIN.out.1⟩
end Go.Proofs.Ytldkmbnidfpcoaa
