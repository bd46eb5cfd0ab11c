/- Which key numbers have, in both programs. -/
import Derived.Test.YtldkmbnidfpcoaaKeyAt
import Derived.Test.YtldkmbnidfpcoaaInts
import Derived.Test.YtldkmbnidfpcoaaRndRandP
import Derived.WalkLawsBesides
import Derived.Outline
import Derived.BigRegion
import Derived.Deep.DeepCutAuto
namespace Go.Proofs.Ytldkmbnidfpcoaa
set_option maxRecDepth 20000
open Go.RowKit
set_option linter.unusedVariables false
theorem key_step (y : Nat) (x : Int) : ((y : Int) + x) % 4294967296 = ((y + (x % 4294967296).toNat) % 4294967296 : Nat) := by omega
theorem take_snoc (xs : List Int) (k : Nat) (hk : k < xs.length) : xs.take (k + 1) = xs.take k ++ [xs.getD k 0] := by
  rw [List.take_add_one]
  congr 1
  simp [List.getD, List.getElem?_eq_getElem hk]
theorem stirred_next (xs : List Int) (k : Nat) (hk : k < xs.length) : KY.stirred (xs.take (k + 1)) = RM.stir ((KY.stirred (xs.take k) + (xs.getD k 0 % 4294967296).toNat) % 4294967296) := by
  rw [take_snoc xs k hk, KY.stirred_snoc]; rfl
set_option maxHeartbeats 1000000 in
theorem kof_any {v : Value} {xs : List Int} (w : World) (h : Ints w v xs) :
    Calls Try.prog 7 #[v] w fun e w' => e = .returned (KV (KY.of xs)) ∧ w.Extends w' := by
  obtain ⟨a, cap, rfl, hle, hcap⟩ := h.slice
  have hL : xs.length ≤ 9223372036854775807 := Nat.le_trans h.len (by decide)
  obtain ⟨d, hd⟩ : ∃ d, d = KY.of xs := ⟨_, rfl⟩
  have HD := Lib.hid (show d = KY.keyOf (KY.stirred xs) from hd)
  have HDL := Lib.hid (show d.length = 20 by rw [hd]; exact KY.keyOf_len _)
  rw [← hd]
  clear hd
  go_enter Try.func7, Try.ntmps7
  go_wp2_with fail
  generalize hw1 : World.alloc _ _ = w1 at *
  have hx1 : w.Extends w1 := by subst hw1; exact Gr.ext_of ((Below.refl _ _).alloc (Nat.le_refl _) _)
  have hz : KAt w1 w.heap.size KY.zero := by subst hw1; exact KAt.zeros w
  have HI := Lib.hid (h.ext hx1)
  obtain ⟨s, hs⟩ : ∃ s, s = w.heap.size := ⟨_, rfl⟩
  rw [← hs] at hz ⊢
  have HX := Lib.hid hx1
  have HZ := Lib.hid hz
  have HS := Lib.hid hs
  clear hx1 hz hw1 hs
  go_loopw [10, 3] (fun i y wr => ∃ k : Nat, k ≤ xs.length ∧ i = .int .i64 k ∧ y = .int .u32 (KY.stirred (xs.take k) : Nat) ∧ w1 = wr) (fun i _ _ => (xs.length - intOf i).toNat)
  case atStart => exact ⟨0, by omega, rfl, rfl, rfl⟩
  case round =>
    obtain ⟨k, hk, rfl, rfl, rfl⟩ := hrel
    by_cases h1 : k < xs.length
    · have hc := (HI.out.cell).2
      obtain ⟨b, off, rfl, hb, hcl⟩ := hc (by omega)
      have hc1 := hcl k h1
      have hy := KY.stirred_lt (xs.take k)
      have HN := Lib.hid (stirred_next xs k h1)
      generalize KY.stirred (xs.take k) = y at *
      generalize xs.getD k 0 = x at *
      have HY := Lib.hid (key_step y x)
      clear hcl hc
      go_wp2_with fail
      rw [HY.out]
      refine (stir_any _ (Nat.mod_lt _ (by decide)) _).mono ?_
      rintro e w' ⟨rfl, rfl⟩
      rw [← HN.out]
      clear HN
      go_wp2
      go_roundw
      case rel => exact ⟨k + 1, by omega, by go_num, by first | rfl | trivial, by first | rfl | trivial⟩
      case measure => simp [intOf]; omega
    · have hkk : k = xs.length := by omega
      rw [hkk, List.take_length]
      rw [hkk] at h1
      clear hkk hk
      have HY := Lib.hid (KY.stirred_lt xs)
      generalize KY.stirred xs = y at *
      go_wp2_with fail
      have HZ2 := Lib.hid (KAt.zeros w1)
      have HR2 := Lib.hid (HZ.out.alloc (.cells Z20 24))
      have HX2 := Lib.hid (Gr.ext_trans HX.out (Gr.ext_of ((Below.refl w1.heap.size w1).alloc (Nat.le_refl _) (.cells Z20 24))))
      have hsv : s < w1.heap.size := HZ.out.lt
      generalize hw2 : World.alloc w1 _ = w2 at *
      obtain ⟨v, hv⟩ : ∃ v, v = w1.heap.size := ⟨_, rfl⟩
      rw [← hv] at HZ2 hsv ⊢
      clear hw2 hv HI h
      go_loopw [20] (fun i wr => ∃ k : Nat, k ≤ 20 ∧ i = .int .i64 k ∧ w2.grownBy wr (some v) ∧ wr.rowIs v 24 20 (KTo d k)) (fun i _ => (20 - intOf i).toNat)
      case atStart => exact ⟨0, by omega, rfl, grown_refl _ _, KTo.start _ HZ2.out⟩
      case round =>
        obtain ⟨k, hk, rfl, hg, hr⟩ := hrel
        by_cases h1 : k < 20
        · have hc3 := hr.cell h1
          have hf3 := hr.frozen k
          have HN := Lib.hid (KTo.next hr (i := k) rfl)
          have HGR := Lib.hid (grown_setCell hg k (.int .u8 (d.getD k 0 : Nat)))
          have HB := Lib.hid (show d.getD k 0 = KY.byteOf y k by rw [HD.out]; exact KY.keyOf_get y k h1)
          have hb : KY.byteOf y k < 256 := Nat.mod_lt _ (by decide)
          have HV := Lib.hid (KY.rand256 y k)
          rw [HB.out] at HN HGR
          clear hg hr HB
          generalize KY.byteOf y k = x at *
          generalize KTo d k k = old at *
          go_wp2_with fail
          refine (rand_any y k 256 HY.out (by decide) (by decide) _).mono ?_
          rintro e w' ⟨rfl, rfl⟩
          rw [HV.out]
          go_wp2
          go_roundw
          case rel => exact ⟨k + 1, by omega, by go_num, HGR.out, HN.out⟩
          case measure => simp [intOf]; omega
        · obtain rfl : k = 20 := by omega
          have hk1 := KAt.block (KTo.done hr) HDL.out
          have hro := HR2.out.of_block (hg.block s (by have := HZ2.out.lt; omega) (by simp; omega))
          obtain ⟨old, hk4, hk5⟩ := key_block hro
          have hi := key_info HDL.out
          have hsame : old.size = (KC d).size := by rw [KC_size, HDL.out, hk5]
          have hsw := HS.out
          have hb := (Gr.below_of HX2.out).grown hg HX2.out.size (fun q hq => by cases hq; omega)
          have HFIN := Lib.hid (key_left (r := s) (k := d) (by omega) hb ⟨old, hk4, hk5⟩)
          clear hg hr hro hb hsw
          go_wp2_with (first | (refine wpList_load_row rfl 24 (.tmp 6) rfl v rfl 24 (KC d) (0, 0) _ hk1 Try.underlying24 rfl hi ?_) | (refine wpList_store_row rfl 24 (.tmp 2) (.tmp 31) rfl s (KC d) rfl rfl 24 old hk4 hi hsame KC_one ?_))
          refine bodyPost_ret (v := KV d) (results_cell_row rfl _ _ s 24 (KC d) (0, 0) _ rfl HFIN.out.2 Try.underlying24 rfl hi) rfl ⟨rfl, Gr.ext_of HFIN.out.1⟩
end Go.Proofs.Ytldkmbnidfpcoaa
