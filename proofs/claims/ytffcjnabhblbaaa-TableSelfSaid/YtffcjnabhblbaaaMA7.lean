/- In one text: KeyOf, KeyLive, RndStir, RndRand, KeyRefOf, TabShelf, TabCt, GrowU. -/
import Derived.WalkLawsBesides
import Derived.Outline
import Derived.BigRegion
import Derived.Deep.DeepCutAuto
import Derived.Laws.MathBits
import Derived.Laws.Bits64
import Derived.Test.YtffcjnabhblbaaaMA1
import Derived.Test.YtffcjnabhblbaaaMA2
import Derived.Test.YtffcjnabhblbaaaMA6
namespace Go.Proofs.Ytffcjnabhblbaaa
set_option maxRecDepth 20000
open Go.RowKit
set_option linter.unusedVariables false
theorem key_step (y : Nat) (x : Int) : ((y : Int) + x) % 4294967296 = ((y + (x % 4294967296).toNat) % 4294967296 : Nat) := by omega
theorem take_snoc (xs : List Int) (k : Nat) (hk : k < xs.length) : xs.take (k + 1) = xs.take k ++ [xs.getD k 0] := by
  rw [List.take_add_one]
  congr 1
  simp [List.getD, List.getElem?_eq_getElem hk]
theorem stirred_next (xs : List Int) (k : Nat) (hk : k < xs.length) : KY.stirred (xs.take (k + 1)) = RM.stir ((KY.stirred (xs.take k) + (xs.getD k 0 % 4294967296).toNat) % 4294967296) := by
  rw [take_snoc xs k hk, KY.stirred_snoc]; rfl
set_option maxHeartbeats 1000000 in
theorem kof_any {v : Value} {xs : List Int} (w : World) (h : Ints w v xs) :
    Calls Try.prog 39 #[v] w fun e w' => e = .returned (KV (KY.of xs)) ∧ w.Extends w' := by
  obtain ⟨a, cap, rfl, hle, hcap⟩ := h.slice
  have hL : xs.length ≤ 9223372036854775807 := Nat.le_trans h.len (by decide)
  obtain ⟨d, hd⟩ : ∃ d, d = KY.of xs := ⟨_, rfl⟩
  have HD := Lib.hid (show d = KY.keyOf (KY.stirred xs) from hd)
  have HDL := Lib.hid (show d.length = 20 by rw [hd]; exact KY.keyOf_len _)
  rw [← hd]
  clear hd
  go_enter Try.func39, Try.ntmps39
  go_wp2_with fail
  generalize hw1 : World.alloc _ _ = w1 at *
  have hx1 : w.Extends w1 := by subst hw1; exact Gr.ext_of ((Below.refl _ _).alloc (Nat.le_refl _) _)
  have hz : KAt w1 w.heap.size KY.zero := by subst hw1; exact KAt.zeros w
  have HI := Lib.hid (h.ext hx1)
  obtain ⟨s, hs⟩ : ∃ s, s = w.heap.size := ⟨_, rfl⟩
  rw [← hs] at hz ⊢
  have HX := Lib.hid hx1
  have HZ := Lib.hid hz
  have HS := Lib.hid hs
  clear hx1 hz hw1 hs
  go_loopw [10, 3] (fun i y wr => ∃ k : Nat, k ≤ xs.length ∧ i = .int .i64 k ∧ y = .int .u32 (KY.stirred (xs.take k) : Nat) ∧ w1 = wr) (fun i _ _ => (xs.length - intOf i).toNat)
  case atStart => exact ⟨0, by omega, rfl, rfl, rfl⟩
  case round =>
    obtain ⟨k, hk, rfl, rfl, rfl⟩ := hrel
    by_cases h1 : k < xs.length
    · have hc := (HI.out.cell).2
      obtain ⟨b, off, rfl, hb, hcl⟩ := hc (by omega)
      have hc1 := hcl k h1
      have hy := KY.stirred_lt (xs.take k)
      have HN := Lib.hid (stirred_next xs k h1)
      generalize KY.stirred (xs.take k) = y at *
      generalize xs.getD k 0 = x at *
      have HY := Lib.hid (key_step y x)
      clear hcl hc
      go_wp2_with fail
      rw [HY.out]
      refine (stir_any _ (Nat.mod_lt _ (by decide)) _).mono ?_
      rintro e w' ⟨rfl, rfl⟩
      rw [← HN.out]
      clear HN
      go_wp2
      go_roundw
      case rel => exact ⟨k + 1, by omega, by go_num, by first | rfl | trivial, by first | rfl | trivial⟩
      case measure => simp [intOf]; omega
    · have hkk : k = xs.length := by omega
      rw [hkk, List.take_length]
      rw [hkk] at h1
      clear hkk hk
      have HY := Lib.hid (KY.stirred_lt xs)
      generalize KY.stirred xs = y at *
      go_wp2_with fail
      have HZ2 := Lib.hid (KAt.zeros w1)
      have HR2 := Lib.hid (HZ.out.alloc (.cells Z20 24))
      have HX2 := Lib.hid (Gr.ext_trans HX.out (Gr.ext_of ((Below.refl w1.heap.size w1).alloc (Nat.le_refl _) (.cells Z20 24))))
      have hsv : s < w1.heap.size := HZ.out.lt
      generalize hw2 : World.alloc w1 _ = w2 at *
      obtain ⟨v, hv⟩ : ∃ v, v = w1.heap.size := ⟨_, rfl⟩
      rw [← hv] at HZ2 hsv ⊢
      clear hw2 hv HI h
      go_loopw [20] (fun i wr => ∃ k : Nat, k ≤ 20 ∧ i = .int .i64 k ∧ w2.grownBy wr (some v) ∧ wr.rowIs v 24 20 (KTo d k)) (fun i _ => (20 - intOf i).toNat)
      case atStart => exact ⟨0, by omega, rfl, grown_refl _ _, KTo.start _ HZ2.out⟩
      case round =>
        obtain ⟨k, hk, rfl, hg, hr⟩ := hrel
        by_cases h1 : k < 20
        · have hc3 := hr.cell h1
          have hf3 := hr.frozen k
          have HN := Lib.hid (KTo.next hr (i := k) rfl)
          have HGR := Lib.hid (grown_setCell hg k (.int .u8 (d.getD k 0 : Nat)))
          have HB := Lib.hid (show d.getD k 0 = KY.byteOf y k by rw [HD.out]; exact KY.keyOf_get y k h1)
          have hb : KY.byteOf y k < 256 := Nat.mod_lt _ (by decide)
          have HV := Lib.hid (KY.rand256 y k)
          rw [HB.out] at HN HGR
          clear hg hr HB
          generalize KY.byteOf y k = x at *
          generalize KTo d k k = old at *
          go_wp2_with fail
          refine (rand_any y k 256 HY.out (by decide) (by decide) _).mono ?_
          rintro e w' ⟨rfl, rfl⟩
          rw [HV.out]
          go_wp2
          go_roundw
          case rel => exact ⟨k + 1, by omega, by go_num, HGR.out, HN.out⟩
          case measure => simp [intOf]; omega
        · obtain rfl : k = 20 := by omega
          have hk1 := KAt.block (KTo.done hr) HDL.out
          have hro := HR2.out.of_block (hg.block s (by have := HZ2.out.lt; omega) (by simp; omega))
          obtain ⟨old, hk4, hk5⟩ := key_block hro
          have hi := key_info HDL.out
          have hsame : old.size = (KC d).size := by rw [KC_size, HDL.out, hk5]
          have hsw := HS.out
          have hb := (Gr.below_of HX2.out).grown hg HX2.out.size (fun q hq => by cases hq; omega)
          have HFIN := Lib.hid (key_left (r := s) (k := d) (by omega) hb ⟨old, hk4, hk5⟩)
          clear hg hr hro hb hsw
          go_wp2_with (first | (refine wpList_load_row rfl 24 (.tmp 6) rfl v rfl 24 (KC d) (0, 0) _ hk1 Try.underlying24 rfl hi ?_) | (refine wpList_store_row rfl 24 (.tmp 2) (.tmp 31) rfl s (KC d) rfl rfl 24 old hk4 hi hsame KC_one ?_))
          refine bodyPost_ret (v := KV d) (results_cell_row rfl _ _ s 24 (KC d) (0, 0) _ rfl HFIN.out.2 Try.underlying24 rfl hi) rfl ⟨rfl, Gr.ext_of HFIN.out.1⟩
end Go.Proofs.Ytffcjnabhblbaaa
namespace Go.Proofs.Ytffcjnabhblbaaa
set_option maxRecDepth 20000
open Go.RowKit
set_option linter.unusedVariables false
theorem ints_one (w : World) (x : Int) (T : TypeId) : Ints (w.alloc (.cells #[.int .i64 x] T)) (.slice (some ⟨w.heap.size, 0, none⟩) 1 1) [x] := by
  refine .inr ⟨w.heap.size, 0, 1, rfl, by simp, by decide, by simp, fun k hk => ?_⟩
  obtain rfl : k = 0 := by simpa using hk
  rw [cell_of_row _ _ _ _ _ _ (heap_alloc_new w (.cells #[.int .i64 x] T))]
  rfl
/-- What stands where a statement has boxed its three keys. -/
structure Boxed3 (w w1 : World) (s : Nat) (a b c : List Nat) : Prop where
  ext : w.Extends w1
  at_ : w.heap.size = s
  a : KAt w1 s a
  b : KAt w1 (s + 1) b
  c : KAt w1 (s + 1 + 1) c
theorem Boxed3.made (w : World) {a b c : List Nat} (ha : KY.Ok a) (hb : KY.Ok b) (hc : KY.Ok c) :
    Boxed3 w (((w.alloc (.cells (KC a) 24)).alloc (.cells (KC b) 24)).alloc (.cells (KC c) 24)) w.heap.size a b c := by
  have h := Boxed.made w ha hb
  have h3 := KAt.new ((w.alloc (.cells (KC a) 24)).alloc (.cells (KC b) 24)) hc.1
  have e : ∀ (w : World) (o : Obj), (w.alloc o).heap.size = w.heap.size + 1 := fun w o => by simp
  rw [e, e] at h3
  exact ⟨Gr.ext_trans h.ext (Gr.ext_of ((Below.refl _ _).alloc (Nat.le_refl _) _)), rfl, h.a.alloc _, h.b.alloc _, h3⟩
end Go.Proofs.Ytffcjnabhblbaaa
namespace Go.Proofs.Ytffcjnabhblbaaa
set_option maxRecDepth 20000
open Go.RowKit
theorem refStir_any (x : Nat) (hx : x < 4294967296) (w : World) :
    Calls Try.prog 36 #[.int .u32 x] w fun e w' => e = .returned (.int .u32 (RM.stir x : Nat)) ∧ w = w' := by
  go_enter Try.func36, Try.ntmps36
  go_wp2
  go_ret
  exact ⟨retu32 (u32_stir x hx), rfl⟩
end Go.Proofs.Ytffcjnabhblbaaa
namespace Go.Proofs.Ytffcjnabhblbaaa
set_option maxRecDepth 20000
open Go.RowKit
theorem refRand_any (y i : Nat) (m : Int) (hy : y < 4294967296) (hm0 : -9223372036854775808 ≤ m) (hm1 : m ≤ 9223372036854775807) (w : World) :
    Calls Try.prog 37 #[.int .u32 y, .int .u32 i, .int .i64 m] w fun e w' => e = .returned (.int .i64 (RM.rand y i m)) ∧ w = w' := by
  by_cases h : m < 1
  · have e : RM.rand y i m = 0 := if_pos h
    rw [e]
    go_enter Try.func37, Try.ntmps37
    go_wp2
    go_ret
    exact ⟨rfl, rfl⟩
  · have hl := RM.stir_lt ((RM.stir y + i * 2654435769) % 4294967296)
    have hr := rand_val y i m (by omega)
    go_enter Try.func37, Try.ntmps37
    go_wp2_with fail
    refine (refStir_any _ hy _).mono ?_
    rintro e w' ⟨rfl, rfl⟩
    go_wp2_with fail
    rw [u32_drawn]
    refine (refStir_any _ (Nat.mod_lt _ (by decide)) _).mono ?_
    rintro e w' ⟨rfl, rfl⟩
    go_wp2
    go_ret
    refine ⟨retn64 ?_, rfl⟩
    have hb := RM.rand_below y i m (by omega)
    rw [IntWalk.wrap64_in _ ⟨by omega, by omega⟩]
end Go.Proofs.Ytffcjnabhblbaaa
namespace Go.Proofs.Ytffcjnabhblbaaa
set_option maxRecDepth 20000
open Go.RowKit
set_option linter.unusedVariables false
theorem key_low (x : Int) : bits .and .u64 (IntKind.u64.wrap x) 4294967295 = x % 4294967296 := by
  rw [IntKind.wrap_u64, and_low32 _ (by omega) (by omega)]; omega
theorem key_step2 (y : Nat) (x : Int) : ((y : Int) + x % 4294967296) % 4294967296 = ((y + (x % 4294967296).toNat) % 4294967296 : Nat) := by omega
set_option maxHeartbeats 1000000 in
theorem rkof_any {v : Value} {xs : List Int} (w : World) (h : Ints w v xs) :
    Calls Try.prog 19 #[v] w fun e w' => e = .returned (KV (KY.of xs)) ∧ w.Extends w' := by
  obtain ⟨a, cap, rfl, hle, hcap⟩ := h.slice
  have hL : xs.length ≤ 9223372036854775807 := Nat.le_trans h.len (by decide)
  obtain ⟨d, hd⟩ : ∃ d, d = KY.of xs := ⟨_, rfl⟩
  have HD := Lib.hid (show d = KY.keyOf (KY.stirred xs) from hd)
  have HDL := Lib.hid (show d.length = 20 by rw [hd]; exact KY.keyOf_len _)
  rw [← hd]
  clear hd
  go_enter Try.func19, Try.ntmps19
  go_wp2_with fail
  generalize hw1 : World.alloc _ _ = w1 at *
  have hx1 : w.Extends w1 := by subst hw1; exact Gr.ext_of ((Below.refl _ _).alloc (Nat.le_refl _) _)
  have hz : KAt w1 w.heap.size KY.zero := by subst hw1; exact KAt.zeros w
  have HI := Lib.hid (h.ext hx1)
  obtain ⟨s, hs⟩ : ∃ s, s = w.heap.size := ⟨_, rfl⟩
  rw [← hs] at hz ⊢
  have HX := Lib.hid hx1
  have HZ := Lib.hid hz
  have HS := Lib.hid hs
  clear hx1 hz hw1 hs
  go_loopw [4, 3] (fun i y wr => ∃ k : Nat, k ≤ xs.length ∧ i = .int .i64 k ∧ y = .int .u32 (KY.stirred (xs.take k) : Nat) ∧ w1 = wr) (fun i _ _ => (xs.length - intOf i).toNat)
  case atStart => exact ⟨0, by omega, rfl, rfl, rfl⟩
  case round =>
    obtain ⟨k, hk, rfl, rfl, rfl⟩ := hrel
    by_cases h1 : k < xs.length
    · have hc := (HI.out.cell).2
      obtain ⟨b, off, rfl, hb, hcl⟩ := hc (by omega)
      have hc1 := hcl k h1
      have hy := KY.stirred_lt (xs.take k)
      have HN := Lib.hid (stirred_next xs k h1)
      generalize KY.stirred (xs.take k) = y at *
      generalize xs.getD k 0 = x at *
      have HY := Lib.hid (key_step2 y x)
      have HA := Lib.hid (key_low x)
      clear hcl hc
      go_wp2_with fail
      rw [HA.out, HY.out]
      refine (refStir_any _ (Nat.mod_lt _ (by decide)) _).mono ?_
      rintro e w' ⟨rfl, rfl⟩
      rw [← HN.out]
      clear HN
      go_wp2
      go_roundw
      case rel => exact ⟨k + 1, by omega, by go_num, by first | rfl | trivial, by first | rfl | trivial⟩
      case measure => simp [intOf]; omega
    · have hkk : k = xs.length := by omega
      rw [hkk, List.take_length]
      rw [hkk] at h1
      clear hkk hk
      have HY := Lib.hid (KY.stirred_lt xs)
      generalize KY.stirred xs = y at *
      go_wp2_with fail
      have HZ2 := Lib.hid (KAt.zeros w1)
      have HR2 := Lib.hid (HZ.out.alloc (.cells Z20 24))
      have HX2 := Lib.hid (Gr.ext_trans HX.out (Gr.ext_of ((Below.refl w1.heap.size w1).alloc (Nat.le_refl _) (.cells Z20 24))))
      have hsv : s < w1.heap.size := HZ.out.lt
      generalize hw2 : World.alloc w1 _ = w2 at *
      obtain ⟨v, hv⟩ : ∃ v, v = w1.heap.size := ⟨_, rfl⟩
      rw [← hv] at HZ2 hsv ⊢
      clear hw2 hv HI h
      go_loopw [6] (fun i wr => ∃ k : Nat, k ≤ 20 ∧ i = .int .i64 k ∧ w2.grownBy wr (some v) ∧ wr.rowIs v 24 20 (KTo d k)) (fun i _ => (20 - intOf i).toNat)
      case atStart => exact ⟨0, by omega, rfl, grown_refl _ _, KTo.start _ HZ2.out⟩
      case round =>
        obtain ⟨k, hk, rfl, hg, hr⟩ := hrel
        by_cases h1 : k < 20
        · have hc3 := hr.cell h1
          have hf3 := hr.frozen k
          have HN := Lib.hid (KTo.next hr (i := k) rfl)
          have HGR := Lib.hid (grown_setCell hg k (.int .u8 (d.getD k 0 : Nat)))
          have HB := Lib.hid (show d.getD k 0 = KY.byteOf y k by rw [HD.out]; exact KY.keyOf_get y k h1)
          have hb : KY.byteOf y k < 256 := Nat.mod_lt _ (by decide)
          have HV := Lib.hid (KY.rand256 y k)
          rw [HB.out] at HN HGR
          clear hg hr HB
          generalize KY.byteOf y k = x at *
          generalize KTo d k k = old at *
          go_wp2_with fail
          refine (refRand_any y k 256 HY.out (by decide) (by decide) _).mono ?_
          rintro e w' ⟨rfl, rfl⟩
          rw [HV.out]
          go_wp2
          go_roundw
          case rel => exact ⟨k + 1, by omega, by go_num, HGR.out, HN.out⟩
          case measure => simp [intOf]; omega
        · obtain rfl : k = 20 := by omega
          have hk1 := KAt.block (KTo.done hr) HDL.out
          have hro := HR2.out.of_block (hg.block s (by have := HZ2.out.lt; omega) (by simp; omega))
          obtain ⟨old, hk4, hk5⟩ := key_block hro
          have hi := key_info HDL.out
          have hsame : old.size = (KC d).size := by rw [KC_size, HDL.out, hk5]
          have hsw := HS.out
          have hb := (Gr.below_of HX2.out).grown hg HX2.out.size (fun q hq => by cases hq; omega)
          have HFIN := Lib.hid (key_left (r := s) (k := d) (by omega) hb ⟨old, hk4, hk5⟩)
          clear hg hr hro hb hsw
          go_wp2_with (first | (refine wpList_load_row rfl 24 (.tmp 5) rfl v rfl 24 (KC d) (0, 0) _ hk1 Try.underlying24 rfl hi ?_) | (refine wpList_store_row rfl 24 (.tmp 2) (.tmp 34) rfl s (KC d) rfl rfl 24 old hk4 hi hsame KC_one ?_))
          refine bodyPost_ret (v := KV d) (results_cell_row rfl _ _ s 24 (KC d) (0, 0) _ rfl HFIN.out.2 Try.underlying24 rfl hi) rfl ⟨rfl, Gr.ext_of HFIN.out.1⟩
end Go.Proofs.Ytffcjnabhblbaaa
namespace Go.Proofs.Ytffcjnabhblbaaa
set_option maxRecDepth 20000
open Go.RowKit Go.Deep
set_option linter.unusedVariables false
set_option maxHeartbeats 4000000 in
theorem shelfOf_any (g : Nat) (p q : Int) (w : World) (hc : w.cell? ⟨g, 0, none⟩ = some (.int .i64 p)) :
    Calls Try.prog 22 #[.pointer (some ⟨g, 0, none⟩), .int .i64 q] w fun e w' => e = .returned (.pointer (some ⟨g, 1 + bx p q * 64, none⟩)) ∧ w.Extends w' := by
  obtain ⟨k, hk⟩ : ∃ k, k = bx p q := ⟨_, rfl⟩
  have hk1 : k < 161 := by rw [hk]; exact bx_lt p q
  have HK1 : Hid (∀ w v, Ints w v [q] → Calls Try.prog 39 #[v] w fun e w' => e = .returned (KV (KY.of [q])) ∧ w.Extends w') := fun w v h => kof_any w h
  have HK2 : Hid (∀ w v, Ints w v [p] → Calls Try.prog 39 #[v] w fun e w' => e = .returned (KV (KY.of [p])) ∧ w.Extends w') := fun w v h => kof_any w h
  have HPRE : Hid (∀ w, Calls Try.prog 38 #[KV (KY.of [q]), KV (KY.of [p])] w fun e w' => e = .returned (.int .i64 (bx p q : Nat)) ∧ w.Extends w') := fun w => kpre_any (KY.of_ok _) (KY.of_ok _) w
  rw [← hk] at HPRE ⊢
  generalize KV (KY.of [q]) = x1 at *
  generalize KV (KY.of [p]) = x2 at *
  clear hk
  go_enter Try.func22, Try.ntmps22
  go_upto_region 1 with fail
  refine Gr.regionE 14 6 [(false,0),(false,1),(false,4),(false,5),(false,6),(false,7),(false,11),(false,12)] (by kernel_rfl) (by kernel_rfl) (fun d _ _ _ _ h => by cases d <;> exact h) ?_
  simp only [Gr.pick, List.getElem?_cons_zero, List.getElem?_cons_succ]
  generalize hwd0 : w.drew = wd
  have HX : Hid (w.Extends wd) := by rw [← hwd0]; exact Gr.ext_drew (Gr.ext_refl w)
  clear hwd0
  have hcd := HX.out.cell_of hc
  iterate 5
    refine Gr.walkE_t ?_ (Or.inl ⟨by rfl, ?_⟩) ?_
    rotate_left
    · intro w' hw'
      clear hw'
      go_simp
      try with_reducible rfl
    simp only [Act.put, List.setIfInBounds_toArray, List.set_cons_zero, List.set_cons_succ]
  refine Gr.walkE_t ?_ (Or.inl ⟨by rfl, ?_⟩) ?_
  rotate_left
  · intro w' hw'
    have hc2 := hw'.cell_of hcd
    clear hw'
    go_simp
    try with_reducible rfl
  simp only [Act.put, List.setIfInBounds_toArray, List.set_cons_zero, List.set_cons_succ]
  iterate 2
    refine Gr.walkE_t ?_ (Or.inl ⟨by rfl, ?_⟩) ?_
    rotate_left
    · intro w' hw'
      clear hw'
      go_simp
      try with_reducible rfl
    simp only [Act.put, List.setIfInBounds_toArray, List.set_cons_zero, List.set_cons_succ]
  refine Gr.walkE_nil ?_
  clear hcd hc
  refine Gr.Left.two (i := 2) (j := 8) (by kernel_rfl) (by kernel_rfl) (Gr.Step.mk rfl (fun K hK => ?_)) (Gr.Step.mk rfl (fun K hK => ?_))
  · skip
    go_simp
    generalize hw : World.alloc _ _ = w1_
    have hx : wd.Extends w1_ := by subst hw; exact ext_alloc _ _
    have I70 : Ints w1_ (.slice (some ⟨wd.heap.size, 0, none⟩) 1 1) [q] := by subst hw; exact ints_one wd q 3
    clear hw
    refine hK.out _ _ hx ?_
    clear hK K
    have I7 := Lib.hid I70
    clear I70
    have HX := Lib.hid (Gr.ext_trans HX.out hx)
    clear hx
    refine Gr.Left.two (i := 3) (j := 8) (by kernel_rfl) (by kernel_rfl) (Gr.Step.mk rfl (fun K hK => ?_)) (Gr.Step.mk rfl (fun K hK => ?_))
    · skip
      go_simp
      refine (HK1.out _ _ I7.out).mono ?_
      rintro e w2_ ⟨rfl, hx⟩
      try go_simp
      refine hK.out _ _ hx ?_
      clear hK K
      clear I7
      have HX := Lib.hid (Gr.ext_trans HX.out hx)
      clear hx
      refine Gr.Left.one (i := 8) (by kernel_rfl) (by kernel_rfl) (Gr.Step.mk rfl (fun K hK => ?_))
      go_simp
      generalize hw : World.alloc _ _ = w3_
      have hx : w2_.Extends w3_ := by subst hw; exact ext_alloc _ _
      have I130 : Ints w3_ (.slice (some ⟨w2_.heap.size, 0, none⟩) 1 1) [p] := by subst hw; exact ints_one w2_ p 3
      clear hw
      refine hK.out _ _ hx ?_
      clear hK K
      have I13 := Lib.hid I130
      clear I130
      have HX := Lib.hid (Gr.ext_trans HX.out hx)
      clear hx
      refine Gr.Left.one (i := 9) (by kernel_rfl) (by kernel_rfl) (Gr.Step.mk rfl (fun K hK => ?_))
      go_simp
      refine (HK2.out _ _ I13.out).mono ?_
      rintro e w4_ ⟨rfl, hx⟩
      try go_simp
      refine hK.out _ _ hx ?_
      clear hK K
      clear I13
      have HX := Lib.hid (Gr.ext_trans HX.out hx)
      clear hx
      refine Gr.Left.one (i := 10) (by kernel_rfl) (by kernel_rfl) (Gr.Step.mk rfl (fun K hK => ?_))
      go_simp
      refine (HPRE.out _).mono ?_
      rintro e w5_ ⟨rfl, hx⟩
      try go_simp
      refine hK.out _ _ hx ?_
      clear hK K
      have HX := Lib.hid (Gr.ext_trans HX.out hx)
      clear hx
      refine Gr.Left.take (i := 13) rfl (by kernel_rfl) (fun d _ _ _ _ h => by cases d <;> exact h) ?_ (Or.inl ⟨by rfl, ?_⟩) ?_
      rotate_left
      · intro w' hw'
        have hb : ((k : Nat) : Int) < 161 := by omega
        clear hw'
        go_simp
        try with_reducible rfl
      simp only [Act.put, List.setIfInBounds_toArray, List.set_cons_zero, List.set_cons_succ]
      refine Gr.Left.done (by kernel_rfl) ?_
      simp only [List.drop_succ_cons, List.drop_zero]
      go_wp2
      go_ret
      exact ⟨rfl, HX.out⟩
    · skip
      go_simp
      generalize hw : World.alloc _ _ = w6_
      have hx : w1_.Extends w6_ := by subst hw; exact ext_alloc _ _
      have I130 : Ints w6_ (.slice (some ⟨w1_.heap.size, 0, none⟩) 1 1) [p] := by subst hw; exact ints_one w1_ p 3
      clear hw
      refine hK.out _ _ hx ?_
      clear hK K
      have I7 := Lib.hid (I7.out.ext hx)
      have I13 := Lib.hid I130
      clear I130
      have HX := Lib.hid (Gr.ext_trans HX.out hx)
      clear hx
      refine Gr.Left.one (i := 3) (by kernel_rfl) (by kernel_rfl) (Gr.Step.mk rfl (fun K hK => ?_))
      go_simp
      refine (HK1.out _ _ I7.out).mono ?_
      rintro e w7_ ⟨rfl, hx⟩
      try go_simp
      refine hK.out _ _ hx ?_
      clear hK K
      clear I7
      have I13 := Lib.hid (I13.out.ext hx)
      have HX := Lib.hid (Gr.ext_trans HX.out hx)
      clear hx
      refine Gr.Left.one (i := 9) (by kernel_rfl) (by kernel_rfl) (Gr.Step.mk rfl (fun K hK => ?_))
      go_simp
      refine (HK2.out _ _ I13.out).mono ?_
      rintro e w8_ ⟨rfl, hx⟩
      try go_simp
      refine hK.out _ _ hx ?_
      clear hK K
      clear I13
      have HX := Lib.hid (Gr.ext_trans HX.out hx)
      clear hx
      refine Gr.Left.one (i := 10) (by kernel_rfl) (by kernel_rfl) (Gr.Step.mk rfl (fun K hK => ?_))
      go_simp
      refine (HPRE.out _).mono ?_
      rintro e w9_ ⟨rfl, hx⟩
      try go_simp
      refine hK.out _ _ hx ?_
      clear hK K
      have HX := Lib.hid (Gr.ext_trans HX.out hx)
      clear hx
      refine Gr.Left.take (i := 13) rfl (by kernel_rfl) (fun d _ _ _ _ h => by cases d <;> exact h) ?_ (Or.inl ⟨by rfl, ?_⟩) ?_
      rotate_left
      · intro w' hw'
        have hb : ((k : Nat) : Int) < 161 := by omega
        clear hw'
        go_simp
        try with_reducible rfl
      simp only [Act.put, List.setIfInBounds_toArray, List.set_cons_zero, List.set_cons_succ]
      refine Gr.Left.done (by kernel_rfl) ?_
      simp only [List.drop_succ_cons, List.drop_zero]
      go_wp2
      go_ret
      exact ⟨rfl, HX.out⟩
  · skip
    go_simp
    generalize hw : World.alloc _ _ = w10_
    have hx : wd.Extends w10_ := by subst hw; exact ext_alloc _ _
    have I130 : Ints w10_ (.slice (some ⟨wd.heap.size, 0, none⟩) 1 1) [p] := by subst hw; exact ints_one wd p 3
    clear hw
    refine hK.out _ _ hx ?_
    clear hK K
    have I13 := Lib.hid I130
    clear I130
    have HX := Lib.hid (Gr.ext_trans HX.out hx)
    clear hx
    refine Gr.Left.one (i := 2) (by kernel_rfl) (by kernel_rfl) (Gr.Step.mk rfl (fun K hK => ?_))
    go_simp
    generalize hw : World.alloc _ _ = w11_
    have hx : w10_.Extends w11_ := by subst hw; exact ext_alloc _ _
    have I70 : Ints w11_ (.slice (some ⟨w10_.heap.size, 0, none⟩) 1 1) [q] := by subst hw; exact ints_one w10_ q 3
    clear hw
    refine hK.out _ _ hx ?_
    clear hK K
    have I13 := Lib.hid (I13.out.ext hx)
    have I7 := Lib.hid I70
    clear I70
    have HX := Lib.hid (Gr.ext_trans HX.out hx)
    clear hx
    refine Gr.Left.one (i := 3) (by kernel_rfl) (by kernel_rfl) (Gr.Step.mk rfl (fun K hK => ?_))
    go_simp
    refine (HK1.out _ _ I7.out).mono ?_
    rintro e w12_ ⟨rfl, hx⟩
    try go_simp
    refine hK.out _ _ hx ?_
    clear hK K
    have I13 := Lib.hid (I13.out.ext hx)
    clear I7
    have HX := Lib.hid (Gr.ext_trans HX.out hx)
    clear hx
    refine Gr.Left.one (i := 9) (by kernel_rfl) (by kernel_rfl) (Gr.Step.mk rfl (fun K hK => ?_))
    go_simp
    refine (HK2.out _ _ I13.out).mono ?_
    rintro e w13_ ⟨rfl, hx⟩
    try go_simp
    refine hK.out _ _ hx ?_
    clear hK K
    clear I13
    have HX := Lib.hid (Gr.ext_trans HX.out hx)
    clear hx
    refine Gr.Left.one (i := 10) (by kernel_rfl) (by kernel_rfl) (Gr.Step.mk rfl (fun K hK => ?_))
    go_simp
    refine (HPRE.out _).mono ?_
    rintro e w14_ ⟨rfl, hx⟩
    try go_simp
    refine hK.out _ _ hx ?_
    clear hK K
    have HX := Lib.hid (Gr.ext_trans HX.out hx)
    clear hx
    refine Gr.Left.take (i := 13) rfl (by kernel_rfl) (fun d _ _ _ _ h => by cases d <;> exact h) ?_ (Or.inl ⟨by rfl, ?_⟩) ?_
    rotate_left
    · intro w' hw'
      have hb : ((k : Nat) : Int) < 161 := by omega
      clear hw'
      go_simp
      try with_reducible rfl
    simp only [Act.put, List.setIfInBounds_toArray, List.set_cons_zero, List.set_cons_succ]
    refine Gr.Left.done (by kernel_rfl) ?_
    simp only [List.drop_succ_cons, List.drop_zero]
    go_wp2
    go_ret
    exact ⟨rfl, HX.out⟩
set_option maxHeartbeats 4000000 in
theorem rbucket_any (g : Nat) (p q : Int) (w : World) (hc : w.cell? ⟨g, 0, none⟩ = some (.int .i64 p)) :
    Calls Try.prog 24 #[.pointer (some ⟨g, 0, none⟩), .int .i64 q] w fun e w' => e = .returned (.int .i64 (bx p q : Nat)) ∧ w.Extends w' := by
  obtain ⟨k, hk⟩ : ∃ k, k = bx p q := ⟨_, rfl⟩
  have hk1 : k < 161 := by rw [hk]; exact bx_lt p q
  have HK1 : Hid (∀ w v, Ints w v [q] → Calls Try.prog 19 #[v] w fun e w' => e = .returned (KV (KY.of [q])) ∧ w.Extends w') := fun w v h => rkof_any w h
  have HK2 : Hid (∀ w v, Ints w v [p] → Calls Try.prog 19 #[v] w fun e w' => e = .returned (KV (KY.of [p])) ∧ w.Extends w') := fun w v h => rkof_any w h
  have HPRE : Hid (∀ w, Calls Try.prog 42 #[KV (KY.of [q]), KV (KY.of [p])] w fun e w' => e = .returned (.int .i64 (bx p q : Nat)) ∧ w.Extends w') := fun w => rkpre_any (KY.of_ok _) (KY.of_ok _) w
  rw [← hk] at HPRE ⊢
  generalize KV (KY.of [q]) = x1 at *
  generalize KV (KY.of [p]) = x2 at *
  clear hk
  go_enter Try.func24, Try.ntmps24
  go_upto_region 1 with fail
  refine Gr.regionE 10 5 [(false,0),(false,3),(false,4),(false,5),(false,6)] (by kernel_rfl) (by kernel_rfl) (fun d _ _ _ _ h => by cases d <;> exact h) ?_
  simp only [Gr.pick, List.getElem?_cons_zero, List.getElem?_cons_succ]
  generalize hwd0 : w.drew = wd
  have HX : Hid (w.Extends wd) := by rw [← hwd0]; exact Gr.ext_drew (Gr.ext_refl w)
  clear hwd0
  have hcd := HX.out.cell_of hc
  iterate 4
    refine Gr.walkE_t ?_ (Or.inl ⟨by rfl, ?_⟩) ?_
    rotate_left
    · intro w' hw'
      clear hw'
      go_simp
      try with_reducible rfl
    simp only [Act.put, List.setIfInBounds_toArray, List.set_cons_zero, List.set_cons_succ]
  refine Gr.walkE_t ?_ (Or.inl ⟨by rfl, ?_⟩) ?_
  rotate_left
  · intro w' hw'
    have hc2 := hw'.cell_of hcd
    clear hw'
    go_simp
    try with_reducible rfl
  simp only [Act.put, List.setIfInBounds_toArray, List.set_cons_zero, List.set_cons_succ]
  refine Gr.walkE_nil ?_
  clear hcd hc
  refine Gr.Left.two (i := 1) (j := 7) (by kernel_rfl) (by kernel_rfl) (Gr.Step.mk rfl (fun K hK => ?_)) (Gr.Step.mk rfl (fun K hK => ?_))
  · skip
    go_simp
    generalize hw : World.alloc _ _ = w1_
    have hx : wd.Extends w1_ := by subst hw; exact ext_alloc _ _
    have I70 : Ints w1_ (.slice (some ⟨wd.heap.size, 0, none⟩) 1 1) [q] := by subst hw; exact ints_one wd q 3
    clear hw
    refine hK.out _ _ hx ?_
    clear hK K
    have I7 := Lib.hid I70
    clear I70
    have HX := Lib.hid (Gr.ext_trans HX.out hx)
    clear hx
    refine Gr.Left.two (i := 2) (j := 7) (by kernel_rfl) (by kernel_rfl) (Gr.Step.mk rfl (fun K hK => ?_)) (Gr.Step.mk rfl (fun K hK => ?_))
    · skip
      go_simp
      refine (HK1.out _ _ I7.out).mono ?_
      rintro e w2_ ⟨rfl, hx⟩
      try go_simp
      refine hK.out _ _ hx ?_
      clear hK K
      clear I7
      have HX := Lib.hid (Gr.ext_trans HX.out hx)
      clear hx
      refine Gr.Left.one (i := 7) (by kernel_rfl) (by kernel_rfl) (Gr.Step.mk rfl (fun K hK => ?_))
      go_simp
      generalize hw : World.alloc _ _ = w3_
      have hx : w2_.Extends w3_ := by subst hw; exact ext_alloc _ _
      have I130 : Ints w3_ (.slice (some ⟨w2_.heap.size, 0, none⟩) 1 1) [p] := by subst hw; exact ints_one w2_ p 3
      clear hw
      refine hK.out _ _ hx ?_
      clear hK K
      have I13 := Lib.hid I130
      clear I130
      have HX := Lib.hid (Gr.ext_trans HX.out hx)
      clear hx
      refine Gr.Left.one (i := 8) (by kernel_rfl) (by kernel_rfl) (Gr.Step.mk rfl (fun K hK => ?_))
      go_simp
      refine (HK2.out _ _ I13.out).mono ?_
      rintro e w4_ ⟨rfl, hx⟩
      try go_simp
      refine hK.out _ _ hx ?_
      clear hK K
      clear I13
      have HX := Lib.hid (Gr.ext_trans HX.out hx)
      clear hx
      refine Gr.Left.one (i := 9) (by kernel_rfl) (by kernel_rfl) (Gr.Step.mk rfl (fun K hK => ?_))
      go_simp
      refine (HPRE.out _).mono ?_
      rintro e w5_ ⟨rfl, hx⟩
      try go_simp
      refine hK.out _ _ hx ?_
      clear hK K
      have HX := Lib.hid (Gr.ext_trans HX.out hx)
      clear hx
      refine Gr.Left.done (by kernel_rfl) ?_
      simp only [List.drop_succ_cons, List.drop_zero]
      go_wp2
      go_ret
      exact ⟨rfl, HX.out⟩
    · skip
      go_simp
      generalize hw : World.alloc _ _ = w6_
      have hx : w1_.Extends w6_ := by subst hw; exact ext_alloc _ _
      have I130 : Ints w6_ (.slice (some ⟨w1_.heap.size, 0, none⟩) 1 1) [p] := by subst hw; exact ints_one w1_ p 3
      clear hw
      refine hK.out _ _ hx ?_
      clear hK K
      have I7 := Lib.hid (I7.out.ext hx)
      have I13 := Lib.hid I130
      clear I130
      have HX := Lib.hid (Gr.ext_trans HX.out hx)
      clear hx
      refine Gr.Left.one (i := 2) (by kernel_rfl) (by kernel_rfl) (Gr.Step.mk rfl (fun K hK => ?_))
      go_simp
      refine (HK1.out _ _ I7.out).mono ?_
      rintro e w7_ ⟨rfl, hx⟩
      try go_simp
      refine hK.out _ _ hx ?_
      clear hK K
      clear I7
      have I13 := Lib.hid (I13.out.ext hx)
      have HX := Lib.hid (Gr.ext_trans HX.out hx)
      clear hx
      refine Gr.Left.one (i := 8) (by kernel_rfl) (by kernel_rfl) (Gr.Step.mk rfl (fun K hK => ?_))
      go_simp
      refine (HK2.out _ _ I13.out).mono ?_
      rintro e w8_ ⟨rfl, hx⟩
      try go_simp
      refine hK.out _ _ hx ?_
      clear hK K
      clear I13
      have HX := Lib.hid (Gr.ext_trans HX.out hx)
      clear hx
      refine Gr.Left.one (i := 9) (by kernel_rfl) (by kernel_rfl) (Gr.Step.mk rfl (fun K hK => ?_))
      go_simp
      refine (HPRE.out _).mono ?_
      rintro e w9_ ⟨rfl, hx⟩
      try go_simp
      refine hK.out _ _ hx ?_
      clear hK K
      have HX := Lib.hid (Gr.ext_trans HX.out hx)
      clear hx
      refine Gr.Left.done (by kernel_rfl) ?_
      simp only [List.drop_succ_cons, List.drop_zero]
      go_wp2
      go_ret
      exact ⟨rfl, HX.out⟩
  · skip
    go_simp
    generalize hw : World.alloc _ _ = w10_
    have hx : wd.Extends w10_ := by subst hw; exact ext_alloc _ _
    have I130 : Ints w10_ (.slice (some ⟨wd.heap.size, 0, none⟩) 1 1) [p] := by subst hw; exact ints_one wd p 3
    clear hw
    refine hK.out _ _ hx ?_
    clear hK K
    have I13 := Lib.hid I130
    clear I130
    have HX := Lib.hid (Gr.ext_trans HX.out hx)
    clear hx
    refine Gr.Left.one (i := 1) (by kernel_rfl) (by kernel_rfl) (Gr.Step.mk rfl (fun K hK => ?_))
    go_simp
    generalize hw : World.alloc _ _ = w11_
    have hx : w10_.Extends w11_ := by subst hw; exact ext_alloc _ _
    have I70 : Ints w11_ (.slice (some ⟨w10_.heap.size, 0, none⟩) 1 1) [q] := by subst hw; exact ints_one w10_ q 3
    clear hw
    refine hK.out _ _ hx ?_
    clear hK K
    have I13 := Lib.hid (I13.out.ext hx)
    have I7 := Lib.hid I70
    clear I70
    have HX := Lib.hid (Gr.ext_trans HX.out hx)
    clear hx
    refine Gr.Left.one (i := 2) (by kernel_rfl) (by kernel_rfl) (Gr.Step.mk rfl (fun K hK => ?_))
    go_simp
    refine (HK1.out _ _ I7.out).mono ?_
    rintro e w12_ ⟨rfl, hx⟩
    try go_simp
    refine hK.out _ _ hx ?_
    clear hK K
    have I13 := Lib.hid (I13.out.ext hx)
    clear I7
    have HX := Lib.hid (Gr.ext_trans HX.out hx)
    clear hx
    refine Gr.Left.one (i := 8) (by kernel_rfl) (by kernel_rfl) (Gr.Step.mk rfl (fun K hK => ?_))
    go_simp
    refine (HK2.out _ _ I13.out).mono ?_
    rintro e w13_ ⟨rfl, hx⟩
    try go_simp
    refine hK.out _ _ hx ?_
    clear hK K
    clear I13
    have HX := Lib.hid (Gr.ext_trans HX.out hx)
    clear hx
    refine Gr.Left.one (i := 9) (by kernel_rfl) (by kernel_rfl) (Gr.Step.mk rfl (fun K hK => ?_))
    go_simp
    refine (HPRE.out _).mono ?_
    rintro e w14_ ⟨rfl, hx⟩
    try go_simp
    refine hK.out _ _ hx ?_
    clear hK K
    have HX := Lib.hid (Gr.ext_trans HX.out hx)
    clear hx
    refine Gr.Left.done (by kernel_rfl) ?_
    simp only [List.drop_succ_cons, List.drop_zero]
    go_wp2
    go_ret
    exact ⟨rfl, HX.out⟩
end Go.Proofs.Ytffcjnabhblbaaa
namespace Go.Proofs.Ytffcjnabhblbaaa
set_option maxRecDepth 20000
open Go.RowKit Go.Deep
set_option linter.unusedVariables false
theorem list20 {α : Type} {l : List α} (h : l.length = 20) : ∃ a0 a1 a2 a3 a4 a5 a6 a7 a8 a9 a10 a11 a12 a13 a14 a15 a16 a17 a18 a19, l = [a0, a1, a2, a3, a4, a5, a6, a7, a8, a9, a10, a11, a12, a13, a14, a15, a16, a17, a18, a19] := by
  match l, h with
  | [a0, a1, a2, a3, a4, a5, a6, a7, a8, a9, a10, a11, a12, a13, a14, a15, a16, a17, a18, a19], _ => exact ⟨_, _, _, _, _, _, _, _, _, _, _, _, _, _, _, _, _, _, _, _, rfl⟩
theorem ct_fill (q : Int) (a0 a1 a2 a3 a4 a5 a6 a7 a8 a9 a10 a11 a12 a13 a14 a15 a16 a17 a18 a19 : Nat) : Instr.fill ([(0, 1), (1, 20)].toArray[·]?) (CV z21).cells [(0, .int .i64 q), (1, KV [a0, a1, a2, a3, a4, a5, a6, a7, a8, a9, a10, a11, a12, a13, a14, a15, a16, a17, a18, a19])] = some (CL ⟨q, [a0, a1, a2, a3, a4, a5, a6, a7, a8, a9, a10, a11, a12, a13, a14, a15, a16, a17, a18, a19], rfl⟩).toArray := by kernel_rfl
theorem ct_built (q : Int) (k : List Nat) (h : k.length = 20) : Try.prog.built 47 [(0, .int .i64 q), (1, KV k)] = some (CL ⟨q, k, h⟩).toArray := by
  obtain ⟨it, hit, hz, _⟩ := ctParts
  have hpl : ((Try.prog.fieldsOf 47).toList.mapM fun f => (Try.prog.info? f.type).map fun i => (f.offset, i.size)) = some [(0, 1), (1, 20)] := by kernel_rfl
  unfold Program.built
  simp only [hit, ct_struct, hz, hpl]
  obtain ⟨a0, a1, a2, a3, a4, a5, a6, a7, a8, a9, a10, a11, a12, a13, a14, a15, a16, a17, a18, a19, rfl⟩ := list20 h
  exact ct_fill q a0 a1 a2 a3 a4 a5 a6 a7 a8 a9 a10 a11 a12 a13 a14 a15 a16 a17 a18 a19
theorem ct_make (q : Int) {a : Act} {o : Oper} {x y : Operand} (ho : o.op = .build 47 #[(0, x), (1, y)]) (hx : a.eval x = .int .i64 q) (hy : a.eval y = KV (KY.of [q])) {v : Value} (hv : CV (ctOf q) = v) (w : World) :
    (execOp a.eval o).run Try.prog w = .ok (.value v) w := by
  subst hv
  unfold execOp
  have hb := run_build (P := Try.prog) w 47 #[(0, .int .i64 q), (1, KV (KY.of [q]))] _ (ct_built q (KY.of [q]) (KY.of_ok _).1)
  have e : (Array.map (fun (z : Nat × Operand) => (z.1, a.eval z.2)) #[(0, x), (1, y)]) = #[(0, .int .i64 q), (1, KV (KY.of [q]))] := by
    rw [← hx, ← hy]; simp
  simp only [ho, Sem.run_bind]
  show (Sem.run _ (Instr.build _ (Array.map (fun (z : Nat × Operand) => (z.1, a.eval z.2)) #[(0, x), (1, y)])) w).andThen _ = _
  rw [e, hb]
  rfl
theorem wp_store_ct {o : Oper} {a : Act} {w : World} {K : Act → World → Prop} {Q : Exit → Act → World → Prop} (x y : Operand) (ho : o.op = .store 47 x y)
    (g off k : Nat) (c : Ct) (T : TypeId) (pre post : List Value) (l : List Ct) (hx : a.eval x = .pointer (some ⟨g, off, none⟩)) (hy : a.eval y = CV c) (hA : CAt w g T pre l post) (hoff : off = pre.length + k * 21) (hk : k < l.length)
    (h : ∀ w', CAt w' g T pre (l.set k c) post → w.grownBy w' (some g) → K (a.put o.dst undef) w') : o.wp Try.prog a w K Q := by
  have hlen : (pre ++ flatC l ++ post).length = pre.length + l.length * 21 + post.length := by rw [List.length_append, List.length_append, flatC_length]
  have hst := run_storeCells_at Try.prog g off T (CL c) 0 (pre ++ flatC l ++ post).toArray w hA (by rw [CL_length, List.size_toArray, hlen]; omega) (CL_one c)
  simp only [Nat.add_zero, CL_length] at hst
  have hrun : (storeVar 47 ⟨g, off, none⟩ (CV c)).run Try.prog w = .ok () (w.setRow g ((pre ++ flatC l ++ post).take off ++ CL c ++ (pre ++ flatC l ++ post).drop (off + 21)).toArray) := by
    have hty := CL_info c
    cases hq : Try.prog.info? 47 with
    | none => simp [hq] at hty
    | some t =>
      have hs' : t.size = 21 := by simpa [hq, CL_length] using hty
      simp [storeVar, sizeOf, typeInfo, hq, Value.cells, CL_length, hs', hst]
  unfold Oper.wp execOp
  simp only [ho, hx, hy, Instr.storeAt, Instr.sureAddr, Sem.run_bind, Sem.run_pure, Result.andThen_ok, hrun]
  refine h _ ?_ (grown_setRow' _ _ _)
  unfold CAt
  rw [setRow_heap w g _ _ _ _ hA]
  congr 3
  rw [flatC_set l k c hk, hoff]
  rw [List.append_assoc pre, List.take_append, List.take_of_length_le (by omega), show pre.length + k * 21 - pre.length = k * 21 by omega, List.take_append_of_le_length (by rw [flatC_length]; omega),
    List.drop_append, List.drop_eq_nil_of_le (by omega), show pre.length + k * 21 + 21 - pre.length = k * 21 + 21 by omega, List.nil_append, List.drop_append_of_le_length (by rw [flatC_length]; omega)]
  simp only [List.append_assoc]
end Go.Proofs.Ytffcjnabhblbaaa
namespace Go.Proofs.Ytffcjnabhblbaaa
set_option maxRecDepth 20000
open Go.RowKit
namespace GrU
open Gr (AnyE check growB pick)
section
variable {P : Program} {ops : Array Oper} {Q : Exit → Act → World → Prop} {md : Region.Mode} {S : World → Prop}
variable {R : World → World → Prop}
structure Way (R : World → World → Prop) : Prop where
  refl : ∀ w, R w w
  trans : ∀ {a b c}, R a b → R b c → R a c
open Gr (checkTo lists)
/-- Where nothing that is taken reads memory. -/
theorem any_way : Way (fun _ _ => True) := ⟨fun _ => trivial, fun _ _ => trivial⟩
/-! Where more than one operation that is carried out may come up: the walk goes a step at a time. -/
/-- What is left: 'f' operations of the head, then the tail. -/
def Left (R : World → World → Prop) (P : Program) (l : List Oper) (Q : Exit → Act → World → Prop) (n f : Nat) (listed : Array Bool) (a : Act) (w : World) : Prop :=
  HeadInv .any l.toArray n listed → AnyE P .any l.toArray Q n (fun listed' a' w' => Region.seqB .any l.toArray (l.toArray.size - n) n listed' = true ∧ wpList P l.toArray Q (l.drop n) a' w') (R w) f listed a w
theorem Left.done {l : List Oper} {n : Nat} {listed : Array Bool} {a : Act} {w : World} (hB : Region.seqB .any l.toArray (l.toArray.size - n) n listed = true) (h : wpList P l.toArray Q (l.drop n) a w) : Left R P l Q n 0 listed a w := fun _ => ⟨hB, h⟩
theorem Left.take (hR : Way R) {l : List Oper} {n f i : Nat} {o : Oper} {listed : Array Bool} {a : Act} {w : World} (hi : l[i]? = some o)
    (hk : (Region.noSelect l.toArray && decide (n < l.toArray.size) && Region.sinkB .any l.toArray n && Region.chainB .any l.toArray n && decide (i < n) && (Region.ready .any l.toArray listed).contains i && Region.free .any l.toArray listed i) = true)
    (hQ : ∀ d v c a w, Q (.panic c) (Act.put a d v) w → Q (.panic c) a w) (v : Value) (hy : YieldsIf P l.toArray (R w) o v a)
    (h : Left R P l Q n f (listed.setIfInBounds i true) (a.put o.dst v) w) : Left R P l Q n (f + 1) listed a w := fun inv => by
  simp only [Bool.and_eq_true, decide_eq_true_eq] at hk
  obtain ⟨⟨⟨⟨⟨⟨hsel, hn⟩, hs⟩, hc⟩, hin⟩, hr⟩, hf⟩ := hk
  have hoa : l.toArray[i]? = some o := by simpa using hi
  have hrm : i ∈ Region.ready .any l.toArray listed := by simpa using hr
  exact AnyE.first hoa (Region.noSelect_spec hsel) hs hc hn hin (fun c a w => hQ _ v c a w) (fun listed' a' w' hL => seqB_ready hL.1) f listed a w inv (Region.free_spec hoa hf) hrm hy (hR.refl w) (h (inv.set hrm hin))
/-- One step of an operation that is carried out. -/
def Step (R : World → World → Prop) (P : Program) (l : List Oper) (Q : Exit → Act → World → Prop) (n f i : Nat) (listed : Array Bool) (a : Act) (w : World) : Prop :=
  ∀ o, l[i]? = some o → ∀ K : Act → World → Prop, Shut (∀ a' w', R w w' → Left R P l Q n f (listed.setIfInBounds i true) a' w' → K a' w') → if Region.wanted o (yielded l.toArray a.tmps) = true then o.wp P a w K Q else K (a.put o.dst undef) w
theorem Step.mk {l : List Oper} {n f i : Nat} {o : Oper} {listed : Array Bool} {a : Act} {w : World} (hi : l[i]? = some o)
    (h : ∀ K : Act → World → Prop, Shut (∀ a' w', R w w' → Left R P l Q n f (listed.setIfInBounds i true) a' w' → K a' w') → if Region.wanted o (yielded l.toArray a.tmps) = true then o.wp P a w K Q else K (a.put o.dst undef) w) : Step R P l Q n f i listed a w := fun o' ho' => by
  rw [hi] at ho'; cases ho'; exact h
theorem Left.some (hR : Way R) {l : List Oper} {n f : Nat} {rs : List Nat} {listed : Array Bool} {a : Act} {w : World} (hr : Region.ready .any l.toArray listed = rs) (hne : (!rs.isEmpty && rs.all (· < n) && rs.all (· < l.length)) = true)
    (h : ∀ i ∈ rs, Step R P l Q n f i listed a w) : Left R P l Q n (f + 1) listed a w := fun inv => by
  simp only [Bool.and_eq_true, List.all_eq_true, decide_eq_true_eq] at hne
  refine ⟨(by rw [hr]; intro h0; rw [h0] at hne; simp at hne), fun j hj => ?_⟩
  have hjr : j ∈ rs := hr ▸ hj
  refine ⟨hne.1.2 j hjr, ?_⟩
  have hjl := hne.2 j hjr
  have hoa : l.toArray[j]? = Option.some l[j] := by simp
  have h0 := h j hjr l[j] (List.getElem?_eq_getElem hjl) (fun a' w' => R w w' ∧ Left R P l Q n f (listed.setIfInBounds j true) a' w') (fun _ _ h1 h2 => ⟨h1, h2⟩)
  have hinv := inv.set hj (hne.1.2 j hjr)
  have fin : ∀ a' w', R w w' ∧ Left R P l Q n f (listed.setIfInBounds j true) a' w' → R w w' ∧ AnyE P .any l.toArray Q n _ (R w) f (listed.setIfInBounds j true) a' w' :=
    fun a' w' hk => ⟨hk.1, AnyE.weaken (fun u hu => hR.trans hk.1 hu) _ _ _ _ (hk.2 hinv)⟩
  unfold wpOp
  simp only [hoa]
  split
  · rename_i hw; rw [if_pos hw] at h0; exact .inl (Oper.wp_mono fin h0)
  · rename_i hw; rw [if_neg hw] at h0; exact fin _ _ h0
theorem Left.one (hR : Way R) {l : List Oper} {n f i : Nat} {listed : Array Bool} {a : Act} {w : World} (hr : Region.ready .any l.toArray listed = [i]) (hne : (decide (i < n) && decide (i < l.length)) = true)
    (h : Step R P l Q n f i listed a w) : Left R P l Q n (f + 1) listed a w :=
  Left.some hR hr (by simpa using hne) (fun j hj => by
    obtain rfl : j = i := by simpa using hj
    exact h)
theorem Left.two (hR : Way R) {l : List Oper} {n f i j : Nat} {listed : Array Bool} {a : Act} {w : World} (hr : Region.ready .any l.toArray listed = [i, j]) (hne : (decide (i < n) && decide (i < l.length) && decide (j < n) && decide (j < l.length)) = true)
    (h1 : Step R P l Q n f i listed a w) (h2 : Step R P l Q n f j listed a w) : Left R P l Q n (f + 1) listed a w :=
  Left.some hR hr (by simp only [Bool.and_eq_true, decide_eq_true_eq] at hne; simp; omega) (fun k hk => by
    simp only [List.mem_cons, List.not_mem_nil, or_false] at hk
    rcases hk with rfl | rfl
    · exact h1
    · exact h2)
theorem Left.three (hR : Way R) {l : List Oper} {n f i j k : Nat} {listed : Array Bool} {a : Act} {w : World} (hr : Region.ready .any l.toArray listed = [i, j, k]) (hne : (decide (i < n) && decide (i < l.length) && decide (j < n) && decide (j < l.length) && decide (k < n) && decide (k < l.length)) = true)
    (h1 : Step R P l Q n f i listed a w) (h2 : Step R P l Q n f j listed a w) (h3 : Step R P l Q n f k listed a w) : Left R P l Q n (f + 1) listed a w :=
  Left.some hR hr (by simp only [Bool.and_eq_true, decide_eq_true_eq] at hne; simp; omega) (fun m hm => by
    simp only [List.mem_cons, List.not_mem_nil, or_false] at hm
    rcases hm with rfl | rfl | rfl
    · exact h1
    · exact h2
    · exact h3)
def walkE (R : World → World → Prop) (P : Program) (ops : Array Oper) (Q : Exit → Act → World → Prop) (E : Act → World → Prop) : List (Bool × Oper) → Act → World → Prop
  | [], a, w => E a w
  | (true, o) :: rest, a, w => if Region.wanted o (yielded ops a.tmps) = true then o.wp P a w (fun a' w' => R w w' ∧ walkE R P ops Q E rest a' w') Q else walkE R P ops Q E rest (a.put o.dst undef) w
  | (false, o) :: rest, a, w => ∃ v, YieldsIf P ops (R w) o v a ∧ walkE R P ops Q E rest (a.put o.dst v) w
theorem walkE_nil {E : Act → World → Prop} {a : Act} {w : World} (h : E a w) : walkE R P ops Q E [] a w := h
theorem walkE_t {E : Act → World → Prop} {rest : List (Bool × Oper)} {o : Oper} {a : Act} {w : World} (v : Value) (hy : YieldsIf P ops (R w) o v a) (h : walkE R P ops Q E rest (a.put o.dst v) w) :
    walkE R P ops Q E ((false, o) :: rest) a w := ⟨v, hy, h⟩
theorem walkE_sound (hR : Way R) {l : List Oper} {n g : Nat} (hsel : Region.noSelect l.toArray = true) (hs : Region.sinkB .any l.toArray n = true) (hc : Region.chainB .any l.toArray n = true) (hn : n < l.toArray.size)
    (hQ : ∀ d v c a w, Q (.panic c) (Act.put a d v) w → Q (.panic c) a w) :
    ∀ (ord : List (Bool × Nat)) (listed : Array Bool) (a : Act) (w : World), checkTo .any l.toArray n ord listed = true →
      walkE R P l.toArray Q (Left R P l Q n g (lists ord listed)) (pick l ord) a w → Left R P l Q n (ord.length + g) listed a w
  | [], listed, a, w, _, h => by rw [List.length_nil, Nat.zero_add]; exact h
  | (c, i) :: rest, listed, a, w, hB, h => fun inv => by
    simp only [checkTo, Bool.and_eq_true, decide_eq_true_eq] at hB
    obtain ⟨⟨hin, hr⟩, hB'⟩ := hB
    have hil : i < l.length := by have : l.toArray.size = l.length := by simp
                                  omega
    have ho : l[i]? = Option.some l[i] := List.getElem?_eq_getElem hil
    have hoa : l.toArray[i]? = Option.some l[i] := by simp
    have hlen : ((c, i) :: rest).length + g = (rest.length + g) + 1 := by simp; omega
    rw [hlen]
    simp only [pick, ho] at h
    cases c with
    | true =>
      simp only [decide_eq_true_eq] at hr
      refine ⟨(by rw [hr]; simp), fun j hj => ?_⟩
      rw [hr] at hj
      obtain rfl : j = i := by simpa using hj
      refine ⟨hin, ?_⟩
      have hrm : j ∈ Region.ready .any l.toArray listed := by rw [hr]; simp
      unfold walkE at h
      unfold wpOp
      simp only [hoa]
      split
      · rename_i hw
        rw [if_pos hw] at h
        exact .inl (Oper.wp_mono (fun a' w' hk => ⟨hk.1, AnyE.weaken (fun u hu => hR.trans hk.1 hu) _ _ _ _ (walkE_sound hR hsel hs hc hn hQ rest _ a' w' hB' hk.2 (inv.set hrm hin))⟩) h)
      · rename_i hw
        rw [if_neg hw] at h
        exact ⟨hR.refl w, walkE_sound hR hsel hs hc hn hQ rest _ _ w hB' h (inv.set hrm hin)⟩
    | false =>
      simp only [Bool.and_eq_true] at hr
      unfold walkE at h
      obtain ⟨v, hy, hK⟩ := h
      have hrm : i ∈ Region.ready .any l.toArray listed := by simpa using hr.1
      exact AnyE.first hoa (Region.noSelect_spec hsel) hs hc hn hin (fun c a w => hQ _ v c a w) (fun listed' a' w' hL => seqB_ready hL.1) (rest.length + g) listed a w inv (Region.free_spec hoa hr.2) hrm hy (hR.refl w)
        (walkE_sound hR hsel hs hc hn hQ rest _ _ w hB' hK (inv.set hrm hin))
theorem regionE (hR : Way R) {id : Nat} {a : Act} {w : World} {l : List Oper} (n g : Nat) (ord : List (Bool × Nat)) (hm : P.follows .mixedOrders = true)
    (hB : (Region.noSelect l.toArray && decide (n < l.toArray.size) && Region.sinkB .any l.toArray n && Region.chainB .any l.toArray n && decide (ord.length + g = n) && checkTo .any l.toArray n ord (Array.replicate l.toArray.size false)) = true)
    (hQ : ∀ d v c a w, Q (.panic c) (Act.put a d v) w → Q (.panic c) a w)
    (h : walkE R P l.toArray Q (Left R P l Q n g (lists ord (Array.replicate l.toArray.size false))) (pick l ord) a w.drew) : (Code.region id l.toArray true).wp P Q a w := by
  simp only [Bool.and_eq_true, decide_eq_true_eq] at hB
  obtain ⟨⟨⟨⟨⟨hsel, hn⟩, hs⟩, hc⟩, hlen⟩, hck⟩ := hB
  have hdl : (l.drop n).length = l.toArray.size - n := by simp
  have inv0 : HeadInv .any l.toArray n (Array.replicate l.toArray.size false) :=
    ⟨by simp, fun j oj _ hl => (by rw [getD_replicate_false] at hl; cases hl), fun t _ ht => getD_in (by simpa using ht) (getD_replicate_false _ _)⟩
  have H := walkE_sound hR hsel hs hc hn hQ ord _ a w.drew hck h inv0
  refine wp_region_any hm ?_
  have := AnyE.any (Q := Q) (g := l.toArray.size - n) (fun listed a' w' hL => by
    have := wpAny_of_seq (md := .any) (Q' := Q) (l.drop n) n listed a' w' (fun j => by simp [List.getElem?_drop]) (by rw [hdl]; exact hL.1) hL.2
    rwa [hdl] at this) _ _ _ _ H
  rw [hlen, show n + (l.toArray.size - n) = l.toArray.size by omega] at this
  exact this
end
end GrU
end Go.Proofs.Ytffcjnabhblbaaa
