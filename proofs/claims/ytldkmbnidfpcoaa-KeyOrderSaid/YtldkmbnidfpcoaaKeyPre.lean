/- What two keys have in common, in both programs. -/
import Derived.Test.YtldkmbnidfpcoaaKeyLess
import Derived.Laws.MathBits
namespace Go.Proofs.Ytldkmbnidfpcoaa
set_option maxRecDepth 20000
open Go.RowKit
set_option linter.unusedVariables false
theorem len8_any (x : Nat) (hx : x < 256) (w : World) : Calls Try.prog 22 #[.int .u8 x] w fun e w' => e = .returned (.int .i64 (bitLen x : Nat)) ∧ w = w' := by
  go_enter Try.func22, Try.ntmps22
  have hb := bitLen_le8 x hx
  go_wp2
  go_ret
  refine ⟨?_, rfl⟩
  rw [len8tab_get x hx, IntWalk.wrap64_in _ ⟨by omega, by omega⟩]
  rfl
theorem lead8_any (x : Nat) (hx : x < 256) (w : World) : Calls Try.prog 20 #[.int .u8 x] w fun e w' => e = .returned (.int .i64 (8 - bitLen x : Nat)) ∧ w = w' := by
  have hb := bitLen_le8 x hx
  go_enter Try.func20, Try.ntmps20
  go_wp2_with fail
  refine (len8_any x hx _).mono ?_
  rintro e w' ⟨rfl, rfl⟩
  obtain ⟨n, hn⟩ : ∃ n, n = bitLen x := ⟨_, rfl⟩
  rw [← hn] at hb ⊢
  have hm : ((8 - bitLen x : Nat) : Int) = 8 - (n : Int) := by omega
  clear hn
  go_wp2
  go_ret
  refine ⟨?_, rfl⟩
  rw [hm]
  rfl
set_option maxHeartbeats 1000000 in
theorem kpre_any {a b : List Nat} (ha : KY.Ok a) (hb : KY.Ok b) (w : World) :
    Calls Try.prog 13 #[KV a, KV b] w fun e w' => e = .returned (.int .i64 (KY.pre a b : Nat)) ∧ w.Extends w' := by
  obtain ⟨q, hq⟩ : ∃ q, q = KY.pre a b := ⟨_, rfl⟩
  obtain ⟨d, hd⟩ : ∃ d, d = KY.dist a b := ⟨_, rfl⟩
  have hdk : KY.Ok d := by rw [hd]; exact KY.dist_ok ha hb
  have HC := Lib.hid (show q = KY.lead d by rw [hq, hd]; rfl)
  have HDD := Lib.hid hd
  rw [← hq]
  clear hq hd
  go_enter Try.func13, Try.ntmps13
  go_upto_region 1 with fail
  have HB := Lib.hid (Boxed.made w ha hb)
  generalize hw1 : World.alloc _ _ = w1 at *
  clear hw1
  obtain ⟨s, hs⟩ : ∃ s, s = w.heap.size := ⟨_, rfl⟩
  rw [← hs] at HB ⊢
  clear hs
  have hk1 := HB.out.a.block ha.1
  have hk2 := HB.out.b.block hb.1
  have hi1 := key_info ha.1
  have hi2 := key_info hb.1
  go_wp2_with (first | (refine wpList_load_row rfl 24 (.tmp 2) rfl s rfl 24 (KC a) (0, 0) _ hk1 Try.underlying24 rfl hi1 ?_) | (refine wpList_load_row rfl 24 (.tmp 3) rfl (s + 1) rfl 24 (KC b) (0, 0) _ hk2 Try.underlying24 rfl hi2 ?_) | fail)
  refine (kdist_any ha hb _).mono ?_
  rintro e w2 ⟨rfl, hx⟩
  rw [← HDD.out]
  have HX := Lib.hid (Gr.ext_trans HB.out.ext hx)
  clear hk1 hk2 hi1 hi2 hx HB
  have hdl := hdk.1
  go_wp2_with fail
  go_loopw [10] (fun i wr => ∃ k : Nat, k ≤ 20 ∧ i = .int .i64 k ∧ w2 = wr ∧ q = 8 * k + KY.lead (d.drop k)) (fun i _ => (20 - intOf i).toNat)
  case atStart => exact ⟨0, by omega, rfl, rfl, by rw [HC.out]; simp⟩
  case round =>
    obtain ⟨k, hk, rfl, rfl, hq⟩ := hrel
    by_cases h1 : k < 20
    · have hx := run_key_index hdl k h1
      have hb := hdk.lt k
      have hld := KY.lead_drop (d := d) (k := k) (by omega)
      rw [hld] at hq
      have HQ := Lib.hid hq
      clear hq hld
      generalize d.getD k 0 = x at *
      have h8 := bitLen_le8 x hb
      by_cases h2 : x = 0
      · subst h2
        go_wp2
        go_roundw
        case rel => exact ⟨k + 1, by omega, by go_num, by first | rfl | trivial, by rw [HQ.out]; simp; omega⟩
        case measure => simp [intOf]; omega
      · go_wp2_with fail
        refine (lead8_any x hb _).mono ?_
        rintro e w' ⟨rfl, rfl⟩
        have HQ2 := Lib.hid (show q = 8 * k + (8 - bitLen x) by rw [HQ.out, if_neg h2])
        obtain ⟨n, hn⟩ : ∃ n, n = 8 - bitLen x := ⟨_, rfl⟩
        have hn8 : n ≤ 8 := by omega
        rw [← hn] at HQ2 ⊢
        clear hn h8 HQ
        go_wp2
        go_ret
        rw [HQ2.out]
        refine ⟨?_, HX.out⟩
        show Ending.returned (.int .i64 (8 * (k : Int) + n)) = Ending.returned (.int .i64 ((8 * k + n : Nat) : Int))
        rw [show 8 * (k : Int) + n = ((8 * k + n : Nat) : Int) by omega]
    · have hkk : k = 20 := by omega
      rw [hkk, List.drop_of_length_le (by rw [hdl]; omega)] at hq
      have HQ := Lib.hid (hq.trans (show 8 * 20 + KY.lead [] = 160 by simp [KY.lead]))
      clear hq
      go_wp2
      go_ret
      rw [HQ.out]
      exact ⟨rfl, HX.out⟩
theorem and_bit (x m : Nat) (hx : x < 256) : bits .and .u8 ((x : Int) / 2 ^ m) 1 = ((x / 2 ^ m % 2 : Nat) : Int) := by
  have h := u8_and_nat (x / 2 ^ m) 1 (Nat.lt_of_le_of_lt (Nat.div_le_self _ _) hx) (by decide)
  rw [Nat.and_one_is_mod] at h
  rw [← h, Int.natCast_ediv, Int.natCast_pow]
  rfl
theorem bits_same (x y m : Nat) (hx : x < 256) (hy : y < 256) : (bits .and .u8 ((x : Int) / 2 ^ m) 1 == bits .and .u8 ((y : Int) / 2 ^ m) 1) = decide (x / 2 ^ m % 2 = y / 2 ^ m % 2) := by
  rw [and_bit x m hx, and_bit y m hy, Bool.eq_iff_iff, beq_iff_eq, decide_eq_true_eq]
  omega
set_option maxHeartbeats 1000000 in
theorem rkpre_any {a b : List Nat} (ha : KY.Ok a) (hb : KY.Ok b) (w : World) :
    Calls Try.prog 14 #[KV a, KV b] w fun e w' => e = .returned (.int .i64 (KY.pre a b : Nat)) ∧ w.Extends w' := by
  obtain ⟨q, hq⟩ : ∃ q, q = KY.pre a b := ⟨_, rfl⟩
  have HQ := Lib.hid hq
  have hq160 : q ≤ 160 := by rw [hq]; exact KY.pre_le ha.1 hb.1
  rw [← hq]
  clear hq
  go_enter Try.func14, Try.ntmps14
  go_wp2_with fail
  have HB := Lib.hid (Boxed.made w ha hb)
  generalize hw1 : World.alloc _ _ = w1 at *
  clear hw1
  obtain ⟨s, hs⟩ : ∃ s, s = w.heap.size := ⟨_, rfl⟩
  rw [← hs] at HB ⊢
  clear hs
  go_loopw [5] (fun i wr => ∃ k : Nat, k ≤ q ∧ i = .int .i64 k ∧ w1.Extends wr) (fun i _ => (q - intOf i).toNat)
  case atStart => exact ⟨0, by omega, rfl, Gr.ext_refl _⟩
  case round =>
    obtain ⟨k, hk, rfl, hx⟩ := hrel
    by_cases h1 : k < 160
    · have hc1 := (HB.out.a.ext hx).cell (i := k / 8) (by omega)
      have hc2 := (HB.out.b.ext hx).cell (i := k / 8) (by omega)
      have HX := Lib.hid hx
      have HXW := Lib.hid (Gr.ext_trans HB.out.ext hx)
      have hxa := ha.lt (k / 8)
      have hxb := hb.lt (k / 8)
      have hbs := bits_same (a.getD (k / 8) 0) (b.getD (k / 8) 0) (7 - k % 8) hxa hxb
      have hw1 : IntKind.i64.wrap ((k : Int) / 8) = ((k / 8 : Nat) : Int) := by rw [IntKind.wrap_i64]; omega
      have hw2 : IntKind.i64.wrap (7 - (k : Int).tmod 8) = ((7 - k % 8 : Nat) : Int) := by rw [Int.tmod_eq_emod_of_nonneg (by omega), IntKind.wrap_i64]; omega
      have hw3 : IntKind.u64.wrap ((7 - k % 8 : Nat) : Int) = ((7 - k % 8 : Nat) : Int) := by rw [IntKind.wrap_u64]; omega
      have hi : ((k / 8 : Nat) : Int) < 20 := by omega
      have hm : 7 - k % 8 < 8 := by omega
      have hd : decide ((k : Int) < 160) = true := by simp; omega
      by_cases h2 : k < q
      · have he : decide (a.getD (k / 8) 0 / 2 ^ (7 - k % 8) % 2 = b.getD (k / 8) 0 / 2 ^ (7 - k % 8) % 2) = true :=
          decide_eq_true (KY.pre_bits ha.1 hb.1 k (by rw [← HQ.out]; exact h2))
        rw [he] at hbs
        clear hx he
        generalize a.getD (k / 8) 0 = x at *
        generalize b.getD (k / 8) 0 = y at *
        generalize k / 8 = i at *
        generalize 7 - k % 8 = m at *
        go_wp2_with fail
        refine Gr.region 24 [(false,0),(false,1),(false,2),(false,3),(false,4),(false,5),(false,6),(false,7),(false,8),(false,9),(false,10),(false,11),(false,12),(false,13),(false,14),(false,15),(false,16),(false,17),(false,18),(false,19),(false,20),(false,21),(false,22),(false,23)] (by kernel_rfl) (by kernel_rfl) (fun d _ _ _ _ h => by cases d <;> exact h) ?_
        simp only [Gr.pick, List.getElem?_cons_zero, List.getElem?_cons_succ, List.drop_succ_cons, List.drop_zero]
        iterate 24
          refine Gr.walk_t ?_ (Or.inl ⟨by rfl, ?_⟩) ?_
          rotate_left
          · intro w' hw'
            have hc1' := hw'.cell_of hc1
            have hc2' := hw'.cell_of hc2
            clear hw'
            go_simp
            try with_reducible rfl
          simp only [Act.put, List.setIfInBounds_toArray, List.set_cons_zero, List.set_cons_succ]
        refine Gr.walk_nil ?_
        go_wp2
        go_roundw
        case rel => exact ⟨k + 1, by omega, by go_num, Gr.ext_drew HX.out⟩
        case measure => simp [intOf]; omega
      · have hkq : k = q := by omega
        have he : decide (a.getD (k / 8) 0 / 2 ^ (7 - k % 8) % 2 = b.getD (k / 8) 0 / 2 ^ (7 - k % 8) % 2) = false := by
          have := KY.pre_bit ha hb (by rw [← HQ.out]; omega)
          rw [← HQ.out, ← hkq] at this
          exact decide_eq_false this
        rw [he] at hbs
        have HK := Lib.hid hkq
        clear hx he hkq h2 hk hq160
        generalize a.getD (k / 8) 0 = x at *
        generalize b.getD (k / 8) 0 = y at *
        generalize k / 8 = i at *
        generalize 7 - k % 8 = m at *
        go_wp2_with fail
        refine Gr.region 24 [(false,0),(false,1),(false,2),(false,3),(false,4),(false,5),(false,6),(false,7),(false,8),(false,9),(false,10),(false,11),(false,12),(false,13),(false,14),(false,15),(false,16),(false,17),(false,18),(false,19),(false,20),(false,21),(false,22),(false,23)] (by kernel_rfl) (by kernel_rfl) (fun d _ _ _ _ h => by cases d <;> exact h) ?_
        simp only [Gr.pick, List.getElem?_cons_zero, List.getElem?_cons_succ, List.drop_succ_cons, List.drop_zero]
        iterate 24
          refine Gr.walk_t ?_ (Or.inl ⟨by rfl, ?_⟩) ?_
          rotate_left
          · intro w' hw'
            have hc1' := hw'.cell_of hc1
            have hc2' := hw'.cell_of hc2
            clear hw'
            go_simp
            try with_reducible rfl
          simp only [Act.put, List.setIfInBounds_toArray, List.set_cons_zero, List.set_cons_succ]
        refine Gr.walk_nil ?_
        go_wp2
        go_ret
        rw [← HK.out]
        exact ⟨rfl, Gr.ext_drew HXW.out⟩
    · have hkq : k = q := by omega
      have HK := Lib.hid hkq
      have HXW := Lib.hid (Gr.ext_trans HB.out.ext hx)
      have hd : decide ((k : Int) < 160) = false := by simp; omega
      clear hkq hk hx hq160
      go_wp2_with fail
      refine Gr.region 24 [(false,0),(false,1),(false,2),(false,3),(false,4),(false,5),(false,6),(false,7),(false,8),(false,9),(false,10),(false,11),(false,12),(false,13),(false,14),(false,15),(false,16),(false,17),(false,18),(false,19),(false,20),(false,21),(false,22),(false,23)] (by kernel_rfl) (by kernel_rfl) (fun d _ _ _ _ h => by cases d <;> exact h) ?_
      simp only [Gr.pick, List.getElem?_cons_zero, List.getElem?_cons_succ, List.drop_succ_cons, List.drop_zero]
      iterate 3
        refine Gr.walk_t ?_ (Or.inl ⟨by rfl, ?_⟩) ?_
        rotate_left
        · intro w' hw'
          clear hw'
          go_simp
          try with_reducible rfl
        simp only [Act.put, List.setIfInBounds_toArray, List.set_cons_zero, List.set_cons_succ]
      refine Gr.walk_t _ (Or.inr ⟨by rfl, rfl⟩) ?_
      simp only [Act.put, List.setIfInBounds_toArray, List.set_cons_zero, List.set_cons_succ]
      refine Gr.walk_t _ (Or.inr ⟨by rfl, rfl⟩) ?_
      simp only [Act.put, List.setIfInBounds_toArray, List.set_cons_zero, List.set_cons_succ]
      refine Gr.walk_t _ (Or.inr ⟨by rfl, rfl⟩) ?_
      simp only [Act.put, List.setIfInBounds_toArray, List.set_cons_zero, List.set_cons_succ]
      refine Gr.walk_t _ (Or.inr ⟨by rfl, rfl⟩) ?_
      simp only [Act.put, List.setIfInBounds_toArray, List.set_cons_zero, List.set_cons_succ]
      refine Gr.walk_t _ (Or.inr ⟨by rfl, rfl⟩) ?_
      simp only [Act.put, List.setIfInBounds_toArray, List.set_cons_zero, List.set_cons_succ]
      refine Gr.walk_t _ (Or.inr ⟨by rfl, rfl⟩) ?_
      simp only [Act.put, List.setIfInBounds_toArray, List.set_cons_zero, List.set_cons_succ]
      refine Gr.walk_t _ (Or.inr ⟨by rfl, rfl⟩) ?_
      simp only [Act.put, List.setIfInBounds_toArray, List.set_cons_zero, List.set_cons_succ]
      refine Gr.walk_t _ (Or.inr ⟨by rfl, rfl⟩) ?_
      simp only [Act.put, List.setIfInBounds_toArray, List.set_cons_zero, List.set_cons_succ]
      refine Gr.walk_t _ (Or.inr ⟨by rfl, rfl⟩) ?_
      simp only [Act.put, List.setIfInBounds_toArray, List.set_cons_zero, List.set_cons_succ]
      refine Gr.walk_t _ (Or.inr ⟨by rfl, rfl⟩) ?_
      simp only [Act.put, List.setIfInBounds_toArray, List.set_cons_zero, List.set_cons_succ]
      refine Gr.walk_t _ (Or.inr ⟨by rfl, rfl⟩) ?_
      simp only [Act.put, List.setIfInBounds_toArray, List.set_cons_zero, List.set_cons_succ]
      refine Gr.walk_t _ (Or.inr ⟨by rfl, rfl⟩) ?_
      simp only [Act.put, List.setIfInBounds_toArray, List.set_cons_zero, List.set_cons_succ]
      refine Gr.walk_t _ (Or.inr ⟨by rfl, rfl⟩) ?_
      simp only [Act.put, List.setIfInBounds_toArray, List.set_cons_zero, List.set_cons_succ]
      refine Gr.walk_t _ (Or.inr ⟨by rfl, rfl⟩) ?_
      simp only [Act.put, List.setIfInBounds_toArray, List.set_cons_zero, List.set_cons_succ]
      refine Gr.walk_t _ (Or.inr ⟨by rfl, rfl⟩) ?_
      simp only [Act.put, List.setIfInBounds_toArray, List.set_cons_zero, List.set_cons_succ]
      refine Gr.walk_t _ (Or.inr ⟨by rfl, rfl⟩) ?_
      simp only [Act.put, List.setIfInBounds_toArray, List.set_cons_zero, List.set_cons_succ]
      refine Gr.walk_t _ (Or.inr ⟨by rfl, rfl⟩) ?_
      simp only [Act.put, List.setIfInBounds_toArray, List.set_cons_zero, List.set_cons_succ]
      refine Gr.walk_t _ (Or.inr ⟨by rfl, rfl⟩) ?_
      simp only [Act.put, List.setIfInBounds_toArray, List.set_cons_zero, List.set_cons_succ]
      refine Gr.walk_t _ (Or.inr ⟨by rfl, rfl⟩) ?_
      simp only [Act.put, List.setIfInBounds_toArray, List.set_cons_zero, List.set_cons_succ]
      refine Gr.walk_t _ (Or.inr ⟨by rfl, rfl⟩) ?_
      simp only [Act.put, List.setIfInBounds_toArray, List.set_cons_zero, List.set_cons_succ]
      refine Gr.walk_t _ (Or.inr ⟨by rfl, rfl⟩) ?_
      simp only [Act.put, List.setIfInBounds_toArray, List.set_cons_zero, List.set_cons_succ]
      refine Gr.walk_nil ?_
      go_wp2
      go_ret
      rw [← HK.out]
      exact ⟨rfl, Gr.ext_drew HXW.out⟩
end Go.Proofs.Ytldkmbnidfpcoaa
