/- In one text: BlkRefNew, SplMath, SplNum, SplK, SplKK. -/
import Derived.Test.YtippckajlghimaaGreatDoorRows
import Derived.Deep.DeepCutAuto
import Derived.Test.YtippckajlghimaaGreatDoorM3
import Derived.Test.YtippckajlghimaaGreatDoorM16
/- The reference's NewBlock. -/
namespace Go.Proofs.YtippckajlghimaaGreatDoor
set_option maxRecDepth 20000
open Go.RowKit Go.Deep
set_option linter.unusedVariables false
theorem refNew_bad (size : Int) (a : Option Addr) (n cap : Nat) (w : World) (hm : n ≤ maxLen) (h : size < 1 ∨ 64 < size ∨ n < 1 ∨ 40 < n) :
    Calls Tryz.prog 24 #[.int .i64 size, .slice a n cap] w (NoBlock w 1) := by
  have HP : Hid (NoBlock w 1 (.returned (.tuple #[.pointer none, .int .i64 1])) w) := ⟨rfl, Gr.ext_refl _⟩
  unfold maxLen at hm
  by_cases c1 : size < 1
  rotate_left
  by_cases c2 : 64 < size
  rotate_left
  by_cases c3 : n < 1
  rotate_left
  have c4 : 40 < n := by omega
  all_goals
    clear h
    go_enter Tryz.func24, Tryz.ntmps24
    go_wp2
    go_returns
    exact HP.out
set_option maxHeartbeats 1000000 in
theorem refNew_rows (size : Int) (v : Value) (src : List (List Nat)) (k : Nat) (w : World) (h1 : 1 ≤ size) (h2 : size ≤ 64) (hk : src.length = k) (k1 : 1 ≤ k) (k2 : k ≤ 40) (hv : Rws w v src) (hn : ¬ AllB size src) :
    Calls Tryz.prog 24 #[.int .i64 size, v] w (NoBlock w 10) := by
  have HN := Lib.hid hn
  have HK := Lib.hid hk
  obtain ⟨a, cap, rfl, _⟩ := hv.slice
  have HV := Lib.hid hv.at.2
  rw [hk] at HV ⊢
  clear hk hv hn
  go_enter Tryz.func24, Tryz.ntmps24
  go_wp2_with fail
  go_loopw [7] (fun i wr => ∃ m : Nat, m ≤ k ∧ i = .int .i64 m ∧ Hid (w.Extends wr) ∧ Hid (∀ i, i < m → ((src.getD i []).length : Int) = size)) (fun i _ => (k - intOf i).toNat)
  case atStart => exact ⟨0, by omega, rfl, Lib.hid (Gr.ext_refl _), Lib.hid (fun i hi => absurd hi (Nat.not_lt_zero _))⟩
  case round =>
    obtain ⟨m, hm, rfl, HX, HA⟩ := hrel
    by_cases h5 : m < k
    · obtain ⟨b1, o1, rfl, hb1, hc1⟩ := HV.out (by omega)
      obtain ⟨ra, rc, hc3, hr0⟩ := hc1 m h5
      have hc2 := HX.out.cell_of hc3
      clear hc1 hc3 hr0
      have HA2 : Hid (((src.getD m []).length : Int) = size → ∀ i, i < m + 1 → ((src.getD i []).length : Int) = size) := fun h2 i hi => by
        by_cases e : i = m
        · subst e; exact h2
        · exact HA.out i (by omega)
      generalize (src.getD m []).length = r at *
      by_cases h6 : (r : Int) = size
      · have hne : ((r : Int) != size) = false := by simpa using h6
        have HA3 := Lib.hid (HA2.out h6)
        clear h6 HA2
        go_wp2
        go_roundw
        case rel => exact ⟨m + 1, by omega, by go_num, HX, HA3⟩
        case measure => simp [intOf]; omega
      · have hne : ((r : Int) != size) = true := by simpa using h6
        have HP : Hid (NoBlock w 10 (.returned (.tuple #[.pointer none, .int .i64 10])) wr) := ⟨rfl, HX.out⟩
        clear h6 HA2
        go_wp2
        go_returns
        exact HP.out
    · obtain rfl : m = k := by omega
      exact absurd (fun i hi => HA.out i (by rw [← HK.out]; exact hi)) HN.out
/-- A block of the reference's. -/
def RNew (w : World) (k j size : Nat) (c : List (List Nat)) (e : Ending) (w' : World) : Prop :=
  ∃ b v, e = .returned (.tuple #[.pointer (some ⟨b, 0, none⟩), .int .i64 0]) ∧ w.Extends w' ∧ RAt w' b k j size v ∧ Rws w' v c
set_option maxHeartbeats 1000000 in
set_option maxRecDepth 100000 in
theorem refNew_none (size : Int) (v : Value) (src : List (List Nat)) (k : Nat) (w : World) (h1 : 1 ≤ size) (h2 : size ≤ 64) (hk : src.length = k) (k1 : 1 ≤ k) (k2 : k ≤ 40) (hv : Rws w v src) (hn : AllB size src) (r : Nat) (hs : SM.SeedIs k r 5) :
    Calls Tryz.prog 24 #[.int .i64 size, v] w (NoBlock w 5) := by
  have HF : Hid (∀ w, Calls Tryz.prog 39 #[.int .i64 k] w fun e w' => e = .returned (.tuple #[.int .i64 r, .int .i64 (5 : Nat)]) ∧ w.Extends w') := fun w =>
    (refSeed_some k w k1 k2).mono fun e w' ⟨r', er', he, hr', hx⟩ => by
      obtain ⟨rfl, rfl⟩ := hs.uniq hr'
      exact ⟨he, hx⟩
  have HN := Lib.hid hn
  have HK := Lib.hid hk
  obtain ⟨a, cap, rfl, _⟩ := hv.slice
  have HV := Lib.hid hv.at.2
  rw [hk] at HV ⊢
  clear hk hv hn hs
  go_enter Tryz.func24, Tryz.ntmps24
  go_wp2_with fail
  go_loopw [7] (fun i wr => ∃ m : Nat, m ≤ k ∧ i = .int .i64 m ∧ Hid (w.Extends wr)) (fun i _ => (k - intOf i).toNat)
  case atStart => exact ⟨0, by omega, rfl, Lib.hid (Gr.ext_refl _)⟩
  case round =>
    obtain ⟨m, hm, rfl, HX⟩ := hrel
    by_cases h5 : m < k
    · obtain ⟨b1, o1, rfl, hb1, hc1⟩ := HV.out (by omega)
      obtain ⟨ra, rc, hc3, hr0⟩ := hc1 m h5
      have hc2 := HX.out.cell_of hc3
      clear hc1 hc3 hr0
      have h6 := HN.out m (by rw [HK.out]; exact h5)
      generalize (src.getD m []).length = r at *
      have hne : ((r : Int) != size) = false := by simpa using h6
      clear h6
      go_wp2
      go_roundw
      case rel => exact ⟨m + 1, by omega, by go_num, HX⟩
      case measure => simp [intOf]; omega
    · obtain rfl : m = k := by omega
      go_wp2_with fail
      refine (HF.out wr).mono ?_
      rintro e w4 ⟨rfl, hx4⟩
      have HP : Hid (NoBlock w 5 (.returned (.tuple #[.pointer none, .int .i64 5])) w4) := ⟨rfl, Gr.ext_trans HX.out hx4⟩
      clear hx4
      go_wp2
      go_returns
      exact HP.out
set_option maxHeartbeats 2000000 in
set_option maxRecDepth 100000 in
theorem refNew_some (size : Nat) (v : Value) (src : List (List Nat)) (k : Nat) (w : World) (h1 : 1 ≤ size) (h2 : size ≤ 64) (hk : src.length = k) (k1 : 1 ≤ k) (k2 : k ≤ 40) (hv : Rws w v src) (hn : AllB size src) (j : Nat) (hs : SM.SeedIs k j 0) (c : List (List Nat)) (hc : BM.PartsIs k j size src c) :
    Calls Tryz.prog 24 #[.int .i64 size, v] w (RNew w k j size c) := by
  have hj := hs.lt
  have hg : SM.Good k j := by
    rcases hs with ⟨_, _, h, _⟩ | ⟨h, _⟩
    · exact h
    · cases h
  have hl49 := PM.l_le k k2
  have hl1 : 1 ≤ PM.l k := by unfold PM.l; omega
  have hlt := hv.all_lt
  have HF : Hid (∀ w, Calls Tryz.prog 39 #[.int .i64 k] w fun e w' => e = .returned (.tuple #[.int .i64 j, .int .i64 (0 : Nat)]) ∧ w.Extends w') := fun w =>
    (refSeed_some k w k1 k2).mono fun e w' ⟨r', er', he, hr', hx⟩ => by
      obtain ⟨rfl, rfl⟩ := hs.uniq hr'
      exact ⟨he, hx⟩
  have HL := Lib.hid (fun w => refL_any k w (by omega))
  have HI := Lib.hid (fun w => refFirst_any k w (by omega))
  have HM := Lib.hid (fun v w hv => refMat_of k j v w k1 k2 (by omega) hv)
  have HZ := Lib.hid (fun v w hv => refZero_any k size v src w k2 (by omega) (by omega) hv)
  have HS : Hid (∀ u v w, Rws w u (SM.rows k j) → Rws w v (BM.mixed0 k size src) → Calls Tryz.prog 48 #[.int .i64 (PM.l k), .int .i64 size, u, v] w fun e w' => ∃ x, e = .returned (.tuple #[x, .int .i64 ((0 : Nat) : Int)]) ∧ w.Extends w' ∧ Rws w' x c) := fun u v w hu hv => by
    have hlen : (SM.rows k j).length = PM.l k := BM.rows_l k j
    have hml : (BM.mixed0 k size src).length = PM.s k + 2 + src.length := by simp [BM.mixed0]
    refine (rsolve_good (PM.l k) size u v (SM.rows k j) (BM.mixed0 k size src) w hu hv hl1 (by omega) h1 (by omega) (by rw [hml, hk, hlen]; unfold PM.l PM.w; omega) (by omega)).mono fun e w' ⟨res, x, hres, he, hb, hr⟩ => ?_
    rw [hlen, BM.F_mixed0] at hres
    obtain ⟨c', rfl, hc'⟩ := BM.res_some hg hlt hres
    rw [BM.PartsIs.uniq hlt hc hc']
    exact ⟨x, he, Gr.ext_of hb, hr⟩
  have HOUT : Hid (∀ b v (w' : World), w.Extends w' → RAt w' b k j size v → Rws w' v c → RNew w k j size c (.returned (.tuple #[.pointer (some ⟨b, 0, none⟩), .int .i64 0])) w') := fun b v w' hx hb hr => ⟨b, v, rfl, hx, hb, hr⟩
  have HN := Lib.hid hn
  have HK := Lib.hid hk
  have HRV := Lib.hid hv
  obtain ⟨a, cap, rfl, _⟩ := hv.slice
  have HV := Lib.hid hv.at.2
  rw [hk] at HV HRV ⊢
  clear hk hv hn hs hc hg hlt
  generalize SM.rows k j = rs at *
  generalize BM.mixed0 k size src = mx at *
  generalize PM.l k = L at *
  go_enter Tryz.func24, Tryz.ntmps24
  go_wp2_with fail
  go_loopw [7] (fun i wr => ∃ m : Nat, m ≤ k ∧ i = .int .i64 m ∧ Hid (w.Extends wr)) (fun i _ => (k - intOf i).toNat)
  case atStart => exact ⟨0, by omega, rfl, Lib.hid (Gr.ext_refl _)⟩
  case round =>
    obtain ⟨m, hm, rfl, HX⟩ := hrel
    by_cases h5 : m < k
    · obtain ⟨b1, o1, rfl, hb1, hc1⟩ := HV.out (by omega)
      obtain ⟨ra, rc, hc3, hr0⟩ := hc1 m h5
      have hc2 := HX.out.cell_of hc3
      clear hc1 hc3 hr0
      have h6 := HN.out m (by rw [HK.out]; exact h5)
      generalize (src.getD m []).length = r at *
      have hne : ((r : Int) != (size : Int)) = false := by simpa using h6
      clear h6
      go_wp2
      go_roundw
      case rel => exact ⟨m + 1, by omega, by go_num, HX⟩
      case measure => simp [intOf]; omega
    · obtain rfl : m = k := by omega
      go_wp2_with fail
      refine (HF.out wr).mono ?_
      rintro e w4 ⟨rfl, hx4⟩
      have HX4 := Lib.hid (Gr.ext_trans HX.out hx4)
      clear hx4 HX
      go_wp2_with fail
      refine (HL.out w4).mono ?_
      rintro e w' ⟨rfl, rfl⟩
      go_wp2_with fail
      refine (HI.out w4).mono ?_
      rintro e w5 ⟨vi, rfl, hx5, hvi⟩
      have HX5 := Lib.hid (Gr.ext_trans HX4.out hx5)
      have HVI := Lib.hid hvi
      clear hx5 hvi HX4
      go_wp2_with fail
      refine (HM.out vi w5 HVI.out).mono ?_
      rintro e w6 ⟨um, rfl, hx6, hum⟩
      have HX6 := Lib.hid (Gr.ext_trans HX5.out hx6)
      have HUM := Lib.hid hum
      clear hx6 hum HX5 HVI
      go_wp2_with fail
      refine (HZ.out _ w6 (HRV.out.ext HX6.out)).mono ?_
      rintro e w7 ⟨uz, rfl, hx7, huz⟩
      have HX7 := Lib.hid (Gr.ext_trans HX6.out hx7)
      have HUM7 := Lib.hid (HUM.out.ext hx7)
      have HUZ := Lib.hid huz
      clear hx7 huz HX6 HUM
      go_wp2_with fail
      refine (HS.out um uz w7 HUM7.out HUZ.out).mono ?_
      rintro e w8 ⟨x8, rfl, hx8, hr8⟩
      have HX8 := Lib.hid (Gr.ext_trans HX7.out hx8)
      have HR8 := Lib.hid hr8
      obtain ⟨ua, uc, rfl, _⟩ := hr8.slice
      clear hx8 hr8 HX7 HUM7 HUZ
      go_wp2_with fail
      generalize hw9 : World.alloc w8 _ = w9
      have hx9 : w8.Extends w9 := by subst hw9; exact prm_ext_alloc _ _
      have HP := Lib.hid (HOUT.out w8.heap.size _ w9 (Gr.ext_trans HX8.out hx9) (by subst hw9; exact RAt.new w8 86 m j size _) (HR8.out.ext hx9))
      clear hw9 hx9
      go_returns
      exact HP.out
end Go.Proofs.YtippckajlghimaaGreatDoor
/- How an object is cut: the numbers of symbols and of blocks, the rows of a block, and that what is cut and joined is as it was. -/
namespace Go.Proofs.YtippckajlghimaaGreatDoor
set_option maxRecDepth 20000
set_option linter.unusedVariables false
namespace CM
/-- A right shape. -/
def Right (b s m : Int) : Prop := 1 ≤ b ∧ b ≤ 4000 ∧ 1 ≤ s ∧ s ≤ 64 ∧ 1 ≤ m ∧ m ≤ 40
instance (b s m : Int) : Decidable (Right b s m) := by unfold Right; infer_instance
/-- How many symbols; how many blocks; how many symbols block i has, and how many the blocks ahead of it. -/
def sy (b s : Nat) : Nat := (b - 1) / s + 1
def bl (b s m : Nat) : Nat := (sy b s - 1) / m + 1
def deal (y n i : Nat) : Nat := y / n + (if i < y % n then 1 else 0)
def ahead (y n i : Nat) : Nat := i * (y / n) + min i (y % n)
def kk (b s m i : Nat) : Nat := if i < bl b s m then deal (sy b s) (bl b s m) i else 0
theorem sy_pos (b s : Nat) : 1 ≤ sy b s := Nat.le_add_left _ _
theorem bl_pos (b s m : Nat) : 1 ≤ bl b s m := Nat.le_add_left _ _
theorem sy_le (b s : Nat) (hb : 1 ≤ b) : sy b s ≤ b := by
  have := Nat.div_le_self (b - 1) s
  unfold sy; omega
theorem bl_le (b s m : Nat) : bl b s m ≤ sy b s := by
  have h := Nat.div_le_self (sy b s - 1) m
  have := sy_pos b s
  unfold bl; omega
theorem sy_lo (b s : Nat) (hb : 1 ≤ b) (hs : 1 ≤ s) : (sy b s - 1) * s < b := by
  have := Nat.div_mul_le_self (b - 1) s
  unfold sy
  rw [Nat.add_sub_cancel]; omega
theorem sy_hi (b s : Nat) (hs : 1 ≤ s) : b ≤ sy b s * s := by
  have h := Nat.div_add_mod (b - 1) s
  have h2 := Nat.mod_lt (b - 1) (show s > 0 by omega)
  unfold sy
  rw [Nat.add_mul, Nat.one_mul, Nat.mul_comm]; omega
theorem bl_hi (b s m : Nat) (hm : 1 ≤ m) : sy b s ≤ bl b s m * m := sy_hi (sy b s) m hm
theorem up_eq (b s : Nat) (hb : 1 ≤ b) (hs : 1 ≤ s) : (b + s - 1) / s = sy b s := by
  unfold sy
  rw [show b + s - 1 = (b - 1) + s by omega, Nat.add_div_right _ (by omega)]
theorem deal_pos (y n i : Nat) (hn : 1 ≤ n) (hy : n ≤ y) : 1 ≤ deal y n i := by
  have : 1 ≤ y / n := (Nat.one_le_div_iff (by omega)).2 hy
  unfold deal; omega
theorem deal_le (y n i m : Nat) (hn : 1 ≤ n) (hy : y ≤ n * m) : deal y n i ≤ m := by
  have h := Nat.div_add_mod y n
  unfold deal
  split
  · rename_i hi
    have : y / n < m := by
      rw [Nat.div_lt_iff_lt_mul (by omega)]
      rcases Nat.lt_or_ge y (m * n) with h' | h'
      · exact h'
      · rw [Nat.mul_comm] at h'
        have : y = n * m := by omega
        rw [this, Nat.mul_mod_right] at hi; omega
    omega
  · have := (Nat.div_le_iff_le_mul_add_pred (show 0 < n by omega) (b := n) (a := y) (c := m)).2 (by omega)
    omega
theorem deal_first (y n i : Nat) : deal y n i ≤ deal y n 0 ∧ deal y n 0 ≤ deal y n i + 1 := by
  unfold deal
  split <;> split <;> omega
theorem deal_down (y n i : Nat) : deal y n (i + 1) ≤ deal y n i := by
  unfold deal
  split <;> split <;> omega
theorem ahead_zero (y n : Nat) : ahead y n 0 = 0 := by simp [ahead]
theorem ahead_succ (y n i : Nat) : ahead y n (i + 1) = ahead y n i + deal y n i := by
  unfold ahead deal
  rw [Nat.add_mul, Nat.one_mul]
  split <;> omega
theorem ahead_all (y n : Nat) (hn : 1 ≤ n) : ahead y n n = y := by
  have h := Nat.div_add_mod y n
  have := Nat.mod_lt y (show n > 0 by omega)
  unfold ahead
  rw [Nat.min_eq_right (by omega)]; omega
theorem ahead_mono (y n i : Nat) : ∀ d, ahead y n i ≤ ahead y n (i + d)
  | 0 => Nat.le_refl _
  | d + 1 => by have := ahead_mono y n i d; rw [← Nat.add_assoc, ahead_succ]; omega
theorem ahead_le (y n i : Nat) (hn : 1 ≤ n) (hi : i ≤ n) : ahead y n i ≤ y := by
  have := ahead_mono y n i (n - i)
  rw [show i + (n - i) = n by omega, ahead_all y n hn] at this
  exact this
theorem kk_le (b s m i : Nat) (hm : 1 ≤ m) : kk b s m i ≤ m := by
  unfold kk
  split
  · exact deal_le _ _ _ _ (bl_pos b s m) (bl_hi b s m hm)
  · omega
theorem kk_in (b s m i : Nat) (h : i < bl b s m) : kk b s m i = deal (sy b s) (bl b s m) i := if_pos h
theorem kk_out (b s m i : Nat) (h : ¬ i < bl b s m) : kk b s m i = 0 := if_neg h
/-- Symbol i of size bytes: bytes 0 behind the data. -/
def sym (s : Nat) (xs : List Nat) (i : Nat) : List Nat := (List.range s).map fun x => xs.getD (i * s + x) 0
def blk (s : Nat) (xs : List Nat) (a k : Nat) : List (List Nat) := (List.range k).map fun i => sym s xs (a + i)
def cut (b s m : Nat) (xs : List Nat) : List (List (List Nat)) := (List.range (bl b s m)).map fun i => blk s xs (ahead (sy b s) (bl b s m) i) (kk b s m i)
theorem sym_length (s : Nat) (xs : List Nat) (i : Nat) : (sym s xs i).length = s := by simp [sym]
theorem sym_at (s : Nat) (xs : List Nat) (i x : Nat) (hx : x < s) : (sym s xs i).getD x 0 = xs.getD (i * s + x) 0 := by simp [sym, hx]
theorem sym_lt (s : Nat) (xs : List Nat) (i : Nat) (h : ∀ x ∈ xs, x < 256) : ∀ x ∈ sym s xs i, x < 256 := by
  intro x hx
  obtain ⟨j, hj, rfl⟩ := List.mem_map.1 hx
  by_cases hl : i * s + j < xs.length
  · rw [List.getD_eq_getElem?_getD, List.getElem?_eq_getElem hl]; exact h _ (List.getElem_mem hl)
  · rw [List.getD_eq_getElem?_getD, List.getElem?_eq_none (by omega)]; decide
theorem blk_length (s : Nat) (xs : List Nat) (a k : Nat) : (blk s xs a k).length = k := by simp [blk]
theorem blk_zero (s : Nat) (xs : List Nat) (a : Nat) : blk s xs a 0 = [] := rfl
theorem blk_snoc (s : Nat) (xs : List Nat) (a k : Nat) : blk s xs a k ++ [sym s xs (a + k)] = blk s xs a (k + 1) := by
  unfold blk; rw [List.range_succ, List.map_append]; rfl
theorem blk_at (s : Nat) (xs : List Nat) (a k i : Nat) (hi : i < k) : (blk s xs a k).getD i [] = sym s xs (a + i) := by simp [blk, hi]
theorem cut_length (b s m : Nat) (xs : List Nat) : (cut b s m xs).length = bl b s m := by simp [cut]
theorem cut_at (b s m : Nat) (xs : List Nat) (i : Nat) (hi : i < bl b s m) : (cut b s m xs).getD i [] = blk s xs (ahead (sy b s) (bl b s m) i) (kk b s m i) := by simp [cut, hi]
/-- The first i blocks. -/
theorem cut_snoc (b s m : Nat) (xs : List Nat) (i : Nat) (hi : i < bl b s m) :
    (cut b s m xs).take i ++ [blk s xs (ahead (sy b s) (bl b s m) i) (kk b s m i)] = (cut b s m xs).take (i + 1) := by
  rw [List.take_succ_eq_append_getElem (by rw [cut_length]; exact hi)]
  congr 2
  have := cut_at b s m xs i hi
  rw [List.getD_eq_getElem?_getD, List.getElem?_eq_getElem (by rw [cut_length]; exact hi)] at this
  exact this.symm
/-- All rows, one behind the other. -/
def flat (l : List (List (List Nat))) : List Nat := l.flatten.flatten
/-- Whether blocks have a shape. -/
def Fit (b s m : Nat) (l : List (List (List Nat))) : Prop := l.length = bl b s m ∧ ∀ i, i < l.length → (l.getD i []).length = kk b s m i ∧ ∀ j, j < (l.getD i []).length → ((l.getD i []).getD j []).length = s
theorem flat_nil : flat [] = [] := rfl
theorem flat_snoc (l : List (List (List Nat))) (r : List (List Nat)) : flat (l ++ [r]) = flat l ++ r.flatten := by simp [flat]
theorem flatten_snoc (l : List (List Nat)) (r : List Nat) : (l ++ [r]).flatten = l.flatten ++ r := by simp
theorem flatten_length (s : Nat) : ∀ (l : List (List Nat)), (∀ j, j < l.length → (l.getD j []).length = s) → l.flatten.length = l.length * s
  | [], _ => by simp
  | r :: l, h => by
    have h0 := h 0 (by simp)
    have ih := flatten_length s l fun j hj => by have := h (j + 1) (by simp; omega); simpa using this
    have h0' : r.length = s := by simpa using h0
    rw [List.flatten_cons, List.length_append, ih, List.length_cons, Nat.add_mul, h0', Nat.one_mul, Nat.add_comm]
/-- The bytes of the blocks ahead. -/
theorem flat_length (b s m : Nat) (l : List (List (List Nat))) (h : Fit b s m l) : ∀ i, i ≤ l.length → (flat (l.take i)).length = ahead (sy b s) (bl b s m) i * s
  | 0, _ => by rw [ahead_zero]; simp [flat]
  | i + 1, hi => by
    have ih := flat_length b s m l h i (by omega)
    have hfi := h.2 i (by omega)
    have e : l.take (i + 1) = l.take i ++ [l.getD i []] := by rw [List.take_succ_eq_append_getElem (by omega)]; simp [show i < l.length by omega]
    rw [e, flat_snoc, List.length_append, ih, flatten_length s _ hfi.2, hfi.1, kk_in _ _ _ _ (by rw [← h.1]; omega), ahead_succ, Nat.add_mul]
theorem flat_all (b s m : Nat) (l : List (List (List Nat))) (h : Fit b s m l) : (flat l).length = sy b s * s := by
  have := flat_length b s m l h l.length (Nat.le_refl _)
  rw [List.take_length, h.1, ahead_all _ _ (bl_pos b s m)] at this
  exact this
theorem cut_fit (b s m : Nat) (xs : List Nat) : Fit b s m (cut b s m xs) := by
  refine ⟨cut_length _ _ _ _, fun i hi => ?_⟩
  rw [cut_length] at hi
  rw [cut_at _ _ _ _ _ hi]
  refine ⟨blk_length _ _ _ _, fun j hj => ?_⟩
  rw [blk_length] at hj
  rw [blk_at _ _ _ _ _ hj, sym_length]
/-- The data with bytes 0 behind, to n bytes. -/
def pad (n : Nat) (xs : List Nat) : List Nat := (List.range n).map fun i => xs.getD i 0
theorem pad_length (n : Nat) (xs : List Nat) : (pad n xs).length = n := by simp [pad]
theorem pad_at (n : Nat) (xs : List Nat) (i : Nat) (h : i < n) : (pad n xs).getD i 0 = xs.getD i 0 := by simp [pad, h]
theorem list_eq {xs ys : List Nat} (hl : xs.length = ys.length) (h : ∀ i, i < xs.length → xs.getD i 0 = ys.getD i 0) : xs = ys := by
  apply List.ext_getElem hl
  intro i h1 h2
  have := h i h1
  simpa [h1, h2] using this
theorem pad_sym (s : Nat) (xs : List Nat) (n : Nat) : pad (n * s) xs ++ sym s xs n = pad ((n + 1) * s) xs := by
  refine list_eq (by rw [List.length_append, pad_length, pad_length, sym_length, Nat.add_mul, Nat.one_mul]) fun i hi => ?_
  rw [List.length_append, pad_length, sym_length] at hi
  rw [pad_at _ _ _ (by rw [Nat.add_mul, Nat.one_mul]; exact hi)]
  by_cases h : i < n * s
  · rw [List.getD_eq_getElem?_getD, List.getElem?_append_left (by rw [pad_length]; exact h), ← List.getD_eq_getElem?_getD, pad_at _ _ _ h]
  · rw [List.getD_eq_getElem?_getD, List.getElem?_append_right (by rw [pad_length]; omega), ← List.getD_eq_getElem?_getD, pad_length, sym_at _ _ _ _ (by omega), show n * s + (i - n * s) = i by omega]
theorem pad_blk (s : Nat) (xs : List Nat) (a : Nat) : ∀ k, pad (a * s) xs ++ (blk s xs a k).flatten = pad ((a + k) * s) xs
  | 0 => by simp [blk]
  | k + 1 => by rw [← blk_snoc, flatten_snoc, ← List.append_assoc, pad_blk s xs a k, pad_sym, Nat.add_assoc]
theorem pad_cut (b s m : Nat) (xs : List Nat) : ∀ i, i ≤ bl b s m → flat ((cut b s m xs).take i) = pad (ahead (sy b s) (bl b s m) i * s) xs
  | 0, _ => by rw [ahead_zero]; simp [flat, pad]
  | i + 1, h => by
    rw [← cut_snoc _ _ _ _ _ (by omega), flat_snoc, pad_cut b s m xs i (by omega), pad_blk, ahead_succ, kk_in _ _ _ _ (by omega)]
theorem flat_cut (b s m : Nat) (xs : List Nat) : flat (cut b s m xs) = pad (sy b s * s) xs := by
  have := pad_cut b s m xs _ (Nat.le_refl _)
  rw [← cut_length b s m xs, List.take_length, cut_length, ahead_all _ _ (bl_pos b s m)] at this
  exact this
/-- What is cut and joined is as it was. -/
theorem join_cut (s m : Nat) (xs : List Nat) (hs : 1 ≤ s) : (flat (cut xs.length s m xs)).take xs.length = xs := by
  have hh := sy_hi xs.length s hs
  rw [flat_cut]
  have hl : ((pad (sy xs.length s * s) xs).take xs.length).length = xs.length := by rw [List.length_take, pad_length]; omega
  refine list_eq hl fun i hi => ?_
  rw [hl] at hi
  rw [List.getD_eq_getElem?_getD, List.getElem?_take, if_pos hi, ← List.getD_eq_getElem?_getD, pad_at _ _ _ (by omega)]
instance fitDec (b s m : Nat) (l : List (List (List Nat))) : Decidable (Fit b s m l) := by unfold Fit; infer_instance
end CM
end Go.Proofs.YtippckajlghimaaGreatDoor
/- Package split and the reference: Right, Symbols, Blocks, K. -/
namespace Go.Proofs.YtippckajlghimaaGreatDoor
set_option maxRecDepth 20000
open Go.RowKit
set_option linter.unusedVariables false
theorem within_yes (n m : Int) (w : World) (h1 : 1 ≤ n) (h2 : n ≤ m) :
    Calls Tryz.prog 53 #[.int .i64 n, .int .i64 m] w fun e w' => e = .returned (.bool true) ∧ w = w' := by
  go_enter Tryz.func53, Tryz.ntmps53
  go_wp2
  go_ret
  exact ⟨rfl, rfl⟩
theorem within_no (n m : Int) (w : World) (h : n < 1 ∨ m < n) :
    Calls Tryz.prog 53 #[.int .i64 n, .int .i64 m] w fun e w' => e = .returned (.bool false) ∧ w = w' := by
  by_cases h1 : n < 1
  · have h1' : decide ((n : Int) ≥ 1) = false := by simp; omega
    go_enter Tryz.func53, Tryz.ntmps53
    go_wp2
    go_ret
    exact ⟨rfl, rfl⟩
  · have h2 : decide (n ≤ m) = false := by simp; omega
    go_enter Tryz.func53, Tryz.ntmps53
    go_wp2
    go_ret
    exact ⟨rfl, rfl⟩
theorem up_any (b s : Nat) (w : World) (hb : b ≤ 10000) (hs : 1 ≤ s) (hs2 : s ≤ 10000) :
    Calls Tryz.prog 54 #[.int .i64 b, .int .i64 s] w fun e w' => e = .returned (.int .i64 ((b + s - 1) / s : Nat)) ∧ w = w' := by
  obtain ⟨q, hq⟩ : ∃ q, q = (b + s - 1) / s := ⟨_, rfl⟩
  have hi : (((b : Int) + s - 1) / s : Int) = q := by
    rw [hq, Int.natCast_ediv, show ((b + s - 1 : Nat) : Int) = (b : Int) + s - 1 by omega]
  rw [← hq]
  go_enter Tryz.func54, Tryz.ntmps54
  go_wp2
  go_ret
  exact ⟨pret64 hi, rfl⟩
theorem right_yes (b s m : Int) (w : World) (h : CM.Right b s m) :
    Calls Tryz.prog 29 #[PV b s m] w fun e w' => e = .returned (.bool true) ∧ w.Extends w' := by
  obtain ⟨h1, h2, h3, h4, h5, h6⟩ := h
  go_enter Tryz.func29, Tryz.ntmps29
  go_wp2_with fail
  generalize hw1 : World.alloc w _ = w1
  have hx1 : w.Extends w1 := by subst hw1; exact prm_ext_alloc _ _
  have hp : PAt w1 w.heap.size b s m := by subst hw1; exact PAt.new w 23 b s m
  generalize w.heap.size = g at hp ⊢
  clear hw1
  have HX1 := Lib.hid hx1
  have hb1 := hp.lt
  have HP1 := Lib.hid hp
  obtain ⟨p0, p1, p2⟩ := hp
  clear hx1
  refine (within_yes b 4000 w1 h1 h2).mono ?_
  rintro e w2 ⟨rfl, rfl⟩
  go_wp2_with fail
  refine (within_yes s 64 w1 h3 h4).mono ?_
  rintro e w2 ⟨rfl, rfl⟩
  go_wp2_with fail
  refine (within_yes m 40 w1 h5 h6).mono ?_
  rintro e w2 ⟨rfl, rfl⟩
  go_wp2
  go_ret
  exact ⟨by rfl, HX1.out⟩
theorem right_no (b s m : Int) (w : World) (h : ¬ CM.Right b s m) :
    Calls Tryz.prog 29 #[PV b s m] w fun e w' => e = .returned (.bool false) ∧ w.Extends w' := by
  unfold CM.Right at h
  go_enter Tryz.func29, Tryz.ntmps29
  go_wp2_with fail
  generalize hw1 : World.alloc w _ = w1
  have hx1 : w.Extends w1 := by subst hw1; exact prm_ext_alloc _ _
  have hp : PAt w1 w.heap.size b s m := by subst hw1; exact PAt.new w 23 b s m
  generalize w.heap.size = g at hp ⊢
  clear hw1
  have HX1 := Lib.hid hx1
  have hb1 := hp.lt
  have HP1 := Lib.hid hp
  obtain ⟨p0, p1, p2⟩ := hp
  clear hx1
  by_cases c1 : b < 1 ∨ 4000 < b
  · clear h
    refine (within_no b 4000 w1 c1).mono ?_
    rintro e w2 ⟨rfl, rfl⟩
    go_wp2
    go_ret
    exact ⟨by rfl, HX1.out⟩
  · refine (within_yes b 4000 w1 (by omega) (by omega)).mono ?_
    rintro e w2 ⟨rfl, rfl⟩
    go_wp2_with fail
    by_cases c2 : s < 1 ∨ 64 < s
    · clear h
      refine (within_no s 64 w1 c2).mono ?_
      rintro e w2 ⟨rfl, rfl⟩
      go_wp2
      go_ret
      exact ⟨by rfl, HX1.out⟩
    · refine (within_yes s 64 w1 (by omega) (by omega)).mono ?_
      rintro e w2 ⟨rfl, rfl⟩
      go_wp2_with fail
      refine (within_no m 40 w1 (by omega)).mono ?_
      rintro e w2 ⟨rfl, rfl⟩
      go_wp2
      go_ret
      exact ⟨by rfl, HX1.out⟩
theorem rright_yes (b s m : Int) (w : World) (h : CM.Right b s m) :
    Calls Tryz.prog 35 #[PV b s m] w fun e w' => e = .returned (.bool true) ∧ w.Extends w' := by
  obtain ⟨h1, h2, h3, h4, h5, h6⟩ := h
  go_enter Tryz.func35, Tryz.ntmps35
  go_upto_region 1 with fail
  generalize hw1 : World.alloc w _ = w1
  have hx1 : w.Extends w1 := by subst hw1; exact prm_ext_alloc _ _
  have hp : PAt w1 w.heap.size b s m := by subst hw1; exact PAt.new w 23 b s m
  generalize w.heap.size = g at hp ⊢
  clear hw1
  have HX1 := Lib.hid hx1
  have hb1 := hp.lt
  have HP1 := Lib.hid hp
  obtain ⟨p0, p1, p2⟩ := hp
  clear hx1
  go_wp2
  go_ret
  exact ⟨by rfl, HX1.out⟩
theorem rright_no (b s m : Int) (w : World) (h : ¬ CM.Right b s m) :
    Calls Tryz.prog 35 #[PV b s m] w fun e w' => e = .returned (.bool false) ∧ w.Extends w' := by
  unfold CM.Right at h
  go_enter Tryz.func35, Tryz.ntmps35
  go_upto_region 1 with fail
  generalize hw1 : World.alloc w _ = w1
  have hx1 : w.Extends w1 := by subst hw1; exact prm_ext_alloc _ _
  have hp : PAt w1 w.heap.size b s m := by subst hw1; exact PAt.new w 23 b s m
  generalize w.heap.size = g at hp ⊢
  clear hw1
  have HX1 := Lib.hid hx1
  have hb1 := hp.lt
  have HP1 := Lib.hid hp
  obtain ⟨p0, p1, p2⟩ := hp
  clear hx1
  by_cases c1 : b < 1
  · have d1 : decide (b ≥ 1) = false := by simp; omega
    clear h c1
    go_wp2
    go_ret
    exact ⟨by rfl, HX1.out⟩
  by_cases c2 : 4000 < b
  · have d1 : decide (b ≤ 4000) = false := by simp; omega
    clear h c2
    go_wp2
    go_ret
    exact ⟨by rfl, HX1.out⟩
  by_cases c3 : s < 1
  · have d1 : decide (s ≥ 1) = false := by simp; omega
    clear h c3
    go_wp2
    go_ret
    exact ⟨by rfl, HX1.out⟩
  by_cases c4 : 64 < s
  · have d1 : decide (s ≤ 64) = false := by simp; omega
    clear h c4
    go_wp2
    go_ret
    exact ⟨by rfl, HX1.out⟩
  by_cases c5 : m < 1
  · have d1 : decide (m ≥ 1) = false := by simp; omega
    clear h c5
    go_wp2
    go_ret
    exact ⟨by rfl, HX1.out⟩
  have c6 : 40 < m := by omega
  have d1 : decide (m ≤ 40) = false := by simp; omega
  clear h c6
  go_wp2
  go_ret
  exact ⟨by rfl, HX1.out⟩
end Go.Proofs.YtippckajlghimaaGreatDoor
/- Package split and the reference: Symbols, Blocks, K. -/
namespace Go.Proofs.YtippckajlghimaaGreatDoor
set_option maxRecDepth 20000
open Go.RowKit
set_option linter.unusedVariables false
theorem CM.right_of {b s m : Nat} (h : CM.Right b s m) : 1 ≤ b ∧ b ≤ 4000 ∧ 1 ≤ s ∧ s ≤ 64 ∧ 1 ≤ m ∧ m ≤ 40 := by obtain ⟨h1, h2, h3, h4, h5, h6⟩ := h; omega
theorem sym_no (b s m : Int) (w : World) (h : ¬ CM.Right b s m) :
    Calls Tryz.prog 55 #[PV b s m] w fun e w' => e = .returned (.int .i64 (0 : Nat)) ∧ w.Extends w' := by
  go_enter Tryz.func55, Tryz.ntmps55
  go_wp2_with fail
  generalize hw1 : World.alloc w _ = w1
  have hx1 : w.Extends w1 := by subst hw1; exact prm_ext_alloc _ _
  have hp : PAt w1 w.heap.size b s m := by subst hw1; exact PAt.new w 23 b s m
  generalize w.heap.size = g at hp ⊢
  clear hw1
  have HX1 := Lib.hid hx1
  have HP1 := Lib.hid hp
  have hb1 := hp.lt
  obtain ⟨p0, p1, p2⟩ := hp
  clear hx1
  refine (right_no b s m w1 h).mono ?_
  rintro e w2 ⟨rfl, hx⟩
  have HX2 := Lib.hid (Gr.ext_trans HX1.out hx)
  have HP2 := Lib.hid (HP1.out.ext hx)
  have hb2 := HP2.out.lt
  clear p0 p1 p2 hx
  obtain ⟨p0, p1, p2⟩ := HP2.out
  go_wp2
  go_ret
  exact ⟨by rfl, HX2.out⟩
theorem sym_yes (b s m : Nat) (w : World) (h : CM.Right b s m) :
    Calls Tryz.prog 55 #[PV b s m] w fun e w' => e = .returned (.int .i64 (CM.sy b s : Nat)) ∧ w.Extends w' := by
  obtain ⟨h1, h2, h3, h4, h5, h6⟩ := CM.right_of h
  have HU := Lib.hid (CM.up_eq b s h1 h3)
  have hyl := CM.sy_le b s h1
  have hyp := CM.sy_pos b s
  have HS : Hid (((b : Int) - 1) / s + 1 = (CM.sy b s : Nat)) := by
    show _ = _
    unfold CM.sy
    rw [Int.natCast_add, Int.natCast_ediv, show ((b - 1 : Nat) : Int) = (b : Int) - 1 by omega]; rfl
  generalize CM.sy b s = y at *
  have HR := Lib.hid h
  clear h
  go_enter Tryz.func55, Tryz.ntmps55
  go_wp2_with fail
  generalize hw1 : World.alloc w _ = w1
  have hx1 : w.Extends w1 := by subst hw1; exact prm_ext_alloc _ _
  have hp : PAt w1 w.heap.size b s m := by subst hw1; exact PAt.new w 23 b s m
  generalize w.heap.size = g at hp ⊢
  clear hw1
  have HX1 := Lib.hid hx1
  have HP1 := Lib.hid hp
  have hb1 := hp.lt
  obtain ⟨p0, p1, p2⟩ := hp
  clear hx1
  refine (right_yes b s m w1 HR.out).mono ?_
  rintro e w2 ⟨rfl, hx⟩
  have HX2 := Lib.hid (Gr.ext_trans HX1.out hx)
  have HP2 := Lib.hid (HP1.out.ext hx)
  have hb2 := HP2.out.lt
  clear p0 p1 p2 hx
  obtain ⟨p0, p1, p2⟩ := HP2.out
  go_wp2_with fail
  refine (up_any b s w2 (by omega) h3 (by omega)).mono ?_
  rintro e w3 ⟨rfl, rfl⟩
  rw [HU.out]
  go_wp2
  go_ret
  exact ⟨by rfl, HX2.out⟩
theorem rsym_no (b s m : Int) (w : World) (h : ¬ CM.Right b s m) :
    Calls Tryz.prog 38 #[PV b s m] w fun e w' => e = .returned (.int .i64 (0 : Nat)) ∧ w.Extends w' := by
  go_enter Tryz.func38, Tryz.ntmps38
  go_wp2_with fail
  generalize hw1 : World.alloc w _ = w1
  have hx1 : w.Extends w1 := by subst hw1; exact prm_ext_alloc _ _
  have hp : PAt w1 w.heap.size b s m := by subst hw1; exact PAt.new w 23 b s m
  generalize w.heap.size = g at hp ⊢
  clear hw1
  have HX1 := Lib.hid hx1
  have HP1 := Lib.hid hp
  have hb1 := hp.lt
  obtain ⟨p0, p1, p2⟩ := hp
  clear hx1
  refine (rright_no b s m w1 h).mono ?_
  rintro e w2 ⟨rfl, hx⟩
  have HX2 := Lib.hid (Gr.ext_trans HX1.out hx)
  have HP2 := Lib.hid (HP1.out.ext hx)
  have hb2 := HP2.out.lt
  clear p0 p1 p2 hx
  obtain ⟨p0, p1, p2⟩ := HP2.out
  go_wp2
  go_ret
  exact ⟨by rfl, HX2.out⟩
theorem rsym_yes (b s m : Nat) (w : World) (h : CM.Right b s m) :
    Calls Tryz.prog 38 #[PV b s m] w fun e w' => e = .returned (.int .i64 (CM.sy b s : Nat)) ∧ w.Extends w' := by
  obtain ⟨h1, h2, h3, h4, h5, h6⟩ := CM.right_of h
  have HU := Lib.hid (CM.up_eq b s h1 h3)
  have hyl := CM.sy_le b s h1
  have hyp := CM.sy_pos b s
  have HS : Hid (((b : Int) - 1) / s + 1 = (CM.sy b s : Nat)) := by
    show _ = _
    unfold CM.sy
    rw [Int.natCast_add, Int.natCast_ediv, show ((b - 1 : Nat) : Int) = (b : Int) - 1 by omega]; rfl
  generalize CM.sy b s = y at *
  have HR := Lib.hid h
  clear h
  go_enter Tryz.func38, Tryz.ntmps38
  go_wp2_with fail
  generalize hw1 : World.alloc w _ = w1
  have hx1 : w.Extends w1 := by subst hw1; exact prm_ext_alloc _ _
  have hp : PAt w1 w.heap.size b s m := by subst hw1; exact PAt.new w 23 b s m
  generalize w.heap.size = g at hp ⊢
  clear hw1
  have HX1 := Lib.hid hx1
  have HP1 := Lib.hid hp
  have hb1 := hp.lt
  obtain ⟨p0, p1, p2⟩ := hp
  clear hx1
  refine (rright_yes b s m w1 HR.out).mono ?_
  rintro e w2 ⟨rfl, hx⟩
  have HX2 := Lib.hid (Gr.ext_trans HX1.out hx)
  have HP2 := Lib.hid (HP1.out.ext hx)
  have hb2 := HP2.out.lt
  clear p0 p1 p2 hx
  obtain ⟨p0, p1, p2⟩ := HP2.out
  have hdv : ((s : Int) == 0) = false := by simp; omega
  go_wp2
  go_ret
  exact ⟨pret64 (by rw [HS.out]; exact IntWalk.wrap64_in _ ⟨by omega, by omega⟩), HX2.out⟩
theorem blocks_no (b s m : Int) (w : World) (h : ¬ CM.Right b s m) :
    Calls Tryz.prog 30 #[PV b s m] w fun e w' => e = .returned (.int .i64 (0 : Nat)) ∧ w.Extends w' := by
  go_enter Tryz.func30, Tryz.ntmps30
  go_wp2_with fail
  generalize hw1 : World.alloc w _ = w1
  have hx1 : w.Extends w1 := by subst hw1; exact prm_ext_alloc _ _
  have hp : PAt w1 w.heap.size b s m := by subst hw1; exact PAt.new w 23 b s m
  generalize w.heap.size = g at hp ⊢
  clear hw1
  have HX1 := Lib.hid hx1
  have HP1 := Lib.hid hp
  have hb1 := hp.lt
  obtain ⟨p0, p1, p2⟩ := hp
  clear hx1
  refine (right_no b s m w1 h).mono ?_
  rintro e w2 ⟨rfl, hx⟩
  have HX2 := Lib.hid (Gr.ext_trans HX1.out hx)
  have HP2 := Lib.hid (HP1.out.ext hx)
  have hb2 := HP2.out.lt
  clear p0 p1 p2 hx
  obtain ⟨p0, p1, p2⟩ := HP2.out
  go_wp2
  go_ret
  exact ⟨by rfl, HX2.out⟩
theorem blocks_yes (b s m : Nat) (w : World) (h : CM.Right b s m) :
    Calls Tryz.prog 30 #[PV b s m] w fun e w' => e = .returned (.int .i64 (CM.bl b s m : Nat)) ∧ w.Extends w' := by
  obtain ⟨h1, h2, h3, h4, h5, h6⟩ := CM.right_of h
  have HY := Lib.hid (fun w => sym_yes b s m w h)
  have hyl := CM.sy_le b s h1
  have hyp := CM.sy_pos b s
  have HU : Hid ((CM.sy b s + m - 1) / m = CM.bl b s m) := CM.up_eq (CM.sy b s) m hyp h5
  have hnl := CM.bl_le b s m
  have hnp := CM.bl_pos b s m
  have HS : Hid (((CM.sy b s : Int) - 1) / m + 1 = (CM.bl b s m : Nat)) := by
    show _ = _
    unfold CM.bl
    rw [Int.natCast_add, Int.natCast_ediv, show ((CM.sy b s - 1 : Nat) : Int) = (CM.sy b s : Int) - 1 by omega]; rfl
  generalize CM.bl b s m = n at *
  generalize CM.sy b s = y at *
  have HR := Lib.hid h
  clear h
  go_enter Tryz.func30, Tryz.ntmps30
  go_wp2_with fail
  generalize hw1 : World.alloc w _ = w1
  have hx1 : w.Extends w1 := by subst hw1; exact prm_ext_alloc _ _
  have hp : PAt w1 w.heap.size b s m := by subst hw1; exact PAt.new w 23 b s m
  generalize w.heap.size = g at hp ⊢
  clear hw1
  have HX1 := Lib.hid hx1
  have HP1 := Lib.hid hp
  have hb1 := hp.lt
  obtain ⟨p0, p1, p2⟩ := hp
  clear hx1
  refine (right_yes b s m w1 HR.out).mono ?_
  rintro e w2 ⟨rfl, hx⟩
  have HX2 := Lib.hid (Gr.ext_trans HX1.out hx)
  have HP2 := Lib.hid (HP1.out.ext hx)
  have hb2 := HP2.out.lt
  clear p0 p1 p2 hx
  obtain ⟨p0, p1, p2⟩ := HP2.out
  have HC : Hid (∀ w', w2.drew.Extends w' → w'.cell? ⟨g, 0, none⟩ = some (.int .i64 b) ∧ w'.cell? ⟨g, 1, none⟩ = some (.int .i64 s) ∧ w'.cell? ⟨g, 2, none⟩ = some (.int .i64 m)) := fun w' hw' => HP2.out.ext (Gr.of_drew hw')
  go_upto_region 3 with fail
  clear p0 p1 p2
  refine Gr.region 4 [(false,0),(false,2),(false,3),(true,1)] (by kernel_rfl) (by kernel_rfl) (fun d _ _ _ _ h => by cases d <;> exact h) ?_
  simp only [Gr.pick, List.getElem?_cons_zero, List.getElem?_cons_succ, List.drop_succ_cons, List.drop_zero]
  have HX3 := Lib.hid (Gr.ext_drew HX2.out)
  generalize w2.drew = w3 at *
  iterate 3
    refine Gr.walk_t ?_ (Or.inl ⟨by rfl, ?_⟩) ?_
    rotate_left
    · intro w' hw'
      obtain ⟨c0, c1, c2⟩ := HC.out w' hw'
      clear hw'
      go_simp
      try with_reducible rfl
    simp only [Act.put, List.setIfInBounds_toArray, List.set_cons_zero, List.set_cons_succ]
  refine Gr.walk_c (fun K hK => ?_)
  go_simp
  refine (HY.out w3).mono ?_
  rintro e w4 ⟨rfl, hx⟩
  have HX4 := Lib.hid (Gr.ext_trans HX3.out hx)
  try go_simp
  refine hK.out _ _ (hx) ?_
  clear hK K
  refine Gr.walk_nil ?_
  go_wp2_with fail
  refine (up_any y m w4 (by omega) h5 (by omega)).mono ?_
  rintro e w5 ⟨rfl, rfl⟩
  rw [HU.out]
  go_wp2
  go_ret
  exact ⟨by rfl, HX4.out⟩
theorem rblocks_no (b s m : Int) (w : World) (h : ¬ CM.Right b s m) :
    Calls Tryz.prog 18 #[PV b s m] w fun e w' => e = .returned (.int .i64 (0 : Nat)) ∧ w.Extends w' := by
  go_enter Tryz.func18, Tryz.ntmps18
  go_wp2_with fail
  generalize hw1 : World.alloc w _ = w1
  have hx1 : w.Extends w1 := by subst hw1; exact prm_ext_alloc _ _
  have hp : PAt w1 w.heap.size b s m := by subst hw1; exact PAt.new w 23 b s m
  generalize w.heap.size = g at hp ⊢
  clear hw1
  have HX1 := Lib.hid hx1
  have HP1 := Lib.hid hp
  have hb1 := hp.lt
  obtain ⟨p0, p1, p2⟩ := hp
  clear hx1
  refine (rright_no b s m w1 h).mono ?_
  rintro e w2 ⟨rfl, hx⟩
  have HX2 := Lib.hid (Gr.ext_trans HX1.out hx)
  have HP2 := Lib.hid (HP1.out.ext hx)
  have hb2 := HP2.out.lt
  clear p0 p1 p2 hx
  obtain ⟨p0, p1, p2⟩ := HP2.out
  go_wp2
  go_ret
  exact ⟨by rfl, HX2.out⟩
theorem rblocks_yes (b s m : Nat) (w : World) (h : CM.Right b s m) :
    Calls Tryz.prog 18 #[PV b s m] w fun e w' => e = .returned (.int .i64 (CM.bl b s m : Nat)) ∧ w.Extends w' := by
  obtain ⟨h1, h2, h3, h4, h5, h6⟩ := CM.right_of h
  have HY := Lib.hid (fun w => rsym_yes b s m w h)
  have hyl := CM.sy_le b s h1
  have hyp := CM.sy_pos b s
  have HU : Hid ((CM.sy b s + m - 1) / m = CM.bl b s m) := CM.up_eq (CM.sy b s) m hyp h5
  have hnl := CM.bl_le b s m
  have hnp := CM.bl_pos b s m
  have HS : Hid (((CM.sy b s : Int) - 1) / m + 1 = (CM.bl b s m : Nat)) := by
    show _ = _
    unfold CM.bl
    rw [Int.natCast_add, Int.natCast_ediv, show ((CM.sy b s - 1 : Nat) : Int) = (CM.sy b s : Int) - 1 by omega]; rfl
  generalize CM.bl b s m = n at *
  generalize CM.sy b s = y at *
  have HR := Lib.hid h
  clear h
  go_enter Tryz.func18, Tryz.ntmps18
  go_wp2_with fail
  generalize hw1 : World.alloc w _ = w1
  have hx1 : w.Extends w1 := by subst hw1; exact prm_ext_alloc _ _
  have hp : PAt w1 w.heap.size b s m := by subst hw1; exact PAt.new w 23 b s m
  generalize w.heap.size = g at hp ⊢
  clear hw1
  have HX1 := Lib.hid hx1
  have HP1 := Lib.hid hp
  have hb1 := hp.lt
  obtain ⟨p0, p1, p2⟩ := hp
  clear hx1
  refine (rright_yes b s m w1 HR.out).mono ?_
  rintro e w2 ⟨rfl, hx⟩
  have HX2 := Lib.hid (Gr.ext_trans HX1.out hx)
  have HP2 := Lib.hid (HP1.out.ext hx)
  have hb2 := HP2.out.lt
  clear p0 p1 p2 hx
  obtain ⟨p0, p1, p2⟩ := HP2.out
  have HC : Hid (∀ w', w2.drew.Extends w' → w'.cell? ⟨g, 0, none⟩ = some (.int .i64 b) ∧ w'.cell? ⟨g, 1, none⟩ = some (.int .i64 s) ∧ w'.cell? ⟨g, 2, none⟩ = some (.int .i64 m)) := fun w' hw' => HP2.out.ext (Gr.of_drew hw')
  go_upto_region 3 with fail
  clear p0 p1 p2
  have hdv : ((m : Int) == 0) = false := by simp; omega
  refine Gr.region 5 [(false,0),(false,3),(false,4),(true,1),(false,2)] (by kernel_rfl) (by kernel_rfl) (fun d _ _ _ _ h => by cases d <;> exact h) ?_
  simp only [Gr.pick, List.getElem?_cons_zero, List.getElem?_cons_succ, List.drop_succ_cons, List.drop_zero]
  have HX3 := Lib.hid (Gr.ext_drew HX2.out)
  generalize w2.drew = w3 at *
  iterate 3
    refine Gr.walk_t ?_ (Or.inl ⟨by rfl, ?_⟩) ?_
    rotate_left
    · intro w' hw'
      obtain ⟨c0, c1, c2⟩ := HC.out w' hw'
      clear hw'
      go_simp
      try with_reducible rfl
    simp only [Act.put, List.setIfInBounds_toArray, List.set_cons_zero, List.set_cons_succ]
  refine Gr.walk_c (fun K hK => ?_)
  go_simp
  refine (HY.out w3).mono ?_
  rintro e w4 ⟨rfl, hx⟩
  have HX4 := Lib.hid (Gr.ext_trans HX3.out hx)
  try go_simp
  refine hK.out _ _ (hx) ?_
  clear hK K
  refine Gr.walk_t ?_ (Or.inl ⟨by rfl, ?_⟩) ?_
  rotate_left
  · intro w' hw'
    clear hw'
    go_simp
    try with_reducible rfl
  simp only [Act.put, List.setIfInBounds_toArray, List.set_cons_zero, List.set_cons_succ]
  refine Gr.walk_nil ?_
  go_wp2
  go_ret
  exact ⟨pret64 (by rw [HS.out]; exact IntWalk.wrap64_in _ ⟨by omega, by omega⟩), HX4.out⟩
end Go.Proofs.YtippckajlghimaaGreatDoor
/- Package split and the reference: K. -/
namespace Go.Proofs.YtippckajlghimaaGreatDoor
set_option maxRecDepth 20000
open Go.RowKit
set_option linter.unusedVariables false
theorem k_neg (b s m i : Int) (w : World) (hi : i < 0) :
    Calls Tryz.prog 33 #[PV b s m, .int .i64 i] w fun e w' => e = .returned (.int .i64 (0 : Nat)) ∧ w.Extends w' := by
  go_enter Tryz.func33, Tryz.ntmps33
  go_upto_region 1 with fail
  generalize hw1 : World.alloc w _ = w1
  have hx1 : w.Extends w1 := by subst hw1; exact prm_ext_alloc _ _
  have hp : PAt w1 w.heap.size b s m := by subst hw1; exact PAt.new w 23 b s m
  generalize w.heap.size = g at hp ⊢
  clear hw1
  have HX1 := Lib.hid hx1
  have HP1 := Lib.hid hp
  have hb1 := hp.lt
  obtain ⟨p0, p1, p2⟩ := hp
  clear hx1
  go_wp2
  go_ret
  exact ⟨by rfl, HX1.out⟩
theorem k_wrong (b s m i : Int) (w : World) (h : ¬ CM.Right b s m) (hi : 0 ≤ i) :
    Calls Tryz.prog 33 #[PV b s m, .int .i64 i] w fun e w' => e = .returned (.int .i64 (0 : Nat)) ∧ w.Extends w' := by
  have hi1 : decide (i < 0) = false := by simp; omega
  go_enter Tryz.func33, Tryz.ntmps33
  go_upto_region 1 with fail
  generalize hw1 : World.alloc w _ = w1
  have hx1 : w.Extends w1 := by subst hw1; exact prm_ext_alloc _ _
  have hp : PAt w1 w.heap.size b s m := by subst hw1; exact PAt.new w 23 b s m
  generalize w.heap.size = g at hp ⊢
  clear hw1
  have HX1 := Lib.hid hx1
  have HP1 := Lib.hid hp
  have hb1 := hp.lt
  obtain ⟨p0, p1, p2⟩ := hp
  clear hx1
  go_wp2_with fail
  refine (blocks_no b s m w1 h).mono ?_
  rintro e w2 ⟨rfl, hx⟩
  have HX2 := Lib.hid (Gr.ext_trans HX1.out hx)
  have HP2 := Lib.hid (HP1.out.ext hx)
  have hb2 := HP2.out.lt
  clear p0 p1 p2 hx
  obtain ⟨p0, p1, p2⟩ := HP2.out
  go_wp2
  go_ret
  exact ⟨by rfl, HX2.out⟩
theorem k_over (b s m : Nat) (i : Int) (w : World) (h : CM.Right b s m) (hi : (CM.bl b s m : Nat) ≤ i) :
    Calls Tryz.prog 33 #[PV b s m, .int .i64 i] w fun e w' => e = .returned (.int .i64 (0 : Nat)) ∧ w.Extends w' := by
  have hi1 : decide (i < 0) = false := by simp; omega
  have HB := Lib.hid (fun w => blocks_yes b s m w h)
  generalize CM.bl b s m = n at *
  clear h
  go_enter Tryz.func33, Tryz.ntmps33
  go_upto_region 1 with fail
  generalize hw1 : World.alloc w _ = w1
  have hx1 : w.Extends w1 := by subst hw1; exact prm_ext_alloc _ _
  have hp : PAt w1 w.heap.size b s m := by subst hw1; exact PAt.new w 23 b s m
  generalize w.heap.size = g at hp ⊢
  clear hw1
  have HX1 := Lib.hid hx1
  have HP1 := Lib.hid hp
  have hb1 := hp.lt
  obtain ⟨p0, p1, p2⟩ := hp
  clear hx1
  go_wp2_with fail
  refine (HB.out w1).mono ?_
  rintro e w2 ⟨rfl, hx⟩
  have HX2 := Lib.hid (Gr.ext_trans HX1.out hx)
  have HP2 := Lib.hid (HP1.out.ext hx)
  have hb2 := HP2.out.lt
  clear p0 p1 p2 hx
  obtain ⟨p0, p1, p2⟩ := HP2.out
  go_wp2
  go_ret
  exact ⟨by rfl, HX2.out⟩
theorem k_in (b s m i : Nat) (w : World) (h : CM.Right b s m) (hi : i < CM.bl b s m) :
    Calls Tryz.prog 33 #[PV b s m, .int .i64 i] w fun e w' => e = .returned (.int .i64 (CM.kk b s m i : Nat)) ∧ w.Extends w' := by
  obtain ⟨h1, h2, h3, h4, h5, h6⟩ := CM.right_of h
  rw [CM.kk_in b s m i hi]
  have HB := Lib.hid (fun w => blocks_yes b s m w h)
  have HY := Lib.hid (fun w => sym_yes b s m w h)
  have hyl := CM.sy_le b s h1
  have hyp := CM.sy_pos b s
  have hnp := CM.bl_pos b s m
  generalize CM.bl b s m = n at *
  generalize CM.sy b s = y at *
  have HD : Hid (∀ r, r = y % n → CM.deal y n i = y / n + (if i < r then 1 else 0)) := fun r hr => by rw [hr]; rfl
  generalize CM.deal y n i = d at *
  have hq : (y : Int) / n = (y / n : Nat) := by rw [Int.natCast_ediv]
  have hr : (y : Int) % n = (y % n : Nat) := by rw [Int.natCast_emod]
  have hql := Nat.div_le_self y n
  obtain ⟨r, hr0⟩ : ∃ r, r = y % n := ⟨_, rfl⟩
  have HD1 := Lib.hid (HD.out r hr0)
  rw [← hr0] at hr
  generalize y / n = q at *
  have HQ := Lib.hid hq
  have HRM := Lib.hid hr
  clear hq hr h HD hr0
  have hi1 : decide ((i : Int) < 0) = false := by simp
  have hdv : ((n : Int) == 0) = false := by simp; omega
  by_cases hir : i < r
  all_goals
    have hd := HD1.out
    simp only [hir, if_true, if_false] at hd
    have HDD := Lib.hid hd
    clear hd HD1
    go_enter Tryz.func33, Tryz.ntmps33
    go_upto_region 1 with fail
    generalize hw1 : World.alloc w _ = w1
    have hx1 : w.Extends w1 := by subst hw1; exact prm_ext_alloc _ _
    have hp : PAt w1 w.heap.size b s m := by subst hw1; exact PAt.new w 23 b s m
    generalize w.heap.size = g at hp ⊢
    clear hw1
    have HX1 := Lib.hid hx1
    have HP1 := Lib.hid hp
    have hb1 := hp.lt
    obtain ⟨p0, p1, p2⟩ := hp
    clear hx1
    go_wp2_with fail
    refine (HB.out w1).mono ?_
    rintro e w2 ⟨rfl, hx⟩
    have HX2 := Lib.hid (Gr.ext_trans HX1.out hx)
    have HP2 := Lib.hid (HP1.out.ext hx)
    have hb2 := HP2.out.lt
    clear p0 p1 p2 hx
    obtain ⟨p0, p1, p2⟩ := HP2.out
    clear hi1
    have HC : Hid (∀ w', w2.drew.Extends w' → w'.cell? ⟨g, 0, none⟩ = some (.int .i64 b) ∧ w'.cell? ⟨g, 1, none⟩ = some (.int .i64 s) ∧ w'.cell? ⟨g, 2, none⟩ = some (.int .i64 m)) := fun w' hw' => HP2.out.ext (Gr.of_drew hw')
    go_upto_region 3 with fail
    clear p0 p1 p2
    refine Gr.region 4 [(false,0),(false,2),(true,1),(true,3)] (by kernel_rfl) (by kernel_rfl) (fun d _ _ _ _ h => by cases d <;> exact h) ?_
    simp only [Gr.pick, List.getElem?_cons_zero, List.getElem?_cons_succ, List.drop_succ_cons, List.drop_zero]
    have HX3 := Lib.hid (Gr.ext_drew HX2.out)
    have HY3 : Hid (w2.drew.Extends w2.drew) := Gr.ext_refl _
    generalize w2.drew = w3 at *
    iterate 2
      refine Gr.walk_t ?_ (Or.inl ⟨by rfl, ?_⟩) ?_
      rotate_left
      · intro w' hw'
        obtain ⟨c0, c1, c2⟩ := HC.out w' hw'
        clear hw'
        go_simp
        try with_reducible rfl
      simp only [Act.put, List.setIfInBounds_toArray, List.set_cons_zero, List.set_cons_succ]
    refine Gr.walk_c (fun K hK => ?_)
    go_simp
    refine (HY.out w3).mono ?_
    rintro e w4 ⟨rfl, hx⟩
    have HX4 := Lib.hid (Gr.ext_trans HX3.out hx)
    try go_simp
    refine hK.out _ _ (hx) ?_
    clear hK K
    refine Gr.walk_c (fun K hK => ?_)
    go_simp
    refine (HB.out w4).mono ?_
    rintro e w5 ⟨rfl, hx⟩
    have HX5 := Lib.hid (Gr.ext_trans HX4.out hx)
    try go_simp
    refine hK.out _ _ (hx) ?_
    clear hK K
    refine Gr.walk_nil ?_
    have hq := HQ.out
    have hr := HRM.out
    go_wp2
    go_ret
    exact ⟨pret64 (by have := HDD.out; first | (rw [IntWalk.wrap64_in _ ⟨by omega, by omega⟩]; omega) | omega), HX5.out⟩
theorem rk_neg (b s m i : Int) (w : World) (hi : i < 0) :
    Calls Tryz.prog 20 #[PV b s m, .int .i64 i] w fun e w' => e = .returned (.int .i64 (0 : Nat)) ∧ w.Extends w' := by
  go_enter Tryz.func20, Tryz.ntmps20
  go_upto_region 1 with fail
  generalize hw1 : World.alloc w _ = w1
  have hx1 : w.Extends w1 := by subst hw1; exact prm_ext_alloc _ _
  have hp : PAt w1 w.heap.size b s m := by subst hw1; exact PAt.new w 23 b s m
  generalize w.heap.size = g at hp ⊢
  clear hw1
  have HX1 := Lib.hid hx1
  have HP1 := Lib.hid hp
  have hb1 := hp.lt
  obtain ⟨p0, p1, p2⟩ := hp
  clear hx1
  go_wp2
  go_ret
  exact ⟨by rfl, HX1.out⟩
theorem rk_wrong (b s m i : Int) (w : World) (h : ¬ CM.Right b s m) (hi : 0 ≤ i) :
    Calls Tryz.prog 20 #[PV b s m, .int .i64 i] w fun e w' => e = .returned (.int .i64 (0 : Nat)) ∧ w.Extends w' := by
  have hi1 : decide (i < 0) = false := by simp; omega
  go_enter Tryz.func20, Tryz.ntmps20
  go_upto_region 1 with fail
  generalize hw1 : World.alloc w _ = w1
  have hx1 : w.Extends w1 := by subst hw1; exact prm_ext_alloc _ _
  have hp : PAt w1 w.heap.size b s m := by subst hw1; exact PAt.new w 23 b s m
  generalize w.heap.size = g at hp ⊢
  clear hw1
  have HX1 := Lib.hid hx1
  have HP1 := Lib.hid hp
  have hb1 := hp.lt
  obtain ⟨p0, p1, p2⟩ := hp
  clear hx1
  go_wp2_with fail
  refine (rblocks_no b s m w1 h).mono ?_
  rintro e w2 ⟨rfl, hx⟩
  have HX2 := Lib.hid (Gr.ext_trans HX1.out hx)
  have HP2 := Lib.hid (HP1.out.ext hx)
  have hb2 := HP2.out.lt
  clear p0 p1 p2 hx
  obtain ⟨p0, p1, p2⟩ := HP2.out
  go_wp2
  go_ret
  exact ⟨by rfl, HX2.out⟩
theorem rk_over (b s m : Nat) (i : Int) (w : World) (h : CM.Right b s m) (hi : (CM.bl b s m : Nat) ≤ i) :
    Calls Tryz.prog 20 #[PV b s m, .int .i64 i] w fun e w' => e = .returned (.int .i64 (0 : Nat)) ∧ w.Extends w' := by
  have hi1 : decide (i < 0) = false := by simp; omega
  have HB := Lib.hid (fun w => rblocks_yes b s m w h)
  generalize CM.bl b s m = n at *
  clear h
  go_enter Tryz.func20, Tryz.ntmps20
  go_upto_region 1 with fail
  generalize hw1 : World.alloc w _ = w1
  have hx1 : w.Extends w1 := by subst hw1; exact prm_ext_alloc _ _
  have hp : PAt w1 w.heap.size b s m := by subst hw1; exact PAt.new w 23 b s m
  generalize w.heap.size = g at hp ⊢
  clear hw1
  have HX1 := Lib.hid hx1
  have HP1 := Lib.hid hp
  have hb1 := hp.lt
  obtain ⟨p0, p1, p2⟩ := hp
  clear hx1
  go_wp2_with fail
  refine (HB.out w1).mono ?_
  rintro e w2 ⟨rfl, hx⟩
  have HX2 := Lib.hid (Gr.ext_trans HX1.out hx)
  have HP2 := Lib.hid (HP1.out.ext hx)
  have hb2 := HP2.out.lt
  clear p0 p1 p2 hx
  obtain ⟨p0, p1, p2⟩ := HP2.out
  go_wp2
  go_ret
  exact ⟨by rfl, HX2.out⟩
theorem rk_in (b s m i : Nat) (w : World) (h : CM.Right b s m) (hi : i < CM.bl b s m) :
    Calls Tryz.prog 20 #[PV b s m, .int .i64 i] w fun e w' => e = .returned (.int .i64 (CM.kk b s m i : Nat)) ∧ w.Extends w' := by
  obtain ⟨h1, h2, h3, h4, h5, h6⟩ := CM.right_of h
  rw [CM.kk_in b s m i hi]
  have HB := Lib.hid (fun w => rblocks_yes b s m w h)
  have HY := Lib.hid (fun w => rsym_yes b s m w h)
  have hyl := CM.sy_le b s h1
  have hyp := CM.sy_pos b s
  have hnp := CM.bl_pos b s m
  generalize CM.bl b s m = n at *
  generalize CM.sy b s = y at *
  have HD : Hid (∀ r, r = y % n → CM.deal y n i = y / n + (if i < r then 1 else 0)) := fun r hr => by rw [hr]; rfl
  generalize CM.deal y n i = d at *
  have hq : (y : Int) / n = (y / n : Nat) := by rw [Int.natCast_ediv]
  have hr : (y : Int) % n = (y % n : Nat) := by rw [Int.natCast_emod]
  have hql := Nat.div_le_self y n
  obtain ⟨r, hr0⟩ : ∃ r, r = y % n := ⟨_, rfl⟩
  have HD1 := Lib.hid (HD.out r hr0)
  rw [← hr0] at hr
  generalize y / n = q at *
  have HQ := Lib.hid hq
  have HRM := Lib.hid hr
  clear hq hr h HD hr0
  have hi1 : decide ((i : Int) < 0) = false := by simp
  have hdv : ((n : Int) == 0) = false := by simp; omega
  by_cases hir : i < r
  all_goals
    have hd := HD1.out
    simp only [hir, if_true, if_false] at hd
    have HDD := Lib.hid hd
    clear hd HD1
    go_enter Tryz.func20, Tryz.ntmps20
    go_upto_region 1 with fail
    generalize hw1 : World.alloc w _ = w1
    have hx1 : w.Extends w1 := by subst hw1; exact prm_ext_alloc _ _
    have hp : PAt w1 w.heap.size b s m := by subst hw1; exact PAt.new w 23 b s m
    generalize w.heap.size = g at hp ⊢
    clear hw1
    have HX1 := Lib.hid hx1
    have HP1 := Lib.hid hp
    have hb1 := hp.lt
    obtain ⟨p0, p1, p2⟩ := hp
    clear hx1
    go_wp2_with fail
    refine (HB.out w1).mono ?_
    rintro e w2 ⟨rfl, hx⟩
    have HX2 := Lib.hid (Gr.ext_trans HX1.out hx)
    have HP2 := Lib.hid (HP1.out.ext hx)
    have hb2 := HP2.out.lt
    clear p0 p1 p2 hx
    obtain ⟨p0, p1, p2⟩ := HP2.out
    clear hi1
    have HC : Hid (∀ w', w2.drew.Extends w' → w'.cell? ⟨g, 0, none⟩ = some (.int .i64 b) ∧ w'.cell? ⟨g, 1, none⟩ = some (.int .i64 s) ∧ w'.cell? ⟨g, 2, none⟩ = some (.int .i64 m)) := fun w' hw' => HP2.out.ext (Gr.of_drew hw')
    go_upto_region 3 with fail
    clear p0 p1 p2
    refine Gr.region 4 [(false,0),(false,2),(true,1),(true,3)] (by kernel_rfl) (by kernel_rfl) (fun d _ _ _ _ h => by cases d <;> exact h) ?_
    simp only [Gr.pick, List.getElem?_cons_zero, List.getElem?_cons_succ, List.drop_succ_cons, List.drop_zero]
    have HX3 := Lib.hid (Gr.ext_drew HX2.out)
    have HP3 := Lib.hid (HP2.out.ext (Gr.ext_drew (Gr.ext_refl w2)))
    generalize w2.drew = w3 at *
    iterate 2
      refine Gr.walk_t ?_ (Or.inl ⟨by rfl, ?_⟩) ?_
      rotate_left
      · intro w' hw'
        obtain ⟨c0, c1, c2⟩ := HC.out w' hw'
        clear hw'
        go_simp
        try with_reducible rfl
      simp only [Act.put, List.setIfInBounds_toArray, List.set_cons_zero, List.set_cons_succ]
    refine Gr.walk_c (fun K hK => ?_)
    go_simp
    refine (HY.out w3).mono ?_
    rintro e w4 ⟨rfl, hx⟩
    have HX4 := Lib.hid (Gr.ext_trans HX3.out hx)
    have HP4 := Lib.hid (HP3.out.ext hx)
    try go_simp
    refine hK.out _ _ (hx) ?_
    clear hK K
    refine Gr.walk_c (fun K hK => ?_)
    go_simp
    refine (HB.out w4).mono ?_
    rintro e w5 ⟨rfl, hx⟩
    have HX5 := Lib.hid (Gr.ext_trans HX4.out hx)
    have HP5 := Lib.hid (HP4.out.ext hx)
    try go_simp
    refine hK.out _ _ (hx) ?_
    clear hK K
    clear HC
    refine Gr.walk_nil ?_
    have hq := HQ.out
    go_upto_region 4 with fail
    have HC : Hid (∀ w', w5.drew.Extends w' → w'.cell? ⟨g, 0, none⟩ = some (.int .i64 b) ∧ w'.cell? ⟨g, 1, none⟩ = some (.int .i64 s) ∧ w'.cell? ⟨g, 2, none⟩ = some (.int .i64 m)) := fun w' hw' => HP5.out.ext (Gr.of_drew hw')
    refine Gr.region 6 [(false,0),(false,1),(false,3),(true,2),(true,4),(false,5)] (by kernel_rfl) (by kernel_rfl) (fun d _ _ _ _ h => by cases d <;> exact h) ?_
    simp only [Gr.pick, List.getElem?_cons_zero, List.getElem?_cons_succ, List.drop_succ_cons, List.drop_zero]
    have HX6 := Lib.hid (Gr.ext_drew HX5.out)
    generalize w5.drew = w6 at *
    iterate 3
      refine Gr.walk_t ?_ (Or.inl ⟨by rfl, ?_⟩) ?_
      rotate_left
      · intro w' hw'
        obtain ⟨c0, c1, c2⟩ := HC.out w' hw'
        clear hw'
        go_simp
        try with_reducible rfl
      simp only [Act.put, List.setIfInBounds_toArray, List.set_cons_zero, List.set_cons_succ]
    refine Gr.walk_c (fun K hK => ?_)
    go_simp
    refine (HY.out w6).mono ?_
    rintro e w7 ⟨rfl, hx⟩
    have HX7 := Lib.hid (Gr.ext_trans HX6.out hx)
    try go_simp
    refine hK.out _ _ (hx) ?_
    clear hK K
    refine Gr.walk_c (fun K hK => ?_)
    go_simp
    refine (HB.out w7).mono ?_
    rintro e w8 ⟨rfl, hx⟩
    have HX8 := Lib.hid (Gr.ext_trans HX7.out hx)
    try go_simp
    refine hK.out _ _ (hx) ?_
    clear hK K
    have hr := HRM.out
    refine Gr.walk_t ?_ (Or.inl ⟨by rfl, ?_⟩) ?_
    rotate_left
    · intro w' hw'
      have hnz : ¬ n = 0 := by omega
      have htm : (y : Int).tmod n = r := by rw [Int.tmod_eq_emod_of_nonneg (by omega)]; exact HRM.out
      clear hw'
      go_simp
      try with_reducible rfl
    simp only [Act.put, List.setIfInBounds_toArray, List.set_cons_zero, List.set_cons_succ]
    refine Gr.walk_nil ?_
    go_wp2
    go_ret
    exact ⟨pret64 (by have := HDD.out; first | (rw [IntWalk.wrap64_in _ ⟨by omega, by omega⟩]; omega) | omega), HX8.out⟩
end Go.Proofs.YtippckajlghimaaGreatDoor
