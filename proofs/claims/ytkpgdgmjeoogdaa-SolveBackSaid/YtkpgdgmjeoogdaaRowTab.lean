/- The table of one element's products, as package rows makes and reads it. -/
import Derived.Test.YtkpgdgmjeoogdaaFldMany
import Derived.Test.YtkpgdgmjeoogdaaRws
import Derived.Test.YtkpgdgmjeoogdaaRowMath
import Derived.Test.YtkpgdgmjeoogdaaGrow
import Derived.WalkLawsBesides
import Derived.Outline
import Derived.Laws.Rows
namespace Go.Proofs.Ytkpgdgmjeoogdaa
open Go.RowKit
set_option linter.unusedVariables false
/-- The table's byte i: low ones below 16, high ones behind; the first a and b of them are there. -/
def tabTo (c a b i : Nat) : Nat := if i < 16 then (if i < a then FM.tm c i else 0) else (if i - 16 < b then FM.tm c ((i - 16) * 16) else 0)
theorem tab_low (c b i : Nat) (h : i < b) (h16 : b ≤ 16) : tabTo c b b i = FM.tm c i := by unfold tabTo; rw [if_pos (by omega), if_pos h]
theorem tab_bits : ∀ k, k < 4 → ∀ i, i < 16 → i < 2 ^ k → 2 ^ k + i = 2 ^ k ^^^ i ∧ (2 ^ k + i) * 16 = (2 ^ k * 16) ^^^ (i * 16) := by decide
theorem tab_start (c i : Nat) : tabTo c 1 1 i = 0 := by
  unfold tabTo
  split
  · split
    · rw [show i = 0 by omega, FM.tm_zero_right]
    · rfl
  · split
    · rw [show (i - 16) * 16 = 0 by omega, FM.tm_zero_right]
    · rfl
theorem tab_set_low (c m j k i : Nat) (hm : m = 2 ^ k) (hk : k < 4) (hj : j < m) : tabTo c (m + j + 1) (m + j) i = if i = m + j then FM.tm c m ^^^ FM.tm c j else tabTo c (m + j) (m + j) i := by
  subst hm
  have h16 : (2 : Nat) ^ k ≤ 2 ^ 3 := Nat.pow_le_pow_right (by omega) (by omega)
  by_cases h : i = 2 ^ k + j
  · subst h
    rw [if_pos rfl, tabTo, if_pos (by omega), if_pos (by omega), (tab_bits k hk j (by omega) hj).1, FM.tm_xor_right]
  · rw [if_neg h]
    unfold tabTo
    by_cases h1 : i < 16
    · rw [if_pos h1, if_pos h1]
      by_cases h2 : i < 2 ^ k + j
      · rw [if_pos (by omega), if_pos h2]
      · rw [if_neg (by omega), if_neg h2]
    · rw [if_neg h1, if_neg h1]
theorem tab_set_high (c m j k i : Nat) (hm : m = 2 ^ k) (hk : k < 4) (hj : j < m) : tabTo c (m + j + 1) (m + j + 1) i = if i = 16 + (m + j) then FM.tm c (m * 16) ^^^ FM.tm c (j * 16) else tabTo c (m + j + 1) (m + j) i := by
  subst hm
  have h16 : (2 : Nat) ^ k ≤ 2 ^ 3 := Nat.pow_le_pow_right (by omega) (by omega)
  by_cases h : i = 16 + (2 ^ k + j)
  · subst h
    rw [if_pos rfl, tabTo, if_neg (by omega), if_pos (by omega), show 16 + (2 ^ k + j) - 16 = 2 ^ k + j by omega, (tab_bits k hk j (by omega) hj).2, FM.tm_xor_right]
  · rw [if_neg h]
    unfold tabTo
    by_cases h1 : i < 16
    · rw [if_pos h1, if_pos h1]
    · rw [if_neg h1, if_neg h1]
      by_cases h2 : i - 16 < 2 ^ k + j
      · rw [if_pos (by omega), if_pos h2]
      · rw [if_neg (by omega), if_neg h2]
theorem tab_split (c a : Nat) (ha : a < 256) : FM.tm c a = FM.tm c (a % 16) ^^^ FM.tm c (a / 16 * 16) := by
  have key : ∀ a, a < 256 → a = (a % 16) ^^^ (a / 16 * 16) := by decide +kernel
  rw [← FM.tm_xor_right, ← key a ha]
def MadeTab (w : World) (c : Nat) (e : Ending) (w' : World) : Prop := ∃ cs : Array Value, e = .returned (.agg cs) ∧ cs.size = 32 ∧ (∀ i, i < 32 → cs[i]? = some (.int .u8 (tabTo c 16 16 i : Nat))) ∧ Below w.heap.size w w'
theorem rowIs_zeros (w : World) (T : TypeId) (cs : Array Value) (h : cs = Array.replicate 32 (.int .u8 0)) : (w.alloc (.cells cs T)).rowIs w.heap.size T 32 (fun _ => .int .u8 0) := by
  subst h
  exact World.rowIs_alloc w (Array.replicate 32 (.int .u8 0)) T _ (fun i hi => by simp at hi; simp [hi])
theorem rowIs_two (w : World) (T : TypeId) (cs ds : Array Value) (h : cs = Array.replicate 32 (.int .u8 0)) (h' : ds = Array.replicate 32 (.int .u8 0)) :
    ((w.alloc (.cells cs T)).alloc (.cells ds T)).rowIs w.heap.size T 32 (fun _ => .int .u8 0) ∧ ((w.alloc (.cells cs T)).alloc (.cells ds T)).rowIs (w.heap.size + 1) T 32 (fun _ => .int .u8 0) := by
  refine ⟨(rowIs_zeros w T cs h).alloc _, ?_⟩
  have := rowIs_zeros (w.alloc (.cells cs T)) T ds h'
  simpa using this
set_option maxHeartbeats 1000000 in
theorem timesOf_any (c : Nat) (hc : c < 256) (w : World) : Calls Try.prog 35 #[.int .u8 c] w (MadeTab w c) := by
  go_enter Try.func35, Try.ntmps35
  go_wp2_with fail
  generalize hw2 : World.alloc (World.alloc w _) _ = w2
  have hr1 : w2.rowIs w.heap.size 60 32 (fun _ => .int .u8 0) := by subst hw2; exact (rowIs_two _ _ _ _ rfl rfl).1
  have hr2 : w2.rowIs (w.heap.size + 1) 60 32 (fun _ => .int .u8 0) := by subst hw2; exact (rowIs_two _ _ _ _ rfl rfl).2
  have hb2 : Below w.heap.size w w2 := by subst hw2; exact ((Below.refl _ _).alloc (Nat.le_refl _) _).alloc (by simp) _
  have hs2 : w.heap.size + 1 < w2.heap.size := hr2.lt
  have HR1 := Lib.hid hr1
  have HR2 := Lib.hid hr2
  have HB2 := Lib.hid hb2
  clear hw2 hr1 hr2 hb2
  obtain ⟨b, hb⟩ : ∃ b, b = w.heap.size := ⟨_, rfl⟩
  rw [← hb] at hs2 HR1 HR2 HB2 ⊢
  have HB := Lib.hid hb; clear hb
  go_loopw [4] (fun i wr => ∃ k m : Nat, k ≤ 4 ∧ Hid (m = 2 ^ k) ∧ i = .int .i64 m ∧ w2.grownBy wr (some (b + 1)) ∧ wr.rowIs (b + 1) 60 32 (fun i => .int .u8 (tabTo c m m i : Nat))) (fun i _ => (16 - intOf i).toNat)
  case atStart => exact ⟨0, 1, by omega, rfl, rfl, grown_refl _ _, HR2.out.congr fun i _ => by rw [tab_start]; rfl⟩
  case round =>
    obtain ⟨k, m, hk, hm, rfl, hg, hr⟩ := hrel
    by_cases h1 : m < 16
    · have hk4 : k < 4 := by
        refine Decidable.byContradiction fun h => ?_
        have : k = 4 := by omega
        rw [hm.out, this] at h1; omega
      have hm1 : 1 ≤ m := by rw [hm.out]; exact Nat.one_le_two_pow
      have hm8 : m ≤ 8 := by
        rw [hm.out]; exact Nat.pow_le_pow_right (j := 3) (by omega) (by omega)
      have hp : Hid (∀ x, x < 256 → FM.prod [c, x] = FM.tm c x) := fun x _ => by show FM.tm (FM.tm 1 c) _ = _; rw [FM.tm_one_left c hc]
      have HG := Lib.hid hg
      have HR := Lib.hid hr
      have hwr := hg.size
      clear hg hr
      obtain ⟨wo, rfl⟩ : ∃ wo : World, wo = wr := ⟨_, rfl⟩
      have h16 : m * 16 < 256 := by omega
      have HP1 := Lib.hid (hp.out m (by omega))
      have HP2 := Lib.hid (hp.out (m * 16) (by omega))
      have ht1 := FM.tm_lt c m hc
      have ht2 := FM.tm_lt c (m * 16) hc
      go_wp2_with fail
      refine (mul_any _ [c, m] _ (u8s_new _ _ _ _ _ _ _ rfl rfl rfl (by simp [maxLen]) (by simp [hc]; omega))).mono ?_
      rintro e w' ⟨rfl, rfl⟩
      rw [HP1.out]
      go_wp2_with fail
      refine (mul_any _ [c, m * 16] _ (u8s_new _ _ _ _ _ _ _ (by simp) rfl (by simp) (by simp [maxLen]) (by simp [hc]; omega))).mono ?_
      rintro e w' ⟨rfl, rfl⟩
      rw [HP2.out]
      generalize hlo : FM.tm c m = lo at *
      generalize hhi : FM.tm c (m * 16) = hi at *
      have HLO := Lib.hid hlo; clear hlo
      have HHI := Lib.hid hhi; clear hhi
      go_wp2
      go_loopw [24] (fun i wi => ∃ j : Nat, j ≤ m ∧ i = .int .i64 j ∧ w2.grownBy wi (some (b + 1)) ∧ wi.rowIs (b + 1) 60 32 (fun i => .int .u8 (tabTo c (m + j) (m + j) i : Nat))) (fun i _ => (m - intOf i).toNat)
      case atStart => exact ⟨0, by omega, rfl, grown_alloc (grown_alloc HG.out _) _, (HR.out.alloc _).alloc _⟩
      case round =>
        obtain ⟨j, hj, rfl, hg, hr⟩ := hrel
        by_cases h2 : j < m
        · have hc1 : wr.cell? ⟨b + 1, j, none⟩ = some (.int .u8 (FM.tm c j : Nat)) := by
            have := hr.cell (i := j) (by omega)
            rw [this, tabTo, if_pos (by omega), if_pos (by omega)]
          have hc2 : wr.cell? ⟨b + 1, 16 + j, none⟩ = some (.int .u8 (FM.tm c (j * 16) : Nat)) := by
            have := hr.cell (i := 16 + j) (by omega)
            rw [this, tabTo, if_neg (by omega), if_pos (by omega), show (16 + j - 16) * 16 = j * 16 by omega]
          have hc3 := hr.cell (i := m + j) (by omega)
          have hf1 := hr.frozen (m + j)
          have hbl := hr.lt
          have hx1 := FM.tm_lt c j hc
          have hx2 := FM.tm_lt c (j * 16) hc
          have HS1 : Hid (∀ x y, FM.sum [x, y] = x ^^^ y) := fun x y => by simp [FM.sum]
          have HRX : Hid (∀ A B, (((wr.setCell ⟨b + 1, m + j, none⟩ (.int .u8 (FM.tm c m ^^^ FM.tm c j : Nat))).alloc A).alloc B).rowIs (b + 1) 60 32 (fun i => .int .u8 (tabTo c (m + j + 1) (m + j) i : Nat)) ∧
              w2.grownBy (((wr.setCell ⟨b + 1, m + j, none⟩ (.int .u8 (FM.tm c m ^^^ FM.tm c j : Nat))).alloc A).alloc B) (some (b + 1))) := fun A B =>
            ⟨(((hr.set (m + j) _).alloc A).alloc B).congr fun i hi => by rw [tab_set_low c m j k i hm.out hk4 h2]; split <;> rfl, grown_alloc (grown_alloc (grown_setCell hg _ _) A) B⟩
          have HRY : Hid (∀ w' : World, w'.rowIs (b + 1) 60 32 (fun i => .int .u8 (tabTo c (m + j + 1) (m + j) i : Nat)) → w2.grownBy w' (some (b + 1)) →
              (w'.setCell ⟨b + 1, 16 + (m + j), none⟩ (.int .u8 (FM.tm c (m * 16) ^^^ FM.tm c (j * 16) : Nat))).rowIs (b + 1) 60 32 (fun i => .int .u8 (tabTo c (m + j + 1) (m + j + 1) i : Nat)) ∧
              w2.grownBy (w'.setCell ⟨b + 1, 16 + (m + j), none⟩ (.int .u8 (FM.tm c (m * 16) ^^^ FM.tm c (j * 16) : Nat))) (some (b + 1))) := fun w' hr' hg' =>
            ⟨(hr'.set (16 + (m + j)) _).congr fun i hi => by rw [tab_set_high c m j k i hm.out hk4 h2]; split <;> rfl, grown_setCell hg' _ _⟩
          clear hg hr
          rw [HLO.out] at HRX
          rw [HHI.out] at HRY
          generalize hlj : FM.tm c j = lj at *
          generalize hhj : FM.tm c (j * 16) = hj' at *
          have HLJ := Lib.hid hlj; clear hlj
          have HHJ := Lib.hid hhj; clear hhj
          go_wp2_with fail
          refine (add_any _ [lo, lj] _ (u8s_new _ _ _ _ _ _ _ rfl rfl rfl (by simp [maxLen]) (by simp [ht1, hx1]))).mono ?_
          rintro e w' ⟨rfl, rfl⟩
          rw [HS1.out]
          go_wp2_with fail
          refine (add_any _ [hi, hj'] _ (u8s_new _ _ _ _ _ _ _ (by simp) rfl rfl (by simp [maxLen]) (by simp [ht2, hx2]))).mono ?_
          rintro e w' ⟨rfl, hw'⟩
          rw [HS1.out]
          obtain ⟨hr', hg'⟩ := HRX.out _ _
          rw [hw'] at hr' hg'
          clear hw' hc1 hc2 hc3 hf1 HRX
          have hc3 := hr'.cell (i := 16 + (m + j)) (by omega)
          have hf1 := hr'.frozen (16 + (m + j))
          have HP := Lib.hid (HRY.out w' hr' hg')
          clear hr' hg' HRY
          go_wp2
          go_roundw
          case rel => exact ⟨j + 1, by omega, by go_num, HP.out.2, HP.out.1⟩
          case measure => simp [intOf]; omega
        · obtain rfl : j = m := by omega
          have HP := Lib.hid (And.intro hg hr)
          clear hg hr
          go_wp2
          go_roundw
          case rel => exact ⟨k + 1, j * 2, by omega, by rw [Nat.pow_succ, ← hm.out]; rfl, by go_num, HP.out.1, by rw [Nat.mul_two]; exact HP.out.2⟩
          case measure => simp [intOf]; omega
    · have hm16 : m = 16 := by
        have : 2 ^ k ≤ 2 ^ 4 := Nat.pow_le_pow_right (by omega) hk
        have := hm.out
        omega
      subst hm16
      have hro := HR1.out.of_block (hg.block b (by omega) (by simp))
      obtain ⟨cs, hk1, hk2, hk3⟩ := hr
      obtain ⟨old, hk4, hk5, _⟩ := hro
      have hi : (Try.prog.info? 60).map (·.size) = some cs.size := by rw [hk2]; kernel_rfl
      have hone : cs.all (·.oneCell') = true := by
        rw [Array.all_eq_true]
        intro i hi
        have h := hk3 i (by omega)
        rw [Array.getElem?_eq_getElem hi] at h
        rw [Option.some.inj h]; rfl
      have hsame : old.size = cs.size := by rw [hk5, hk2]
      have HK3 := Lib.hid hk3
      have HK2 := Lib.hid hk2
      have hbw : b < wr.heap.size := by have := hg.size; omega
      have HFIN : Hid (Below b w (wr.setRow b cs) ∧ (wr.setRow b cs).heap[b]? = some (.cells cs 60 (0, 0))) :=
        ⟨(HB2.out.trans (below_grown hg (by omega) (by omega))).trans ⟨rfl, rfl, rfl, by simp, fun i hi => setRow_other wr b i cs (by omega)⟩, setRow_heap wr b old cs _ _ hk4⟩
      clear hk3 hk2 hk5 hg
      go_wp2_with (first | (refine wpList_load_row rfl 60 (.tmp 3) rfl (b + 1) rfl 60 cs (0, 0) _ hk1 Try.underlying60 rfl hi ?_) | (refine wpList_store_row rfl 60 (.tmp 2) (.tmp 52) rfl b cs rfl rfl 60 old hk4 hi hsame hone ?_))
      refine bodyPost_ret (v := .agg cs) (results_cell_row rfl _ _ b 60 cs (0, 0) _ rfl HFIN.out.2 Try.underlying60 rfl hi) rfl ⟨cs, rfl, HK2.out, HK3.out, ?_⟩
      rw [← HB.out]; exact HFIN.out.1
end Go.Proofs.Ytkpgdgmjeoogdaa
