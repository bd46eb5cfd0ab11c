/- In one text: RowTab, RowOf, RowWalks, RefRows, App. -/
import Derived.WalkLawsBesides
import Derived.Outline
import Derived.Laws.Rows
import Derived.Test.YtpfmmfapdcbnkaaGreatDoorMB1
import Derived.Test.YtpfmmfapdcbnkaaGreatDoorMB2
import Derived.Test.YtpfmmfapdcbnkaaGreatDoorMB3
namespace Go.Proofs.YtpfmmfapdcbnkaaGreatDoor
set_option maxRecDepth 20000
open Go.RowKit
set_option linter.unusedVariables false
/-- The table's byte i: low ones below 16, high ones behind; the first a and b of them are there. -/
def tabTo (c a b i : Nat) : Nat := if i < 16 then (if i < a then FM.tm c i else 0) else (if i - 16 < b then FM.tm c ((i - 16) * 16) else 0)
theorem tab_bits : ∀ k, k < 4 → ∀ i, i < 16 → i < 2 ^ k → 2 ^ k + i = 2 ^ k ^^^ i ∧ (2 ^ k + i) * 16 = (2 ^ k * 16) ^^^ (i * 16) := by decide
theorem tab_start (c i : Nat) : tabTo c 1 1 i = 0 := by
  unfold tabTo
  split
  · split
    · rw [show i = 0 by omega, FM.tm_zero_right]
    · rfl
  · split
    · rw [show (i - 16) * 16 = 0 by omega, FM.tm_zero_right]
    · rfl
theorem tab_set_low (c m j k i : Nat) (hm : m = 2 ^ k) (hk : k < 4) (hj : j < m) : tabTo c (m + j + 1) (m + j) i = if i = m + j then FM.tm c m ^^^ FM.tm c j else tabTo c (m + j) (m + j) i := by
  subst hm
  have h16 : (2 : Nat) ^ k ≤ 2 ^ 3 := Nat.pow_le_pow_right (by omega) (by omega)
  by_cases h : i = 2 ^ k + j
  · subst h
    rw [if_pos rfl, tabTo, if_pos (by omega), if_pos (by omega), (tab_bits k hk j (by omega) hj).1, FM.tm_xor_right]
  · rw [if_neg h]
    unfold tabTo
    by_cases h1 : i < 16
    · rw [if_pos h1, if_pos h1]
      by_cases h2 : i < 2 ^ k + j
      · rw [if_pos (by omega), if_pos h2]
      · rw [if_neg (by omega), if_neg h2]
    · rw [if_neg h1, if_neg h1]
theorem tab_set_high (c m j k i : Nat) (hm : m = 2 ^ k) (hk : k < 4) (hj : j < m) : tabTo c (m + j + 1) (m + j + 1) i = if i = 16 + (m + j) then FM.tm c (m * 16) ^^^ FM.tm c (j * 16) else tabTo c (m + j + 1) (m + j) i := by
  subst hm
  have h16 : (2 : Nat) ^ k ≤ 2 ^ 3 := Nat.pow_le_pow_right (by omega) (by omega)
  by_cases h : i = 16 + (2 ^ k + j)
  · subst h
    rw [if_pos rfl, tabTo, if_neg (by omega), if_pos (by omega), show 16 + (2 ^ k + j) - 16 = 2 ^ k + j by omega, (tab_bits k hk j (by omega) hj).2, FM.tm_xor_right]
  · rw [if_neg h]
    unfold tabTo
    by_cases h1 : i < 16
    · rw [if_pos h1, if_pos h1]
    · rw [if_neg h1, if_neg h1]
      by_cases h2 : i - 16 < 2 ^ k + j
      · rw [if_pos (by omega), if_pos h2]
      · rw [if_neg (by omega), if_neg h2]
theorem tab_split (c a : Nat) (ha : a < 256) : FM.tm c a = FM.tm c (a % 16) ^^^ FM.tm c (a / 16 * 16) := by
  have key : ∀ a, a < 256 → a = (a % 16) ^^^ (a / 16 * 16) := by decide +kernel
  rw [← FM.tm_xor_right, ← key a ha]
def MadeTab (w : World) (c : Nat) (e : Ending) (w' : World) : Prop := ∃ cs : Array Value, e = .returned (.agg cs) ∧ cs.size = 32 ∧ (∀ i, i < 32 → cs[i]? = some (.int .u8 (tabTo c 16 16 i : Nat))) ∧ Below w.heap.size w w'
theorem rowIs_zeros (w : World) (T : TypeId) (cs : Array Value) (h : cs = Array.replicate 32 (.int .u8 0)) : (w.alloc (.cells cs T)).rowIs w.heap.size T 32 (fun _ => .int .u8 0) := by
  subst h
  exact World.rowIs_alloc w (Array.replicate 32 (.int .u8 0)) T _ (fun i hi => by simp at hi; simp [hi])
theorem rowIs_two (w : World) (T : TypeId) (cs ds : Array Value) (h : cs = Array.replicate 32 (.int .u8 0)) (h' : ds = Array.replicate 32 (.int .u8 0)) :
    ((w.alloc (.cells cs T)).alloc (.cells ds T)).rowIs w.heap.size T 32 (fun _ => .int .u8 0) ∧ ((w.alloc (.cells cs T)).alloc (.cells ds T)).rowIs (w.heap.size + 1) T 32 (fun _ => .int .u8 0) := by
  refine ⟨(rowIs_zeros w T cs h).alloc _, ?_⟩
  have := rowIs_zeros (w.alloc (.cells cs T)) T ds h'
  simpa using this
set_option maxHeartbeats 1000000 in
theorem timesOf_any (c : Nat) (hc : c < 256) (w : World) : Calls Tryz.prog 123 #[.int .u8 c] w (MadeTab w c) := by
  go_enter Tryz.func123, Tryz.ntmps123
  go_wp2_with fail
  generalize hw2 : World.alloc (World.alloc w _) _ = w2
  have hr1 : w2.rowIs w.heap.size 183 32 (fun _ => .int .u8 0) := by subst hw2; exact (rowIs_two _ _ _ _ rfl rfl).1
  have hr2 : w2.rowIs (w.heap.size + 1) 183 32 (fun _ => .int .u8 0) := by subst hw2; exact (rowIs_two _ _ _ _ rfl rfl).2
  have hb2 : Below w.heap.size w w2 := by subst hw2; exact ((Below.refl _ _).alloc (Nat.le_refl _) _).alloc (by simp) _
  have hs2 : w.heap.size + 1 < w2.heap.size := hr2.lt
  have HR1 := Lib.hid hr1
  have HR2 := Lib.hid hr2
  have HB2 := Lib.hid hb2
  clear hw2 hr1 hr2 hb2
  obtain ⟨b, hb⟩ : ∃ b, b = w.heap.size := ⟨_, rfl⟩
  rw [← hb] at hs2 HR1 HR2 HB2 ⊢
  have HB := Lib.hid hb; clear hb
  go_loopw [4] (fun i wr => ∃ k m : Nat, k ≤ 4 ∧ Hid (m = 2 ^ k) ∧ i = .int .i64 m ∧ w2.grownBy wr (some (b + 1)) ∧ wr.rowIs (b + 1) 183 32 (fun i => .int .u8 (tabTo c m m i : Nat))) (fun i _ => (16 - intOf i).toNat)
  case atStart => exact ⟨0, 1, by omega, rfl, rfl, grown_refl _ _, HR2.out.congr fun i _ => by rw [tab_start]; rfl⟩
  case round =>
    obtain ⟨k, m, hk, hm, rfl, hg, hr⟩ := hrel
    by_cases h1 : m < 16
    · have hk4 : k < 4 := by
        refine Decidable.byContradiction fun h => ?_
        have : k = 4 := by omega
        rw [hm.out, this] at h1; omega
      have hm1 : 1 ≤ m := by rw [hm.out]; exact Nat.one_le_two_pow
      have hm8 : m ≤ 8 := by
        rw [hm.out]; exact Nat.pow_le_pow_right (j := 3) (by omega) (by omega)
      have hp : Hid (∀ x, x < 256 → FM.prod [c, x] = FM.tm c x) := fun x _ => by show FM.tm (FM.tm 1 c) _ = _; rw [FM.tm_one_left c hc]
      have HG := Lib.hid hg
      have HR := Lib.hid hr
      have hwr := hg.size
      clear hg hr
      obtain ⟨wo, rfl⟩ : ∃ wo : World, wo = wr := ⟨_, rfl⟩
      have h16 : m * 16 < 256 := by omega
      have HP1 := Lib.hid (hp.out m (by omega))
      have HP2 := Lib.hid (hp.out (m * 16) (by omega))
      have ht1 := FM.tm_lt c m hc
      have ht2 := FM.tm_lt c (m * 16) hc
      go_wp2_with fail
      refine (mul_any _ [c, m] _ (u8s_new _ _ _ _ _ _ _ rfl rfl rfl (by simp [maxLen]) (by simp [hc]; omega))).mono ?_
      rintro e w' ⟨rfl, rfl⟩
      rw [HP1.out]
      go_wp2_with fail
      refine (mul_any _ [c, m * 16] _ (u8s_new _ _ _ _ _ _ _ (by simp) rfl (by simp) (by simp [maxLen]) (by simp [hc]; omega))).mono ?_
      rintro e w' ⟨rfl, rfl⟩
      rw [HP2.out]
      generalize hlo : FM.tm c m = lo at *
      generalize hhi : FM.tm c (m * 16) = hi at *
      have HLO := Lib.hid hlo; clear hlo
      have HHI := Lib.hid hhi; clear hhi
      go_wp2
      go_loopw [24] (fun i wi => ∃ j : Nat, j ≤ m ∧ i = .int .i64 j ∧ w2.grownBy wi (some (b + 1)) ∧ wi.rowIs (b + 1) 183 32 (fun i => .int .u8 (tabTo c (m + j) (m + j) i : Nat))) (fun i _ => (m - intOf i).toNat)
      case atStart => exact ⟨0, by omega, rfl, grown_alloc (grown_alloc HG.out _) _, (HR.out.alloc _).alloc _⟩
      case round =>
        obtain ⟨j, hj, rfl, hg, hr⟩ := hrel
        by_cases h2 : j < m
        · have hc1 : wr.cell? ⟨b + 1, j, none⟩ = some (.int .u8 (FM.tm c j : Nat)) := by
            have := hr.cell (i := j) (by omega)
            rw [this, tabTo, if_pos (by omega), if_pos (by omega)]
          have hc2 : wr.cell? ⟨b + 1, 16 + j, none⟩ = some (.int .u8 (FM.tm c (j * 16) : Nat)) := by
            have := hr.cell (i := 16 + j) (by omega)
            rw [this, tabTo, if_neg (by omega), if_pos (by omega), show (16 + j - 16) * 16 = j * 16 by omega]
          have hc3 := hr.cell (i := m + j) (by omega)
          have hf1 := hr.frozen (m + j)
          have hbl := hr.lt
          have hx1 := FM.tm_lt c j hc
          have hx2 := FM.tm_lt c (j * 16) hc
          have HS1 : Hid (∀ x y, FM.sum [x, y] = x ^^^ y) := fun x y => by simp [FM.sum]
          have HRX : Hid (∀ A B, (((wr.setCell ⟨b + 1, m + j, none⟩ (.int .u8 (FM.tm c m ^^^ FM.tm c j : Nat))).alloc A).alloc B).rowIs (b + 1) 183 32 (fun i => .int .u8 (tabTo c (m + j + 1) (m + j) i : Nat)) ∧
              w2.grownBy (((wr.setCell ⟨b + 1, m + j, none⟩ (.int .u8 (FM.tm c m ^^^ FM.tm c j : Nat))).alloc A).alloc B) (some (b + 1))) := fun A B =>
            ⟨(((hr.set (m + j) _).alloc A).alloc B).congr fun i hi => by rw [tab_set_low c m j k i hm.out hk4 h2]; split <;> rfl, grown_alloc (grown_alloc (grown_setCell hg _ _) A) B⟩
          have HRY : Hid (∀ w' : World, w'.rowIs (b + 1) 183 32 (fun i => .int .u8 (tabTo c (m + j + 1) (m + j) i : Nat)) → w2.grownBy w' (some (b + 1)) →
              (w'.setCell ⟨b + 1, 16 + (m + j), none⟩ (.int .u8 (FM.tm c (m * 16) ^^^ FM.tm c (j * 16) : Nat))).rowIs (b + 1) 183 32 (fun i => .int .u8 (tabTo c (m + j + 1) (m + j + 1) i : Nat)) ∧
              w2.grownBy (w'.setCell ⟨b + 1, 16 + (m + j), none⟩ (.int .u8 (FM.tm c (m * 16) ^^^ FM.tm c (j * 16) : Nat))) (some (b + 1))) := fun w' hr' hg' =>
            ⟨(hr'.set (16 + (m + j)) _).congr fun i hi => by rw [tab_set_high c m j k i hm.out hk4 h2]; split <;> rfl, grown_setCell hg' _ _⟩
          clear hg hr
          rw [HLO.out] at HRX
          rw [HHI.out] at HRY
          generalize hlj : FM.tm c j = lj at *
          generalize hhj : FM.tm c (j * 16) = hj' at *
          have HLJ := Lib.hid hlj; clear hlj
          have HHJ := Lib.hid hhj; clear hhj
          go_wp2_with fail
          refine (add_any _ [lo, lj] _ (u8s_new _ _ _ _ _ _ _ rfl rfl rfl (by simp [maxLen]) (by simp [ht1, hx1]))).mono ?_
          rintro e w' ⟨rfl, rfl⟩
          rw [HS1.out]
          go_wp2_with fail
          refine (add_any _ [hi, hj'] _ (u8s_new _ _ _ _ _ _ _ (by simp) rfl rfl (by simp [maxLen]) (by simp [ht2, hx2]))).mono ?_
          rintro e w' ⟨rfl, hw'⟩
          rw [HS1.out]
          obtain ⟨hr', hg'⟩ := HRX.out _ _
          rw [hw'] at hr' hg'
          clear hw' hc1 hc2 hc3 hf1 HRX
          have hc3 := hr'.cell (i := 16 + (m + j)) (by omega)
          have hf1 := hr'.frozen (16 + (m + j))
          have HP := Lib.hid (HRY.out w' hr' hg')
          clear hr' hg' HRY
          go_wp2
          go_roundw
          case rel => exact ⟨j + 1, by omega, by go_num, HP.out.2, HP.out.1⟩
          case measure => simp [intOf]; omega
        · obtain rfl : j = m := by omega
          have HP := Lib.hid (And.intro hg hr)
          clear hg hr
          go_wp2
          go_roundw
          case rel => exact ⟨k + 1, j * 2, by omega, by rw [Nat.pow_succ, ← hm.out]; rfl, by go_num, HP.out.1, by rw [Nat.mul_two]; exact HP.out.2⟩
          case measure => simp [intOf]; omega
    · have hm16 : m = 16 := by
        have : 2 ^ k ≤ 2 ^ 4 := Nat.pow_le_pow_right (by omega) hk
        have := hm.out
        omega
      subst hm16
      have hro := HR1.out.of_block (hg.block b (by omega) (by simp))
      obtain ⟨cs, hk1, hk2, hk3⟩ := hr
      obtain ⟨old, hk4, hk5, _⟩ := hro
      have hi : (Tryz.prog.info? 183).map (·.size) = some cs.size := by rw [hk2]; kernel_rfl
      have hone : cs.all (·.oneCell') = true := by
        rw [Array.all_eq_true]
        intro i hi
        have h := hk3 i (by omega)
        rw [Array.getElem?_eq_getElem hi] at h
        rw [Option.some.inj h]; rfl
      have hsame : old.size = cs.size := by rw [hk5, hk2]
      have HK3 := Lib.hid hk3
      have HK2 := Lib.hid hk2
      have hbw : b < wr.heap.size := by have := hg.size; omega
      have HFIN : Hid (Below b w (wr.setRow b cs) ∧ (wr.setRow b cs).heap[b]? = some (.cells cs 183 (0, 0))) :=
        ⟨(HB2.out.trans (below_grown hg (by omega) (by omega))).trans ⟨rfl, rfl, rfl, by simp, fun i hi => setRow_other wr b i cs (by omega)⟩, setRow_heap wr b old cs _ _ hk4⟩
      clear hk3 hk2 hk5 hg
      go_wp2_with (first | (refine wpList_load_row rfl 183 (.tmp 3) rfl (b + 1) rfl 183 cs (0, 0) _ hk1 Tryz.underlying183 rfl hi ?_) | (refine wpList_store_row rfl 183 (.tmp 2) (.tmp 52) rfl b cs rfl rfl 183 old hk4 hi hsame hone ?_))
      refine bodyPost_ret (v := .agg cs) (results_cell_row rfl _ _ b 183 cs (0, 0) _ rfl HFIN.out.2 Tryz.underlying183 rfl hi) rfl ⟨cs, rfl, HK2.out, HK3.out, ?_⟩
      rw [← HB.out]; exact HFIN.out.1
end Go.Proofs.YtpfmmfapdcbnkaaGreatDoor
namespace Go.Proofs.YtpfmmfapdcbnkaaGreatDoor
set_option maxRecDepth 20000
open Go.RowKit
set_option linter.unusedVariables false
theorem u8_and15 : ∀ a : Nat, a < 256 → bits .and .u8 (a : Int) 15 = ((a % 16 : Nat) : Int) := by decide +kernel
set_option maxHeartbeats 1000000 in
theorem of_any (g c a : Nat) (hc : c < 256) (ha : a < 256) (w : World) (hr : w.rowIs g 183 32 (fun i => .int .u8 (tabTo c 16 16 i : Nat))) :
    Calls Tryz.prog 124 #[.pointer (some ⟨g, 0, none⟩), .int .u8 a] w fun e w' => e = .returned (.int .u8 (FM.tm c a : Nat)) ∧ Below w.heap.size w w' := by
  have e1 := u8_and15 a ha
  have hlo : a % 16 < 16 := Nat.mod_lt _ (by omega)
  have hhi : a / 16 < 16 := by omega
  have hc1 : w.cell? ⟨g, a % 16, none⟩ = some (.int .u8 (FM.tm c (a % 16) : Nat)) := by
    rw [hr.cell (i := a % 16) (by omega), tabTo, if_pos hlo, if_pos hlo]
  have hc2 : w.cell? ⟨g, 16 + a / 16, none⟩ = some (.int .u8 (FM.tm c (a / 16 * 16) : Nat)) := by
    rw [hr.cell (i := 16 + a / 16) (by omega), tabTo, if_neg (by omega), if_pos (by omega), show 16 + a / 16 - 16 = a / 16 by omega]
  have hx1 := FM.tm_lt c (a % 16) hc
  have hx2 := FM.tm_lt c (a / 16 * 16) hc
  have HT : Hid (FM.sum [FM.tm c (a % 16), FM.tm c (a / 16 * 16)] = FM.tm c a) := by rw [tab_split c a ha]; simp [FM.sum, Hid]
  have hbl := hr.lt
  have HL1 : Hid (∀ w', w.Extends w' → w'.cell? ⟨g, a % 16, none⟩ = some (.int .u8 (FM.tm c (a % 16) : Nat))) := fun w' hw' => hw'.cell_of hc1
  have HL2 : Hid (∀ w', w.Extends w' → w'.cell? ⟨g, 16 + a / 16, none⟩ = some (.int .u8 (FM.tm c (a / 16 * 16) : Nat))) := fun w' hw' => hw'.cell_of hc2
  clear hc1 hc2 hr
  have hq : ((a : Int) / 16) = ((a / 16 : Nat) : Int) := by omega
  generalize a % 16 = r at *
  generalize a / 16 = q at *
  have hloI : (r : Int) < 16 := by omega
  have hhiI : (q : Int) < 16 := by omega
  generalize hlv : FM.tm c r = lo at *
  generalize hhv : FM.tm c (q * 16) = hi at *
  have HLV := Lib.hid hlv; clear hlv
  have HHV := Lib.hid hhv; clear hhv
  go_enter Tryz.func124, Tryz.ntmps124
  go_wp2_with fail
  refine Gr.region 16 [(false,0),(false,1),(false,2),(false,3),(false,4),(false,5),(false,6),(false,7),(false,8),(false,9),(false,10),(false,11),(false,12),(false,13),(true,14),(true,15)] (by kernel_rfl) (by kernel_rfl) (fun d _ _ _ _ h => by cases d <;> exact h) ?_
  simp only [Gr.pick, List.getElem?_cons_zero, List.getElem?_cons_succ, List.drop_succ_cons, List.drop_zero]
  iterate 14
    refine Gr.walk_t ?_ (Or.inl ⟨by rfl, ?_⟩) ?_
    rotate_left
    · intro w' hw'
      have hc1 := HL1.out w' (Gr.of_drew hw')
      have hc2 := HL2.out w' (Gr.of_drew hw')
      clear hw'
      go_simp
      try with_reducible rfl
    simp only [Act.put, List.setIfInBounds_toArray, List.set_cons_zero, List.set_cons_succ]
  refine Gr.walk_c (fun K hK => ?_)
  go_simp
  refine hK.out _ _ (ext_below ((Below.refl _ _).alloc (Nat.le_refl _) _) rfl) ?_
  clear hK K
  refine Gr.walk_c (fun K hK => ?_)
  go_simp
  refine (add_any _ [lo, hi] _ (u8s_new _ _ _ _ _ _ _ rfl rfl rfl (by simp [maxLen]) (by simp [hx1, hx2])).drew).mono ?_
  rintro e w' ⟨rfl, rfl⟩
  rw [HT.out]
  try go_simp
  refine hK.out _ _ (Gr.ext_refl _) ?_
  clear hK K
  refine Gr.walk_nil ?_
  go_wp2
  go_ret
  exact ⟨rfl, ((Below.refl _ _).alloc (Nat.le_refl _) _).drew⟩
end Go.Proofs.YtpfmmfapdcbnkaaGreatDoor
namespace Go.Proofs.YtpfmmfapdcbnkaaGreatDoor
set_option maxRecDepth 20000
open Go.RowKit
set_option maxHeartbeats 1000000 in
theorem scale_any (c : Nat) (v : Value) (r : List Nat) (w : World) (hc : c < 256) (hv : U8s w v r) (hlen : r.length ≤ 281474976710656) :
    Calls Tryz.prog 119 #[.int .u8 c, v] w fun e w' => e = .returned (.slice (some ⟨w.heap.size, 0, none⟩) r.length r.length) ∧ Below w.heap.size w w' ∧ Own w' w.heap.size 5 (RM.scale c r) := by
  obtain ⟨a, cap, rfl, hl, hm⟩ := hv.slice
  have hb0 : Below w.heap.size w (w.alloc (.cells (madeCells #[.int .u8 0] r.length) 5)) := (Below.refl _ _).alloc (Nat.le_refl _) _
  have hw1 : w.Extends (w.alloc (.cells (madeCells #[.int .u8 0] r.length) 5)) := ext_below hb0 rfl
  have ho0 : Own (w.alloc (.cells (madeCells #[.int .u8 0] r.length) 5)) w.heap.size 5 (RM.zeros r.length) := Own.made w r.length _ (by unfold maxLen; omega)
  have hmk := makeRow r.length hlen w
  have hcell := hv.cell.2
  have HLT := Lib.hid hv.lt
  have HXZ := Lib.hid (RM.xr_zeros (RM.scale c r))
  have HSL := Lib.hid (RM.scale_length c r)
  clear hv
  generalize hn : r.length = n at *
  have HN := Lib.hid hn; clear hn
  have hbs1 : w.heap.size < (w.alloc (.cells (madeCells #[.int .u8 0] n) 5)).heap.size := ho0.lt
  obtain ⟨w1, hw1e⟩ : ∃ w1, w1 = w.alloc (.cells (madeCells #[.int .u8 0] n) 5) := ⟨_, rfl⟩
  rw [← hw1e] at hw1 hb0 ho0 hmk hbs1
  clear hw1e
  generalize hbs : w.heap.size = b at *
  have HBS := Lib.hid hbs; clear hbs
  have HO0 := Lib.hid ho0; clear ho0
  have HB0 := Lib.hid hb0; clear hb0
  have HW1 := Lib.hid hw1; clear hw1
  have HCELL := Lib.hid hcell; clear hcell
  by_cases h0 : n = 0
  · subst h0
    have HS : Hid (RM.scale c r = RM.zeros 0) := by rw [List.eq_nil_of_length_eq_zero HN.out]; exact rfl
    go_enter Tryz.func119, Tryz.ntmps119
    simp only [Int.cast_ofNat_Int] at hmk
    go_wp2
    refine wp_loop_rounds 1 ?_; rw [rounds_succ]
    go_wp2
    go_ret
    exact ⟨rfl, HB0.out, by rw [HS.out]; exact HO0.out⟩
  · obtain ⟨bb, off, rfl, hbb, hrow⟩ := HCELL.out (by omega)
    clear HCELL
    have HR := Lib.hid hrow; clear hrow
    by_cases h16 : n < 16
    · have hd16 : decide ((n : Int) < 16) = true := by simp; omega
      go_enter Tryz.func119, Tryz.ntmps119
      go_wp2
      clear hmk
      go_loopw [19] (fun i wr => ∃ k : Nat, k ≤ n ∧ i = .int .i64 k ∧ w1.grownBy wr (some b) ∧ Own wr b 5 (RM.xrTo k (RM.zeros n) (RM.scale c r))) (fun i _ => (n - intOf i).toNat)
      case atStart => exact ⟨0, by omega, rfl, grown_refl _ _, by rw [RM.xrTo_zero]; exact HO0.out⟩
      case round =>
        obtain ⟨k, hk, rfl, hg, ho⟩ := hrel
        by_cases h1 : k < n
        · have hc1 : wr.cell? ⟨bb, off + k, none⟩ = some (.int .u8 (r.getD k 0 : Nat)) := hg.cell ((HW1.out.cell ⟨bb, off + k, none⟩ (by rw [HBS.out]; exact hbb)).trans (HR.out k h1)) (by simp; omega)
          have hkz : k < (RM.zeros n).length := by rw [RM.zeros_length]; exact h1
          have hc2 : wr.cell? ⟨b, k, none⟩ = some (.int .u8 (0 : Nat)) := by
            have := ho.1.cell (i := k) (by rw [RM.xrTo_length]; exact hkz)
            rw [this, RM.xrTo_at k _ _ hkz, RM.zeros_getD]
          have hc3 := ho.1.frozen k
          have hbl := ho.lt
          have hx1 := getD_lt r HLT.out k
          have hp : Hid (FM.prod [c, r.getD k 0] = FM.tm c (r.getD k 0)) := by show FM.tm (FM.tm 1 c) _ = _; rw [FM.tm_one_left c hc]
          have HS1 : Hid (Own (wr.setCell ⟨b, k, none⟩ (.int .u8 (FM.tm c (r.getD k 0) : Nat))) b 5 (RM.xrTo (k + 1) (RM.zeros n) (RM.scale c r))) := by
            rw [← RM.xrTo_succ k _ _ hkz, RM.zeros_getD, RM.scale_getD, Nat.zero_xor]
            exact ho.set k _ (by rw [RM.xrTo_length]; exact hkz) (FM.tm_lt _ _ hc)
          have HG := Lib.hid hg
          clear hg ho
          generalize hx : r.getD k 0 = x at *
          have HX := Lib.hid hx; clear hx
          go_wp2_with fail
          refine (mul_any _ [c, x] _ (u8s_new _ _ _ _ _ _ _ rfl rfl rfl (by simp [maxLen]) (by simp [hc, hx1]))).mono ?_
          rintro e w' ⟨rfl, rfl⟩
          rw [hp.out]
          go_wp2
          go_roundw
          case rel => exact ⟨k + 1, by omega, by go_num, grown_alloc (grown_setCell HG.out _ _) _, HS1.out.alloc _⟩
          case measure => simp [intOf]; omega
        · obtain rfl : k = n := by omega
          have HP : Hid (Below b w wr ∧ Own wr b 5 (RM.scale c r)) := ⟨HB0.out.trans (below_grown hg (Nat.le_refl _) (Nat.le_of_lt hbs1)), by
            rw [← HXZ.out, HSL.out, ← RM.xrTo_all k _ _ (by rw [RM.zeros_length, HSL.out]; omega)]; exact ho⟩
          clear hg ho
          go_wp2
          go_ret
          exact ⟨rfl, HP.out⟩
    · have hd16 : decide ((n : Int) < 16) = false := by simp; omega
      go_enter Tryz.func119, Tryz.ntmps119
      go_wp2_with fail
      refine (timesOf_any c hc _).mono ?_
      rintro e w2 ⟨cs, rfl, hcs, hk3, hb2⟩
      clear hmk
      have hi : (Tryz.prog.info? 183).map (·.size) = some cs.size := by rw [hcs]; kernel_rfl
      have hone : cs.all (·.oneCell') = true := by
        rw [Array.all_eq_true]
        intro i hi
        have h := hk3 i (by omega)
        rw [Array.getElem?_eq_getElem hi] at h
        rw [Option.some.inj h]; rfl
      have HCS := Lib.hid hcs
      have HK3 := Lib.hid hk3
      have hs2 := hb2.size
      have HB2 := Lib.hid hb2
      clear hcs hk3 hb2
      go_wp2_with (refine wpList_store_row rfl 183 (.tmp 8) (.tmp 34) rfl w2.heap.size cs rfl rfl 183 _ (heap_alloc_new _ _) hi (by rw [HCS.out]; rfl) hone ?_)
      generalize hw3 : World.setRow (World.alloc w2 _) _ cs = w3
      have ht3 : w3.rowIs w2.heap.size 183 32 (fun i => .int .u8 (tabTo c 16 16 i : Nat)) := by
        subst hw3
        exact ⟨cs, setRow_heap _ _ _ _ _ _ (heap_alloc_new _ _), HCS.out, HK3.out⟩
      have hg3 : w1.grownBy w3 none := by
        subst hw3
        refine grown_trans (grown_below HB2.out (Nat.le_refl _)) ⟨rfl, rfl, rfl, by simp, fun i hi _ => ?_⟩
        exact (setRow_other _ _ i _ (by omega)).trans (Go.heap_alloc_old (w := _) (o := _) (h := hi))
      generalize hbt : w2.heap.size = bt at *
      clear hbt hw3 HB2 HCS HK3 hi hone
      have hbt : b ≠ bt := by omega
      have HO3 := Lib.hid (HO0.out.grown hg3 (by simp))
      have HG3 : Hid (w1.grownBy w3 (some b)) := ⟨hg3.os, hg3.tape, hg3.output, hg3.size, fun i hi _ => hg3.block i hi (by simp)⟩
      have HT3 := Lib.hid ht3
      clear hg3 ht3
      go_loopw [37] (fun i wr => ∃ k : Nat, k ≤ n ∧ i = .int .i64 k ∧ w1.grownBy wr (some b) ∧ Own wr b 5 (RM.xrTo k (RM.zeros n) (RM.scale c r)) ∧ wr.rowIs bt 183 32 (fun i => .int .u8 (tabTo c 16 16 i : Nat))) (fun i _ => (n - intOf i).toNat)
      case atStart => exact ⟨0, by omega, rfl, HG3.out, by rw [RM.xrTo_zero]; exact HO3.out, HT3.out⟩
      case round =>
        obtain ⟨k, hk, rfl, hg, ho, ht⟩ := hrel
        by_cases h1 : k < n
        · have hc1 : wr.cell? ⟨bb, off + k, none⟩ = some (.int .u8 (r.getD k 0 : Nat)) := hg.cell ((HW1.out.cell ⟨bb, off + k, none⟩ (by rw [HBS.out]; exact hbb)).trans (HR.out k h1)) (by simp; omega)
          have hkz : k < (RM.zeros n).length := by rw [RM.zeros_length]; exact h1
          have hc2 : wr.cell? ⟨b, k, none⟩ = some (.int .u8 (0 : Nat)) := by
            have := ho.1.cell (i := k) (by rw [RM.xrTo_length]; exact hkz)
            rw [this, RM.xrTo_at k _ _ hkz, RM.zeros_getD]
          have hc3 := ho.1.frozen k
          have hbl := ho.lt
          have hx1 := getD_lt r HLT.out k
          have HE : Hid (RM.xrTo (k + 1) (RM.zeros n) (RM.scale c r) = (RM.xrTo k (RM.zeros n) (RM.scale c r)).set k (FM.tm c (r.getD k 0))) := by
            show _ = _
            rw [← RM.xrTo_succ k _ _ hkz, RM.zeros_getD, RM.scale_getD, Nat.zero_xor]
          have HO := Lib.hid ho
          have HG := Lib.hid hg
          have HT := Lib.hid ht
          clear hg ho ht
          generalize hx : r.getD k 0 = x at *
          have HX := Lib.hid hx; clear hx
          go_wp2_with fail
          refine (of_any bt c x hc hx1 _ HT.out).mono ?_
          rintro e w' ⟨rfl, hb'⟩
          have HC3 := Lib.hid ((Own.below (B := wr.heap.size) HO.out hb' hbl).set k _ (by rw [RM.xrTo_length]; exact hkz) (FM.tm_lt c x hc))
          have hc3 := (Own.below (B := wr.heap.size) HO.out hb' hbl).1.frozen k
          have hc2 := hb'.cell (p := ⟨b, k, none⟩) hbl |>.trans hc2
          have HT' := Lib.hid (HT.out.of_block (hb'.block bt HT.out.lt))
          have HG' := Lib.hid (grown_trans HG.out (grown_below (r := some b) hb' (Nat.le_refl _)))
          clear hb' HT HG
          go_wp2
          go_roundw
          case rel => exact ⟨k + 1, by omega, by go_num, grown_setCell HG'.out _ _, by rw [HE.out]; exact HC3.out, HT'.out.setOther (by exact Ne.symm hbt) _⟩
          case measure => simp [intOf]; omega
        · obtain rfl : k = n := by omega
          have HP : Hid (Below b w wr ∧ Own wr b 5 (RM.scale c r)) := ⟨HB0.out.trans (below_grown hg (Nat.le_refl _) (Nat.le_of_lt hbs1)), by
            rw [← HXZ.out, HSL.out, ← RM.xrTo_all k _ _ (by rw [RM.zeros_length, HSL.out]; omega)]; exact ho⟩
          clear hg ho
          go_wp2
          go_ret
          exact ⟨rfl, HP.out⟩
set_option maxHeartbeats 1000000 in
theorem mix_any (n : Int) (u v : Value) (c : List Nat) (l : List (List Nat)) (w : World) (hu : U8s w u c) (hv : Rws w v l) :
    Calls Tryz.prog 113 #[.int .i64 n, u, v] w fun e w' => e = .returned (.slice (some ⟨w.heap.size, 0, none⟩) (RM.cut n) (RM.cut n)) ∧ Below w.heap.size w w' ∧ Own w' w.heap.size 5 (RM.mix (RM.cut n) c l) := by
  have hm0 := cut_le n
  have hm1 := hu.len
  have hm2 := hv.len
  obtain ⟨a, cap, rfl, _, _⟩ := hu.slice
  obtain ⟨a', cap', rfl, _⟩ := hv.slice
  have hw1 : w.Extends (w.alloc (.cells (madeCells #[.int .u8 0] (RM.cut n)) 5)) := ext_below ((Below.refl _ _).alloc (Nat.le_refl _) _) rfl
  have hcu := Lib.hid hu.cell.2
  have hcv := Lib.hid hv.at.2
  have HCL := Lib.hid hu.lt
  have HD : Hid (RM.mix (RM.cut n) c l = RM.mixTo (RM.cut n) (min c.length l.length) c l) := rfl
  clear hu hv
  have HB0 : Hid (Below w.heap.size w (w.alloc (.cells (madeCells #[.int .u8 0] (RM.cut n)) 5))) := (Below.refl _ _).alloc (Nat.le_refl _) _
  have HO0 := Lib.hid (Own.madeZ w (RM.cut n) hm0)
  generalize c.length = n1 at *
  generalize l.length = n2 at *
  unfold maxLen at hm1 hm2
  obtain ⟨w1, hw1e⟩ : ∃ w1, w1 = w.alloc (.cells (madeCells #[.int .u8 0] (RM.cut n)) 5) := ⟨_, rfl⟩
  rw [← hw1e] at hw1 HB0 HO0
  have HE := Lib.hid hw1e; clear hw1e
  have HW1 := Lib.hid hw1; clear hw1
  generalize hcn : RM.cut n = m at *
  have HCN := Lib.hid hcn; clear hcn
  generalize hbs : w.heap.size = b at *
  have HBS := Lib.hid hbs; clear hbs
  go_enter Tryz.func113, Tryz.ntmps113
  go_wp2_with fail
  refine (zeros_any _ _).mono ?_
  rintro e w1' ⟨rfl, he⟩
  obtain rfl : w1 = w1' := by rw [HE.out, he, HCN.out]
  clear he HE
  rw [HCN.out, HBS.out]
  go_wp2
  all_goals
    obtain ⟨q, hq⟩ : ∃ q, q = min n1 n2 := ⟨_, rfl⟩
    have HMM := Lib.hid hq
    have hqn1 : q ≤ n1 := by omega
    have hqn2 : q ≤ n2 := by omega
    first
      | (have e : q = n2 := by omega
         subst e)
      | (have e : q = n1 := by omega
         subst e)
    clear hq
    go_loopw [16] (fun i wr => ∃ k : Nat, k ≤ q ∧ i = .int .i64 k ∧ w1.grownBy wr (some b) ∧ Own wr b 5 (RM.mixTo m k c l)) (fun i _ => (q - intOf i).toNat)
    case atStart => exact ⟨0, by omega, rfl, grown_refl _ _, HO0.out⟩
    case round =>
      obtain ⟨k, hk, rfl, hg, ho⟩ := hrel
      by_cases h1 : k < q
      · obtain ⟨b1, o1, rfl, hb1, hc1⟩ := hcu.out (by omega)
        obtain ⟨b2, o2, rfl, hb2, hc2⟩ := hcv.out (by omega)
        have hi1 := Nat.lt_of_lt_of_le h1 hqn1
        have hi2 := Nat.lt_of_lt_of_le h1 hqn2
        obtain ⟨ra, rc, hc3, hr0⟩ := hc2 k (by omega)
        have hold := hr0.old (b := b) (by rw [HBS.out]; exact Nat.le_refl _)
        have hx1 := getD_lt c HCL.out k
        have HSN := Lib.hid (RM.mixTo_succ m k c l)
        have hsl := RM.mixTo_length m k c l
        have hbl := ho.lt
        have HL1 : Hid (∀ w', wr.Extends w' → w'.cell? ⟨b1, o1 + k, none⟩ = some (.int .u8 (c.getD k 0 : Nat))) := fun w' hw' => (hw'.cell_of (hg.cell (HW1.out.cell_of (hc1 k (by omega))) (by simp; omega)))
        have HL2 : Hid (∀ w', wr.Extends w' → w'.cell? ⟨b2, o2 + k, none⟩ = some (.slice ra (l.getD k []).length rc)) := fun w' hw' => (hw'.cell_of (hg.cell (HW1.out.cell_of hc3) (by simp; omega)))
        have HU := Lib.hid ((hr0.ext HW1.out).grown hg hold)
        have HG := Lib.hid hg
        have HO := Lib.hid ho
        clear hc1 hc2 hc3 hr0 hold hg ho
        generalize hx : c.getD k 0 = x at *
        have HXX := Lib.hid hx; clear hx
        generalize hr : l.getD k [] = r at *
        have HRR := Lib.hid hr; clear hr
        generalize hs : RM.mixTo m k c l = sm at *
        have HSS := Lib.hid hs; clear hs
        obtain ⟨_, _, hrs, hrc1, hrc2⟩ := HU.out.slice
        cases hrs
        have hrt := HU.out.take m
        have HRT : Hid (U8s wr (.slice ra (r.take m).length rc) (r.take m)) := by rw [show (r.take m).length = min m r.length by simp]; exact hrt
        have HRL : Hid ((r.take m).length = min m r.length) := by simp [Hid]
        clear hrt
        go_wp2_with fail
        refine Gr.region 13 [(false,0),(false,1),(false,2),(false,3),(false,4),(false,5),(false,6),(false,7),(false,8),(false,9),(false,10),(true,11),(true,12)] (by kernel_rfl) (by kernel_rfl) (fun d _ _ _ _ h => by cases d <;> exact h) ?_
        simp only [Gr.pick, List.getElem?_cons_zero, List.getElem?_cons_succ, List.drop_succ_cons, List.drop_zero]
        iterate 11
          refine Gr.walk_t ?_ (Or.inl ⟨by rfl, ?_⟩) ?_
          rotate_left
          · intro w' hw'
            have hc1 := HL1.out w' (Gr.of_drew hw')
            have hc2 := HL2.out w' (Gr.of_drew hw')
            clear hw'
            go_simp
            try with_reducible rfl
          simp only [Act.put, List.setIfInBounds_toArray, List.set_cons_zero, List.set_cons_succ]
        refine Gr.walk_c (fun K hK => ?_)
        go_simp
        refine (head_any _ _ _ _ hrc1 hrc2 _).mono ?_
        rintro e w' ⟨rfl, rfl⟩
        try go_simp
        refine hK.out _ _ (Gr.ext_refl _) ?_
        clear hK K
        refine Gr.walk_c (fun K hK => ?_)
        go_simp
        rw [← HRL.out]
        refine (scale_any x _ (r.take m) _ hx1 HRT.out.drew (by rw [HRL.out]; omega)).mono ?_
        rintro e w2 ⟨rfl, hb2', ho2⟩
        try go_simp
        refine hK.out _ _ (ext_below hb2' rfl) ?_
        clear hK K
        refine Gr.walk_nil ?_
        have hu2 := ho2.u8s
        rw [RM.scale_length, HRL.out] at hu2
        have hc4 := add_row b sm (RM.scale x (r.take m)) _ w2 (HO.out.below (B := wr.heap.size) (below_undrew hb2') hbl) hu2 (.inr (by simp [Value.ownBlock]; omega))
        have HC4 : Hid (Calls Tryz.prog 104 #[.slice (some ⟨b, 0, none⟩) m m, .slice (some ⟨wr.heap.size, 0, none⟩) (min m r.length) (min m r.length)] w2 fun e w' => e = .returned (.tuple #[]) ∧ w2.grownBy w' (some b) ∧ Own w' b 5 (RM.xr sm (RM.scale x (r.take m)))) := by
          rw [hsl] at hc4; exact hc4
        have HB2 := Lib.hid (grown_below (r := some b) (below_undrew hb2') (Nat.le_refl _))
        have HXT : Hid (RM.xr sm (RM.scale x (r.take m)) = RM.mixTo m (k + 1) c l) := by
          rw [RM.scale_take, RM.xr_take _ _ _ (by rw [hsl]; exact Nat.le_refl _)]; exact HSN.out.symm
        clear hu2 hc4 ho2 hb2' hsl
        go_wp2_with fail
        refine HC4.out.mono ?_
        rintro e w' ⟨rfl, hg', ho'⟩
        have HP : Hid (w1.grownBy w' (some b) ∧ Own w' b 5 (RM.mixTo m (k + 1) c l)) := ⟨grown_trans (grown_trans HG.out HB2.out) hg', by rw [← HXT.out]; exact ho'⟩
        clear hg' ho'
        go_wp2
        go_roundw
        case rel => exact ⟨k + 1, by omega, by go_num, HP.out⟩
        case measure => simp [intOf]; omega
      · obtain rfl : k = q := by omega
        have HP : Hid (Below b w wr ∧ Own wr b 5 (RM.mix m c l)) := ⟨HB0.out.trans (below_grown hg (Nat.le_refl _) (Nat.le_of_lt HO0.out.lt)), by rw [HD.out, ← HMM.out]; exact ho⟩
        clear hg ho
        go_wp2
        go_ret
        exact ⟨rfl, HP.out⟩
end Go.Proofs.YtpfmmfapdcbnkaaGreatDoor
namespace Go.Proofs.YtpfmmfapdcbnkaaGreatDoor
set_option maxRecDepth 20000
open Go.RowKit
theorem scale_snoc (c : Nat) (r : List Nat) (k : Nat) (h : k < r.length) : RM.scale c (r.take (k + 1)) = RM.scale c (r.take k) ++ [FM.tm c (r.getD k 0)] := by
  rw [List.take_succ_eq_append_getElem h, RM.scale, List.map_append]
  simp [RM.scale, h]
theorem u8vs_append (xs ys : List Nat) : u8vs (xs ++ ys) = u8vs xs ++ u8vs ys := by simp [u8vs]
/-- A slice that the call has made, of these bytes. -/
def MadeBytesF (w : World) (xs : List Nat) (e : Ending) (w' : World) : Prop := ∃ v', e = .returned v' ∧ Below w.heap.size w w' ∧ U8s w' v' xs ∧ w'.ownsRow w.heap.size 5 1 v' xs.length (u8vs xs)
set_option maxHeartbeats 1000000 in
theorem rscale_any (c : Nat) (v : Value) (r : List Nat) (w : World) (hc : c < 256) (hv : U8s w v r) (hlen : r.length ≤ 140737488355328) :
    Calls Tryz.prog 79 #[.int .u8 c, v] w (MadeBytesF w (RM.scale c r)) := by
  obtain ⟨a, cap, rfl, hl, hm⟩ := hv.slice
  have HV := Lib.hid hv.cell.2
  have HLT := Lib.hid hv.lt
  clear hv hl hm
  obtain ⟨i0, hi, hz0, hz1, hz2⟩ := info_parts u8info
  have HI := Lib.hid hi; clear hi
  have HZ0 := Lib.hid hz0; clear hz0
  have HZ1 := Lib.hid hz1; clear hz1
  have HZ2 := Lib.hid hz2; clear hz2
  generalize hn : r.length = n at *
  have HN := Lib.hid hn; clear hn
  have HFIN : Hid (∀ (v' : Value) (w' : World), Below w.heap.size w w' → w'.ownsRow w.heap.size 5 1 v' n (u8vs (RM.scale c r)) → MadeBytesF w (RM.scale c r) (.returned v') w') :=
    fun v' w' h1 h2 => ⟨v', rfl, h1, owns_u8s h2 (RM.scale_lt c r hc), by rw [RM.scale_length, HN.out]; exact h2⟩
  have HOB : Hid (∀ (w' : World) (v' : Value) (k : Nat) (xs : List Value), w'.ownsRow w.heap.size 5 1 v' k xs → ∀ g, v'.ownBlock = some g → w.heap.size ≤ g) := fun w' v' k xs h g hg => (h.lt g hg).1
  go_enter Tryz.func79, Tryz.ntmps79
  go_wp2
  go_loopw [5, 6] (fun o i wr => ∃ k : Nat, k ≤ n ∧ i = .int .i64 k ∧ Below w.heap.size w wr ∧ wr.ownsRow w.heap.size 5 1 o k (u8vs (RM.scale c (r.take k)))) (fun _ i _ => (n - intOf i).toNat)
  case atStart => exact ⟨0, by omega, rfl, Below.refl _ _, World.ownsRow_nil _ _ _ _⟩
  case round =>
    obtain ⟨k, hk, rfl, hb, hown⟩ := hrel
    by_cases h1 : k < n
    · obtain ⟨b1, o1, rfl, hb1, hc1⟩ := HV.out (by omega)
      have hc2 : wr.cell? ⟨b1, o1 + k, none⟩ = some (.int .u8 (r.getD k 0 : Nat)) := (hb.cell (p := ⟨b1, o1 + k, none⟩) hb1).trans (hc1 k h1)
      have hx1 := getD_lt r HLT.out k
      have htm := FM.tm_lt c (r.getD k 0) hc
      have hrt := FM.rtm_eq c (r.getD k 0) hc hx1
      have HSN := Lib.hid (scale_snoc c r k (by rw [HN.out]; exact h1))
      have HB := Lib.hid hb
      have HOWN := Lib.hid hown
      have hbs := hb.size
      clear hc1 hb hown
      generalize hx : r.getD k 0 = x at *
      have HX := Lib.hid hx; clear hx
      have HRT := Lib.hid hrt; clear hrt
      go_wp2_with fail
      refine (rtimes_any c x hc hx1 _).mono ?_
      rintro e w' ⟨rfl, rfl⟩
      rw [HRT.out]
      generalize FM.tm c x = y at *
      go_wp2_with (at_builtin; refine wpList_append_own_src _ rfl _ _ 30 30 rfl w.heap.size 5 i0 (.int .u8 0) 1 1 Tryz.underlying30 HI.out HZ0.out HZ1.out HZ2.out rfl _ _ _ rfl (HOWN.out.alloc _) _ 1 (u8vs [y]) rfl (U8s.src (xs := [y]) (u8s_new _ _ _ _ _ _ _ rfl rfl rfl (by simp [maxLen]) (by simp [htm])) Tryz.underlying30) (by unfold maxLen; omega) (by omega) (by simp; omega) ?_)
      intro v' w' ho' hg' _
      have HP : Hid (Below w.heap.size w w' ∧ w'.ownsRow w.heap.size 5 1 v' (k + 1) (u8vs (RM.scale c (r.take (k + 1))))) := ⟨(HB.out.alloc hbs _).grown hg' (by simp; omega) (HOB.out _ _ _ _ HOWN.out), by rw [HSN.out, u8vs_append]; exact ho'⟩
      clear ho' hg'
      go_wp2
      go_roundw
      case rel => exact ⟨k + 1, by omega, by go_num, HP.out⟩
      case measure => simp [intOf]; omega
    · obtain rfl : k = n := by omega
      have HP := Lib.hid (HFIN.out _ _ hb (by rw [show r = r.take k by rw [← HN.out, List.take_length]]; exact hown))
      clear hb hown HFIN
      go_wp2
      go_ret
      exact HP.out
end Go.Proofs.YtpfmmfapdcbnkaaGreatDoor
namespace Go.Proofs.YtpfmmfapdcbnkaaGreatDoor
set_option maxRecDepth 20000
open Go.RowKit Go.Deep
set_option linter.unusedVariables false
/-- v is the call's own slice of values that read as the first k of l. -/
def AppInv (w : World) (B : Nat) (v : Value) (k : Nat) (l : List (List Nat)) : Prop := ∃ vs, w.ownsRow B 99 1 v k vs ∧ ∀ j, j < k → ∃ u, vs[j]? = some u ∧ RowOk w B u (l.getD j [])
theorem AppInv.rws {w : World} {B : Nat} {v : Value} {k : Nat} {l : List (List Nat)} (h : AppInv w B v k l) (hk : k = l.length) : Rws w v l := by
  subst hk
  obtain ⟨vs, hown, hrow⟩ := h
  rcases hown.2 with ⟨rfl, h0⟩ | ⟨g, cap, cur, rfl, hbg, hg, hnc, hcm, hcs, htake⟩
  · exact .inl ⟨List.eq_nil_of_length_eq_zero h0, none, 0, rfl⟩
  · refine .inr ⟨g, 0, cap, rfl, hnc, hcm, (Array.getElem?_eq_some_iff.1 hg).1, fun j hj => ?_⟩
    obtain ⟨u, hu, ho⟩ := hrow j hj
    refine ⟨u, ?_, ho.1⟩
    have := hown.cells (g := g) rfl j u hu
    rw [Addr.add_mid] at this
    exact this
/-- Behind append([]rows.Row(nil), l...). -/
theorem AppInv.all {w w' : World} {v' : Value} {l : List (List Nat)} {vs : List Value} (hv : ∀ j, j < l.length → ∃ u, vs[j]? = some u ∧ U8s w u (l.getD j [])) (ho : w'.ownsRow w.heap.size 99 1 v' l.length vs) (hx : w.Extends w') : AppInv w' w.heap.size v' l.length l := by
  refine ⟨vs, ho, fun j hj => ?_⟩
  obtain ⟨u, h1, h2⟩ := hv j hj
  exact ⟨u, h1, (RowOk.old h2 (Nat.le_refl _)).ext hx⟩
theorem AppInv.snoc {w w' : World} {B : Nat} {v v' u : Value} {k : Nat} {l : List (List Nat)} {vs : List Value} {r : List Nat} (hk : k = l.length) (hown : w.ownsRow B 99 1 v k vs) (hr : ∀ j, j < k → ∃ u, vs[j]? = some u ∧ RowOk w B u (l.getD j [])) (hu : RowOk w B u r)
    (hg : w.grownBy w' v.ownBlock) (ho : w'.ownsRow B 99 1 v' (k + 1) (vs ++ [u])) : AppInv w' B v' (k + 1) (l ++ [r]) := by
  have hl : vs.length = k := by have := hown.1; omega
  have keep : ∀ {x : Value} {xs : List Nat}, RowOk w B x xs → RowOk w' B x xs := fun {x xs} h => by
    by_cases hn : v.ownBlock = none
    · rw [hn] at hg
      exact h.ext (ext_below ⟨hg.os, hg.tape, hg.output, hg.size, fun i hi => hg.block i hi (by simp)⟩ rfl)
    · exact h.grown hg (h.apart (B' := B) hown (by decide) hn)
  refine ⟨vs ++ [u], ho, fun j hj => ?_⟩
  by_cases hjk : j < k
  · obtain ⟨u', hu', ho'⟩ := hr j hjk
    refine ⟨u', by rw [List.getElem?_append_left (by omega)]; exact hu', ?_⟩
    rw [show (l ++ [r]).getD j [] = l.getD j [] by simp [List.getD_eq_getElem?_getD, List.getElem?_append_left (show j < l.length by omega)]]
    exact keep ho'
  · obtain rfl : j = k := by omega
    refine ⟨u, by rw [List.getElem?_append_right (by omega), hl]; simp, ?_⟩
    rw [show (l ++ [r]).getD j [] = r by simp [hk]]
    exact keep hu
theorem AppInv.ext {w w' : World} {B : Nat} {v : Value} {k : Nat} {l : List (List Nat)} (h : AppInv w B v k l) (hx : w.Extends w') : AppInv w' B v k l := by
  obtain ⟨vs, ho, hr⟩ := h
  have hg : w.grownBy w' none := ⟨hx.os, hx.tape, hx.output, hx.size, fun i hi _ => hx.block i hi⟩
  refine ⟨vs, ho.kept hg (by cases v.ownBlock <;> simp), fun j hj => ?_⟩
  obtain ⟨u, h1, h2⟩ := hr j hj
  exact ⟨u, h1, h2.ext hx⟩
end Go.Proofs.YtpfmmfapdcbnkaaGreatDoor
