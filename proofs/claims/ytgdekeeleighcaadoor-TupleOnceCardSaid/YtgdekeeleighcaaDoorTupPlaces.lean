/- tuple.places: the places that are drawn for y. -/
import Derived.Test.YtgdekeeleighcaaDoorTupMath
import Derived.Test.YtgdekeeleighcaaDoorTupSlices
import Derived.Test.YtgdekeeleighcaaDoorRndRefDegree
import Derived.Test.YtgdekeeleighcaaDoorGrow
import Derived.Deep.DeepCutAuto
namespace Go.Proofs.YtgdekeeleighcaaDoor
open Go.RowKit Go.Deep
set_option linter.unusedVariables false
/-- Nats as ints. -/
def nats (l : List Nat) : List Int := l.map fun (x : Nat) => (x : Int)
theorem nats_length (l : List Nat) : (nats l).length = l.length := by simp [nats]
theorem nats_snoc (l : List Nat) (x : Nat) : nats (l ++ [x]) = nats l ++ [(x : Int)] := by simp [nats]
theorem nats_at (l : List Nat) (k : Nat) : (nats l).getD k 0 = (l.getD k 0 : Nat) := by
  by_cases hk : k < l.length
  · simp [nats, hk]
  · simp [nats, List.getD_eq_getElem?_getD, List.getElem?_eq_none (Nat.le_of_not_lt hk)]
theorem nats_mem (l : List Nat) (x : Nat) : (x : Int) ∈ nats l ↔ x ∈ l := by
  unfold nats; rw [List.mem_map]
  exact ⟨fun ⟨y, hy, e⟩ => by have : y = x := by omega
                              exact this ▸ hy, fun h => ⟨x, h, rfl⟩⟩
/-- The answer is a slice of the call's own of these numbers. -/
def MadeInts (w : World) (l : List Nat) (e : Ending) (w' : World) : Prop := ∃ v, e = .returned v ∧ w.Extends w' ∧ w'.ownsRow w.heap.size 3 1 v l.length (i64vs (nats l))
/-- What is drawn for y, as numbers. -/
theorem drawn_nums (W y : Nat) (h3 : 2 ≤ W) : ∃ g s b : Nat, RM.degree (RM.rand y 0 1048576) = (g : Int) ∧ RM.rand y 1 ((W : Int) - 1) = (s : Int) ∧ RM.rand y 2 (W : Int) = (b : Int) ∧
    1 ≤ g ∧ g ≤ 8 ∧ s < W - 1 ∧ b < W ∧ TM.deg W y = min g W ∧ TM.step W y = 1 + s ∧ TM.start W y = b := by
  obtain ⟨s0, s1⟩ := RM.rand_below y 1 ((W : Int) - 1) (by omega)
  obtain ⟨b0, b1⟩ := RM.rand_below y 2 (W : Int) (by omega)
  have hp := RM.passed_le (RM.rand y 0 1048576) 7
  refine ⟨1 + RM.passed (RM.rand y 0 1048576) 7, (RM.rand y 1 ((W : Int) - 1)).toNat, (RM.rand y 2 (W : Int)).toNat, rfl, by omega, by omega, by omega, by omega, by omega, by omega, rfl, rfl, rfl⟩
theorem draws_any (y : Nat) (hy : y < 4294967296) (w : World) (m r : Int) (i : Nat) (hr : RM.rand y i m = r) (h0 : -9223372036854775808 ≤ m) (h1 : m ≤ 9223372036854775807) :
    Calls Tryd.prog 28 #[.int .u32 y, .int .u32 i, .int .i64 m] w fun e w' => e = .returned (.int .i64 r) ∧ w = w' := by
  subst hr; exact rand_any y i m hy h0 h1 w
/-- Place i on the ring, in the walk's words. -/
theorem ring_at (W s b k : Nat) : ((b : Int) + (k : Int) * (1 + (s : Int))) % (W : Int) = (((b + k * (1 + s)) % W : Nat) : Int) := by
  rw [Int.natCast_emod, Int.natCast_add, Int.natCast_mul, Int.natCast_add]; rfl
theorem ring_next (W m : Nat) : ((m : Int) + 1) % (W : Int) = (((m + 1) % W : Nat) : Int) := by rw [Int.natCast_emod, Int.natCast_add]; rfl
theorem met_snoc (W a b k : Nat) : i64vs (nats (TM.met W a b k)) ++ [.int .i64 (TM.skip W (TM.met W a b k) W ((b + k * a) % W) : Nat)] = i64vs (nats (TM.met W a b (k + 1))) := by
  show _ = i64vs (nats (TM.met W a b k ++ [_])); rw [nats_snoc, i64vs_snoc]
set_option maxHeartbeats 1000000 in
theorem places_any (W y : Nat) (w : World) (h3 : 2 ≤ W) (hW : W ≤ 1000) (hy : y < 4294967296) (hT : Tab w) :
    Calls Tryd.prog 27 #[.int .i64 W, .int .u32 y] w (MadeInts w (TM.places W y)) := by
  obtain ⟨g, s, b, hg, hs, hb, g1, g8, sW, bW, eg, es, eb⟩ := drawn_nums W y h3
  have H0 := Lib.hid (draws_any y hy w 1048576 _ 0 rfl (by decide) (by decide))
  have HD := Lib.hid (degree_any (RM.rand y 0 1048576) w hT)
  rw [hg] at HD
  have H1 := Lib.hid (draws_any y hy w ((W : Int) - 1) _ 1 hs (by omega) (by omega))
  have H2 := Lib.hid (draws_any y hy w W _ 2 hb (by omega) (by omega))
  have HPL : Hid (TM.places W y = TM.met W (1 + s) b (min g W)) := by unfold TM.places; rw [eg, es, eb]; rfl
  clear hg hs hb eg es eb
  generalize RM.rand y 0 1048576 = r0 at *
  obtain ⟨d, hd⟩ : ∃ d, d = min g W := ⟨_, rfl⟩
  rw [← hd] at HPL
  have hdW : d ≤ W := by omega
  have hd8 : d ≤ 8 := by omega
  have HDD := Lib.hid hd
  clear hd
  have HT := Lib.hid hT
  clear hT
  obtain ⟨i0, hi, hz0, hz1, hz2⟩ := info_parts intinfo
  have HI := Lib.hid hi; clear hi
  have HZ0 := Lib.hid hz0; clear hz0
  have HZ1 := Lib.hid hz1; clear hz1
  have HZ2 := Lib.hid hz2; clear hz2
  go_enter Tryd.func27, Tryd.ntmps27
  go_upto_region 1 with fail
  go_cut [5] (fun s5 wx => s5 = .int .i64 d ∧ w = wx)
  case first =>
    go_wp2_with fail
    refine H0.out.mono ?_
    rintro e w' ⟨rfl, rfl⟩
    go_wp2_with fail
    refine HD.out.mono ?_
    rintro e w' ⟨rfl, rfl⟩
    go_wp2_with fail
    all_goals
      have hd := HDD.out
      go_meet
      exact ⟨by first | (rw [show d = W by omega]) | (rw [show d = g by omega]), rfl⟩
  case rest =>
    obtain ⟨rfl, rfl⟩ := hcut
    clear HD H0
    go_wp2_with fail
    refine H1.out.mono ?_
    rintro e w' ⟨rfl, rfl⟩
    go_wp2_with fail
    refine H2.out.mono ?_
    rintro e w' ⟨rfl, rfl⟩
    go_wp2_with fail
    clear H1 H2
    have HSN := Lib.hid (met_snoc W (1 + s) b)
    have HML := Lib.hid (TM.met_length W (1 + s) b)
    have HRA := Lib.hid (ring_at W s b)
    have HNX := Lib.hid (ring_next W)
    go_loopw [8, 25] (fun v i wr => ∃ k : Nat, k ≤ d ∧ i = .int .i64 k ∧ Hid (w.Extends wr) ∧ Hid (wr.ownsRow w.heap.size 3 1 v k (i64vs (nats (TM.met W (1 + s) b k))))) (fun _ i _ => (d - intOf i).toNat)
    case atStart => exact ⟨0, by omega, rfl, Lib.hid (Gr.ext_refl _), Lib.hid (World.ownsRow_nil _ _ _ _)⟩
    case round =>
      obtain ⟨k, hk, rfl, HX, HOWN⟩ := hrel
      by_cases h1 : k < d
      · have HIN := Lib.hid (owns_ints HOWN.out)
        have HSN1 := Lib.hid (HSN.out k)
        have HML1 := Lib.hid (HML.out k)
        have HRA1 := Lib.hid (HRA.out k)
        have HOB : Hid (∀ g, u8.ownBlock = some g → w.heap.size ≤ g) := fun g hg => (HOWN.out.lt g hg).1
        obtain ⟨q, hq, hnq⟩ := TM.hole W (TM.met W (1 + s) b k) (by rw [HML.out]; omega)
        have HQ := Lib.hid hnq
        clear hnq
        have hle : k * (1 + s) ≤ 8 * 1000 := Nat.mul_le_mul (by omega) (by omega)
        have hm1 : (k : Int) * (1 + (s : Int)) ≤ 8000 := by have := Int.ofNat_le.2 hle; rw [Int.natCast_mul, Int.natCast_add] at this; omega
        have hm0 : 0 ≤ (k : Int) * (1 + (s : Int)) := Int.mul_nonneg (by omega) (by omega)
        clear hle
        have hbs := HX.out.size
        have hst : (b + k * (1 + s)) % W < W := Nat.mod_lt _ (by omega)
        obtain ⟨t, ht⟩ : ∃ t, t = TM.skip W (TM.met W (1 + s) b k) W ((b + k * (1 + s)) % W) := ⟨_, rfl⟩
        rw [← ht] at HSN1
        have HTT := Lib.hid ht.symm
        clear ht
        have HSTEP : Hid (∀ m, m < W → m ∈ TM.met W (1 + s) b k → TM.skip W (TM.met W (1 + s) b k) W m = t → TM.skip W (TM.met W (1 + s) b k) W ((m + 1) % W) = t) := fun m hm hmem h => (TM.skip_step W q _ hq HQ.out m hm hmem).trans h
        have HNM := Lib.hid (nats_mem (TM.met W (1 + s) b k))
        clear HSN HML HRA
        generalize TM.met W (1 + s) b k = l at *
        go_wp2_with fail
        go_loop [10] (fun p => ∃ m : Nat, m < W ∧ p = .int .i64 m ∧ Hid (TM.skip W l W m = t)) (fun p => TM.far W q (intOf p).toNat)
        case atStart => exact ⟨(b + k * (1 + s)) % W, hst, by rw [HRA1.out], HTT⟩
        case round =>
          obtain ⟨m, hm, rfl, HS⟩ := hrel
          by_cases hmem : m ∈ l
          · have HC := Lib.hid (contains_any u8 (nats l) m wr HIN.out true (by rw [decide_eq_true ((HNM.out m).2 hmem)]))
            have HNX1 := Lib.hid (HNX.out m)
            have HS1 := Lib.hid (HSTEP.out m hm hmem HS.out)
            have HF := Lib.hid (TM.far_succ W q m hq hm (fun e => HQ.out (e ▸ hmem)))
            have hnl := TM.next_lt W m (by omega)
            clear hmem
            go_wp2_with fail
            refine HC.out.mono ?_
            rintro e w' ⟨rfl, rfl⟩
            clear HC
            go_wp2
            go_round
            case rel => exact ⟨(m + 1) % W, hnl, by rw [HNX1.out], HS1⟩
            case measure =>
              have h := HF.out
              rw [HNX1.out]
              show TM.far W q (((m + 1) % W : Nat) : Int).toNat < TM.far W q (m : Int).toNat
              rw [Int.toNat_natCast, Int.toNat_natCast]
              omega
          · have HC := Lib.hid (contains_any u8 (nats l) m wr HIN.out false (by rw [decide_eq_false (fun h => hmem ((HNM.out m).1 h))]))
            have HE : Hid (m = t) := (TM.skip_stop W l m hmem W).symm.trans HS.out
            clear hmem HS
            obtain rfl := HE.out
            go_wp2_with fail
            refine HC.out.mono ?_
            rintro e w' ⟨rfl, rfl⟩
            clear HC
            go_wp2_with (at_builtin; refine wpList_append_own_src _ rfl _ _ 29 29 rfl w.heap.size 3 i0 (.int .i64 0) 1 8 Tryd.underlying29 HI.out HZ0.out HZ1.out HZ2.out rfl _ _ _ rfl (HOWN.out.alloc _) _ 1 [.int .i64 m] rfl (src_one Tryd.underlying29 _ _ rfl rfl) (by unfold maxLen; omega) (by omega) (by simp; omega) ?_)
            intro v' w3 ho3 hg3 _
            have HP1 : Hid (w.Extends w3) := Gr.ext_of (((Gr.below_of HX.out).alloc hbs _).grown hg3 (by simp; omega) HOB.out)
            rw [HSN1.out] at ho3
            have HP2 := Lib.hid ho3
            clear ho3 hg3
            go_wp2
            go_roundw
            case rel => exact ⟨k + 1, by omega, by go_num, HP1, HP2⟩
            case measure => simp [intOf]; omega
      · obtain rfl : k = d := by omega
        have HP : Hid (MadeInts w (TM.places W y) (.returned u8) wr) := ⟨u8, rfl, HX.out, by rw [HPL.out, HML.out]; exact HOWN.out⟩
        go_wp2
        go_ret
        exact HP.out
end Go.Proofs.YtgdekeeleighcaaDoor
