/- In one text: TupSlices, RndStir, RndRand, RndDegree, RndRefDegree, TupPlaces, TupCan, TupParts, TupNums, TupRow, PreMatrix, SeeMath. -/
import Derived.Test.YtpfmmfapdcbnkaaGreatDoorRows
import Derived.WalkKit
import Derived.IntWalk
import Derived.WalkSpells
import Derived.WalkLawsBesides
import Derived.RowKit3
import Derived.Deep.DeepCutAuto
import Derived.Test.YtpfmmfapdcbnkaaGreatDoorMB2
import Derived.Test.YtpfmmfapdcbnkaaGreatDoorMB3
import Derived.Test.YtpfmmfapdcbnkaaGreatDoorMB8
import Derived.Test.YtpfmmfapdcbnkaaGreatDoorMB9
namespace Go.Proofs.YtpfmmfapdcbnkaaGreatDoor
set_option maxRecDepth 20000
open Go.RowKit
theorem intinfo : (Tryz.prog.info? 3).map (fun i => (i.zero, i.size, i.bytes)) = some (some (.int .i64 0), 1, 8) := by kernel_rfl
/-- Where x is met first, else -1: all that is wanted of it. -/
def Found (w : World) (x : Int) (xs : List Int) (e : Ending) (w' : World) : Prop := ∃ r : Int, e = .returned (.int .i64 r) ∧ -1 ≤ r ∧ r ≤ xs.length ∧ (0 ≤ r ↔ x ∈ xs) ∧ w = w'
theorem mem_take_succ (xs : List Int) (k : Nat) (hk : k < xs.length) (x : Int) (h : x ∉ xs.take k) (hne : x ≠ xs.getD k 0) : x ∉ xs.take (k + 1) := by
  intro hm
  rw [List.take_succ_eq_append_getElem hk] at hm
  rcases List.mem_append.1 hm with h' | h'
  · exact h h'
  · exact hne (by rw [List.mem_singleton.1 h']; simp [hk])
theorem mem_at (xs : List Int) (k : Nat) (hk : k < xs.length) : xs.getD k 0 ∈ xs := by simp [hk]
theorem index_any (v : Value) (xs : List Int) (x : Int) (w : World) (hv : Ints w v xs) :
    Calls Tryz.prog 120 #[v, .int .i64 x] w (Found w x xs) := by
  have hm := hv.len
  obtain ⟨a, cap, rfl, _⟩ := hv.slice
  have HV := Lib.hid hv.cell.2
  have HS := Lib.hid (fun k hk => mem_take_succ xs k hk x)
  have HA := Lib.hid (mem_at xs)
  have HT : Hid (xs.take xs.length = xs) := List.take_length
  have H0 : Hid (x ∉ xs.take 0) := fun h => by cases h
  have HF : Hid (∀ r : Int, -1 ≤ r → r ≤ xs.length → (0 ≤ r ↔ x ∈ xs) → Found w x xs (.returned (.int .i64 r)) w) := fun r h0 h1 h2 => ⟨r, rfl, h0, h1, h2, rfl⟩
  clear hv
  generalize hn : xs.length = n at *
  have HN := Lib.hid hn; clear hn
  unfold maxLen at hm
  go_enter Tryz.func120, Tryz.ntmps120
  go_wp2
  go_loop [8] (fun i => ∃ k : Nat, k ≤ n ∧ i = .int .i64 k ∧ Hid (x ∉ xs.take k)) (fun i => (n - intOf i).toNat)
  case atStart => exact ⟨0, by omega, rfl, H0⟩
  case round =>
    obtain ⟨k, hk, rfl, HK⟩ := hrel
    by_cases h1 : k < n
    · obtain ⟨b, off, rfl, hb, hc⟩ := HV.out (by omega)
      have hc1 := hc k h1
      have HS1 := Lib.hid (HS.out k h1)
      have HA1 := Lib.hid (HA.out k h1)
      clear hc
      generalize xs.getD k 0 = y at *
      by_cases hxy : x = y
      · subst hxy
        have HP := Lib.hid (HF.out k (by omega) (by omega) ⟨fun _ => HA1.out, fun _ => by omega⟩)
        go_wp2
        go_ret
        exact HP.out
      · have hd : (x == y) = false := by simpa using hxy
        have HP := Lib.hid (HS1.out HK.out hxy)
        go_wp2
        go_round
        case rel => exact ⟨k + 1, by omega, by go_num, HP⟩
        case measure => simp [intOf]; omega
    · obtain rfl : k = n := by omega
      have HP := Lib.hid (HF.out (-1) (by omega) (by omega) ⟨fun h => absurd h (by omega), fun h => absurd h (by have := HK.out; rw [HT.out] at this; exact this)⟩)
      go_wp2
      go_ret
      exact HP.out
theorem contains_any (v : Value) (xs : List Int) (x : Int) (w : World) (hv : Ints w v xs) (m : Bool) (hm : m = decide (x ∈ xs)) :
    Calls Tryz.prog 115 #[v, .int .i64 x] w fun e w' => e = .returned (.bool m) ∧ w = w' := by
  have hi := index_any v xs x w hv
  have hl := hv.len
  unfold maxLen at hl
  have HR : Hid (∀ r : Int, (0 ≤ r ↔ x ∈ xs) → m = decide (0 ≤ r)) := fun r h => by rw [hm]; simp only [h]
  clear hm hv
  go_enter Tryz.func115, Tryz.ntmps115
  go_wp2_with fail
  refine hi.mono ?_
  rintro e w' ⟨r, rfl, h0, h1, h2, rfl⟩
  have HM := Lib.hid (HR.out r h2)
  clear h2 HR hi
  go_wp2
  go_ret
  exact ⟨by rw [HM.out]; rfl, rfl⟩
end Go.Proofs.YtpfmmfapdcbnkaaGreatDoor
namespace Go.Proofs.YtpfmmfapdcbnkaaGreatDoor
set_option maxRecDepth 20000
open Go.RowKit
theorem refStir_any (x : Nat) (hx : x < 4294967296) (w : World) :
    Calls Tryz.prog 49 #[.int .u32 x] w fun e w' => e = .returned (.int .u32 (RM.stir x : Nat)) ∧ w = w' := by
  go_enter Tryz.func49, Tryz.ntmps49
  go_wp2
  go_ret
  exact ⟨retu32 (u32_stir x hx), rfl⟩
end Go.Proofs.YtpfmmfapdcbnkaaGreatDoor
namespace Go.Proofs.YtpfmmfapdcbnkaaGreatDoor
set_option maxRecDepth 20000
open Go.RowKit
theorem refRand_any (y i : Nat) (m : Int) (hy : y < 4294967296) (hm0 : -9223372036854775808 ≤ m) (hm1 : m ≤ 9223372036854775807) (w : World) :
    Calls Tryz.prog 27 #[.int .u32 y, .int .u32 i, .int .i64 m] w fun e w' => e = .returned (.int .i64 (RM.rand y i m)) ∧ w = w' := by
  by_cases h : m < 1
  · have e : RM.rand y i m = 0 := if_pos h
    rw [e]
    go_enter Tryz.func27, Tryz.ntmps27
    go_wp2
    go_ret
    exact ⟨rfl, rfl⟩
  · have hl := RM.stir_lt ((RM.stir y + i * 2654435769) % 4294967296)
    have hr := rand_val y i m (by omega)
    go_enter Tryz.func27, Tryz.ntmps27
    go_wp2_with fail
    refine (refStir_any _ hy _).mono ?_
    rintro e w' ⟨rfl, rfl⟩
    go_wp2_with fail
    rw [u32_drawn]
    refine (refStir_any _ (Nat.mod_lt _ (by decide)) _).mono ?_
    rintro e w' ⟨rfl, rfl⟩
    go_wp2
    go_ret
    refine ⟨retn64 ?_, rfl⟩
    have hb := RM.rand_below y i m (by omega)
    rw [IntWalk.wrap64_in _ ⟨by omega, by omega⟩]
end Go.Proofs.YtpfmmfapdcbnkaaGreatDoor
namespace Go.Proofs.YtpfmmfapdcbnkaaGreatDoor
set_option maxRecDepth 20000
open Go.RowKit
/-- The variable of the bounds holds them. -/
def Tab (w : World) : Prop := ∀ i, i < 7 → w.cell? ⟨0, i, none⟩ = some (.int .i64 (RM.bounds.getD i 0))
theorem tab_index (n : Nat) (hn : n < 7) (w : World) : Sem.run Tryz.prog (Instr.index 179 (Value.agg #[Value.int IntKind.i64 5243, Value.int IntKind.i64 529531, Value.int IntKind.i64 704294, Value.int IntKind.i64 791675, Value.int IntKind.i64 844104, Value.int IntKind.i64 879057, Value.int IntKind.i64 904023]) (.int .i64 n)) w = .ok (.int .i64 (RM.bounds.getD n 0)) w := by
  match n, hn with
  | 0, _ | 1, _ | 2, _ | 3, _ | 4, _ | 5, _ | 6, _ => rfl
theorem degree_any (v : Int) (w : World) (hT : Tab w) :
    Calls Tryz.prog 114 #[.int .i64 v] w fun e w' => e = .returned (.int .i64 (RM.degree v)) ∧ w = w' := by
  have t0 : w.cell? ⟨0, 0, none⟩ = some (.int .i64 5243) := hT 0 (by decide)
  have t1 : w.cell? ⟨0, 1, none⟩ = some (.int .i64 529531) := hT 1 (by decide)
  have t2 : w.cell? ⟨0, 2, none⟩ = some (.int .i64 704294) := hT 2 (by decide)
  have t3 : w.cell? ⟨0, 3, none⟩ = some (.int .i64 791675) := hT 3 (by decide)
  have t4 : w.cell? ⟨0, 4, none⟩ = some (.int .i64 844104) := hT 4 (by decide)
  have t5 : w.cell? ⟨0, 5, none⟩ = some (.int .i64 879057) := hT 5 (by decide)
  have t6 : w.cell? ⟨0, 6, none⟩ = some (.int .i64 904023) := hT 6 (by decide)
  go_enter Tryz.func114, Tryz.ntmps114
  go_wp2
  go_loop [3, 7] (fun x y => ∃ n : Nat, n ≤ 7 ∧ x = .int .i64 (1 + RM.passed v n : Nat) ∧ y = .int .i64 n) (fun _ y => 7 - (intOf y).toNat)
  case atStart => exact ⟨0, by omega, rfl, rfl⟩
  case round =>
    obtain ⟨n, hn, rfl, rfl⟩ := hrel
    by_cases h7 : n = 7
    · subst h7
      go_wp2
      go_ret
      exact ⟨rfl, rfl⟩
    · have hp := RM.passed_le v n
      have ix := tab_index n (by omega) w
      have yes := RM.passed_yes v n
      have no := RM.passed_no v n
      generalize RM.bounds.getD n 0 = b at ix yes no
      by_cases h : b ≤ v
      · have hs := Lib.hid (yes h)
        clear yes no
        go_wp2
        go_round
        case rel => exact ⟨n + 1, by omega, by rw [hs.out]; go_num, by go_num⟩
        case measure => simp [intOf] <;> omega
      · have hs := Lib.hid (no h)
        clear yes no
        go_wp2
        go_round
        case rel => exact ⟨n + 1, by omega, by rw [hs.out], by go_num⟩
        case measure => simp [intOf] <;> omega
theorem cut_any (n low high : Int) (w : World) :
    Calls Tryz.prog 31 #[.int .i64 n, .int .i64 low, .int .i64 high] w fun e w' => e = .returned (.int .i64 (RM.clip n low high)) ∧ w = w' := by
  by_cases h1 : n < low
  · have e : RM.clip n low high = low := if_pos h1
    rw [e]
    go_enter Tryz.func31, Tryz.ntmps31
    go_wp2
    go_ret
    exact ⟨rfl, rfl⟩
  · by_cases h2 : n > high
    · have e : RM.clip n low high = high := by unfold RM.clip; rw [if_neg h1, if_pos h2]
      rw [e]
      go_enter Tryz.func31, Tryz.ntmps31
      go_wp2
      go_ret
      exact ⟨rfl, rfl⟩
    · have e : RM.clip n low high = n := by unfold RM.clip; rw [if_neg h1, if_neg h2]
      rw [e]
      go_enter Tryz.func31, Tryz.ntmps31
      go_wp2
      go_ret
      exact ⟨rfl, rfl⟩
end Go.Proofs.YtpfmmfapdcbnkaaGreatDoor
namespace Go.Proofs.YtpfmmfapdcbnkaaGreatDoor
set_option maxRecDepth 20000
open Go.RowKit
def boundCells : Array Value := #[Value.int IntKind.i64 5243, Value.int IntKind.i64 529531, Value.int IntKind.i64 704294, Value.int IntKind.i64 791675, Value.int IntKind.i64 844104, Value.int IntKind.i64 879057, Value.int IntKind.i64 904023]
theorem cells_new (w : World) (n : Nat) (hn : n < 7) : (w.alloc (Obj.cells boundCells 3)).cell? ⟨w.heap.size, n, none⟩ = some (.int .i64 (RM.bounds.getD n 0)) := by
  match n, hn with
  | 0, _ | 1, _ | 2, _ | 3, _ | 4, _ | 5, _ | 6, _ => rw [World.cell?_alloc_new]; rfl
theorem refDegree_ext (v : Int) (w : World) :
    Calls Tryz.prog 90 #[.int .i64 v] w fun e w' => e = .returned (.int .i64 (RM.degree v)) ∧ w.Extends w' := by
  rw [← RM.degree_cut v]
  generalize hc : RM.clip v 0 1048575 = c
  go_enter Tryz.func90, Tryz.ntmps90
  go_wp2_with fail
  refine (cut_any _ _ _ _).mono ?_
  rintro e w' ⟨rfl, rfl⟩
  rw [hc]
  clear hc
  go_wp2
  have g : w.Extends (w.alloc (Obj.cells boundCells 3)) := (World.Extends.refl w).alloc _
  have al := cells_new w
  have ex : ∃ wa : World, wa = w.alloc (Obj.cells boundCells 3) := ⟨_, rfl⟩
  obtain ⟨wa, hwa⟩ := ex
  rw [← hwa] at g al
  rw [show w.alloc (Obj.cells #[Value.int IntKind.i64 5243, Value.int IntKind.i64 529531, Value.int IntKind.i64 704294, Value.int IntKind.i64 791675, Value.int IntKind.i64 844104, Value.int IntKind.i64 879057, Value.int IntKind.i64 904023] 3) = wa from hwa.symm]
  generalize w.heap.size = b at al ⊢
  clear hwa
  go_loop [4, 5] (fun x y => ∃ n : Nat, n ≤ 7 ∧ x = .int .i64 (1 + RM.passed c n : Nat) ∧ y = .int .i64 n) (fun _ y => 7 - (intOf y).toNat)
  case atStart => exact ⟨0, by omega, rfl, rfl⟩
  case round =>
    obtain ⟨n, hn, rfl, rfl⟩ := hrel
    by_cases h7 : n = 7
    · subst h7
      go_wp2
      go_ret
      exact ⟨rfl, g⟩
    · have hp := RM.passed_le c n
      have yes := RM.passed_yes c n
      have no := RM.passed_no c n
      have ce := al n (by omega)
      generalize RM.bounds.getD n 0 = z at ce yes no
      by_cases h : z ≤ c
      · have hs := Lib.hid (yes h)
        clear yes no al
        go_wp2
        go_round
        case rel => exact ⟨n + 1, by omega, by rw [hs.out]; go_num, by go_num⟩
        case measure => simp [intOf] <;> omega
      · have hs := Lib.hid (no h)
        clear yes no al
        go_wp2
        go_round
        case rel => exact ⟨n + 1, by omega, by rw [hs.out], by go_num⟩
        case measure => simp [intOf] <;> omega
end Go.Proofs.YtpfmmfapdcbnkaaGreatDoor
namespace Go.Proofs.YtpfmmfapdcbnkaaGreatDoor
set_option maxRecDepth 20000
open Go.RowKit Go.Deep
set_option linter.unusedVariables false
/-- Nats as ints. -/
def nats (l : List Nat) : List Int := l.map fun (x : Nat) => (x : Int)
theorem nats_length (l : List Nat) : (nats l).length = l.length := by simp [nats]
theorem nats_snoc (l : List Nat) (x : Nat) : nats (l ++ [x]) = nats l ++ [(x : Int)] := by simp [nats]
theorem nats_at (l : List Nat) (k : Nat) : (nats l).getD k 0 = (l.getD k 0 : Nat) := by
  by_cases hk : k < l.length
  · simp [nats, hk]
  · simp [nats, List.getD_eq_getElem?_getD, List.getElem?_eq_none (Nat.le_of_not_lt hk)]
theorem nats_mem (l : List Nat) (x : Nat) : (x : Int) ∈ nats l ↔ x ∈ l := by
  unfold nats; rw [List.mem_map]
  exact ⟨fun ⟨y, hy, e⟩ => by have : y = x := by omega
                              exact this ▸ hy, fun h => ⟨x, h, rfl⟩⟩
/-- The answer is a slice of the call's own of these numbers. -/
def MadeInts (w : World) (l : List Nat) (e : Ending) (w' : World) : Prop := ∃ v, e = .returned v ∧ w.Extends w' ∧ w'.ownsRow w.heap.size 3 1 v l.length (i64vs (nats l))
/-- What is drawn for y, as numbers. -/
theorem drawn_nums (W y : Nat) (h3 : 2 ≤ W) : ∃ g s b : Nat, RM.degree (RM.rand y 0 1048576) = (g : Int) ∧ RM.rand y 1 ((W : Int) - 1) = (s : Int) ∧ RM.rand y 2 (W : Int) = (b : Int) ∧
    1 ≤ g ∧ g ≤ 8 ∧ s < W - 1 ∧ b < W ∧ TM.deg W y = min g W ∧ TM.step W y = 1 + s ∧ TM.start W y = b := by
  obtain ⟨s0, s1⟩ := RM.rand_below y 1 ((W : Int) - 1) (by omega)
  obtain ⟨b0, b1⟩ := RM.rand_below y 2 (W : Int) (by omega)
  have hp := RM.passed_le (RM.rand y 0 1048576) 7
  refine ⟨1 + RM.passed (RM.rand y 0 1048576) 7, (RM.rand y 1 ((W : Int) - 1)).toNat, (RM.rand y 2 (W : Int)).toNat, rfl, by omega, by omega, by omega, by omega, by omega, by omega, rfl, rfl, rfl⟩
theorem draws_any (y : Nat) (hy : y < 4294967296) (w : World) (m r : Int) (i : Nat) (hr : RM.rand y i m = r) (h0 : -9223372036854775808 ≤ m) (h1 : m ≤ 9223372036854775807) :
    Calls Tryz.prog 26 #[.int .u32 y, .int .u32 i, .int .i64 m] w fun e w' => e = .returned (.int .i64 r) ∧ w = w' := by
  subst hr; exact rand_any y i m hy h0 h1 w
/-- Place i on the ring, in the walk's words. -/
theorem ring_at (W s b k : Nat) : ((b : Int) + (k : Int) * (1 + (s : Int))) % (W : Int) = (((b + k * (1 + s)) % W : Nat) : Int) := by
  rw [Int.natCast_emod, Int.natCast_add, Int.natCast_mul, Int.natCast_add]; rfl
theorem ring_next (W m : Nat) : ((m : Int) + 1) % (W : Int) = (((m + 1) % W : Nat) : Int) := by rw [Int.natCast_emod, Int.natCast_add]; rfl
theorem met_snoc (W a b k : Nat) : i64vs (nats (TM.met W a b k)) ++ [.int .i64 (TM.skip W (TM.met W a b k) W ((b + k * a) % W) : Nat)] = i64vs (nats (TM.met W a b (k + 1))) := by
  show _ = i64vs (nats (TM.met W a b k ++ [_])); rw [nats_snoc, i64vs_snoc]
set_option maxHeartbeats 1000000 in
theorem places_any (W y : Nat) (w : World) (h3 : 2 ≤ W) (hW : W ≤ 1000) (hy : y < 4294967296) (hT : Tab w) :
    Calls Tryz.prog 102 #[.int .i64 W, .int .u32 y] w (MadeInts w (TM.places W y)) := by
  obtain ⟨g, s, b, hg, hs, hb, g1, g8, sW, bW, eg, es, eb⟩ := drawn_nums W y h3
  have H0 := Lib.hid (draws_any y hy w 1048576 _ 0 rfl (by decide) (by decide))
  have HD := Lib.hid (degree_any (RM.rand y 0 1048576) w hT)
  rw [hg] at HD
  have H1 := Lib.hid (draws_any y hy w ((W : Int) - 1) _ 1 hs (by omega) (by omega))
  have H2 := Lib.hid (draws_any y hy w W _ 2 hb (by omega) (by omega))
  have HPL : Hid (TM.places W y = TM.met W (1 + s) b (min g W)) := by unfold TM.places; rw [eg, es, eb]; rfl
  clear hg hs hb eg es eb
  generalize RM.rand y 0 1048576 = r0 at *
  obtain ⟨d, hd⟩ : ∃ d, d = min g W := ⟨_, rfl⟩
  rw [← hd] at HPL
  have hdW : d ≤ W := by omega
  have hd8 : d ≤ 8 := by omega
  have HDD := Lib.hid hd
  clear hd
  have HT := Lib.hid hT
  clear hT
  obtain ⟨i0, hi, hz0, hz1, hz2⟩ := info_parts intinfo
  have HI := Lib.hid hi; clear hi
  have HZ0 := Lib.hid hz0; clear hz0
  have HZ1 := Lib.hid hz1; clear hz1
  have HZ2 := Lib.hid hz2; clear hz2
  go_enter Tryz.func102, Tryz.ntmps102
  go_upto_region 1 with fail
  go_cut [5] (fun s5 wx => s5 = .int .i64 d ∧ w = wx)
  case first =>
    go_wp2_with fail
    refine H0.out.mono ?_
    rintro e w' ⟨rfl, rfl⟩
    go_wp2_with fail
    refine HD.out.mono ?_
    rintro e w' ⟨rfl, rfl⟩
    go_wp2_with fail
    all_goals
      have hd := HDD.out
      go_meet
      exact ⟨by first | (rw [show d = W by omega]) | (rw [show d = g by omega]), rfl⟩
  case rest =>
    obtain ⟨rfl, rfl⟩ := hcut
    clear HD H0
    go_wp2_with fail
    refine H1.out.mono ?_
    rintro e w' ⟨rfl, rfl⟩
    go_wp2_with fail
    refine H2.out.mono ?_
    rintro e w' ⟨rfl, rfl⟩
    go_wp2_with fail
    clear H1 H2
    have HSN := Lib.hid (met_snoc W (1 + s) b)
    have HML := Lib.hid (TM.met_length W (1 + s) b)
    have HRA := Lib.hid (ring_at W s b)
    have HNX := Lib.hid (ring_next W)
    go_loopw [8, 25] (fun v i wr => ∃ k : Nat, k ≤ d ∧ i = .int .i64 k ∧ Hid (w.Extends wr) ∧ Hid (wr.ownsRow w.heap.size 3 1 v k (i64vs (nats (TM.met W (1 + s) b k))))) (fun _ i _ => (d - intOf i).toNat)
    case atStart => exact ⟨0, by omega, rfl, Lib.hid (Gr.ext_refl _), Lib.hid (World.ownsRow_nil _ _ _ _)⟩
    case round =>
      obtain ⟨k, hk, rfl, HX, HOWN⟩ := hrel
      by_cases h1 : k < d
      · have HIN := Lib.hid (owns_ints HOWN.out)
        have HSN1 := Lib.hid (HSN.out k)
        have HML1 := Lib.hid (HML.out k)
        have HRA1 := Lib.hid (HRA.out k)
        have HOB : Hid (∀ g, u8.ownBlock = some g → w.heap.size ≤ g) := fun g hg => (HOWN.out.lt g hg).1
        obtain ⟨q, hq, hnq⟩ := TM.hole W (TM.met W (1 + s) b k) (by rw [HML.out]; omega)
        have HQ := Lib.hid hnq
        clear hnq
        have hle : k * (1 + s) ≤ 8 * 1000 := Nat.mul_le_mul (by omega) (by omega)
        have hm1 : (k : Int) * (1 + (s : Int)) ≤ 8000 := by have := Int.ofNat_le.2 hle; rw [Int.natCast_mul, Int.natCast_add] at this; omega
        have hm0 : 0 ≤ (k : Int) * (1 + (s : Int)) := Int.mul_nonneg (by omega) (by omega)
        clear hle
        have hbs := HX.out.size
        have hst : (b + k * (1 + s)) % W < W := Nat.mod_lt _ (by omega)
        obtain ⟨t, ht⟩ : ∃ t, t = TM.skip W (TM.met W (1 + s) b k) W ((b + k * (1 + s)) % W) := ⟨_, rfl⟩
        rw [← ht] at HSN1
        have HTT := Lib.hid ht.symm
        clear ht
        have HSTEP : Hid (∀ m, m < W → m ∈ TM.met W (1 + s) b k → TM.skip W (TM.met W (1 + s) b k) W m = t → TM.skip W (TM.met W (1 + s) b k) W ((m + 1) % W) = t) := fun m hm hmem h => (TM.skip_step W q _ hq HQ.out m hm hmem).trans h
        have HNM := Lib.hid (nats_mem (TM.met W (1 + s) b k))
        clear HSN HML HRA
        generalize TM.met W (1 + s) b k = l at *
        go_wp2_with fail
        go_loop [10] (fun p => ∃ m : Nat, m < W ∧ p = .int .i64 m ∧ Hid (TM.skip W l W m = t)) (fun p => TM.far W q (intOf p).toNat)
        case atStart => exact ⟨(b + k * (1 + s)) % W, hst, by rw [HRA1.out], HTT⟩
        case round =>
          obtain ⟨m, hm, rfl, HS⟩ := hrel
          by_cases hmem : m ∈ l
          · have HC := Lib.hid (contains_any u8 (nats l) m wr HIN.out true (by rw [decide_eq_true ((HNM.out m).2 hmem)]))
            have HNX1 := Lib.hid (HNX.out m)
            have HS1 := Lib.hid (HSTEP.out m hm hmem HS.out)
            have HF := Lib.hid (TM.far_succ W q m hq hm (fun e => HQ.out (e ▸ hmem)))
            have hnl := TM.next_lt W m (by omega)
            clear hmem
            go_wp2_with fail
            refine HC.out.mono ?_
            rintro e w' ⟨rfl, rfl⟩
            clear HC
            go_wp2
            go_round
            case rel => exact ⟨(m + 1) % W, hnl, by rw [HNX1.out], HS1⟩
            case measure =>
              have h := HF.out
              rw [HNX1.out]
              show TM.far W q (((m + 1) % W : Nat) : Int).toNat < TM.far W q (m : Int).toNat
              rw [Int.toNat_natCast, Int.toNat_natCast]
              omega
          · have HC := Lib.hid (contains_any u8 (nats l) m wr HIN.out false (by rw [decide_eq_false (fun h => hmem ((HNM.out m).1 h))]))
            have HE : Hid (m = t) := (TM.skip_stop W l m hmem W).symm.trans HS.out
            clear hmem HS
            obtain rfl := HE.out
            go_wp2_with fail
            refine HC.out.mono ?_
            rintro e w' ⟨rfl, rfl⟩
            clear HC
            go_wp2_with (at_builtin; refine wpList_append_own_src _ rfl _ _ 42 42 rfl w.heap.size 3 i0 (.int .i64 0) 1 8 Tryz.underlying42 HI.out HZ0.out HZ1.out HZ2.out rfl _ _ _ rfl (HOWN.out.alloc _) _ 1 [.int .i64 m] rfl (src_one Tryz.underlying42 _ _ rfl rfl) (by unfold maxLen; omega) (by omega) (by simp; omega) ?_)
            intro v' w3 ho3 hg3 _
            have HP1 : Hid (w.Extends w3) := Gr.ext_of (((Gr.below_of HX.out).alloc hbs _).grown hg3 (by simp; omega) HOB.out)
            rw [HSN1.out] at ho3
            have HP2 := Lib.hid ho3
            clear ho3 hg3
            go_wp2
            go_roundw
            case rel => exact ⟨k + 1, by omega, by go_num, HP1, HP2⟩
            case measure => simp [intOf]; omega
      · obtain rfl : k = d := by omega
        have HP : Hid (MadeInts w (TM.places W y) (.returned u8) wr) := ⟨u8, rfl, HX.out, by rw [HPL.out, HML.out]; exact HOWN.out⟩
        go_wp2
        go_ret
        exact HP.out
end Go.Proofs.YtpfmmfapdcbnkaaGreatDoor
namespace Go.Proofs.YtpfmmfapdcbnkaaGreatDoor
set_option maxRecDepth 20000
open Go.RowKit Go.Deep
set_option linter.unusedVariables false
/-- A number that a symbol can have. -/
def EsiOk (e : Int) : Prop := 0 ≤ e ∧ e < 16777216
instance (e : Int) : Decidable (EsiOk e) := by unfold EsiOk; infer_instance
/-- Whether all of these can be symbols' numbers. -/
def AllOk (es : List Int) : Prop := ∀ i, i < es.length → EsiOk (es.getD i 0)
/-- Arguments with which CanBe says yes. -/
def Can (k s h j : Int) (es : List Int) : Prop := Right k s h ∧ 0 ≤ j ∧ j ≤ 255 ∧ AllOk es
theorem can_wrong (k s h j : Int) (v : Value) (w : World) (hr : ¬ Right k s h) :
    Calls Tryz.prog 92 #[PV k s h, .int .i64 j, v] w fun e w' => e = .returned (.bool false) ∧ w.Extends w' := by
  have HN := Lib.hid (isBlock_no k s h)
  have HR := Lib.hid hr
  clear hr
  go_enter Tryz.func92, Tryz.ntmps92
  go_wp2_with fail
  generalize hw1 : World.alloc w _ = w1
  have hx1 : w.Extends w1 := by subst hw1; exact prm_ext_alloc _ _
  have hp : PAt w1 w.heap.size k s h := by subst hw1; exact PAt.new w 118 k s h
  generalize w.heap.size = b at hp ⊢
  clear hw1
  have HX1 := Lib.hid hx1
  have HP1 := Lib.hid hp
  clear hx1 hp
  obtain ⟨p0, p1, p2⟩ := HP1.out
  refine (HN.out w1 HR.out).mono ?_
  rintro e w2 ⟨rfl, hx2⟩
  have HX2 := Lib.hid (Gr.ext_trans HX1.out hx2)
  clear hx2 HX1 HP1
  go_wp2
  go_ret
  exact ⟨rfl, HX2.out⟩
theorem can_j (k : Nat) (j : Int) (v : Value) (w : World) (h1 : 1 ≤ k) (h2 : k ≤ 40) (hj : j < 0 ∨ 256 ≤ j) :
    Calls Tryz.prog 92 #[PV k (PM.s k) 2, .int .i64 j, v] w fun e w' => e = .returned (.bool false) ∧ w.Extends w' := by
  have HY := Lib.hid (isBlock_yes k)
  generalize PM.s k = m at *
  have HJ := Lib.hid hj
  clear hj
  by_cases c1 : j < 0
  rotate_left
  have c2 : j ≥ 256 := by have := HJ.out; omega
  all_goals
    clear HJ
    go_enter Tryz.func92, Tryz.ntmps92
    go_wp2_with fail
    generalize hw1 : World.alloc w _ = w1
    have hx1 : w.Extends w1 := by subst hw1; exact prm_ext_alloc _ _
    have hp : PAt w1 w.heap.size k m 2 := by subst hw1; exact PAt.new w 118 k m 2
    generalize w.heap.size = b at hp ⊢
    clear hw1
    have HX1 := Lib.hid hx1
    have HP1 := Lib.hid hp
    clear hx1 hp
    obtain ⟨p0, p1, p2⟩ := HP1.out
    refine (HY.out w1 h1 h2).mono ?_
    rintro e w2 ⟨rfl, hx2⟩
    have HX2 := Lib.hid (Gr.ext_trans HX1.out hx2)
    clear hx2 HX1 HP1
    go_wp2
    go_ret
    exact ⟨rfl, HX2.out⟩
theorem allOk_step {es : List Int} {i : Nat} (h : ∀ j, j < i → EsiOk (es.getD j 0)) (hi : EsiOk (es.getD i 0)) : ∀ j, j < i + 1 → EsiOk (es.getD j 0) := fun j hj => by
  by_cases e : j = i
  · subst e; exact hi
  · exact h j (by omega)
/-- It answers whether all of these can be symbols' numbers. -/
def CanOut (w : World) (es : List Int) (e : Ending) (w' : World) : Prop := (∃ b : Bool, e = .returned (.bool b) ∧ (b = true ↔ AllOk es)) ∧ w.Extends w'
set_option maxRecDepth 100000 in
theorem can_es (k j : Nat) (v : Value) (es : List Int) (w : World) (h1 : 1 ≤ k) (h2 : k ≤ 40) (hj : j ≤ 255) (hv : Ints w v es) :
    Calls Tryz.prog 92 #[PV k (PM.s k) 2, .int .i64 j, v] w (CanOut w es) := by
  have HY := Lib.hid (isBlock_yes k)
  generalize PM.s k = m at *
  obtain ⟨a, cap, rfl, hcap, hcap2⟩ := hv.slice
  have HV := Lib.hid hv
  have HC := Lib.hid hv.cell.2
  have hlen := hv.len
  unfold maxLen at hlen
  clear hv hcap hcap2
  obtain ⟨n, hn⟩ : ∃ n, n = es.length := ⟨_, rfl⟩
  rw [← hn] at HC hlen ⊢
  have HN := Lib.hid hn
  clear hn
  have c1 : ¬ ((j : Int) < 0) := by omega
  have c2 : ¬ ((j : Int) ≥ 256) := by omega
  go_enter Tryz.func92, Tryz.ntmps92
  go_wp2_with fail
  generalize hw1 : World.alloc w _ = w1
  have hx1 : w.Extends w1 := by subst hw1; exact prm_ext_alloc _ _
  have hp : PAt w1 w.heap.size k m 2 := by subst hw1; exact PAt.new w 118 k m 2
  generalize w.heap.size = b at hp ⊢
  clear hw1
  have HX1 := Lib.hid hx1
  have HP1 := Lib.hid hp
  clear hx1 hp
  obtain ⟨p0, p1, p2⟩ := HP1.out
  refine (HY.out w1 h1 h2).mono ?_
  rintro e w2 ⟨rfl, hx2⟩
  have HX2 := Lib.hid (Gr.ext_trans HX1.out hx2)
  clear hx2 HX1 HP1 p0 p1 p2
  go_wp2_with fail
  go_loopw [22] (fun i wr => ∃ k : Nat, k ≤ n ∧ i = .int .i64 k ∧ Hid (w2.Extends wr) ∧ Hid (∀ j, j < k → EsiOk (es.getD j 0))) (fun i _ => (n - intOf i).toNat)
  case atStart => exact ⟨0, by omega, rfl, Lib.hid (Gr.ext_refl _), Lib.hid (fun j hj => absurd hj (Nat.not_lt_zero _))⟩
  case round =>
    obtain ⟨i, hi, rfl, HX, HG⟩ := hrel
    by_cases h5 : i < n
    · obtain ⟨bp, off, rfl, hbp, hc⟩ := HC.out (by omega)
      have hc1 := HX.out.cell_of (HX2.out.cell_of (hc i h5))
      clear hc hbp
      have HST : Hid (EsiOk (es.getD i 0) → ∀ j, j < i + 1 → EsiOk (es.getD j 0)) := allOk_step HG.out
      have HBD : Hid (¬ EsiOk (es.getD i 0) → ¬ AllOk es) := fun hb ha => hb (ha i (by rw [← HN.out]; exact h5))
      generalize es.getD i 0 = x at *
      by_cases d1 : x < 0
      · have HP : Hid (CanOut w es (.returned (.bool false)) wr) :=
          ⟨⟨false, rfl, by simpa using HBD.out (fun h => by have := h.1; omega)⟩, Gr.ext_trans HX2.out HX.out⟩
        go_wp2
        go_ret
        exact HP.out
      by_cases d2 : x ≥ 16777216
      · have HP : Hid (CanOut w es (.returned (.bool false)) wr) :=
          ⟨⟨false, rfl, by simpa using HBD.out (fun h => by have := h.2; omega)⟩, Gr.ext_trans HX2.out HX.out⟩
        go_wp2
        go_ret
        exact HP.out
      have HG2 := Lib.hid (HST.out ⟨by omega, by omega⟩)
      go_wp2
      go_roundw
      case rel => exact ⟨i + 1, by omega, by go_num, HX, HG2⟩
      case measure => simp [intOf]; omega
    · obtain rfl : i = n := by omega
      have HP : Hid (CanOut w es (.returned (.bool true)) wr) :=
        ⟨⟨true, rfl, ⟨fun _ j hj => HG.out j (by rw [HN.out]; exact hj), fun _ => rfl⟩⟩, Gr.ext_trans HX2.out HX.out⟩
      go_wp2
      go_ret
      exact HP.out
/-- A fresh slice of one int. -/
theorem tints_one (W : World) (s : Nat) (T : TypeId) (x : Int) (hs : s = W.heap.size := by rfl) : Ints (W.alloc (.cells #[.int .i64 x] T)) (.slice (some ⟨s, 0, none⟩) 1 1) [x] := by
  subst hs
  refine .inr ⟨W.heap.size, 0, 1, rfl, by simp, by decide, by simp, fun k hk => ?_⟩
  obtain rfl : k = 0 := by simp at hk; omega
  rw [cell_of_row _ _ _ _ _ _ (heap_alloc_new W _)]; rfl
theorem allOk_one (x : Int) : AllOk [x] ↔ EsiOk x :=
  ⟨fun h => h 0 (by simp), fun h i hi => by
    obtain rfl : i = 0 := by simp at hi; omega
    exact h⟩
theorem can_yes (k j : Nat) (v : Value) (es : List Int) (w : World) (h1 : 1 ≤ k) (h2 : k ≤ 40) (hj : j ≤ 255) (ha : AllOk es) (hv : Ints w v es) :
    Calls Tryz.prog 92 #[PV k (PM.s k) 2, .int .i64 j, v] w fun e w' => e = .returned (.bool true) ∧ w.Extends w' :=
  (can_es k j v es w h1 h2 hj hv).mono fun e w' ⟨⟨b, he, hb⟩, hx⟩ => ⟨by rw [he, hb.2 ha], hx⟩
theorem can_no (k s h j : Int) (v : Value) (es : List Int) (w : World) (hn : ¬ Can k s h j es) (hv : Ints w v es) :
    Calls Tryz.prog 92 #[PV k s h, .int .i64 j, v] w fun e w' => e = .returned (.bool false) ∧ w.Extends w' := by
  by_cases hr : Right k s h
  · obtain ⟨n, rfl, n1, n2, rfl, rfl⟩ := id hr
    by_cases hj : j < 0 ∨ 256 ≤ j
    · exact can_j n j v w n1 n2 hj
    · obtain ⟨m, rfl⟩ := Int.eq_ofNat_of_zero_le (show 0 ≤ j by omega)
      refine (can_es n m v es w n1 n2 (by omega) hv).mono fun e w' ⟨⟨b, he, hb⟩, hx⟩ => ⟨?_, hx⟩
      have : b = false := by
        cases b with
        | false => rfl
        | true => exact absurd ⟨hr, by omega, by omega, hb.1 rfl⟩ hn
      rw [he, this]
  · exact can_wrong k s h j v w hr
end Go.Proofs.YtpfmmfapdcbnkaaGreatDoor
namespace Go.Proofs.YtpfmmfapdcbnkaaGreatDoor
set_option maxRecDepth 20000
open Go.RowKit Go.Deep
set_option linter.unusedVariables false
theorem Tab.ext {w w' : World} (h : Tab w) (hx : w.Extends w') : Tab w' := fun i hi => hx.cell_of (h i hi)
/-- Arguments with which there are parts. -/
def Fits (k s h j esi : Int) : Prop := Right k s h ∧ 0 ≤ j ∧ j ≤ 255 ∧ 0 ≤ esi ∧ esi < 16777216
theorem parts_none (k s h j esi : Int) (w : World) (hf : ¬ Fits k s h j esi) :
    Calls Tryz.prog 88 #[PV k s h, .int .i64 j, .int .i64 esi] w fun e w' => e = .returned (.slice none 0 0) ∧ w.Extends w' := by
  have HN := Lib.hid (fun v w hv => can_no k s h j v [esi] w (fun hc => hf ⟨hc.1, hc.2.1, hc.2.2.1, ((allOk_one esi).1 hc.2.2.2)⟩) hv)
  clear hf
  go_enter Tryz.func88, Tryz.ntmps88
  go_wp2_with fail
  generalize hw1 : World.alloc w _ = w1
  generalize hw2 : World.alloc w1 _ = w2
  have hx1 : w.Extends w1 := by subst hw1; exact prm_ext_alloc _ _
  have hx2 : w1.Extends w2 := by subst hw2; exact prm_ext_alloc _ _
  have hp : PAt w1 w.heap.size k s h := by subst hw1; exact PAt.new w 118 k s h
  have hi : Ints w2 (.slice (some ⟨w.heap.size + 1, 0, none⟩) 1 1) [esi] := by subst hw2; exact tints_one w1 _ _ _ (by subst hw1; simp)
  have HX2 := Lib.hid (Gr.ext_trans hx1 hx2)
  have HP2 := Lib.hid (hp.ext hx2)
  have HI2 := Lib.hid hi
  clear hw1 hw2 hx1 hx2 hp hi
  generalize w.heap.size + 1 = b2 at *
  generalize w.heap.size = b at *
  refine (HN.out _ w2 HI2.out).mono ?_
  rintro e w3 ⟨rfl, hx3⟩
  have HX3 := Lib.hid (Gr.ext_trans HX2.out hx3)
  clear hx3 HX2 HP2
  go_wp2
  go_ret
  exact ⟨rfl, HX3.out⟩
set_option maxHeartbeats 1000000 in
set_option maxRecDepth 100000 in
theorem parts_some (k j esi : Nat) (w : World) (h1 : 1 ≤ k) (h2 : k ≤ 40) (hj : j ≤ 255) (he : esi < 16777216) (hT : Tab w) :
    Calls Tryz.prog 88 #[PV k (PM.s k) 2, .int .i64 j, .int .i64 esi] w (MadeInts w (TM.partsW (PM.w k) (TM.num j esi))) := by
  have hy := fun v w hv => can_yes k j v [(esi : Int)] w h1 h2 hj ((allOk_one esi).2 ⟨by omega, by omega⟩) hv
  have hw : (PM.w k : Int) = k + PM.s k := by unfold PM.w; omega
  have hs := PM.s_le k h2
  have hs1 : 2 ≤ PM.s k := by unfold PM.s; omega
  have HWK := Lib.hid hw
  have HY := Lib.hid hy
  have hW := prmW_any k (PM.s k) 2
  rw [← hw] at hW
  have HW := Lib.hid hW
  have hwk : PM.w k ≤ 47 := PM.w_le k h2
  have hwk3 : 3 ≤ PM.w k := by unfold PM.w PM.s; omega
  clear hw hy hW
  generalize PM.w k = W at *
  generalize PM.s k = m at *
  obtain ⟨y, hyy⟩ : ∃ y, y = TM.num j esi := ⟨_, rfl⟩
  have HY32 := Lib.hid (show y < 4294967296 from hyy ▸ TM.num_lt j esi)
  rw [← hyy]
  have HYY := Lib.hid hyy
  clear hyy
  have HT := Lib.hid hT
  clear hT
  go_enter Tryz.func88, Tryz.ntmps88
  go_wp2_with fail
  generalize hw1 : World.alloc w _ = w1
  generalize hwi : World.alloc w1 _ = wi
  have hx1 : w.Extends w1 := by subst hw1; exact prm_ext_alloc _ _
  have hx2 : w1.Extends wi := by subst hwi; exact prm_ext_alloc _ _
  have hp : PAt w1 w.heap.size k m 2 := by subst hw1; exact PAt.new w 118 k m 2
  have hi : Ints wi (.slice (some ⟨w.heap.size + 1, 0, none⟩) 1 1) [(esi : Int)] := by subst hwi; exact tints_one w1 _ _ _ (by subst hw1; simp)
  have HXI := Lib.hid (Gr.ext_trans hx1 hx2)
  have HPI := Lib.hid (hp.ext hx2)
  have HII := Lib.hid hi
  clear hw1 hwi hx1 hx2 hp hi
  generalize w.heap.size + 1 = b2 at *
  obtain ⟨b, hb⟩ : ∃ b, b = w.heap.size := ⟨_, rfl⟩
  rw [← hb] at HPI ⊢
  clear hb
  refine (HY.out _ wi HII.out).mono ?_
  rintro e w2 ⟨rfl, hx2⟩
  have HX2 := Lib.hid (Gr.ext_trans HXI.out hx2)
  have HP2 := Lib.hid (HPI.out.ext hx2)
  clear hx2 HXI HPI HII
  obtain ⟨p0, p1, p2⟩ := HP2.out
  go_wp2_with fail
  have HYI : Hid ((j : Int) * 65537 + (esi : Int) * 31 = (y : Int)) := by
    have := HYY.out
    unfold TM.num at this
    rw [Nat.mod_eq_of_lt (by omega)] at this
    show _ = _
    omega
  rw [HYI.out]
  refine (HW.out w2 (by omega)).mono ?_
  rintro e w3 ⟨rfl, hx3⟩
  have HX3 := Lib.hid (Gr.ext_trans HX2.out hx3)
  have HP3 := Lib.hid (HP2.out.ext hx3)
  clear hx3 HX2 HP2 p0 p1 p2
  go_wp2_with fail
  have hX : w3.Extends w3.drew := Gr.ext_drew (Gr.ext_refl w3)
  have HP4 := Lib.hid (HP3.out.ext hX)
  have HX4 := Lib.hid (Gr.ext_trans HX3.out hX)
  clear hX HX3 HP3
  have hl2 := TM.last_lt y
  have HR3 : Hid (RM.rand y 3 2 = ((TM.last y : Nat) : Int)) := by
    have := RM.rand_below y 3 2 (by omega)
    show _ = _
    unfold TM.last; omega
  have hpl := TM.places_length W y
  have hdl := TM.deg_le W y
  have hpl8 : (TM.places W y).length ≤ 8 := by omega
  have HPW : Hid (i64vs (nats (TM.places W y)) ++ [.int .i64 ((W : Int) + ((TM.last y : Nat) : Int))] = i64vs (nats (TM.partsW W y))) := by
    show _ = i64vs (nats (_ ++ [_])); rw [nats_snoc, i64vs_snoc, Int.natCast_add]
  have HLN : Hid ((TM.partsW W y).length = (TM.places W y).length + 1) := by show _ = _; unfold TM.partsW; simp
  clear hpl hdl
  obtain ⟨i0, hi, hz0, hz1, hz2⟩ := info_parts intinfo
  have HI := Lib.hid hi; clear hi
  have HZ0 := Lib.hid hz0; clear hz0
  have HZ1 := Lib.hid hz1; clear hz1
  have HZ2 := Lib.hid hz2; clear hz2
  generalize TM.partsW W y = pw at *
  generalize TM.last y = r at *
  have HPLA := Lib.hid (fun w hT => places_any W y w (by omega) (by omega) HY32.out hT)
  generalize TM.places W y = pl at *
  have HWR : Hid (IntKind.i64.wrap ((W : Int) + (r : Int)) = (W : Int) + (r : Int)) := IntWalk.i64_in _ (by omega)
  refine Gr.region 10 [(false,0),(false,1),(false,3),(false,4),(false,5),(false,6),(true,2),(true,7),(false,8),(true,9)] (by kernel_rfl) (by kernel_rfl) (fun d _ _ _ _ h => by cases d <;> exact h) ?_
  simp only [Gr.pick, List.getElem?_cons_zero, List.getElem?_cons_succ, List.drop_succ_cons, List.drop_zero]
  generalize w3.drew = w4 at *
  have HPX : Hid (∀ w', w4.Extends w' → PAt w' b k m 2) := fun w' hw' => HP4.out.ext hw'
  iterate 6
    refine Gr.walk_t ?_ (Or.inl ⟨by rfl, ?_⟩) ?_
    rotate_left
    · intro w' hw'
      obtain ⟨p0, p1, p2⟩ := HPX.out w' hw'
      clear hw'
      go_simp
      try with_reducible rfl
    simp only [Act.put, List.setIfInBounds_toArray, List.set_cons_zero, List.set_cons_succ]
  refine Gr.walk_c (fun K hK => ?_)
  go_simp
  refine (HPLA.out w4 (HT.out.ext HX4.out)).mono ?_
  rintro e w5 ⟨v, rfl, hx5, hown⟩
  have HX5 := Lib.hid (Gr.ext_trans HX4.out hx5)
  have HOWN := Lib.hid (owns_base hown HX4.out.size)
  clear hown
  try go_simp
  refine hK.out _ _ (hx5) ?_
  clear hK K
  clear hx5
  refine Gr.walk_c (fun K hK => ?_)
  go_simp
  refine (draws_any y HY32.out w5 2 r 3 HR3.out (by decide) (by decide)).mono ?_
  rintro e w6 ⟨rfl, rfl⟩
  try go_simp
  refine hK.out _ _ (Gr.ext_refl w5) ?_
  clear hK K
  refine Gr.walk_t ?_ (Or.inl ⟨by rfl, ?_⟩) ?_
  rotate_left
  · intro w' hw'
    have hwr := HWR.out
    clear hw'
    go_simp
    try with_reducible rfl
  simp only [Act.put, List.setIfInBounds_toArray, List.set_cons_zero, List.set_cons_succ]
  refine Gr.walk_c (fun K hK => ?_)
  go_simp
  generalize hw : World.alloc _ _ = w6
  have hx : w5.Extends w6 := by subst hw; exact ext_alloc _ _
  have HSRC : Hid (Src Tryz.prog 1 42 (.slice (some ⟨w5.heap.size, 0, none⟩) 1 1) 1 [.int .i64 ((W : Int) + (r : Int))] w6) := by subst hw; exact src_one (W := w5) (u := .int .i64 ((W : Int) + (r : Int))) Tryz.underlying42 _ _ rfl rfl
  have HOWN6 := Lib.hid (owns_ext HOWN.out hx)
  have HX6 := Lib.hid (Gr.ext_trans HX5.out hx)
  clear hw HOWN
  refine hK.out _ _ hx ?_
  clear hK K hx
  refine Gr.walk_nil ?_
  refine wpList_append_own_src _ rfl (.tmp 26) (.tmp 33) 42 42 rfl w.heap.size 3 i0 (.int .i64 0) 1 8 Tryz.underlying42 HI.out HZ0.out HZ1.out HZ2.out rfl v pl.length _ rfl HOWN6.out _ 1 _ rfl HSRC.out (by unfold maxLen; omega) (by omega) HX6.out.size ?_
  intro v' w7 ho7 hg7 _
  have HP : Hid (MadeInts w pw (.returned v') w7) := by
    refine ⟨v', rfl, Gr.ext_of ((Gr.below_of HX6.out).grown hg7 HX6.out.size fun g hg => (HOWN6.out.lt g hg).1), ?_⟩
    rw [HLN.out, ← HPW.out]; exact ho7
  clear ho7 hg7
  go_wp2
  go_ret
  exact HP.out
end Go.Proofs.YtpfmmfapdcbnkaaGreatDoor
namespace Go.Proofs.YtpfmmfapdcbnkaaGreatDoor
set_option maxRecDepth 20000
open Go.RowKit
/-- The numbers of a symbol's parts, and its row. -/
def TM.parts (k j esi : Nat) : List Nat := TM.partsW (PM.w k) (TM.num j esi)
def TM.row (k j esi : Nat) : List Nat := TM.marks (PM.l k) (TM.parts k j esi)
theorem getD_mem_of (l : List Nat) (i : Nat) (h : i < l.length) : l.getD i 0 ∈ l := by simp [h]
theorem parts_at (k j esi i : Nat) (h : i < (TM.parts k j esi).length) : (TM.parts k j esi).getD i 0 < PM.l k := by
  have h1 := TM.partsW_lt (PM.w k) (TM.num j esi)
  unfold TM.parts at h ⊢
  unfold PM.l
  generalize TM.partsW (PM.w k) (TM.num j esi) = l at *
  exact h1 _ (getD_mem_of l i h)
theorem parts_len (k j esi : Nat) : 1 ≤ (TM.parts k j esi).length ∧ (TM.parts k j esi).length ≤ 9 := by
  unfold TM.parts; rw [TM.partsW_length]; have := TM.deg_le (PM.w k) (TM.num j esi); omega
end Go.Proofs.YtpfmmfapdcbnkaaGreatDoor
namespace Go.Proofs.YtpfmmfapdcbnkaaGreatDoor
set_option maxRecDepth 20000
open Go.RowKit Go.Deep
set_option linter.unusedVariables false
set_option maxRecDepth 100000 in
theorem row_some (k j esi : Nat) (w : World) (h1 : 1 ≤ k) (h2 : k ≤ 40) (hj : j ≤ 255) (he : esi < 16777216) (hT : Tab w) :
    Calls Tryz.prog 96 #[PV k (PM.s k) 2, .int .i64 j, .int .i64 esi] w (MadeRow w (TM.row k j esi)) := by
  have HS := Lib.hid (fun w hT => parts_some k j esi w h1 h2 hj he hT)
  have hs := PM.s_le k h2
  have hl : (PM.l k : Int) = k + PM.s k + 2 := by unfold PM.l PM.w; omega
  have hl2 := PM.l_le k h2
  have hL := prmL_any k (PM.s k) 2
  rw [← hl] at hL
  have HL := Lib.hid (fun w => hL w (by omega) (by omega))
  have HPL := Lib.hid (parts_at k j esi)
  have hpl := parts_len k j esi
  change Hid (∀ (w : World), Tab w → Calls _ _ _ w (MadeInts w (TM.parts k j esi))) at HS
  have HR : Hid (TM.row k j esi = TM.marks (PM.l k) (TM.parts k j esi)) := rfl
  have HLM : Hid (∀ l, (TM.marks (PM.l k) l).length = PM.l k) := fun l => TM.marks_length _ l
  have HMK := Lib.hid (TM.marks_take (PM.l k) (TM.parts k j esi))
  have HT := Lib.hid hT
  clear hT hl hL he
  generalize TM.row k j esi = row at *
  generalize TM.parts k j esi = l at *
  generalize PM.l k = L at *
  generalize PM.s k = m at *
  obtain ⟨n, hn⟩ : ∃ n, n = l.length := ⟨_, rfl⟩
  rw [← hn] at hpl HMK HPL
  have HN := Lib.hid hn
  clear hn
  obtain ⟨hn1, hn2⟩ := hpl
  have hn0 : ((n : Int) == 0) = false := by rw [beq_eq_false_iff_ne]; omega
  have hmk := fun w => mkRow L (by omega) w
  go_enter Tryz.func96, Tryz.ntmps96
  go_wp2_with fail
  generalize hw1 : World.alloc w _ = w1
  have hx1 : w.Extends w1 := by subst hw1; exact prm_ext_alloc _ _
  have hp : PAt w1 w.heap.size k m 2 := by subst hw1; exact PAt.new w 118 k m 2
  generalize w.heap.size = b at hp ⊢
  clear hw1
  have HX1 := Lib.hid hx1
  have HP1 := Lib.hid hp
  clear hx1 hp
  obtain ⟨p0, p1, p2⟩ := HP1.out
  refine (HS.out w1 (HT.out.ext HX1.out)).mono ?_
  rintro e w2 ⟨v, rfl, hx2, hown⟩
  have hints := owns_ints hown
  obtain ⟨a, cap, rfl, hcap, hcap2⟩ := hints.slice
  rw [nats_length, ← HN.out] at hints ⊢
  have HIN := Lib.hid hints
  have HX2 := Lib.hid (Gr.ext_trans HX1.out hx2)
  have HP2 := Lib.hid (HP1.out.ext hx2)
  clear hx2 HX1 HP1 p0 p1 p2 hown hints hcap hcap2
  obtain ⟨p0, p1, p2⟩ := HP2.out
  go_wp2_with fail
  refine (HL.out w2).mono ?_
  rintro e w3 ⟨rfl, hx3⟩
  have HX3 := Lib.hid (Gr.ext_trans HX2.out hx3)
  have HIN3 := Lib.hid (HIN.out.ext hx3)
  clear hx3 HX2 HP2 p0 p1 p2 HIN
  go_wp2_with fail
  clear hmk hn0
  generalize hw4 : World.alloc w3 _ = w4
  have hx4 : w3.Extends w4 := by subst hw4; exact ext_alloc _ _
  have hown : Own w4 w3.heap.size 5 (TM.marks L (l.take 0)) := by subst hw4; exact Own.made w3 L 5 (by unfold maxLen; omega)
  have hg : w3.heap.size ≤ w3.heap.size := Nat.le_refl _
  generalize hgg : w3.heap.size = g at hown ⊢
  rw [hgg] at hg
  have HG : Hid (w3.heap.size ≤ g) := by show _ ≤ _; omega
  clear hw4 hg hgg
  have HX4 := Lib.hid hx4
  have HO4 := Lib.hid hown
  have HTK : Hid (l.take n = l) := by show _ = _; rw [HN.out]; exact List.take_length
  clear hx4 hown
  have HIN := Lib.hid HIN3.out.cell.2
  go_loopw [23] (fun i wr => ∃ k : Nat, k ≤ n ∧ i = .int .i64 k ∧ Hid (w3.Extends wr) ∧ Hid (Own wr g 5 (TM.marks L (l.take k)))) (fun i _ => (n - intOf i).toNat)
  case atStart => exact ⟨0, by omega, rfl, HX4, HO4⟩
  case round =>
    obtain ⟨i, hi, rfl, HX, HO⟩ := hrel
    by_cases h5 : i < n
    · obtain ⟨bp, off, rfl, hbp, hc⟩ := HIN.out (by omega)
      have hc1 := HX.out.cell_of (hc i h5)
      rw [nats_at] at hc1
      have HMK1 := Lib.hid (HMK.out i h5)
      have hpL := HPL.out i h5
      clear hc hbp
      generalize l.getD i 0 = p at *
      have hcg : wr.cell? ⟨g, p, none⟩ = some (.int .u8 ((TM.marks L (l.take i)).getD p 0 : Nat)) := HO.out.1.cell (by rw [HLM.out]; exact hpL)
      have hfg : wr.frozen? ⟨g, p, none⟩ = false := HO.out.1.frozen p
      have HX5 := Lib.hid (HX.out.setCell ⟨g, p, none⟩ (.int .u8 1) HG.out)
      have HO5 : Hid (Own (wr.setCell ⟨g, p, none⟩ (.int .u8 1)) g 5 (TM.marks L (l.take (i + 1)))) := by
        rw [HMK1.out]; exact HO.out.set p 1 (by rw [HLM.out]; exact hpL) (by decide)
      generalize (TM.marks L (l.take i)).getD p 0 = z at *
      go_wp2
      go_roundw
      case rel => exact ⟨i + 1, by omega, by go_num, HX5, HO5⟩
      case measure => simp [intOf]; omega
    · obtain rfl : i = n := by omega
      have HP : Hid (MadeRow w row (.returned (.slice (some ⟨g, 0, none⟩) L L)) wr) := by
        have h := HO.out
        rw [HTK.out] at h
        rw [HR.out]
        exact ⟨g, by rw [HLM.out], Gr.ext_trans HX3.out HX.out, Nat.le_trans HX3.out.size HG.out, h⟩
      go_wp2
      go_ret
      exact HP.out
end Go.Proofs.YtpfmmfapdcbnkaaGreatDoor
namespace Go.Proofs.YtpfmmfapdcbnkaaGreatDoor
set_option maxRecDepth 20000
open Go.RowKit Go.Deep
set_option linter.unusedVariables false
/-- The rows of the symbols; all rows. -/
def QM.syms (k j : Nat) (es : List Int) : List (List Nat) := es.map fun e => TM.row k j e.toNat
def QM.mat (k j : Nat) (es : List Int) : List (List Nat) := QM.low k ++ QM.high k ++ QM.syms k j es
theorem QM.syms_length (k j : Nat) (es : List Int) : (QM.syms k j es).length = es.length := by simp [QM.syms]
theorem QM.mat_length (k j : Nat) (es : List Int) : (QM.mat k j es).length = PM.s k + 2 + es.length := by
  unfold QM.mat QM.low QM.high
  rw [List.length_append, List.length_append, QM.grid_length, QM.grid_length, QM.syms_length]
theorem QM.mat_nil (k j : Nat) (es : List Int) : QM.mat k j (es.take 0) = QM.low k ++ QM.high k := by unfold QM.mat; rw [List.take_zero]; exact List.append_nil _
theorem QM.mat_snoc (k j : Nat) (es : List Int) (i : Nat) (h : i < es.length) (e : Nat) (he : es.getD i 0 = (e : Int)) : QM.mat k j (es.take i) ++ [TM.row k j e] = QM.mat k j (es.take (i + 1)) := by
  unfold QM.mat QM.syms
  have h0 : es[i] = (e : Int) := by rw [← he]; simp [h]
  rw [List.append_assoc, List.take_succ_eq_append_getElem h, List.map_append, h0]; rfl
set_option maxHeartbeats 1000000 in
set_option maxRecDepth 100000 in
theorem mat_some (k j : Nat) (v : Value) (es : List Int) (w : World) (h1 : 1 ≤ k) (h2 : k ≤ 40) (hj : j ≤ 255) (ha : AllOk es) (hl : es.length ≤ 1000) (hv : Ints w v es) (hT : Tab w) :
    Calls Tryz.prog 84 #[PV k (PM.s k) 2, .int .i64 j, v] w (MadeRws w (QM.mat k j es)) := by
  have HC := Lib.hid (fun w hv => can_yes k j v es w h1 h2 hj ha hv)
  have HLOW := Lib.hid (fun w => low_some k w h1 h2)
  have HHI := Lib.hid (fun w => high_some k w h1 h2)
  have hs7 := PM.s_le k h2
  have hs2 : 2 ≤ PM.s k := by unfold PM.s; omega
  have hl50 := PM.l_le k h2
  have HROW : Hid (∀ (e : Nat) w, e < 16777216 → Tab w → Calls Tryz.prog 96 #[PV k (PM.s k) 2, .int .i64 j, .int .i64 e] w (MadeRow w (TM.row k j e))) := fun e w he hT => row_some k j e w h1 h2 hj he hT
  have HSN := Lib.hid (QM.mat_snoc k j es)
  have HML : Hid (∀ i, i ≤ es.length → (QM.mat k j (es.take i)).length = PM.s k + 2 + i) := fun i hi => by rw [QM.mat_length, List.length_take, Nat.min_eq_left hi]
  have HM0 := Lib.hid (QM.mat_nil k j es)
  have HLF : Hid ((QM.mat k j es).length = PM.s k + 2 + es.length) := QM.mat_length k j es
  have HMF : Hid (∀ n, n = es.length → QM.mat k j (es.take n) = QM.mat k j es) := fun n e => by rw [e, List.take_length]
  have HLG : Hid (QM.low k ++ QM.high k = QM.grid (PM.s k) (PM.l k) (QM.lowE k) ++ QM.grid 2 (PM.l k) (QM.hiE k)) := rfl
  have HAO := Lib.hid ha
  have HTB := Lib.hid hT
  clear ha hT
  obtain ⟨a, cap, rfl, hcap, hcap2⟩ := hv.slice
  have HV := Lib.hid hv
  have HCL := Lib.hid hv.cell.2
  clear hv hcap hcap2
  obtain ⟨n, hn⟩ : ∃ n, n = es.length := ⟨_, rfl⟩
  rw [← hn] at HCL HC hl HLF ⊢
  rw [← hn] at HV
  have HN := Lib.hid hn
  clear hn
  generalize QM.low k ++ QM.high k = lh at *
  generalize PM.l k = L at *
  generalize PM.s k = S at *
  obtain ⟨i1, hi, hz0, hz1, hz2⟩ := info_parts rowinfo
  have HI := Lib.hid hi; clear hi
  have HZ0 := Lib.hid hz0; clear hz0
  have HZ1 := Lib.hid hz1; clear hz1
  have HZ2 := Lib.hid hz2; clear hz2
  go_enter Tryz.func84, Tryz.ntmps84
  go_wp2_with fail
  generalize hw1 : World.alloc w _ = w1
  have hx1 : w.Extends w1 := by subst hw1; exact prm_ext_alloc _ _
  have hp : PAt w1 w.heap.size k S 2 := by subst hw1; exact PAt.new w 118 k S 2
  obtain ⟨b, hb⟩ : ∃ b, b = w.heap.size := ⟨_, rfl⟩
  rw [← hb] at hp ⊢
  clear hw1 hb
  have HX1 := Lib.hid hx1
  have HP1 := Lib.hid hp
  clear hx1 hp
  obtain ⟨p0, p1, p2⟩ := HP1.out
  refine (HC.out w1 (HV.out.ext HX1.out)).mono ?_
  rintro e w2 ⟨rfl, hx2⟩
  have HX2 := Lib.hid (Gr.ext_drew (Gr.ext_trans HX1.out hx2))
  have HP2 := Lib.hid (HP1.out.ext (Gr.ext_drew hx2))
  clear hx2 HX1 HP1 p0 p1 p2 HC
  go_wp2_with fail
  refine Gr.region 6 [(false,0),(false,2),(true,1),(true,3),(true,4),(true,5)] (by kernel_rfl) (by kernel_rfl) (fun d _ _ _ _ h => by cases d <;> exact h) ?_
  simp only [Gr.pick, List.getElem?_cons_zero, List.getElem?_cons_succ, List.drop_succ_cons, List.drop_zero]
  generalize w2.drew = w3 at *
  have HPX : Hid (∀ w', w3.Extends w' → PAt w' b k S 2) := fun w' hw' => HP2.out.ext hw'
  iterate 2
    refine Gr.walk_t ?_ (Or.inl ⟨by rfl, ?_⟩) ?_
    rotate_left
    · intro w' hw'
      obtain ⟨p0, p1, p2⟩ := HPX.out w' hw'
      clear hw'
      go_simp
      try with_reducible rfl
    simp only [Act.put, List.setIfInBounds_toArray, List.set_cons_zero, List.set_cons_succ]
  refine Gr.walk_c (fun K hK => ?_)
  go_simp
  refine (HLOW.out w3).mono ?_
  rintro e w4 ⟨g1, rfl, hx4, hg1, hG1⟩
  have HX4 := Lib.hid hx4
  have HG1 := Lib.hid hG1
  have HP4 := Lib.hid (HP2.out.ext hx4)
  try go_simp
  refine hK.out _ _ (hx4) ?_
  clear hK K
  clear hx4 hg1 hG1 HLOW HPX
  refine Gr.walk_c (fun K hK => ?_)
  go_simp
  refine (HHI.out w4).mono ?_
  rintro e w5 ⟨g2, rfl, hx5, hg2, hG2⟩
  have HX5 := Lib.hid (Gr.ext_trans HX4.out hx5)
  have HP5 := Lib.hid (HP4.out.ext hx5)
  have HG15 := Lib.hid (HG1.out.ext hx5)
  have HG2 := Lib.hid hG2
  try go_simp
  refine hK.out _ _ (hx5) ?_
  clear hK K
  clear hx5 hg2 hG2 HG1 HHI HP4 HX4
  refine Gr.walk_c (fun K hK => ?_)
  go_simp
  generalize hw : World.alloc _ _ = w6
  have hx : w5.Extends w6 := by subst hw; exact ext_alloc _ _
  have hcell : w6.cell? ⟨w5.heap.size, 0, none⟩ = some (.slice (some ⟨g1, 0, none⟩) S S) ∧ w6.cell? ⟨w5.heap.size, 1, none⟩ = some (.slice (some ⟨g2, 0, none⟩) 2 2) := by
    subst hw
    exact ⟨by rw [cell_of_row _ _ _ _ _ _ (heap_alloc_new w5 _)]; rfl, by rw [cell_of_row _ _ _ _ _ _ (heap_alloc_new w5 _)]; rfl⟩
  have HC0 := Lib.hid hcell.1
  have HC1 := Lib.hid hcell.2
  have HX6 := Lib.hid (Gr.ext_trans HX5.out hx)
  have HP6 := Lib.hid (HP5.out.ext hx)
  have HG16 := Lib.hid (HG15.out.ext hx)
  have HG26 := Lib.hid (HG2.out.ext hx)
  refine hK.out _ _ hx ?_
  clear hK K hx hw hcell HX5 HP5 HG15 HG2
  generalize w5.heap.size = s at *
  refine Gr.walk_c (fun K hK => ?_)
  go_simp
  refine (concat_two s g1 S g2 2 L (QM.lowE k) (QM.hiE k) w6 (by omega) (by omega) (by omega) HC0.out HC1.out HG16.out HG26.out).mono ?_
  rintro e w7 ⟨u, rfl, hx7, hm7⟩
  have HX7 := Lib.hid (Gr.ext_trans HX6.out hx7)
  have HP7 := Lib.hid (HP6.out.ext hx7)
  have HM7 : Hid (Mats w7 w3.heap.size 0 99 u (S + 2 + 0) (QM.mat k j (es.take 0))) := by
    have := hm7.base HX6.out.size
    rw [List.length_append, QM.grid_length, QM.grid_length, ← HLG.out] at this
    rw [HM0.out]
    exact this
  try go_simp
  refine hK.out _ _ (hx7) ?_
  clear hK K
  clear hx7 hm7 HX6 HP6 HP7 HC0 HC1 HG16 HG26 HM0 HLG
  refine Gr.walk_nil ?_
  go_wp2_with fail
  go_loopw [7, 23] (fun o i wr => ∃ m : Nat, m ≤ n ∧ i = .int .i64 m ∧ Hid (w3.Extends wr) ∧ Hid (Mats wr w3.heap.size 0 99 o (S + 2 + m) (QM.mat k j (es.take m)))) (fun _ i _ => (n - intOf i).toNat)
  case atStart => exact ⟨0, by omega, rfl, HX7, HM7⟩
  case round =>
    obtain ⟨m, hm, rfl, HX, HM⟩ := hrel
    by_cases h5 : m < n
    · have hen : m < es.length := by have := HN.out; omega
      obtain ⟨e, he⟩ := Int.eq_ofNat_of_zero_le (HAO.out m hen).1
      have he2 : e < 16777216 := by have := (HAO.out m hen).2; omega
      obtain ⟨bp, off, rfl, hbp, hc⟩ := HCL.out (by omega)
      have hc1 := HX.out.cell_of (HX2.out.cell_of (hc m h5))
      rw [he] at hc1
      have HSN1 := Lib.hid (HSN.out m hen e he)
      have HML1 := Lib.hid (HML.out m (by omega))
      clear hc hbp hen he
      obtain ⟨p0, p1, p2⟩ := HP2.out.ext HX.out
      go_wp2_with fail
      refine (HROW.out e wr he2 (HTB.out.ext (Gr.ext_trans HX2.out HX.out))).mono ?_
      rintro _ wq ⟨g, rfl, hxq, hgq, hoq⟩
      have HXQ := Lib.hid (Gr.ext_trans HX.out hxq)
      have HXW := Lib.hid (Gr.ext_trans HX2.out HXQ.out)
      have HOK : Hid (RowOk wq 0 (.slice (some ⟨g, 0, none⟩) (TM.row k j e).length (TM.row k j e).length) (TM.row k j e)) := RowOk.own hoq 0 rfl rfl
      obtain ⟨vs, hown, hrows⟩ := HM.out.ext hxq
      have HOWN := Lib.hid hown
      have HROWS := Lib.hid hrows
      have HOB : Hid (∀ g, u7.ownBlock = some g → w3.heap.size ≤ g) := fun g hg => (HOWN.out.lt g hg).1
      have hbs := HXQ.out.size
      clear hown hrows hxq hgq hoq HM HX p0 p1 p2
      generalize TM.row k j e = row at *
      generalize row.length = len at *
      go_wp2_with (at_builtin; refine wpList_append_own_src _ rfl _ _ 87 87 rfl w3.heap.size 99 i1 (.slice none 0 0) 1 24 Tryz.underlying87 HI.out HZ0.out HZ1.out HZ2.out rfl _ _ _ rfl (HOWN.out.alloc _) _ 1 [.slice (some ⟨g, 0, none⟩) len len] rfl (src_one Tryz.underlying87 _ _ rfl rfl) (by unfold maxLen; omega) (by omega) (by simp; omega) ?_)
      intro v' w9 ho9 hg9 _
      have HP : Hid (w3.Extends w9 ∧ Mats w9 w3.heap.size 0 99 v' (S + 2 + (m + 1)) (QM.mat k j (es.take (m + 1)))) := by
        refine ⟨Gr.ext_of (((Gr.below_of HXQ.out).alloc hbs _).grown hg9 (by simp; omega) HOB.out), ?_⟩
        rw [← HSN1.out]
        exact Mats.snoc (Nat.zero_le _) (by decide) HML1.out.symm (HOWN.out.alloc _) (fun j hj => by obtain ⟨u, h1, h2⟩ := HROWS.out j hj; exact ⟨u, h1, h2.ext (ext_alloc _ _)⟩) (HOK.out.ext (ext_alloc _ _)) hg9 ho9
      clear ho9 hg9
      go_wp2
      go_roundw
      case rel => exact ⟨m + 1, by omega, by go_num, Lib.hid HP.out.1, Lib.hid HP.out.2⟩
      case measure => simp [intOf]; omega
    · obtain rfl : m = n := by omega
      have HP : Hid (MadeRws w (QM.mat k j es) (.returned u7) wr) := by
        refine ⟨u7, rfl, Gr.ext_trans HX2.out HX.out, ?_⟩
        have := HM.out.base HX2.out.size
        rw [HMF.out m HN.out] at this
        rw [HLF.out]
        exact this
      go_wp2
      go_ret
      exact HP.out
end Go.Proofs.YtpfmmfapdcbnkaaGreatDoor
namespace Go.Proofs.YtpfmmfapdcbnkaaGreatDoor
set_option maxRecDepth 20000
open Go.RowKit
namespace SM
/-- The numbers below k. -/
def iota (k : Nat) : List Int := nats (List.range k)
theorem iota_length (k : Nat) : (iota k).length = k := by simp [iota, nats]
theorem iota_at (k i : Nat) (h : i < k) : (iota k).getD i 0 = (i : Nat) := by simp [iota, nats, h]
theorem iota_ok (k : Nat) (hk : k ≤ 1000) : AllOk (iota k) := fun i hi => by
  rw [iota_length] at hi
  rw [iota_at k i hi]
  exact ⟨by omega, by omega⟩
theorem iota_snoc (k : Nat) : iota k ++ [(k : Int)] = iota (k + 1) := by
  unfold iota; rw [List.range_succ, nats_snoc]
/-- The rows that must settle all parts. -/
def rows (k j : Nat) : List (List Nat) := QM.mat k j (iota k)
theorem rows_length (k j : Nat) : (rows k j).length = PM.s k + 2 + k := by unfold rows; rw [QM.mat_length, iota_length]
/-- With j they do. -/
def Good (k j : Nat) : Prop := LA.RankIs (PM.l k) (· < (rows k j).length) (rowsF (PM.l k) 0 (rows k j) []) (PM.l k)
theorem good_iff {k j r : Nat} (h : LA.RankIs (PM.l k) (· < (rows k j).length) (rowsF (PM.l k) 0 (rows k j) []) r) : r = PM.l k ↔ Good k j :=
  ⟨fun e => by subst e; exact h, fun g => h.uniq g⟩
/-- What is answered of k: r and the error e. -/
def SeedIs (k r e : Nat) : Prop := (e = 0 ∧ r < 256 ∧ Good k r ∧ ∀ i, i < r → ¬ Good k i) ∨ (e = 5 ∧ r = 0 ∧ ∀ i, i < 256 → ¬ Good k i)
theorem SeedIs.uniq {k r e r' e' : Nat} (h : SeedIs k r e) (h' : SeedIs k r' e') : r = r' ∧ e = e' := by
  rcases h with ⟨rfl, h1, h2, h3⟩ | ⟨rfl, rfl, h3⟩
  · rcases h' with ⟨rfl, h1', h2', h3'⟩ | ⟨rfl, rfl, h3'⟩
    · refine ⟨?_, rfl⟩
      rcases Nat.lt_trichotomy r r' with h | h | h
      · exact absurd h2 (h3' r h)
      · exact h
      · exact absurd h2' (h3 r' h)
    · exact absurd h2 (h3' r h1)
  · rcases h' with ⟨rfl, h1', h2', h3'⟩ | ⟨rfl, rfl, h3'⟩
    · exact absurd h2' (h3 r' h1')
    · exact ⟨rfl, rfl⟩
theorem SeedIs.lt {k r e : Nat} (h : SeedIs k r e) : r < 256 := by
  rcases h with ⟨_, h1, _⟩ | ⟨_, rfl, _⟩
  · exact h1
  · omega
theorem SeedIs.of_good {k r e : Nat} (h : SeedIs k r e) (g : Good k 0) : r = 0 ∧ e = 0 := h.uniq (.inl ⟨rfl, by omega, g, fun i hi => absurd hi (Nat.not_lt_zero _)⟩)
/-- The rows of the least block. -/
theorem rows_one : rows 1 0 = [[1, 1, 0, 1, 0], [1, 0, 1, 0, 1], [21, 53, 15, 1, 0], [131, 249, 96, 0, 1], [0, 0, 1, 0, 1]] := by decide
/-- The rows of a matrix mixed by c. -/
theorem mixed {P : Nat → Prop} {f : Nat → LA.V} (L : List (Nat × Nat)) (h : ∀ p ∈ L, p.1 < 256 ∧ P p.2) : LA.Span P f (L.foldr (fun p u => LA.add u (LA.scl p.1 (f p.2))) LA.zero) := ⟨L, h, rfl⟩
theorem good_one : Good 1 0 := by
  unfold Good
  rw [rows_one]
  refine LA.RankIs.of_full fun c hc => ?_
  have hc5 : c < 5 := hc
  match c, hc5 with
  | 0, _ => exact ⟨_, mixed [(1, 1), (1, 4)] (by decide), by decide, by decide⟩
  | 1, _ => exact ⟨_, mixed [(12, 0), (232, 1), (12, 2), (37, 3), (205, 4)] (by decide), by decide, by decide⟩
  | 2, _ => exact ⟨_, mixed [(255, 0), (66, 1), (255, 2), (194, 3), (128, 4)] (by decide), by decide, by decide⟩
  | 3, _ => exact ⟨_, mixed [(13, 0), (233, 1), (12, 2), (37, 3), (204, 4)] (by decide), by decide, by decide⟩
  | 4, _ => exact ⟨_, mixed [(255, 0), (66, 1), (255, 2), (194, 3), (129, 4)] (by decide), by decide, by decide⟩
end SM
end Go.Proofs.YtpfmmfapdcbnkaaGreatDoor
