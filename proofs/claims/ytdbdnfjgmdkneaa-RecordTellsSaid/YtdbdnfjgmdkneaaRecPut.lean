/- The reference's put: a number's bytes behind what there is. -/
import Derived.Test.YtdbdnfjgmdkneaaRecMath
import Derived.Test.YtdbdnfjgmdkneaaAppend
import Derived.Test.YtdbdnfjgmdkneaaInts
import Derived.Test.YtdbdnfjgmdkneaaMarks
import Derived.Lib.Hide
import Derived.Handy
import Derived.WalkKit
import Derived.IntWalk
import Derived.Laws.BitsLemmas
namespace Go.Proofs.Ytdbdnfjgmdkneaa
set_option maxRecDepth 20000
open Go.RowKit Go.Deep
set_option linter.unusedVariables false
theorem u8vs_app1 (xs ys : List Nat) : u8vs (xs ++ ys) = u8vs xs ++ u8vs ys := by simp [u8vs]
/-- n shifted right by whole bytes. -/
theorem shr_bytes (n p : Nat) : (n : Int) / 2 ^ (8 * (p : Int)).toNat = ((n / 256 ^ p : Nat) : Int) := by
  have e : (8 * (p : Int)).toNat = 8 * p := by omega
  rw [e, Nat.pow_mul 2 8 p |> fun h => (show (2 : Int) ^ (8 * p) = ((256 ^ p : Nat) : Int) by rw [← show (2 ^ 8 : Nat) = 256 from rfl, ← h]; simp), Int.natCast_ediv]
theorem i64_and255 (n : Int) : bits .and .i64 n 255 = n % 256 := by
  have h8 : (BitVec.ofInt 64 255).toNat = 2 ^ 8 - 1 := by decide
  have key : (BitVec.ofInt 64 n &&& BitVec.ofInt 64 255).toNat = (n % ((2 ^ 64 : Nat) : Int)).toNat % 2 ^ 8 := by
    rw [BitVec.toNat_and, BitVec.toNat_ofInt, h8, Nat.and_two_pow_sub_one_eq_mod]
  show IntKind.i64.wrap ((BitVec.ofInt 64 n &&& BitVec.ofInt 64 255).toNat : Nat) = n % 256
  rw [key, IntKind.wrap_i64]
  omega
/-- As it is used: what is answered reads as a list of its own name. -/
def AppOut (B : Nat) (w : World) (zs : List Nat) (e : Ending) (w' : World) : Prop := ∃ a c ys, e = .returned (.slice a ys.length c) ∧ ys = zs ∧ w'.ownsRow B 5 1 (.slice a ys.length c) ys.length (u8vs ys) ∧ Below B w w'
theorem put_any (B : Nat) (v : Value) (xs : List Nat) (n W : Nat) (w : World) (hW : W ≤ 8) (hn : n < 4611686018427387904) (hx : xs.length ≤ 1000000) (hown : w.ownsRow B 5 1 v xs.length (u8vs xs)) (hB : B ≤ w.heap.size) :
    Calls Try.prog 65 #[v, .int .i64 n, .int .i64 W] w fun e w' => ∃ v', e = .returned v' ∧ w'.ownsRow B 5 1 v' (xs.length + W) (u8vs (xs ++ KM.nb W n)) ∧ Below B w w' := by
  obtain ⟨iu, hiu, hz0, hz1, hz2⟩ := info_parts byteinfo
  have HI := Lib.hid hiu
  have HZ0 := Lib.hid hz0
  have HZ1 := Lib.hid hz1
  have HZ2 := Lib.hid hz2
  have HOWN := Lib.hid hown
  have HB := Lib.hid hB
  obtain ⟨lx, hlx⟩ : ∃ lx, lx = xs.length := ⟨_, rfl⟩
  rw [← hlx] at hx HOWN ⊢
  have HLX := Lib.hid hlx
  obtain ⟨va, vc, rfl⟩ := owns_slice HOWN.out
  clear hiu hz0 hz1 hz2 hown hB hlx
  go_enter Try.func65, Try.ntmps65
  go_wp2_with fail
  go_loopw [0, 7] (fun s0 s7 wr => ∃ q : Nat, q ≤ W ∧ s7 = .int .i64 ((q : Int) - 1) ∧ Hid (wr.ownsRow B 5 1 s0 (lx + (W - q)) (u8vs (xs ++ (KM.nb W n).take (W - q)))) ∧ Hid (Below B w wr)) (fun _ s7 _ => (intOf s7 + 1).toNat)
  case atStart => exact ⟨W, by omega, by rfl, by rw [Nat.sub_self, List.take_zero, List.append_nil]; exact HOWN, Lib.hid (Below.refl _ _)⟩
  case round =>
    obtain ⟨q, hq, rfl, HO, HX⟩ := hrel
    obtain ⟨a0, c0, rfl⟩ := owns_slice HO.out
    by_cases h : q = 0
    · subst h
      have HP : Hid (∃ v', Ending.returned (.slice a0 (lx + (W - 0)) c0) = .returned v' ∧ wr.ownsRow B 5 1 v' (lx + W) (u8vs (xs ++ KM.nb W n)) ∧ Below B w wr) := by
        have ho := HO.out
        rw [List.take_of_length_le (by rw [KM.nb_length]; omega)] at ho
        exact ⟨_, rfl, ho, HX.out⟩
      go_wp2
      go_ret
      exact HP.out
    · obtain ⟨p, rfl⟩ : ∃ p, q = p + 1 := ⟨q - 1, by omega⟩
      rw [show (((p + 1 : Nat) : Int) - 1) = (p : Int) by omega]
      have hshr := shr_bytes n p
      obtain ⟨m, hm⟩ : ∃ m, m = n / 256 ^ p % 256 := ⟨_, rfl⟩
      have hm2 : m < 256 := hm ▸ Nat.mod_lt _ (by decide)
      have hand : bits .and .i64 ((n : Int) / 256 ^ p) 255 = (m : Int) := by
        rw [i64_and255, hm, Int.natCast_emod, Int.natCast_ediv, Int.natCast_pow]; rfl
      have HM := Lib.hid hm
      have HBW : B ≤ wr.heap.size := Nat.le_trans HB.out HX.out.size
      have HOB : Hid (∀ g, (Value.slice a0 (lx + (W - (p + 1))) c0).ownBlock = some g → B ≤ g) := fun g hg => (HO.out.lt g hg).1
      clear h hm
      go_wp2_with (at_builtin; refine wpList_append_own_src _ rfl _ _ 26 26 rfl B 5 iu (.int .u8 0) 1 1 Try.underlying26 HI.out HZ0.out HZ1.out HZ2.out rfl _ _ _ rfl (HO.out.alloc _) _ 1 [.int .u8 m] rfl (src_one Try.underlying26 _ _ rfl rfl) (by unfold maxLen; omega) (by omega) (by simp; omega) ?_)
      intro v' w9 ho9 hg9 _
      have HP : Hid (w9.ownsRow B 5 1 v' (lx + (W - p)) (u8vs (xs ++ (KM.nb W n).take (W - p))) ∧ Below B w w9) := by
        refine ⟨?_, (HX.out.alloc HBW _).grown hg9 (by simp; omega) HOB.out⟩
        rw [show lx + (W - p) = lx + (W - (p + 1)) + 1 by omega, ← KM.nb_step p W n (by omega), ← HM.out, ← List.append_assoc, u8vs_app1]
        exact ho9
      clear ho9 hg9
      go_wp2
      go_roundw
      case rel => exact ⟨p, by omega, by go_num, Lib.hid HP.out.1, Lib.hid HP.out.2⟩
      case measure => simp [intOf]
theorem put_new (B : Nat) (v : Value) (xs : List Nat) (n W : Nat) (w : World) (hW : W ≤ 8) (hn : n < 4611686018427387904) (hx : xs.length ≤ 1000000) (hown : w.ownsRow B 5 1 v xs.length (u8vs xs)) (hB : B ≤ w.heap.size) :
    Calls Try.prog 65 #[v, .int .i64 n, .int .i64 W] w (AppOut B w (xs ++ KM.nb W n)) :=
  (put_any B v xs n W w hW hn hx hown hB).mono fun e w' ⟨v', h1, h2, h3⟩ => by
    rw [show xs.length + W = (xs ++ KM.nb W n).length by rw [List.length_append, KM.nb_length]] at h2
    obtain ⟨a, c, rfl⟩ := owns_slice h2
    exact ⟨a, c, _, h1, rfl, h2, h3⟩
end Go.Proofs.Ytdbdnfjgmdkneaa
