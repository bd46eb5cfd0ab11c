/- In one text: FldMath, FldBits, FldAdd, RowMath, Grow. -/
import Derived.WalkKit
import Derived.Laws.BitsAllLaws
import Derived.Lib.Hide
import Derived.IntWalk
import Derived.Test.YtippckajlghimaaGreatDoorRows
import Derived.OrdersHeld
import Derived.StillTail
import Derived.Below
import Derived.KernelRfl
import Derived.Deep.RegionHeld
import Derived.Test.YtippckajlghimaaGreatDoorM1
namespace Go.Proofs.YtippckajlghimaaGreatDoor
set_option maxRecDepth 20000
namespace FM
def dbl (a : Nat) : Nat := if a < 128 then a * 2 else (a * 2 % 256) ^^^ 29
def tloop : Nat → Nat → Nat → Nat → Nat
  | 0, p, _, _ => p
  | f+1, p, a, b => tloop f (if b % 2 = 1 then p ^^^ a else p) (dbl a) (b / 2)
def tm (a b : Nat) : Nat := tloop 8 0 a b
def rx (a b : Nat) : Nat → Nat
  | 0 => 0
  | i+1 => if (b / 2^i) % 2 = 1 then rx a b i ^^^ (a * 2^i) else rx a b i
def rred (x : Nat) : Nat → Nat
  | 0 => x
  | j+1 => if (rred x j / 2^(14-j)) % 2 = 1 then rred x j ^^^ (285 * 2^(6-j)) else rred x j
def rtm (a b : Nat) : Nat := rred (rx a b 8) 7 % 256

theorem xor_lt {a b : Nat} (ha : a < 256) (hb : b < 256) : a ^^^ b < 256 := Nat.xor_lt_two_pow (n := 8) ha hb
theorem dbl_lt (a : Nat) (h : a < 256) : dbl a < 256 := by
  unfold dbl; split
  · omega
  · exact xor_lt (by omega) (by omega)
theorem tloop_zero (f p a : Nat) : tloop f p a 0 = p := by
  induction f generalizing p a with
  | zero => rfl
  | succ f ih => simp [tloop, ih]
theorem tloop_lt (f p a b : Nat) (hp : p < 256) (ha : a < 256) : tloop f p a b < 256 := by
  induction f generalizing p a b with
  | zero => exact hp
  | succ f ih =>
    rw [tloop]; refine ih _ _ _ ?_ (dbl_lt a ha)
    split
    · exact xor_lt hp ha
    · exact hp
theorem tm_lt (a b : Nat) (ha : a < 256) : tm a b < 256 := tloop_lt _ _ _ _ (by omega) ha

/-! ### what is linear -/
def Lin (f : Nat → Nat) : Prop := ∀ x y, x < 256 → y < 256 → f (x ^^^ y) = f x ^^^ f y

theorem Lin.zero {f : Nat → Nat} (h : Lin f) : f 0 = 0 := by
  have := h 0 0 (by omega) (by omega)
  rw [Nat.xor_self] at this
  rw [this, Nat.xor_self]

theorem split_bit : ∀ n, n < 8 → ∀ x, x < 256 → 2 ^ n ≤ x → x < 2 ^ (n + 1) → x = 2 ^ n ^^^ (x - 2 ^ n) := by decide +kernel

theorem Lin.ext {f g : Nat → Nat} (hf : Lin f) (hg : Lin g) (h : ∀ i, i < 8 → f (2 ^ i) = g (2 ^ i)) : ∀ x, x < 256 → f x = g x := by
  have key : ∀ n, n ≤ 8 → ∀ x, x < 2 ^ n → f x = g x := by
    intro n
    induction n with
    | zero =>
      intro _ x hx
      obtain rfl : x = 0 := by simpa using hx
      rw [hf.zero, hg.zero]
    | succ n ih =>
      intro hn x hx
      by_cases hlt : x < 2 ^ n
      · exact ih (by omega) x hlt
      · have h8 : 2 ^ (n + 1) ≤ 2 ^ 8 := Nat.pow_le_pow_right (by omega) hn
        have hp : 2 ^ (n + 1) = 2 ^ n * 2 := Nat.pow_succ 2 n
        have h1 : 2 ^ n < 256 := by omega
        have e := split_bit n (by omega) x (by omega) (by omega) hx
        rw [e, hf _ _ h1 (by omega), hg _ _ h1 (by omega), h n (by omega), ih (by omega) _ (by omega)]
  exact fun x hx => key 8 (by omega) x hx

theorem xor_four (a b c d : Nat) : (a ^^^ b) ^^^ (c ^^^ d) = (a ^^^ c) ^^^ (b ^^^ d) := by
  rw [Nat.xor_assoc, Nat.xor_assoc, ← Nat.xor_assoc b c d, Nat.xor_comm b c, Nat.xor_assoc c b d]

theorem div_pow_xor (x y i : Nat) : (x ^^^ y) / 2 ^ i = (x / 2 ^ i) ^^^ (y / 2 ^ i) := by
  apply Nat.eq_of_testBit_eq; intro j
  simp [Nat.testBit_xor, Nat.testBit_div_two_pow]
theorem mul_pow_xor (x y i : Nat) : (x ^^^ y) * 2 ^ i = (x * 2 ^ i) ^^^ (y * 2 ^ i) := by
  rw [← Nat.shiftLeft_eq, ← Nat.shiftLeft_eq, ← Nat.shiftLeft_eq]; exact Nat.shiftLeft_xor_distrib ..
theorem mod_pow_xor (x y i : Nat) : (x ^^^ y) % 2 ^ i = (x % 2 ^ i) ^^^ (y % 2 ^ i) := by
  apply Nat.eq_of_testBit_eq; intro j
  simp only [Nat.testBit_xor, Nat.testBit_mod_two_pow]
  by_cases h : j < i <;> simp [h]
theorem odd_xor (x y : Nat) : (x ^^^ y) % 2 = ((x % 2) ^^^ (y % 2)) := mod_pow_xor x y 1
theorem odd_cases (x y : Nat) : (x ^^^ y) % 2 = (x % 2 + y % 2) % 2 := by
  rw [odd_xor]
  rcases Nat.mod_two_eq_zero_or_one x with h | h <;> rcases Nat.mod_two_eq_zero_or_one y with k | k <;> rw [h, k] <;> rfl

/-- c where the bit is set -/
def sel (x c : Nat) : Nat := if x % 2 = 1 then c else 0
theorem sel_xor (x y c : Nat) : sel (x ^^^ y) c = sel x c ^^^ sel y c := by
  unfold sel
  rw [odd_cases]
  rcases Nat.mod_two_eq_zero_or_one x with h | h <;> rcases Nat.mod_two_eq_zero_or_one y with k | k <;> simp [h, k]
theorem sel_xor_right (x c d : Nat) : sel x (c ^^^ d) = sel x c ^^^ sel x d := by
  unfold sel; split <;> simp
theorem ite_sel (x p c : Nat) : (if x % 2 = 1 then p ^^^ c else p) = p ^^^ sel x c := by
  unfold sel; split <;> simp

theorem dbl_eq : ∀ a, a < 256 → dbl a = (a * 2 ^ 1) ^^^ sel (a / 2 ^ 7) 285 := by decide +kernel
theorem dbl_lin : Lin dbl := by
  intro x y hx hy
  rw [dbl_eq x hx, dbl_eq y hy, dbl_eq _ (xor_lt hx hy), div_pow_xor, mul_pow_xor, sel_xor]
  exact xor_four ..

theorem tloop_acc (f p q a b : Nat) : tloop f (p ^^^ q) a b = p ^^^ tloop f q a b := by
  induction f generalizing p q a b with
  | zero => rfl
  | succ f ih => rw [tloop, tloop, ite_sel, ite_sel, Nat.xor_assoc, ih]
theorem tloop_pull (f p a b : Nat) : tloop f p a b = p ^^^ tloop f 0 a b := by
  have := tloop_acc f p 0 a b; rwa [Nat.xor_zero] at this
theorem tloop_succ (f a b : Nat) : tloop (f+1) 0 a b = sel b a ^^^ tloop f 0 (dbl a) (b / 2) := by
  rw [tloop, ite_sel, Nat.zero_xor, tloop_pull]
theorem tloop_left (f b x y : Nat) (hx : x < 256) (hy : y < 256) : tloop f 0 (x ^^^ y) b = tloop f 0 x b ^^^ tloop f 0 y b := by
  induction f generalizing b x y with
  | zero => simp [tloop]
  | succ f ih =>
    rw [tloop_succ, tloop_succ, tloop_succ, dbl_lin x y hx hy, ih _ _ _ (dbl_lt x hx) (dbl_lt y hy), sel_xor_right]
    exact xor_four ..
theorem tloop_right (f a x y : Nat) : tloop f 0 a (x ^^^ y) = tloop f 0 a x ^^^ tloop f 0 a y := by
  induction f generalizing a x y with
  | zero => simp [tloop]
  | succ f ih =>
    have h2 : (x ^^^ y) / 2 = (x / 2) ^^^ (y / 2) := div_pow_xor x y 1
    rw [tloop_succ, tloop_succ, tloop_succ, h2, ih, sel_xor]
    exact xor_four ..
theorem tm_left (b : Nat) : Lin (fun a => tm a b) := fun x y hx hy => tloop_left 8 b x y hx hy
theorem tm_right (a : Nat) : Lin (fun b => tm a b) := fun x y _ _ => tloop_right 8 a x y
theorem tm_xor_right (a x y : Nat) : tm a (x ^^^ y) = tm a x ^^^ tm a y := tloop_right 8 a x y
theorem tm_xor_left (x y b : Nat) (hx : x < 256) (hy : y < 256) : tm (x ^^^ y) b = tm x b ^^^ tm y b := tloop_left 8 b x y hx hy
theorem tm_zero_right (a : Nat) : tm a 0 = 0 := tloop_zero _ _ _
theorem tm_zero_left (b : Nat) : tm 0 b = 0 := (tm_left b).zero

theorem Lin.comp {f g : Nat → Nat} (hf : Lin f) (hg : Lin g) (hlt : ∀ x, x < 256 → g x < 256) : Lin (fun x => f (g x)) := by
  intro x y hx hy
  show f (g (x ^^^ y)) = _
  rw [hg x y hx hy, hf _ _ (hlt x hx) (hlt y hy)]

theorem pow_lt8 {i : Nat} (h : i < 8) : 2 ^ i < 256 := Nat.pow_lt_pow_right (m := i) (n := 8) (by omega) h
theorem tm_comm (a b : Nat) (ha : a < 256) (hb : b < 256) : tm a b = tm b a := by
  refine Lin.ext (f := fun x => tm x b) (g := fun x => tm b x) (tm_left b) (tm_right b) (fun i hi => ?_) a ha
  refine Lin.ext (f := fun y => tm (2 ^ i) y) (g := fun y => tm y (2 ^ i)) (tm_right _) (tm_left _) (fun j hj => ?_) b hb
  have : ∀ i, i < 8 → ∀ j, j < 8 → tm (2 ^ i) (2 ^ j) = tm (2 ^ j) (2 ^ i) := by decide +kernel
  exact this i hi j hj
theorem tm_assoc (a b c : Nat) (ha : a < 256) (hb : b < 256) (hc : c < 256) : tm (tm a b) c = tm a (tm b c) := by
  refine Lin.ext (f := fun x => tm (tm x b) c) (g := fun x => tm x (tm b c)) ((tm_left c).comp (tm_left b) (fun x hx => tm_lt x b hx)) (tm_left _) (fun i hi => ?_) a ha
  have h2 := pow_lt8 hi
  refine Lin.ext (f := fun x => tm (tm (2 ^ i) x) c) (g := fun x => tm (2 ^ i) (tm x c)) ((tm_left c).comp (tm_right _) (fun x _ => tm_lt _ x h2)) ((tm_right _).comp (tm_left c) (fun x hx => tm_lt x c hx)) (fun j hj => ?_) b hb
  refine Lin.ext (f := fun x => tm (tm (2 ^ i) (2 ^ j)) x) (g := fun x => tm (2 ^ i) (tm (2 ^ j) x)) (tm_right _) ((tm_right _).comp (tm_right _) (fun x _ => tm_lt _ x (pow_lt8 hj))) (fun k hk => ?_) c hc
  have : ∀ i, i < 8 → ∀ j, j < 8 → ∀ k, k < 8 → tm (tm (2 ^ i) (2 ^ j)) (2 ^ k) = tm (2 ^ i) (tm (2 ^ j) (2 ^ k)) := by decide +kernel
  exact this i hi j hj k hk
theorem tm_one_right (a : Nat) (ha : a < 256) : tm a 1 = a := by
  refine Lin.ext (f := fun x => tm x 1) (g := fun x => x) (tm_left 1) (fun _ _ _ _ => rfl) (fun i hi => ?_) a ha
  have : ∀ i, i < 8 → tm (2 ^ i) 1 = 2 ^ i := by decide +kernel
  exact this i hi
theorem tm_one_left (a : Nat) (ha : a < 256) : tm 1 a = a := by rw [tm_comm 1 a (by omega) ha, tm_one_right a ha]

/-! ### the document's own way: all bits first, then the remainder -/
theorem rx_left (b n x y : Nat) : rx (x ^^^ y) b n = rx x b n ^^^ rx y b n := by
  induction n with
  | zero => simp [rx]
  | succ n ih => rw [rx, rx, rx, ite_sel, ite_sel, ite_sel, ih, mul_pow_xor, sel_xor_right]; exact xor_four ..
theorem rx_right (a n x y : Nat) : rx a (x ^^^ y) n = rx a x n ^^^ rx a y n := by
  induction n with
  | zero => simp [rx]
  | succ n ih => rw [rx, rx, rx, ite_sel, ite_sel, ite_sel, ih, div_pow_xor, sel_xor]; exact xor_four ..
theorem rred_lin (n x y : Nat) : rred (x ^^^ y) n = rred x n ^^^ rred y n := by
  induction n with
  | zero => rfl
  | succ n ih => rw [rred, rred, rred, ite_sel, ite_sel, ite_sel, ih, div_pow_xor, sel_xor]; exact xor_four ..
theorem rtm_left (b : Nat) : Lin (fun a => rtm a b) := by
  intro x y _ _
  show rred (rx (x ^^^ y) b 8) 7 % 2 ^ 8 = _
  rw [rx_left, rred_lin, mod_pow_xor]; rfl
theorem rtm_right (a : Nat) : Lin (fun b => rtm a b) := by
  intro x y _ _
  show rred (rx a (x ^^^ y) 8) 7 % 2 ^ 8 = _
  rw [rx_right, rred_lin, mod_pow_xor]; rfl
theorem rtm_eq (a b : Nat) (ha : a < 256) (hb : b < 256) : rtm a b = tm a b := by
  refine Lin.ext (f := fun x => rtm x b) (g := fun x => tm x b) (rtm_left b) (tm_left b) (fun i hi => ?_) a ha
  refine Lin.ext (f := fun y => rtm (2 ^ i) y) (g := fun y => tm (2 ^ i) y) (rtm_right _) (tm_right _) (fun j hj => ?_) b hb
  have : ∀ i, i < 8 → ∀ j, j < 8 → rtm (2 ^ i) (2 ^ j) = tm (2 ^ i) (2 ^ j) := by decide +kernel
  exact this i hi j hj

/-! ### powers -/
def pw (a : Nat) : Nat → Nat
  | 0 => 1
  | n+1 => tm (pw a n) a
theorem pw_lt (a n : Nat) (_ha : a < 256) : pw a n < 256 := by
  induction n with
  | zero => show 1 < 256; omega
  | succ n ih => exact tm_lt _ _ ih
theorem pw_add (a m n : Nat) (ha : a < 256) : pw a (m + n) = tm (pw a m) (pw a n) := by
  induction n with
  | zero => exact (tm_one_right _ (pw_lt a m ha)).symm
  | succ n ih => rw [← Nat.add_assoc, pw, pw, ih, tm_assoc _ _ _ (pw_lt a m ha) (pw_lt a n ha) ha]
theorem pw_one (a : Nat) (ha : a < 256) : pw a 1 = a := tm_one_left a ha
theorem pw_sq (a n : Nat) (ha : a < 256) : pw (tm a a) n = pw a (2 * n) := by
  induction n with
  | zero => rfl
  | succ n ih =>
    rw [pw, ih, show 2 * (n + 1) = 2 * n + 2 from by omega, pw_add a (2 * n) 2 ha]
    show _ = tm _ (tm (tm 1 a) a)
    rw [tm_one_left a ha]
/-- raise's own loop -/
def rloop : Nat → Nat → Nat → Nat → Nat
  | 0, p, _, _ => p
  | f+1, p, a, n => rloop f (if n % 2 = 1 then tm p a else p) (tm a a) (n / 2)
theorem rloop_zero (f p a : Nat) : rloop f p a 0 = p := by
  induction f generalizing p a with
  | zero => rfl
  | succ f ih => simp [rloop, ih]
theorem rloop_eq (f p a n : Nat) (hp : p < 256) (ha : a < 256) (hn : n < 2 ^ f) : rloop f p a n = tm p (pw a n) := by
  induction f generalizing p a n with
  | zero => obtain rfl : n = 0 := by simpa using hn
            exact (tm_one_right p hp).symm
  | succ f ih =>
    rw [Nat.pow_succ] at hn
    rw [rloop, ih _ _ _ (by split; exact tm_lt _ _ hp; exact hp) (tm_lt a a ha) (by omega), pw_sq a _ ha]
    split
    · rw [tm_assoc p a _ hp ha (pw_lt a _ ha)]
      conv => rhs; rw [show n = 1 + 2 * (n / 2) from by omega, pw_add a _ _ ha, pw_one a ha]
    · conv => rhs; rw [show n = 2 * (n / 2) from by omega]
def inv (a : Nat) : Nat := pw a 254
theorem inv_lt (a : Nat) (ha : a < 256) : inv a < 256 := pw_lt a _ ha
theorem inv_eq (a : Nat) (ha : a < 256) : rloop 8 1 a 254 = inv a := by
  rw [rloop_eq 8 1 a 254 (by omega) ha (by omega), tm_one_left _ (pw_lt a _ ha)]; rfl
theorem inv_tab : ∀ a, a < 256 → a ≠ 0 → tm a (rloop 8 1 a 254) = 1 := by decide +kernel
theorem tm_inv (a : Nat) (ha : a < 256) (h0 : a ≠ 0) : tm a (inv a) = 1 := by rw [← inv_eq a ha]; exact inv_tab a ha h0
theorem inv_zero : inv 0 = 0 := by rw [← inv_eq 0 (by omega)]; decide +kernel
theorem inv_ne (a : Nat) (ha : a < 256) (h0 : a ≠ 0) : inv a ≠ 0 := by
  intro h; have := tm_inv a ha h0; rw [h, tm_zero_right] at this; omega
theorem inv_unique (a b : Nat) (ha : a < 256) (hb : b < 256) (h : tm a b = 1) : b = inv a := by
  have h0 : a ≠ 0 := by intro e; rw [e, tm_zero_left] at h; omega
  have h1 := tm_assoc (inv a) a b (inv_lt a ha) ha hb
  rw [h, tm_one_right _ (inv_lt a ha), tm_comm (inv a) a (inv_lt a ha) ha, tm_inv a ha h0, tm_one_left b hb] at h1
  exact h1
/-- 2 to the n -/
def ex (n : Nat) : Nat := pw 2 n
theorem ex_lt (n : Nat) : ex n < 256 := pw_lt 2 n (by omega)
theorem ex_255 : ex 255 = 1 := by
  have := rloop_eq 8 1 2 255 (by omega) (by omega) (by omega)
  rw [tm_one_left _ (pw_lt 2 _ (by omega))] at this
  show pw 2 255 = 1
  rw [← this]; decide +kernel
theorem ex_add (m n : Nat) : ex (m + n) = tm (ex m) (ex n) := pw_add 2 m n (by omega)
theorem ex_mod (n : Nat) : ex (n % 255) = ex n := by
  have h : ∀ q r, ex (r + 255 * q) = ex r := by
    intro q r
    induction q with
    | zero => rfl
    | succ q ih => rw [show r + 255 * (q + 1) = (r + 255 * q) + 255 from by omega, ex_add, ih, ex_255, tm_one_right _ (ex_lt r)]
  conv => rhs; rw [← Nat.mod_add_div n 255]
  exact (h _ _).symm
theorem ex_eq (n : Nat) (h : n < 255) : rloop 8 1 2 n = ex n := by
  rw [rloop_eq 8 1 2 n (by omega) (by omega) (by omega), tm_one_left _ (pw_lt 2 _ (by omega))]; rfl
/-- how many of the first powers are a -/
def cnt (a : Nat) : Nat → Nat
  | 0 => 0
  | n+1 => cnt a n + if ex n = a then 1 else 0
def cloop (a : Nat) : Nat → Nat → Nat → Nat
  | 0, _, k => k
  | n+1, x, k => cloop a n (dbl x) (k + if x = a then 1 else 0)
theorem dbl_tm (a : Nat) (h : a < 256) : tm a 2 = dbl a := by
  rw [show (2 : Nat) = 2 ^ 1 from rfl]
  exact Lin.ext (f := fun x => tm x (2 ^ 1)) (g := dbl) (tm_left _) dbl_lin (by decide +kernel) a h
theorem cloop_eq (a n m k : Nat) : cloop a n (ex m) (cnt a m) = cnt a (m + n) ∧ k = k := by
  refine ⟨?_, rfl⟩
  induction n generalizing m with
  | zero => rfl
  | succ n ih =>
    rw [cloop, ← dbl_tm _ (ex_lt m)]
    have h1 : tm (ex m) 2 = ex (m + 1) := rfl
    have h2 : (cnt a m + if ex m = a then 1 else 0) = cnt a (m + 1) := rfl
    rw [h1, h2, ih, show m + 1 + n = m + (n + 1) from by omega]
theorem cloop_tab : ∀ a, a < 256 → cloop a 255 1 0 = if a = 0 then 0 else 1 := by decide +kernel
theorem cnt_255 (a : Nat) (h : a < 256) : cnt a 255 = if a = 0 then 0 else 1 := by
  have := (cloop_eq a 255 0 0).1
  rw [show ex 0 = 1 from rfl, show cnt a 0 = 0 from rfl, cloop_tab a h, Nat.zero_add] at this
  exact this.symm
end FM
end Go.Proofs.YtippckajlghimaaGreatDoor
namespace Go.Proofs.YtippckajlghimaaGreatDoor
set_option maxRecDepth 20000
open Go.RowKit
theorem i64_in' (n : Int) (h₀ : 0 ≤ n) (h₁ : n < 9223372036854775808) : IntKind.i64.wrap n = n := by rw [IntKind.wrap_i64]; omega
theorem ofInt_63 (a : Nat) (ha : a < 9223372036854775808) : (BitVec.ofInt 64 (a : Int)).toNat = a := by
  rw [BitVec.ofInt_natCast, BitVec.toNat_ofNat]; exact Nat.mod_eq_of_lt (by omega)
theorem i64_and_nat (a b : Nat) (ha : a < 9223372036854775808) (hb : b < 9223372036854775808) : bits .and .i64 (a : Int) (b : Int) = ((a &&& b : Nat) : Int) := by
  have hx : a &&& b < 2 ^ 63 := Nat.and_lt_two_pow _ (by omega)
  show IntKind.i64.wrap ((BitVec.ofInt 64 (a : Int) &&& BitVec.ofInt 64 (b : Int)).toNat : Int) = _
  rw [BitVec.toNat_and, ofInt_63 a ha, ofInt_63 b hb, i64_in' _ (by omega) (by omega)]
theorem i64_xor_nat (a b : Nat) (ha : a < 9223372036854775808) (hb : b < 9223372036854775808) : bits .xor .i64 (a : Int) (b : Int) = ((a ^^^ b : Nat) : Int) := by
  have hx : a ^^^ b < 2 ^ 63 := Nat.xor_lt_two_pow (by omega) (by omega)
  show IntKind.i64.wrap ((BitVec.ofInt 64 (a : Int) ^^^ BitVec.ofInt 64 (b : Int)).toNat : Int) = _
  rw [BitVec.toNat_xor, ofInt_63 a ha, ofInt_63 b hb, i64_in' _ (by omega) (by omega)]
theorem i64_and1 (a : Nat) (h : a < 9223372036854775808) : bits .and .i64 (a : Int) 1 = ((a % 2 : Nat) : Int) := by
  have := i64_and_nat a 1 h (by omega)
  rw [show ((1 : Nat) : Int) = 1 from rfl] at this
  rw [this, Nat.and_one_is_mod]
theorem u8_and1 (a : Nat) (h : a < 256) : bits BinOp.and IntKind.u8 (↑a) 1 = ((a % 2 : Nat) : Int) := by
  have := u8_and_nat a 1 (by omega) (by omega)
  rw [show ((1 : Nat) : Int) = 1 from rfl] at this
  rw [this, Nat.and_one_is_mod]
theorem and128_lt (a : Nat) (h : a < 128) : (bits BinOp.and IntKind.u8 (↑a) 128 != 0) = false := by
  have := u8_and_nat a 128 (by omega) (by omega)
  rw [show ((128 : Nat) : Int) = 128 from rfl] at this
  rw [this]
  have h2 : a &&& 128 = 0 := by
    have : ∀ a, a < 128 → a &&& 128 = 0 := by decide +kernel
    exact this a h
  simp [h2]
theorem and128_ge (a : Nat) (h : ¬ a < 128) (h2 : a < 256) : (bits BinOp.and IntKind.u8 (↑a) 128 != 0) = true := by
  have := u8_and_nat a 128 (by omega) (by omega)
  rw [show ((128 : Nat) : Int) = 128 from rfl] at this
  rw [this]
  have h2 : a &&& 128 = 128 := by
    have : ∀ a, a < 256 → 128 ≤ a → a &&& 128 = 128 := by decide +kernel
    exact this a h2 (by omega)
  simp [h2]
theorem retu8 {a b : Int} (h : a = b) : Ending.returned (.int .u8 a) = .returned (.int .u8 b) := by rw [h]
end Go.Proofs.YtippckajlghimaaGreatDoor
/- field.Add of many elements. -/
namespace Go.Proofs.YtippckajlghimaaGreatDoor
set_option maxRecDepth 20000
open Go.RowKit
/-- the sum of all -/
def FM.sum (xs : List Nat) : Nat := xs.foldl (fun s x => s ^^^ x) 0
def FM.prod (xs : List Nat) : Nat := xs.foldl FM.tm 1
theorem FM.sum_snoc (xs : List Nat) (k : Nat) (h : k < xs.length) : FM.sum (xs.take (k + 1)) = FM.sum (xs.take k) ^^^ xs.getD k 0 := by
  rw [List.take_succ_eq_append_getElem h, FM.sum, List.foldl_append]; simp [FM.sum, h]
theorem FM.prod_snoc (xs : List Nat) (k : Nat) (h : k < xs.length) : FM.prod (xs.take (k + 1)) = FM.tm (FM.prod (xs.take k)) (xs.getD k 0) := by
  rw [List.take_succ_eq_append_getElem h, FM.prod, List.foldl_append]; simp [FM.prod, h]
theorem FM.sum_lt (xs : List Nat) (h : ∀ x ∈ xs, x < 256) : FM.sum xs < 256 := by
  have : ∀ (xs : List Nat) (s : Nat), s < 256 → (∀ x ∈ xs, x < 256) → xs.foldl (fun s x => s ^^^ x) s < 256 := by
    intro xs
    induction xs with
    | nil => intro s hs _; exact hs
    | cons x xs ih => intro s hs h; exact ih _ (FM.xor_lt hs (h x (by simp))) (fun y hy => h y (by simp [hy]))
  exact this xs 0 (by omega) h
theorem FM.prod_lt (xs : List Nat) : FM.prod xs < 256 := by
  have : ∀ (xs : List Nat) (s : Nat), s < 256 → xs.foldl FM.tm s < 256 := by
    intro xs
    induction xs with
    | nil => intro s hs; exact hs
    | cons x xs ih => intro s hs; exact ih _ (FM.tm_lt _ _ hs)
  exact this xs 1 (by omega)
set_option maxHeartbeats 400000 in
theorem add_any (v : Value) (xs : List Nat) (w : World) (hv : U8s w v xs) :
    Calls Tryz.prog 114 #[v] w fun e w' => e = .returned (.int .u8 (FM.sum xs : Nat)) ∧ w = w' := by
  rcases hv with ⟨rfl, a, cap, rfl, _⟩ | ⟨b, off, cap, rfl, hm1, hm2, hb, hx, hl⟩
  · go_enter Tryz.func114, Tryz.ntmps114
    go_wp2
    refine wp_loop_rounds 1 ?_; rw [rounds_succ]
    go_wp2
    go_ret
    exact ⟨rfl, rfl⟩
  · have hm := Nat.le_trans hm1 hm2; unfold maxLen at hm; clear hm1 hm2
    go_enter Tryz.func114, Tryz.ntmps114
    go_wp2
    generalize hn : xs.length = n at *
    have HN := Lib.hid hn; clear hn
    have HX := Lib.hid hx; clear hx
    have HL := Lib.hid hl; clear hl
    go_loop [3, 8] (fun s i => ∃ k : Nat, k ≤ n ∧ i = .int .i64 k ∧ s = .int .u8 (FM.sum (xs.take k) : Nat)) (fun _ i => (n - intOf i).toNat)
    case atStart => exact ⟨0, by omega, rfl, rfl⟩
    case round =>
      obtain ⟨k, hk, rfl, rfl⟩ := hrel
      by_cases h0 : k < n
      · have hc := HX.out k h0
        have hs := Lib.hid (FM.sum_snoc xs k (by rw [HN.out]; exact h0))
        have he := Lib.hid (u8_xor_nat (FM.sum (xs.take k)) (xs.getD k 0) (FM.sum_lt _ (take_lt xs HL.out k)) (getD_lt xs HL.out k))
        go_wp2
        go_round
        case rel => exact ⟨k + 1, by omega, by go_num, by rw [hs.out, ← he.out]; simp⟩
        case measure => simp [intOf]; omega
      · obtain rfl : k = n := by omega
        go_wp2
        go_ret
        exact ⟨retu8 (by rw [← HN.out, List.take_length]), rfl⟩
end Go.Proofs.YtippckajlghimaaGreatDoor
/- Rows of bytes: sums, mixtures, products, as lists. -/
namespace Go.Proofs.YtippckajlghimaaGreatDoor
set_option maxRecDepth 20000
namespace RM
def cut (n : Int) : Nat := min n.toNat 1000
/-- s plus r, as far as s goes. -/
def xr (s r : List Nat) : List Nat := (List.range s.length).map fun i => s.getD i 0 ^^^ r.getD i 0
/-- The first k places of s summed with those of r. -/
def xrTo (k : Nat) (s r : List Nat) : List Nat := (List.range s.length).map fun i => if i < k then s.getD i 0 ^^^ r.getD i 0 else s.getD i 0
theorem xr_length (s r : List Nat) : (xr s r).length = s.length := by simp [xr]
theorem xrTo_length (k : Nat) (s r : List Nat) : (xrTo k s r).length = s.length := by simp [xrTo]
theorem map_getD {f : Nat → Nat} {n i : Nat} (h : i < n) : ((List.range n).map f).getD i 0 = f i := by
  simp [List.getD_eq_getElem?_getD, h]
theorem list_ext {xs ys : List Nat} (hl : xs.length = ys.length) (h : ∀ i, i < xs.length → xs.getD i 0 = ys.getD i 0) : xs = ys := by
  apply List.ext_getElem hl
  intro i h1 h2
  have := h i h1
  simpa [List.getD_eq_getElem?_getD, h1, h2] using this
theorem getD_far (xs : List Nat) (i : Nat) (h : xs.length ≤ i) : xs.getD i 0 = 0 := by
  simp [List.getD_eq_getElem?_getD, List.getElem?_eq_none h]
theorem xrTo_zero (s r : List Nat) : xrTo 0 s r = s := list_ext (xrTo_length _ _ _) fun i hi => by
  rw [xrTo_length] at hi
  rw [xrTo, map_getD hi]; simp
theorem xrTo_all (k : Nat) (s r : List Nat) (h : min s.length r.length ≤ k) : xrTo k s r = xr s r := list_ext (by rw [xrTo_length, xr_length]) fun i hi => by
  rw [xrTo_length] at hi
  rw [xrTo, map_getD hi, xr, map_getD hi]
  split
  · rfl
  · rw [getD_far r i (by omega)]; simp
theorem xrTo_succ (k : Nat) (s r : List Nat) (h : k < s.length) : (xrTo k s r).set k (s.getD k 0 ^^^ r.getD k 0) = xrTo (k + 1) s r := list_ext (by simp [xrTo_length]) fun i hi => by
  rw [List.length_set, xrTo_length] at hi
  by_cases hk : i = k
  · subst hk
    rw [xrTo, xrTo, map_getD hi, if_pos (by omega)]
    simp [List.getD_eq_getElem?_getD, hi]
  · rw [xrTo, xrTo, map_getD hi]
    have : ∀ (l : List Nat) (v : Nat), (l.set k v).getD i 0 = l.getD i 0 := fun l v => by simp [List.getD_eq_getElem?_getD, Ne.symm hk]
    rw [this, map_getD hi]
    by_cases h1 : i < k
    · rw [if_pos h1, if_pos (by omega)]
    · rw [if_neg h1, if_neg (by omega)]
theorem xrTo_at (k : Nat) (s r : List Nat) (h : k < s.length) : (xrTo k s r).getD k 0 = s.getD k 0 := by
  rw [xrTo, map_getD h]; simp
theorem xr_lt (s r : List Nat) (hs : ∀ x ∈ s, x < 256) (hr : ∀ x ∈ r, x < 256) : ∀ x ∈ xr s r, x < 256 := fun x hx => by
  obtain ⟨i, _, rfl⟩ := List.mem_map.1 hx
  exact FM.xor_lt (getD_lt _ hs _) (getD_lt _ hr _)
theorem xr_take (s r : List Nat) (n : Nat) (h : s.length ≤ n) : xr s (r.take n) = xr s r := list_ext (by simp [xr_length]) fun i hi => by
  rw [xr_length] at hi
  rw [xr, xr, map_getD hi, map_getD hi]
  congr 1
  simp [List.getD_eq_getElem?_getD, show i < n by omega]
def zeros (n : Nat) : List Nat := List.replicate n 0
/-- The sum of rows, of n places. -/
def sum (n : Nat) (l : List (List Nat)) : List Nat := l.foldl xr (zeros n)
theorem fold_length (f : List Nat → List Nat) (l : List (List Nat)) (s : List Nat) : (l.foldl (fun s r => xr s (f r)) s).length = s.length := by
  induction l generalizing s with
  | nil => rfl
  | cons r l ih => rw [List.foldl_cons, ih, xr_length]
theorem sum_length (n : Nat) (l : List (List Nat)) : (sum n l).length = n := by
  have := fold_length id l (zeros n)
  simpa [sum, zeros] using this
theorem sum_snoc (n : Nat) (l : List (List Nat)) (k : Nat) (h : k < l.length) : sum n (l.take (k + 1)) = xr (sum n (l.take k)) (l.getD k []) := by
  rw [List.take_succ_eq_append_getElem h, sum, List.foldl_append]
  simp [sum, h]
def scale (c : Nat) (r : List Nat) : List Nat := r.map (FM.tm c)
theorem scale_length (c : Nat) (r : List Nat) : (scale c r).length = r.length := by simp [scale]
theorem scale_getD (c : Nat) (r : List Nat) (i : Nat) : (scale c r).getD i 0 = FM.tm c (r.getD i 0) := by
  by_cases h : i < r.length
  · simp [scale, List.getD_eq_getElem?_getD, h]
  · rw [getD_far _ i (by rw [scale_length]; omega), getD_far r i (by omega), FM.tm_zero_right]
theorem scale_lt (c : Nat) (r : List Nat) (hc : c < 256) : ∀ x ∈ scale c r, x < 256 := fun x hx => by
  obtain ⟨y, _, rfl⟩ := List.mem_map.1 hx
  exact FM.tm_lt c y hc
def dotTo (k : Nat) (a b : List Nat) : Nat := (List.range k).foldl (fun s i => s ^^^ FM.tm (a.getD i 0) (b.getD i 0)) 0
def dot (a b : List Nat) : Nat := dotTo (min a.length b.length) a b
theorem dotTo_succ (k : Nat) (a b : List Nat) : dotTo (k + 1) a b = dotTo k a b ^^^ FM.tm (a.getD k 0) (b.getD k 0) := by
  simp [dotTo, List.range_succ]
theorem dotTo_lt (k : Nat) (a b : List Nat) (ha : ∀ x ∈ a, x < 256) : dotTo k a b < 256 := by
  induction k with
  | zero => simp [dotTo]
  | succ k ih => rw [dotTo_succ]; exact FM.xor_lt ih (FM.tm_lt _ _ (getD_lt a ha k))
/-- The mixture of the first k rows. -/
def mixTo (n k : Nat) (c : List Nat) (l : List (List Nat)) : List Nat := (List.range k).foldl (fun s i => xr s (scale (c.getD i 0) (l.getD i []))) (zeros n)
def mix (n : Nat) (c : List Nat) (l : List (List Nat)) : List Nat := mixTo n (min c.length l.length) c l
theorem mixTo_succ (n k : Nat) (c : List Nat) (l : List (List Nat)) : mixTo n (k + 1) c l = xr (mixTo n k c l) (scale (c.getD k 0) (l.getD k [])) := by
  simp [mixTo, List.range_succ]
theorem mixTo_length (n k : Nat) (c : List Nat) (l : List (List Nat)) : (mixTo n k c l).length = n := by
  induction k with
  | zero => simp [mixTo, zeros]
  | succ k ih => rw [mixTo_succ, xr_length, ih]
theorem scale_take (c : Nat) (r : List Nat) (n : Nat) : scale c (r.take n) = (scale c r).take n := by simp [scale, List.map_take]
theorem zeros_length (n : Nat) : (zeros n).length = n := by simp [zeros]
theorem zeros_getD (n i : Nat) : (zeros n).getD i 0 = 0 := by
  by_cases h : i < n
  · simp [zeros, List.getD_eq_getElem?_getD, h]
  · exact getD_far _ i (by rw [zeros_length]; omega)
theorem xr_zeros (r : List Nat) : xr (zeros r.length) r = r := list_ext (by rw [xr_length, zeros_length]) fun i hi => by
  rw [xr_length] at hi
  rw [xr, map_getD hi, zeros_getD]; simp
theorem xr_at (s r : List Nat) (i : Nat) (h : i < s.length) : (xr s r).getD i 0 = s.getD i 0 ^^^ r.getD i 0 := by rw [xr, map_getD h]
theorem fold_at (l : List (List Nat)) (s : List Nat) (i : Nat) (h : i < s.length) : (l.foldl xr s).getD i 0 = l.foldl (fun x r => x ^^^ r.getD i 0) (s.getD i 0) := by
  induction l generalizing s with
  | nil => rfl
  | cons r l ih => rw [List.foldl_cons, List.foldl_cons, ih _ (by rw [xr_length]; exact h), xr_at s r i h]
theorem sum_at (n : Nat) (l : List (List Nat)) (i : Nat) (h : i < n) : (sum n l).getD i 0 = l.foldl (fun x r => x ^^^ r.getD i 0) 0 := by
  rw [sum, fold_at l _ i (by rw [zeros_length]; exact h), zeros_getD]
theorem sum_swap (n : Nat) (a b : List Nat) : sum n [a, b] = sum n [b, a] := list_ext (by rw [sum_length, sum_length]) fun i hi => by
  rw [sum_length] at hi
  rw [sum_at n _ i hi, sum_at n _ i hi]
  simp [Nat.xor_comm]
theorem sum_twice (n : Nat) (a b : List Nat) : sum n [a, b, a] = sum n [b] := list_ext (by rw [sum_length, sum_length]) fun i hi => by
  rw [sum_length] at hi
  rw [sum_at n _ i hi, sum_at n _ i hi]
  simp only [List.foldl_cons, List.foldl_nil, Nat.zero_xor]
  rw [Nat.xor_comm (a.getD i 0), Nat.xor_assoc, Nat.xor_self, Nat.xor_zero]
theorem sum_same (n : Nat) (a : List Nat) : sum n [a, a] = zeros n := list_ext (by rw [sum_length, zeros_length]) fun i hi => by
  rw [sum_length] at hi
  rw [sum_at n _ i hi, zeros_getD]
  simp
theorem scale_sum (n c : Nat) (a b : List Nat) : scale c (sum n [a, b]) = sum n [scale c a, scale c b] := list_ext (by rw [scale_length, sum_length, sum_length]) fun i hi => by
  rw [scale_length, sum_length] at hi
  rw [scale_getD, sum_at n _ i hi, sum_at n _ i hi]
  simp only [List.foldl_cons, List.foldl_nil, Nat.zero_xor]
  rw [FM.tm_xor_right, scale_getD, scale_getD]
end RM
end Go.Proofs.YtippckajlghimaaGreatDoor
/- A region that draws its order and whose calls make memory: one walk serves every order. What an operation reads out of memory may be taken as soon as it is there, for all that comes later only adds memory; what makes memory is carried out, one operation at a time; the last operations, each of which waits for all before, may write. -/
namespace Go.Proofs.YtippckajlghimaaGreatDoor
set_option maxRecDepth 20000
open Go.RowKit
namespace Gr
theorem ext_refl (w : World) : w.Extends w := ⟨rfl, rfl, rfl, Nat.le_refl _, fun _ _ => rfl, fun _ _ => rfl, fun _ _ => rfl⟩
theorem ext_trans {a b c : World} (h : a.Extends b) (k : b.Extends c) : a.Extends c :=
  ⟨k.os.trans h.os, k.tape.trans h.tape, k.output.trans h.output, Nat.le_trans h.size k.size,
    fun x hx => (k.cell x (Nat.lt_of_lt_of_le hx h.size)).trans (h.cell x hx), fun x hx => (k.frozen x (Nat.lt_of_lt_of_le hx h.size)).trans (h.frozen x hx),
    fun i hi => (k.block i (Nat.lt_of_lt_of_le hi h.size)).trans (h.block i hi)⟩
theorem ext_of {w w' : World} (h : Below w.heap.size w w') : w.Extends w' :=
  ⟨h.os, h.tape, h.output, h.size, fun _ ha => World.cell?_of_block (w := w) (h.block _ ha), fun _ ha => World.frozen?_of_block (w := w) (h.block _ ha), h.block⟩
theorem below_of {w w' : World} (h : w.Extends w') : Below w.heap.size w w' := ⟨h.os, h.tape, h.output, h.size, h.block⟩
theorem ext_drew {w w' : World} (h : w.Extends w') : w.Extends w'.drew := ⟨h.os, h.tape, h.output, h.size, h.cell, h.frozen, h.block⟩

theorem of_drew {w w' : World} (h : w.drew.Extends w') : w.Extends w' := ⟨h.os, h.tape, h.output, h.size, h.cell, h.frozen, h.block⟩

section
variable {P : Program} {ops : Array Oper} {Q : Exit → Act → World → Prop} {md : Region.Mode} {S : World → Prop}
/-- Whatever order is picked, till 'fuel' operations have come up; then L. -/
def AnyE (P : Program) (md : Region.Mode) (ops : Array Oper) (Q : Exit → Act → World → Prop) (n : Nat) (L : Array Bool → Act → World → Prop) (S : World → Prop) : Nat → Array Bool → Act → World → Prop
  | 0, listed, a, w => L listed a w
  | f + 1, listed, a, w => Region.ready md ops listed ≠ [] ∧ ∀ i ∈ Region.ready md ops listed, i < n ∧ wpOp P ops Q i (fun a' w' => S w' ∧ AnyE P md ops Q n L S f (listed.setIfInBounds i true) a' w') a w
theorem AnyE.weaken {n : Nat} {L : Array Bool → Act → World → Prop} {S S' : World → Prop} (hS : ∀ w, S' w → S w) :
    ∀ (f : Nat) (listed : Array Bool) (a : Act) (w : World), AnyE P md ops Q n L S' f listed a w → AnyE P md ops Q n L S f listed a w
  | 0, _, _, _, h => h
  | f + 1, _, _, _, h => ⟨h.1, fun i hi => ⟨(h.2 i hi).1, wpOp_mono (fun a' w' hk => ⟨hS _ hk.1, AnyE.weaken hS f _ a' w' hk.2⟩) (h.2 i hi).2⟩⟩
theorem AnyE.any {n g : Nat} {L : Array Bool → Act → World → Prop} (hL : ∀ listed a w, L listed a w → wpAny P md ops Q g listed a w) :
    ∀ (f : Nat) (listed : Array Bool) (a : Act) (w : World), AnyE P md ops Q n L S f listed a w → wpAny P md ops Q (f + g) listed a w
  | 0, listed, a, w, h => by rw [Nat.zero_add]; exact hL _ _ _ h
  | f + 1, listed, a, w, h => by
    rw [show f + 1 + g = (f + g) + 1 by omega]
    exact ⟨fun h0 => absurd h0 h.1, fun i hi => wpOp_mono (fun a' w' h' => AnyE.any hL f _ a' w' h'.2) (h.2 i hi).2⟩
theorem AnyE.first {n i : Nat} {oi : Oper} {v : Value} {L : Array Bool → Act → World → Prop} (hi : ops[i]? = some oi) (hsel : ∀ (j : Nat) (o : Oper) cs b, ops[j]? = some o → o.op ≠ .select cs b)
    (hs : Region.sinkB md ops n = true) (hc : Region.chainB md ops n = true) (hn : n < ops.size) (hin : i < n)
    (hQ : ∀ c a w, Q (.panic c) (a.put oi.dst v) w → Q (.panic c) a w)
    (hdone : ∀ listed a w, L listed a w → ∀ j ∈ Region.ready md ops listed, n ≤ j) :
    ∀ (f : Nat) (listed : Array Bool) (a : Act) (w : World), HeadInv md ops n listed →
      (∀ j oj, ops[j]? = some oj → j ≠ i → listed.getD j true = false → (∀ e ∈ oj.after, Region.binds md e = true → e.on ≠ i) → oi.apart ops oj = true) →
      i ∈ Region.ready md ops listed → YieldsIf P ops S oi v a → S w →
      AnyE P md ops Q n L S f (listed.setIfInBounds i true) (a.put oi.dst v) w → AnyE P md ops Q n L S (f + 1) listed a w := by
  intro f
  induction f with
  | zero =>
    intro listed a w inv _ hr hy hS H
    have hun := (mem_ready.1 hr).1
    refine ⟨fun h => (by rw [h] at hr; cases hr), fun j hj => ?_⟩
    have hjn : j < n := by
      rcases Nat.lt_or_ge j n with h | h
      · exact h
      · exact absurd hj (tail_waits hs hc hn inv _ i rfl hin hun j h)
    refine ⟨hjn, ?_⟩
    by_cases hji : j = i
    · subst hji; exact hy.wpOp hi hS ⟨hS, H⟩
    · have := hdone _ _ _ H j (ready_mono hj hji)
      omega
  | succ f ih =>
    intro listed a w inv hfree hr hy hS H
    have hun := (mem_ready.1 hr).1
    refine ⟨fun h => (by rw [h] at hr; cases hr), fun j hj => ?_⟩
    have hjn : j < n := by
      rcases Nat.lt_or_ge j n with h | h
      · exact h
      · exact absurd hj (tail_waits hs hc hn inv _ i rfl hin hun j h)
    refine ⟨hjn, ?_⟩
    by_cases hji : j = i
    · subst hji; exact hy.wpOp hi hS ⟨hS, H⟩
    · have h1 := (H.2 j (ready_mono hj hji)).2
      obtain ⟨hjun, oj, hoj, hall⟩ := mem_ready.1 hj
      have hnot : ∀ e ∈ oj.after, Region.binds md e = true → e.on ≠ i := fun e he hb heq => by
        have h1 := hall e he hb
        rw [heq, getD_both hun] at h1
        cases h1
      have h2 := wpOp_putIf hoj (hfree j oj hoj hji hjun hnot) (fun cs b => hsel i oi cs b hi) (fun cs b => hsel j oj cs b hoj) hQ hy h1
      have hfree' : ∀ k ok, ops[k]? = some ok → k ≠ i → (listed.setIfInBounds j true).getD k true = false →
          (∀ e ∈ ok.after, Region.binds md e = true → e.on ≠ i) → oi.apart ops ok = true := fun k ok hk hki hun hno => by
        refine hfree k ok hk hki ?_ hno
        by_cases hjk : j = k
        · subst hjk; exact hjun
        · rw [getD_set_ne true hjk] at hun; exact hun
      refine wpOp_mono (fun a' w' h3 => ⟨h3.2.1, ih (listed.setIfInBounds j true) a' w' (inv.set hj hjn) hfree' (ready_mono hr (Ne.symm hji)) h3.1 h3.2.1 ?_⟩) h2
      rw [Array.setIfInBounds_comm _ _ hji]
      exact h3.2.2

/-- The order of the walk: of each operation whether it is carried out (else it is taken), and its number. -/
def check (md : Region.Mode) (ops : Array Oper) (n g : Nat) : List (Bool × Nat) → Array Bool → Bool
  | [], listed => Region.seqB md ops g n listed
  | (c, i) :: rest, listed => decide (i < n) && (match c with | true => decide (Region.ready md ops listed = [i]) | false => (Region.ready md ops listed).contains i && Region.free md ops listed i)
      && check md ops n g rest (listed.setIfInBounds i true)
def growB (md : Region.Mode) (ops : Array Oper) (n : Nat) (ord : List (Bool × Nat)) : Bool :=
  Region.noSelect ops && decide (n < ops.size) && Region.sinkB md ops n && Region.chainB md ops n && decide (ord.length + (ops.size - n) = ops.size) && check md ops n (ops.size - n) ord (Array.replicate ops.size false)
/-- The operations in that order. -/
def pick (l : List Oper) : List (Bool × Nat) → List (Bool × Oper)
  | [] => []
  | (c, i) :: r => match l[i]? with | some o => (c, o) :: pick l r | none => []
def walk (P : Program) (ops : Array Oper) (Q : Exit → Act → World → Prop) (tail : List Oper) : List (Bool × Oper) → Act → World → Prop
  | [], a, w => wpList P ops Q tail a w
  | (true, o) :: rest, a, w => if Region.wanted o (yielded ops a.tmps) = true then o.wp P a w (fun a' w' => w.Extends w' ∧ walk P ops Q tail rest a' w') Q else walk P ops Q tail rest (a.put o.dst undef) w
  | (false, o) :: rest, a, w => ∃ v, YieldsIf P ops w.Extends o v a ∧ walk P ops Q tail rest (a.put o.dst v) w
theorem walk_nil {tail : List Oper} {a : Act} {w : World} (h : wpList P ops Q tail a w) : walk P ops Q tail [] a w := h
/-- An operation that is taken. -/
theorem walk_t {tail : List Oper} {rest : List (Bool × Oper)} {o : Oper} {a : Act} {w : World} (v : Value) (hy : YieldsIf P ops w.Extends o v a) (h : walk P ops Q tail rest (a.put o.dst v) w) :
    walk P ops Q tail ((false, o) :: rest) a w := ⟨v, hy, h⟩
/-- An operation that is carried out. -/
theorem walk_c {tail : List Oper} {rest : List (Bool × Oper)} {o : Oper} {a : Act} {w : World}
    (h : ∀ K : Act → World → Prop, Shut (∀ a' w', w.Extends w' → walk P ops Q tail rest a' w' → K a' w') → if Region.wanted o (yielded ops a.tmps) = true then o.wp P a w K Q else K (a.put o.dst undef) w) :
    walk P ops Q tail ((true, o) :: rest) a w := by
  have h0 := h (fun a' w' => w.Extends w' ∧ walk P ops Q tail rest a' w') (fun _ _ h1 h2 => ⟨h1, h2⟩)
  unfold walk
  split
  · rename_i hw; rw [if_pos hw] at h0; exact h0
  · rename_i hw; rw [if_neg hw] at h0; exact h0.2

theorem walk_sound {l : List Oper} {n : Nat} (hsel : Region.noSelect l.toArray = true) (hs : Region.sinkB md l.toArray n = true) (hc : Region.chainB md l.toArray n = true) (hn : n < l.toArray.size)
    (hQ : ∀ d v c a w, Q (.panic c) (Act.put a d v) w → Q (.panic c) a w) :
    ∀ (ord : List (Bool × Nat)) (listed : Array Bool) (a : Act) (w : World), HeadInv md l.toArray n listed → check md l.toArray n (l.toArray.size - n) ord listed = true →
      walk P l.toArray Q (l.drop n) (pick l ord) a w →
      AnyE P md l.toArray Q n (fun listed' a' w' => Region.seqB md l.toArray (l.toArray.size - n) n listed' = true ∧ wpList P l.toArray Q (l.drop n) a' w') w.Extends ord.length listed a w
  | [], listed, a, w, _, hB, h => ⟨hB, h⟩
  | (c, i) :: rest, listed, a, w, inv, hB, h => by
    simp only [check, Bool.and_eq_true, decide_eq_true_eq] at hB
    obtain ⟨⟨hin, hr⟩, hB'⟩ := hB
    have hil : i < l.length := by have : l.toArray.size = l.length := by simp
                                  omega
    have ho : l[i]? = some l[i] := List.getElem?_eq_getElem hil
    have hoa : l.toArray[i]? = some l[i] := by simp
    simp only [pick, ho] at h
    cases c with
    | true =>
      simp only [decide_eq_true_eq] at hr
      refine ⟨(by rw [hr]; simp), fun j hj => ?_⟩
      rw [hr] at hj
      obtain rfl : j = i := by simpa using hj
      refine ⟨hin, ?_⟩
      have hrm : j ∈ Region.ready md l.toArray listed := by rw [hr]; simp
      unfold walk at h
      unfold wpOp
      simp only [hoa]
      split
      · rename_i hw
        rw [if_pos hw] at h
        exact .inl (Oper.wp_mono (fun a' w' hk => ⟨hk.1, AnyE.weaken (fun u hu => ext_trans hk.1 hu) _ _ _ _ (walk_sound hsel hs hc hn hQ rest _ a' w' (inv.set hrm hin) hB' hk.2)⟩) h)
      · rename_i hw
        rw [if_neg hw] at h
        exact ⟨ext_refl w, walk_sound hsel hs hc hn hQ rest _ _ w (inv.set hrm hin) hB' h⟩
    | false =>
      simp only [Bool.and_eq_true] at hr
      unfold walk at h
      obtain ⟨v, hy, hK⟩ := h
      have hrm : i ∈ Region.ready md l.toArray listed := by simpa using hr.1
      exact AnyE.first hoa (Region.noSelect_spec hsel) hs hc hn hin (fun c a w => hQ _ v c a w) (fun listed' a' w' hL => seqB_ready hL.1) rest.length listed a w inv (Region.free_spec hoa hr.2) hrm hy (ext_refl w)
        (walk_sound hsel hs hc hn hQ rest _ _ w (inv.set hrm hin) hB' hK)

theorem region {id : Nat} {a : Act} {w : World} {l : List Oper} (n : Nat) (ord : List (Bool × Nat)) (hm : P.follows .mixedOrders = true) (hB : growB .any l.toArray n ord = true)
    (hQ : ∀ d v c a w, Q (.panic c) (Act.put a d v) w → Q (.panic c) a w)
    (h : walk P l.toArray Q (l.drop n) (pick l ord) a w.drew) : (Code.region id l.toArray true).wp P Q a w := by
  simp only [growB, Bool.and_eq_true, decide_eq_true_eq] at hB
  obtain ⟨⟨⟨⟨⟨hsel, hn⟩, hs⟩, hc⟩, hlen⟩, hck⟩ := hB
  have hdl : (l.drop n).length = l.toArray.size - n := by simp
  have inv0 : HeadInv .any l.toArray n (Array.replicate l.toArray.size false) :=
    ⟨by simp, fun j oj _ hl => (by rw [getD_replicate_false] at hl; cases hl), fun t _ ht => getD_in (by simpa using ht) (getD_replicate_false _ _)⟩
  have H := walk_sound (md := .any) hsel hs hc hn hQ ord _ a w.drew inv0 hck h
  refine wp_region_any hm ?_
  have := AnyE.any (Q := Q) (g := l.toArray.size - n) (fun listed a' w' hL => by
    have := wpAny_of_seq (md := .any) (Q' := Q) (l.drop n) n listed a' w' (fun j => by simp [List.getElem?_drop]) (by rw [hdl]; exact hL.1) hL.2
    rwa [hdl] at this) _ _ _ _ H
  rw [hlen] at this
  exact this
/-! Where more than one operation that is carried out may come up: the walk goes a step at a time. -/
/-- What is left: 'f' operations of the head, then the tail. -/
def Left (P : Program) (l : List Oper) (Q : Exit → Act → World → Prop) (n f : Nat) (listed : Array Bool) (a : Act) (w : World) : Prop :=
  HeadInv .any l.toArray n listed → AnyE P .any l.toArray Q n (fun listed' a' w' => Region.seqB .any l.toArray (l.toArray.size - n) n listed' = true ∧ wpList P l.toArray Q (l.drop n) a' w') w.Extends f listed a w
theorem Left.done {l : List Oper} {n : Nat} {listed : Array Bool} {a : Act} {w : World} (hB : Region.seqB .any l.toArray (l.toArray.size - n) n listed = true) (h : wpList P l.toArray Q (l.drop n) a w) : Left P l Q n 0 listed a w := fun _ => ⟨hB, h⟩
theorem Left.take {l : List Oper} {n f i : Nat} {o : Oper} {listed : Array Bool} {a : Act} {w : World} (hi : l[i]? = some o)
    (hk : (Region.noSelect l.toArray && decide (n < l.toArray.size) && Region.sinkB .any l.toArray n && Region.chainB .any l.toArray n && decide (i < n) && (Region.ready .any l.toArray listed).contains i && Region.free .any l.toArray listed i) = true)
    (hQ : ∀ d v c a w, Q (.panic c) (Act.put a d v) w → Q (.panic c) a w) (v : Value) (hy : YieldsIf P l.toArray w.Extends o v a)
    (h : Left P l Q n f (listed.setIfInBounds i true) (a.put o.dst v) w) : Left P l Q n (f + 1) listed a w := fun inv => by
  simp only [Bool.and_eq_true, decide_eq_true_eq] at hk
  obtain ⟨⟨⟨⟨⟨⟨hsel, hn⟩, hs⟩, hc⟩, hin⟩, hr⟩, hf⟩ := hk
  have hoa : l.toArray[i]? = some o := by simpa using hi
  have hrm : i ∈ Region.ready .any l.toArray listed := by simpa using hr
  exact AnyE.first hoa (Region.noSelect_spec hsel) hs hc hn hin (fun c a w => hQ _ v c a w) (fun listed' a' w' hL => seqB_ready hL.1) f listed a w inv (Region.free_spec hoa hf) hrm hy (ext_refl w) (h (inv.set hrm hin))
/-- One step of an operation that is carried out. -/
def Step (P : Program) (l : List Oper) (Q : Exit → Act → World → Prop) (n f i : Nat) (listed : Array Bool) (a : Act) (w : World) : Prop :=
  ∀ o, l[i]? = some o → ∀ K : Act → World → Prop, Shut (∀ a' w', w.Extends w' → Left P l Q n f (listed.setIfInBounds i true) a' w' → K a' w') → if Region.wanted o (yielded l.toArray a.tmps) = true then o.wp P a w K Q else K (a.put o.dst undef) w
theorem Step.mk {l : List Oper} {n f i : Nat} {o : Oper} {listed : Array Bool} {a : Act} {w : World} (hi : l[i]? = some o)
    (h : ∀ K : Act → World → Prop, Shut (∀ a' w', w.Extends w' → Left P l Q n f (listed.setIfInBounds i true) a' w' → K a' w') → if Region.wanted o (yielded l.toArray a.tmps) = true then o.wp P a w K Q else K (a.put o.dst undef) w) : Step P l Q n f i listed a w := fun o' ho' => by
  rw [hi] at ho'; cases ho'; exact h
theorem Left.some {l : List Oper} {n f : Nat} {rs : List Nat} {listed : Array Bool} {a : Act} {w : World} (hr : Region.ready .any l.toArray listed = rs) (hne : (!rs.isEmpty && rs.all (· < n) && rs.all (· < l.length)) = true)
    (h : ∀ i ∈ rs, Step P l Q n f i listed a w) : Left P l Q n (f + 1) listed a w := fun inv => by
  simp only [Bool.and_eq_true, List.all_eq_true, decide_eq_true_eq] at hne
  refine ⟨(by rw [hr]; intro h0; rw [h0] at hne; simp at hne), fun j hj => ?_⟩
  have hjr : j ∈ rs := hr ▸ hj
  refine ⟨hne.1.2 j hjr, ?_⟩
  have hjl := hne.2 j hjr
  have hoa : l.toArray[j]? = Option.some l[j] := by simp
  have h0 := h j hjr l[j] (List.getElem?_eq_getElem hjl) (fun a' w' => w.Extends w' ∧ Left P l Q n f (listed.setIfInBounds j true) a' w') (fun _ _ h1 h2 => ⟨h1, h2⟩)
  have hinv := inv.set hj (hne.1.2 j hjr)
  have fin : ∀ a' w', w.Extends w' ∧ Left P l Q n f (listed.setIfInBounds j true) a' w' → w.Extends w' ∧ AnyE P .any l.toArray Q n _ w.Extends f (listed.setIfInBounds j true) a' w' :=
    fun a' w' hk => ⟨hk.1, AnyE.weaken (fun u hu => ext_trans hk.1 hu) _ _ _ _ (hk.2 hinv)⟩
  unfold wpOp
  simp only [hoa]
  split
  · rename_i hw; rw [if_pos hw] at h0; exact .inl (Oper.wp_mono fin h0)
  · rename_i hw; rw [if_neg hw] at h0; exact fin _ _ h0
theorem Left.one {l : List Oper} {n f i : Nat} {listed : Array Bool} {a : Act} {w : World} (hr : Region.ready .any l.toArray listed = [i]) (hne : (decide (i < n) && decide (i < l.length)) = true)
    (h : Step P l Q n f i listed a w) : Left P l Q n (f + 1) listed a w :=
  Left.some hr (by simpa using hne) (fun j hj => by obtain rfl : j = i := by simpa using hj
                                                    exact h)
theorem Left.two {l : List Oper} {n f i j : Nat} {listed : Array Bool} {a : Act} {w : World} (hr : Region.ready .any l.toArray listed = [i, j]) (hne : (decide (i < n) && decide (i < l.length) && decide (j < n) && decide (j < l.length)) = true)
    (h1 : Step P l Q n f i listed a w) (h2 : Step P l Q n f j listed a w) : Left P l Q n (f + 1) listed a w :=
  Left.some hr (by simp only [Bool.and_eq_true, decide_eq_true_eq] at hne; simp; omega) (fun k hk => by
    simp only [List.mem_cons, List.not_mem_nil, or_false] at hk
    rcases hk with rfl | rfl
    · exact h1
    · exact h2)
theorem Left.three {l : List Oper} {n f i j k : Nat} {listed : Array Bool} {a : Act} {w : World} (hr : Region.ready .any l.toArray listed = [i, j, k]) (hne : (decide (i < n) && decide (i < l.length) && decide (j < n) && decide (j < l.length) && decide (k < n) && decide (k < l.length)) = true)
    (h1 : Step P l Q n f i listed a w) (h2 : Step P l Q n f j listed a w) (h3 : Step P l Q n f k listed a w) : Left P l Q n (f + 1) listed a w :=
  Left.some hr (by simp only [Bool.and_eq_true, decide_eq_true_eq] at hne; simp; omega) (fun m hm => by
    simp only [List.mem_cons, List.not_mem_nil, or_false] at hm
    rcases hm with rfl | rfl | rfl
    · exact h1
    · exact h2
    · exact h3)
/-- The walk of a beginning; what is left is walked a step at a time. -/
def checkTo (md : Region.Mode) (ops : Array Oper) (n : Nat) : List (Bool × Nat) → Array Bool → Bool
  | [], _ => true
  | (c, i) :: rest, listed => decide (i < n) && (match c with | true => decide (Region.ready md ops listed = [i]) | false => (Region.ready md ops listed).contains i && Region.free md ops listed i)
      && checkTo md ops n rest (listed.setIfInBounds i true)
def lists : List (Bool × Nat) → Array Bool → Array Bool
  | [], listed => listed
  | (_, i) :: rest, listed => lists rest (listed.setIfInBounds i true)
def walkE (P : Program) (ops : Array Oper) (Q : Exit → Act → World → Prop) (E : Act → World → Prop) : List (Bool × Oper) → Act → World → Prop
  | [], a, w => E a w
  | (true, o) :: rest, a, w => if Region.wanted o (yielded ops a.tmps) = true then o.wp P a w (fun a' w' => w.Extends w' ∧ walkE P ops Q E rest a' w') Q else walkE P ops Q E rest (a.put o.dst undef) w
  | (false, o) :: rest, a, w => ∃ v, YieldsIf P ops w.Extends o v a ∧ walkE P ops Q E rest (a.put o.dst v) w
theorem walkE_nil {E : Act → World → Prop} {a : Act} {w : World} (h : E a w) : walkE P ops Q E [] a w := h
theorem walkE_t {E : Act → World → Prop} {rest : List (Bool × Oper)} {o : Oper} {a : Act} {w : World} (v : Value) (hy : YieldsIf P ops w.Extends o v a) (h : walkE P ops Q E rest (a.put o.dst v) w) :
    walkE P ops Q E ((false, o) :: rest) a w := ⟨v, hy, h⟩
theorem walkE_c {E : Act → World → Prop} {rest : List (Bool × Oper)} {o : Oper} {a : Act} {w : World}
    (h : ∀ K : Act → World → Prop, Shut (∀ a' w', w.Extends w' → walkE P ops Q E rest a' w' → K a' w') → if Region.wanted o (yielded ops a.tmps) = true then o.wp P a w K Q else K (a.put o.dst undef) w) :
    walkE P ops Q E ((true, o) :: rest) a w := by
  have h0 := h (fun a' w' => w.Extends w' ∧ walkE P ops Q E rest a' w') (fun _ _ h1 h2 => ⟨h1, h2⟩)
  unfold walkE
  split
  · rename_i hw; rw [if_pos hw] at h0; exact h0
  · rename_i hw; rw [if_neg hw] at h0; exact h0.2
theorem walkE_sound {l : List Oper} {n g : Nat} (hsel : Region.noSelect l.toArray = true) (hs : Region.sinkB .any l.toArray n = true) (hc : Region.chainB .any l.toArray n = true) (hn : n < l.toArray.size)
    (hQ : ∀ d v c a w, Q (.panic c) (Act.put a d v) w → Q (.panic c) a w) :
    ∀ (ord : List (Bool × Nat)) (listed : Array Bool) (a : Act) (w : World), checkTo .any l.toArray n ord listed = true →
      walkE P l.toArray Q (Left P l Q n g (lists ord listed)) (pick l ord) a w → Left P l Q n (ord.length + g) listed a w
  | [], listed, a, w, _, h => by rw [List.length_nil, Nat.zero_add]; exact h
  | (c, i) :: rest, listed, a, w, hB, h => fun inv => by
    simp only [checkTo, Bool.and_eq_true, decide_eq_true_eq] at hB
    obtain ⟨⟨hin, hr⟩, hB'⟩ := hB
    have hil : i < l.length := by have : l.toArray.size = l.length := by simp
                                  omega
    have ho : l[i]? = Option.some l[i] := List.getElem?_eq_getElem hil
    have hoa : l.toArray[i]? = Option.some l[i] := by simp
    have hlen : ((c, i) :: rest).length + g = (rest.length + g) + 1 := by simp; omega
    rw [hlen]
    simp only [pick, ho] at h
    cases c with
    | true =>
      simp only [decide_eq_true_eq] at hr
      refine ⟨(by rw [hr]; simp), fun j hj => ?_⟩
      rw [hr] at hj
      obtain rfl : j = i := by simpa using hj
      refine ⟨hin, ?_⟩
      have hrm : j ∈ Region.ready .any l.toArray listed := by rw [hr]; simp
      unfold walkE at h
      unfold wpOp
      simp only [hoa]
      split
      · rename_i hw
        rw [if_pos hw] at h
        exact .inl (Oper.wp_mono (fun a' w' hk => ⟨hk.1, AnyE.weaken (fun u hu => ext_trans hk.1 hu) _ _ _ _ (walkE_sound hsel hs hc hn hQ rest _ a' w' hB' hk.2 (inv.set hrm hin))⟩) h)
      · rename_i hw
        rw [if_neg hw] at h
        exact ⟨ext_refl w, walkE_sound hsel hs hc hn hQ rest _ _ w hB' h (inv.set hrm hin)⟩
    | false =>
      simp only [Bool.and_eq_true] at hr
      unfold walkE at h
      obtain ⟨v, hy, hK⟩ := h
      have hrm : i ∈ Region.ready .any l.toArray listed := by simpa using hr.1
      exact AnyE.first hoa (Region.noSelect_spec hsel) hs hc hn hin (fun c a w => hQ _ v c a w) (fun listed' a' w' hL => seqB_ready hL.1) (rest.length + g) listed a w inv (Region.free_spec hoa hr.2) hrm hy (ext_refl w)
        (walkE_sound hsel hs hc hn hQ rest _ _ w hB' hK (inv.set hrm hin))
theorem regionE {id : Nat} {a : Act} {w : World} {l : List Oper} (n g : Nat) (ord : List (Bool × Nat)) (hm : P.follows .mixedOrders = true)
    (hB : (Region.noSelect l.toArray && decide (n < l.toArray.size) && Region.sinkB .any l.toArray n && Region.chainB .any l.toArray n && decide (ord.length + g = n) && checkTo .any l.toArray n ord (Array.replicate l.toArray.size false)) = true)
    (hQ : ∀ d v c a w, Q (.panic c) (Act.put a d v) w → Q (.panic c) a w)
    (h : walkE P l.toArray Q (Left P l Q n g (lists ord (Array.replicate l.toArray.size false))) (pick l ord) a w.drew) : (Code.region id l.toArray true).wp P Q a w := by
  simp only [Bool.and_eq_true, decide_eq_true_eq] at hB
  obtain ⟨⟨⟨⟨⟨hsel, hn⟩, hs⟩, hc⟩, hlen⟩, hck⟩ := hB
  have hdl : (l.drop n).length = l.toArray.size - n := by simp
  have inv0 : HeadInv .any l.toArray n (Array.replicate l.toArray.size false) :=
    ⟨by simp, fun j oj _ hl => (by rw [getD_replicate_false] at hl; cases hl), fun t _ ht => getD_in (by simpa using ht) (getD_replicate_false _ _)⟩
  have H := walkE_sound hsel hs hc hn hQ ord _ a w.drew hck h inv0
  refine wp_region_any hm ?_
  have := AnyE.any (Q := Q) (g := l.toArray.size - n) (fun listed a' w' hL => by
    have := wpAny_of_seq (md := .any) (Q' := Q) (l.drop n) n listed a' w' (fun j => by simp [List.getElem?_drop]) (by rw [hdl]; exact hL.1) hL.2
    rwa [hdl] at this) _ _ _ _ H
  rw [hlen, show n + (l.toArray.size - n) = l.toArray.size by omega] at this
  exact this
end
end Gr
end Go.Proofs.YtippckajlghimaaGreatDoor
