namespace Go.Proofs.Ytomfgkgdlpajeaa
set_option maxRecDepth 20000
namespace FM
def dbl (a : Nat) : Nat := if a < 128 then a * 2 else (a * 2 % 256) ^^^ 29
def tloop : Nat → Nat → Nat → Nat → Nat
  | 0, p, _, _ => p
  | f+1, p, a, b => tloop f (if b % 2 = 1 then p ^^^ a else p) (dbl a) (b / 2)
def tm (a b : Nat) : Nat := tloop 8 0 a b
def rx (a b : Nat) : Nat → Nat
  | 0 => 0
  | i+1 => if (b / 2^i) % 2 = 1 then rx a b i ^^^ (a * 2^i) else rx a b i
def rred (x : Nat) : Nat → Nat
  | 0 => x
  | j+1 => if (rred x j / 2^(14-j)) % 2 = 1 then rred x j ^^^ (285 * 2^(6-j)) else rred x j
def rtm (a b : Nat) : Nat := rred (rx a b 8) 7 % 256

theorem xor_lt {a b : Nat} (ha : a < 256) (hb : b < 256) : a ^^^ b < 256 := Nat.xor_lt_two_pow (n := 8) ha hb
theorem dbl_lt (a : Nat) (h : a < 256) : dbl a < 256 := by
  unfold dbl; split
  · omega
  · exact xor_lt (by omega) (by omega)
theorem tloop_zero (f p a : Nat) : tloop f p a 0 = p := by
  induction f generalizing p a with
  | zero => rfl
  | succ f ih => simp [tloop, ih]
theorem tloop_lt (f p a b : Nat) (hp : p < 256) (ha : a < 256) : tloop f p a b < 256 := by
  induction f generalizing p a b with
  | zero => exact hp
  | succ f ih =>
    rw [tloop]; refine ih _ _ _ ?_ (dbl_lt a ha)
    split
    · exact xor_lt hp ha
    · exact hp
theorem tm_lt (a b : Nat) (ha : a < 256) : tm a b < 256 := tloop_lt _ _ _ _ (by omega) ha

/-! ### what is linear -/
def Lin (f : Nat → Nat) : Prop := ∀ x y, x < 256 → y < 256 → f (x ^^^ y) = f x ^^^ f y

theorem Lin.zero {f : Nat → Nat} (h : Lin f) : f 0 = 0 := by
  have := h 0 0 (by omega) (by omega)
  rw [Nat.xor_self] at this
  rw [this, Nat.xor_self]

theorem split_bit : ∀ n, n < 8 → ∀ x, x < 256 → 2 ^ n ≤ x → x < 2 ^ (n + 1) → x = 2 ^ n ^^^ (x - 2 ^ n) := by decide +kernel

theorem Lin.ext {f g : Nat → Nat} (hf : Lin f) (hg : Lin g) (h : ∀ i, i < 8 → f (2 ^ i) = g (2 ^ i)) : ∀ x, x < 256 → f x = g x := by
  have key : ∀ n, n ≤ 8 → ∀ x, x < 2 ^ n → f x = g x := by
    intro n
    induction n with
    | zero =>
      intro _ x hx
      obtain rfl : x = 0 := by simpa using hx
      rw [hf.zero, hg.zero]
    | succ n ih =>
      intro hn x hx
      by_cases hlt : x < 2 ^ n
      · exact ih (by omega) x hlt
      · have h8 : 2 ^ (n + 1) ≤ 2 ^ 8 := Nat.pow_le_pow_right (by omega) hn
        have hp : 2 ^ (n + 1) = 2 ^ n * 2 := Nat.pow_succ 2 n
        have h1 : 2 ^ n < 256 := by omega
        have e := split_bit n (by omega) x (by omega) (by omega) hx
        rw [e, hf _ _ h1 (by omega), hg _ _ h1 (by omega), h n (by omega), ih (by omega) _ (by omega)]
  exact fun x hx => key 8 (by omega) x hx

theorem xor_four (a b c d : Nat) : (a ^^^ b) ^^^ (c ^^^ d) = (a ^^^ c) ^^^ (b ^^^ d) := by
  rw [Nat.xor_assoc, Nat.xor_assoc, ← Nat.xor_assoc b c d, Nat.xor_comm b c, Nat.xor_assoc c b d]

theorem div_pow_xor (x y i : Nat) : (x ^^^ y) / 2 ^ i = (x / 2 ^ i) ^^^ (y / 2 ^ i) := by
  apply Nat.eq_of_testBit_eq; intro j
  simp [Nat.testBit_xor, Nat.testBit_div_two_pow]
theorem mul_pow_xor (x y i : Nat) : (x ^^^ y) * 2 ^ i = (x * 2 ^ i) ^^^ (y * 2 ^ i) := by
  rw [← Nat.shiftLeft_eq, ← Nat.shiftLeft_eq, ← Nat.shiftLeft_eq]; exact Nat.shiftLeft_xor_distrib ..
theorem mod_pow_xor (x y i : Nat) : (x ^^^ y) % 2 ^ i = (x % 2 ^ i) ^^^ (y % 2 ^ i) := by
  apply Nat.eq_of_testBit_eq; intro j
  simp only [Nat.testBit_xor, Nat.testBit_mod_two_pow]
  by_cases h : j < i <;> simp [h]
theorem odd_xor (x y : Nat) : (x ^^^ y) % 2 = ((x % 2) ^^^ (y % 2)) := mod_pow_xor x y 1
theorem odd_cases (x y : Nat) : (x ^^^ y) % 2 = (x % 2 + y % 2) % 2 := by
  rw [odd_xor]
  rcases Nat.mod_two_eq_zero_or_one x with h | h <;> rcases Nat.mod_two_eq_zero_or_one y with k | k <;> rw [h, k] <;> rfl

/-- c where the bit is set -/
def sel (x c : Nat) : Nat := if x % 2 = 1 then c else 0
theorem sel_xor (x y c : Nat) : sel (x ^^^ y) c = sel x c ^^^ sel y c := by
  unfold sel
  rw [odd_cases]
  rcases Nat.mod_two_eq_zero_or_one x with h | h <;> rcases Nat.mod_two_eq_zero_or_one y with k | k <;> simp [h, k]
theorem sel_xor_right (x c d : Nat) : sel x (c ^^^ d) = sel x c ^^^ sel x d := by
  unfold sel; split <;> simp
theorem ite_sel (x p c : Nat) : (if x % 2 = 1 then p ^^^ c else p) = p ^^^ sel x c := by
  unfold sel; split <;> simp

theorem dbl_eq : ∀ a, a < 256 → dbl a = (a * 2 ^ 1) ^^^ sel (a / 2 ^ 7) 285 := by decide +kernel
theorem dbl_lin : Lin dbl := by
  intro x y hx hy
  rw [dbl_eq x hx, dbl_eq y hy, dbl_eq _ (xor_lt hx hy), div_pow_xor, mul_pow_xor, sel_xor]
  exact xor_four ..

theorem tloop_acc (f p q a b : Nat) : tloop f (p ^^^ q) a b = p ^^^ tloop f q a b := by
  induction f generalizing p q a b with
  | zero => rfl
  | succ f ih => rw [tloop, tloop, ite_sel, ite_sel, Nat.xor_assoc, ih]
theorem tloop_pull (f p a b : Nat) : tloop f p a b = p ^^^ tloop f 0 a b := by
  have := tloop_acc f p 0 a b; rwa [Nat.xor_zero] at this
theorem tloop_succ (f a b : Nat) : tloop (f+1) 0 a b = sel b a ^^^ tloop f 0 (dbl a) (b / 2) := by
  rw [tloop, ite_sel, Nat.zero_xor, tloop_pull]
theorem tloop_left (f b x y : Nat) (hx : x < 256) (hy : y < 256) : tloop f 0 (x ^^^ y) b = tloop f 0 x b ^^^ tloop f 0 y b := by
  induction f generalizing b x y with
  | zero => simp [tloop]
  | succ f ih =>
    rw [tloop_succ, tloop_succ, tloop_succ, dbl_lin x y hx hy, ih _ _ _ (dbl_lt x hx) (dbl_lt y hy), sel_xor_right]
    exact xor_four ..
theorem tloop_right (f a x y : Nat) : tloop f 0 a (x ^^^ y) = tloop f 0 a x ^^^ tloop f 0 a y := by
  induction f generalizing a x y with
  | zero => simp [tloop]
  | succ f ih =>
    have h2 : (x ^^^ y) / 2 = (x / 2) ^^^ (y / 2) := div_pow_xor x y 1
    rw [tloop_succ, tloop_succ, tloop_succ, h2, ih, sel_xor]
    exact xor_four ..
theorem tm_left (b : Nat) : Lin (fun a => tm a b) := fun x y hx hy => tloop_left 8 b x y hx hy
theorem tm_right (a : Nat) : Lin (fun b => tm a b) := fun x y _ _ => tloop_right 8 a x y
theorem tm_xor_right (a x y : Nat) : tm a (x ^^^ y) = tm a x ^^^ tm a y := tloop_right 8 a x y
theorem tm_xor_left (x y b : Nat) (hx : x < 256) (hy : y < 256) : tm (x ^^^ y) b = tm x b ^^^ tm y b := tloop_left 8 b x y hx hy
theorem tm_zero_right (a : Nat) : tm a 0 = 0 := tloop_zero _ _ _
theorem tm_zero_left (b : Nat) : tm 0 b = 0 := (tm_left b).zero

theorem Lin.comp {f g : Nat → Nat} (hf : Lin f) (hg : Lin g) (hlt : ∀ x, x < 256 → g x < 256) : Lin (fun x => f (g x)) := by
  intro x y hx hy
  show f (g (x ^^^ y)) = _
  rw [hg x y hx hy, hf _ _ (hlt x hx) (hlt y hy)]

theorem pow_lt8 {i : Nat} (h : i < 8) : 2 ^ i < 256 := Nat.pow_lt_pow_right (m := i) (n := 8) (by omega) h
theorem tm_comm (a b : Nat) (ha : a < 256) (hb : b < 256) : tm a b = tm b a := by
  refine Lin.ext (f := fun x => tm x b) (g := fun x => tm b x) (tm_left b) (tm_right b) (fun i hi => ?_) a ha
  refine Lin.ext (f := fun y => tm (2 ^ i) y) (g := fun y => tm y (2 ^ i)) (tm_right _) (tm_left _) (fun j hj => ?_) b hb
  have : ∀ i, i < 8 → ∀ j, j < 8 → tm (2 ^ i) (2 ^ j) = tm (2 ^ j) (2 ^ i) := by decide +kernel
  exact this i hi j hj
theorem tm_assoc (a b c : Nat) (ha : a < 256) (hb : b < 256) (hc : c < 256) : tm (tm a b) c = tm a (tm b c) := by
  refine Lin.ext (f := fun x => tm (tm x b) c) (g := fun x => tm x (tm b c)) ((tm_left c).comp (tm_left b) (fun x hx => tm_lt x b hx)) (tm_left _) (fun i hi => ?_) a ha
  have h2 := pow_lt8 hi
  refine Lin.ext (f := fun x => tm (tm (2 ^ i) x) c) (g := fun x => tm (2 ^ i) (tm x c)) ((tm_left c).comp (tm_right _) (fun x _ => tm_lt _ x h2)) ((tm_right _).comp (tm_left c) (fun x hx => tm_lt x c hx)) (fun j hj => ?_) b hb
  refine Lin.ext (f := fun x => tm (tm (2 ^ i) (2 ^ j)) x) (g := fun x => tm (2 ^ i) (tm (2 ^ j) x)) (tm_right _) ((tm_right _).comp (tm_right _) (fun x _ => tm_lt _ x (pow_lt8 hj))) (fun k hk => ?_) c hc
  have : ∀ i, i < 8 → ∀ j, j < 8 → ∀ k, k < 8 → tm (tm (2 ^ i) (2 ^ j)) (2 ^ k) = tm (2 ^ i) (tm (2 ^ j) (2 ^ k)) := by decide +kernel
  exact this i hi j hj k hk
theorem tm_one_right (a : Nat) (ha : a < 256) : tm a 1 = a := by
  refine Lin.ext (f := fun x => tm x 1) (g := fun x => x) (tm_left 1) (fun _ _ _ _ => rfl) (fun i hi => ?_) a ha
  have : ∀ i, i < 8 → tm (2 ^ i) 1 = 2 ^ i := by decide +kernel
  exact this i hi
theorem tm_one_left (a : Nat) (ha : a < 256) : tm 1 a = a := by rw [tm_comm 1 a (by omega) ha, tm_one_right a ha]

/-! ### the document's own way: all bits first, then the remainder -/
theorem rx_left (b n x y : Nat) : rx (x ^^^ y) b n = rx x b n ^^^ rx y b n := by
  induction n with
  | zero => simp [rx]
  | succ n ih => rw [rx, rx, rx, ite_sel, ite_sel, ite_sel, ih, mul_pow_xor, sel_xor_right]; exact xor_four ..
theorem rx_right (a n x y : Nat) : rx a (x ^^^ y) n = rx a x n ^^^ rx a y n := by
  induction n with
  | zero => simp [rx]
  | succ n ih => rw [rx, rx, rx, ite_sel, ite_sel, ite_sel, ih, div_pow_xor, sel_xor]; exact xor_four ..
theorem rred_lin (n x y : Nat) : rred (x ^^^ y) n = rred x n ^^^ rred y n := by
  induction n with
  | zero => rfl
  | succ n ih => rw [rred, rred, rred, ite_sel, ite_sel, ite_sel, ih, div_pow_xor, sel_xor]; exact xor_four ..
theorem rtm_left (b : Nat) : Lin (fun a => rtm a b) := by
  intro x y _ _
  show rred (rx (x ^^^ y) b 8) 7 % 2 ^ 8 = _
  rw [rx_left, rred_lin, mod_pow_xor]; rfl
theorem rtm_right (a : Nat) : Lin (fun b => rtm a b) := by
  intro x y _ _
  show rred (rx a (x ^^^ y) 8) 7 % 2 ^ 8 = _
  rw [rx_right, rred_lin, mod_pow_xor]; rfl
theorem rtm_eq (a b : Nat) (ha : a < 256) (hb : b < 256) : rtm a b = tm a b := by
  refine Lin.ext (f := fun x => rtm x b) (g := fun x => tm x b) (rtm_left b) (tm_left b) (fun i hi => ?_) a ha
  refine Lin.ext (f := fun y => rtm (2 ^ i) y) (g := fun y => tm (2 ^ i) y) (rtm_right _) (tm_right _) (fun j hj => ?_) b hb
  have : ∀ i, i < 8 → ∀ j, j < 8 → rtm (2 ^ i) (2 ^ j) = tm (2 ^ i) (2 ^ j) := by decide +kernel
  exact this i hi j hj

/-! ### powers -/
def pw (a : Nat) : Nat → Nat
  | 0 => 1
  | n+1 => tm (pw a n) a
theorem pw_lt (a n : Nat) (_ha : a < 256) : pw a n < 256 := by
  induction n with
  | zero => show 1 < 256; omega
  | succ n ih => exact tm_lt _ _ ih
theorem pw_add (a m n : Nat) (ha : a < 256) : pw a (m + n) = tm (pw a m) (pw a n) := by
  induction n with
  | zero => exact (tm_one_right _ (pw_lt a m ha)).symm
  | succ n ih => rw [← Nat.add_assoc, pw, pw, ih, tm_assoc _ _ _ (pw_lt a m ha) (pw_lt a n ha) ha]
theorem pw_one (a : Nat) (ha : a < 256) : pw a 1 = a := tm_one_left a ha
theorem pw_sq (a n : Nat) (ha : a < 256) : pw (tm a a) n = pw a (2 * n) := by
  induction n with
  | zero => rfl
  | succ n ih =>
    rw [pw, ih, show 2 * (n + 1) = 2 * n + 2 from by omega, pw_add a (2 * n) 2 ha]
    show _ = tm _ (tm (tm 1 a) a)
    rw [tm_one_left a ha]
/-- raise's own loop -/
def rloop : Nat → Nat → Nat → Nat → Nat
  | 0, p, _, _ => p
  | f+1, p, a, n => rloop f (if n % 2 = 1 then tm p a else p) (tm a a) (n / 2)
theorem rloop_zero (f p a : Nat) : rloop f p a 0 = p := by
  induction f generalizing p a with
  | zero => rfl
  | succ f ih => simp [rloop, ih]
theorem rloop_eq (f p a n : Nat) (hp : p < 256) (ha : a < 256) (hn : n < 2 ^ f) : rloop f p a n = tm p (pw a n) := by
  induction f generalizing p a n with
  | zero => obtain rfl : n = 0 := by simpa using hn
            exact (tm_one_right p hp).symm
  | succ f ih =>
    rw [Nat.pow_succ] at hn
    rw [rloop, ih _ _ _ (by split; exact tm_lt _ _ hp; exact hp) (tm_lt a a ha) (by omega), pw_sq a _ ha]
    split
    · rw [tm_assoc p a _ hp ha (pw_lt a _ ha)]
      conv => rhs; rw [show n = 1 + 2 * (n / 2) from by omega, pw_add a _ _ ha, pw_one a ha]
    · conv => rhs; rw [show n = 2 * (n / 2) from by omega]
def inv (a : Nat) : Nat := pw a 254
theorem inv_lt (a : Nat) (ha : a < 256) : inv a < 256 := pw_lt a _ ha
theorem inv_eq (a : Nat) (ha : a < 256) : rloop 8 1 a 254 = inv a := by
  rw [rloop_eq 8 1 a 254 (by omega) ha (by omega), tm_one_left _ (pw_lt a _ ha)]; rfl
theorem inv_tab : ∀ a, a < 256 → a ≠ 0 → tm a (rloop 8 1 a 254) = 1 := by decide +kernel
theorem tm_inv (a : Nat) (ha : a < 256) (h0 : a ≠ 0) : tm a (inv a) = 1 := by rw [← inv_eq a ha]; exact inv_tab a ha h0
theorem inv_zero : inv 0 = 0 := by rw [← inv_eq 0 (by omega)]; decide +kernel
theorem inv_ne (a : Nat) (ha : a < 256) (h0 : a ≠ 0) : inv a ≠ 0 := by
  intro h; have := tm_inv a ha h0; rw [h, tm_zero_right] at this; omega
theorem inv_unique (a b : Nat) (ha : a < 256) (hb : b < 256) (h : tm a b = 1) : b = inv a := by
  have h0 : a ≠ 0 := by intro e; rw [e, tm_zero_left] at h; omega
  have h1 := tm_assoc (inv a) a b (inv_lt a ha) ha hb
  rw [h, tm_one_right _ (inv_lt a ha), tm_comm (inv a) a (inv_lt a ha) ha, tm_inv a ha h0, tm_one_left b hb] at h1
  exact h1
/-- 2 to the n -/
def ex (n : Nat) : Nat := pw 2 n
theorem ex_lt (n : Nat) : ex n < 256 := pw_lt 2 n (by omega)
theorem ex_255 : ex 255 = 1 := by
  have := rloop_eq 8 1 2 255 (by omega) (by omega) (by omega)
  rw [tm_one_left _ (pw_lt 2 _ (by omega))] at this
  show pw 2 255 = 1
  rw [← this]; decide +kernel
theorem ex_add (m n : Nat) : ex (m + n) = tm (ex m) (ex n) := pw_add 2 m n (by omega)
theorem ex_mod (n : Nat) : ex (n % 255) = ex n := by
  have h : ∀ q r, ex (r + 255 * q) = ex r := by
    intro q r
    induction q with
    | zero => rfl
    | succ q ih => rw [show r + 255 * (q + 1) = (r + 255 * q) + 255 from by omega, ex_add, ih, ex_255, tm_one_right _ (ex_lt r)]
  conv => rhs; rw [← Nat.mod_add_div n 255]
  exact (h _ _).symm
theorem ex_eq (n : Nat) (h : n < 255) : rloop 8 1 2 n = ex n := by
  rw [rloop_eq 8 1 2 n (by omega) (by omega) (by omega), tm_one_left _ (pw_lt 2 _ (by omega))]; rfl
/-- how many of the first powers are a -/
def cnt (a : Nat) : Nat → Nat
  | 0 => 0
  | n+1 => cnt a n + if ex n = a then 1 else 0
def cloop (a : Nat) : Nat → Nat → Nat → Nat
  | 0, _, k => k
  | n+1, x, k => cloop a n (dbl x) (k + if x = a then 1 else 0)
theorem dbl_tm (a : Nat) (h : a < 256) : tm a 2 = dbl a := by
  rw [show (2 : Nat) = 2 ^ 1 from rfl]
  exact Lin.ext (f := fun x => tm x (2 ^ 1)) (g := dbl) (tm_left _) dbl_lin (by decide +kernel) a h
theorem cloop_eq (a n m k : Nat) : cloop a n (ex m) (cnt a m) = cnt a (m + n) ∧ k = k := by
  refine ⟨?_, rfl⟩
  induction n generalizing m with
  | zero => rfl
  | succ n ih =>
    rw [cloop, ← dbl_tm _ (ex_lt m)]
    have h1 : tm (ex m) 2 = ex (m + 1) := rfl
    have h2 : (cnt a m + if ex m = a then 1 else 0) = cnt a (m + 1) := rfl
    rw [h1, h2, ih, show m + 1 + n = m + (n + 1) from by omega]
theorem cloop_tab : ∀ a, a < 256 → cloop a 255 1 0 = if a = 0 then 0 else 1 := by decide +kernel
theorem cnt_255 (a : Nat) (h : a < 256) : cnt a 255 = if a = 0 then 0 else 1 := by
  have := (cloop_eq a 255 0 0).1
  rw [show ex 0 = 1 from rfl, show cnt a 0 = 0 from rfl, cloop_tab a h, Nat.zero_add] at this
  exact this.symm
end FM
end Go.Proofs.Ytomfgkgdlpajeaa
