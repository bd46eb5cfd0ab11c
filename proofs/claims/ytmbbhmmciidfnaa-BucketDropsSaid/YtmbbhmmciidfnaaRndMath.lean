/- What stirring a number of 32 bits is, and that no two are stirred into one; which number is drawn; which degree belongs to a number. -/
import Derived.Laws.BitsAllLaws
namespace Go.Proofs.Ytmbbhmmciidfnaa.RM
/-- A number stirred. -/
def mixed (k x : Nat) : Nat := x ^^^ (x / 2 ^ k)
def stir (x : Nat) : Nat := mixed 16 (mixed 15 (mixed 16 x * 2146121005 % 4294967296) * 2221713035 % 4294967296)
theorem mixed_lt (k x : Nat) (hx : x < 4294967296) : mixed k x < 4294967296 := by
  have e : (4294967296 : Nat) = 2 ^ 32 := by decide +kernel
  rw [e] at hx ⊢
  exact Nat.xor_lt_two_pow hx (Nat.lt_of_le_of_lt (Nat.div_le_self _ _) hx)
theorem stir_lt (x : Nat) : stir x < 4294967296 :=
  mixed_lt _ _ (Nat.mod_lt _ (by decide))
theorem mixed_bit (k x i : Nat) : (mixed k x).testBit i = (x.testBit i != x.testBit (i + k)) := by
  unfold mixed; rw [Nat.testBit_xor, Nat.testBit_div_two_pow]
/-- From its upper bits down, a mixed number tells the number. -/
theorem mixed_bits (k x y : Nat) (hk : 0 < k) (hx : x < 4294967296) (hy : y < 4294967296) (h : mixed k x = mixed k y) : ∀ n i, 32 ≤ i + n → x.testBit i = y.testBit i := by
  intro n
  induction n with
  | zero =>
    intro i hi
    have top : ∀ z, z < 4294967296 → z.testBit i = false := fun z hz =>
      by
      have e : (4294967296 : Nat) = 2 ^ 32 := by decide +kernel
      rw [e] at hz
      exact Nat.testBit_lt_two_pow (Nat.lt_of_lt_of_le hz (Nat.pow_le_pow_right (by omega) (by omega)))
    rw [top x hx, top y hy]
  | succ n ih =>
    intro i hi
    have e := congrArg (fun z => z.testBit i) h
    simp only [mixed_bit] at e
    have e2 := ih (i + k) (by omega)
    rw [e2] at e
    revert e
    cases x.testBit i <;> cases y.testBit i <;> cases y.testBit (i + k) <;> simp
theorem mixed_one (k x y : Nat) (hk : 0 < k) (hx : x < 4294967296) (hy : y < 4294967296) (h : mixed k x = mixed k y) : x = y :=
  Nat.eq_of_testBit_eq fun i => mixed_bits k x y hk hx hy h 32 i (by omega)
/-- An odd number has one that undoes it. -/
theorem times_one (c d x y : Nat) (hc : c * d % 4294967296 = 1) (hx : x < 4294967296) (hy : y < 4294967296) (h : x * c % 4294967296 = y * c % 4294967296) : x = y := by
  have un : ∀ z, z < 4294967296 → z * c % 4294967296 * d % 4294967296 = z := fun z hz => by
    rw [Nat.mod_mul_mod, Nat.mul_assoc, ← Nat.mul_mod_mod, hc, Nat.mul_one, Nat.mod_eq_of_lt hz]
  rw [← un x hx, ← un y hy, h]
theorem stir_one (x y : Nat) (hx : x < 4294967296) (hy : y < 4294967296) (h : stir x = stir y) : x = y := by
  have l : ∀ z : Nat, z % 4294967296 < 4294967296 := fun z => Nat.mod_lt z (by decide)
  unfold stir at h
  have h1 := mixed_one 16 _ _ (by decide) (l (mixed 15 (mixed 16 x * 2146121005 % 4294967296) * 2221713035)) (l (mixed 15 (mixed 16 y * 2146121005 % 4294967296) * 2221713035)) h
  have h2 := times_one 2221713035 1124208931 _ _ (by decide +kernel) (mixed_lt 15 _ (l (mixed 16 x * 2146121005))) (mixed_lt 15 _ (l (mixed 16 y * 2146121005))) h1
  have h3 := mixed_one 15 _ _ (by decide) (l (mixed 16 x * 2146121005)) (l (mixed 16 y * 2146121005)) h2
  have h4 := times_one 2146121005 493478565 _ _ (by decide +kernel) (mixed_lt 16 x hx) (mixed_lt 16 y hy) h3
  exact mixed_one 16 _ _ (by decide) hx hy h4
/-- Number i of those that are drawn for y. -/
def drawn (y i : Nat) : Nat := stir ((stir y + i * 2654435769) % 4294967296)
def rand (y i : Nat) (m : Int) : Int := if m < 1 then 0 else (drawn y i : Int) % m
theorem rand_below (y i : Nat) (m : Int) (h : ¬ m < 1) : 0 ≤ rand y i m ∧ rand y i m < m := by
  unfold rand; rw [if_neg h]
  exact ⟨Int.emod_nonneg _ (by omega), Int.emod_lt_of_pos _ (by omega)⟩
theorem rand_of_one (y i : Nat) : rand y i 1 = 0 := by unfold rand; rw [if_neg (by decide)]; omega
theorem rand_of_less (y i : Nat) (m : Int) (h : m < 1) : rand y i m = 0 := if_pos h
/-- Where degrees change. -/
def bounds : List Int := [5243, 529531, 704294, 791675, 844104, 879057, 904023]
/-- How many of the first n bounds v passes. -/
def passed (v : Int) : Nat → Nat
  | 0 => 0
  | n + 1 => passed v n + (if bounds.getD n 0 ≤ v then 1 else 0)
def degree (v : Int) : Int := ((1 + passed v 7 : Nat) : Int)
theorem passed_le (v : Int) : ∀ n, passed v n ≤ n
  | 0 => Nat.le_refl _
  | n + 1 => by have := passed_le v n; unfold passed; split <;> omega
theorem passed_yes (v : Int) (n : Nat) (h : bounds.getD n 0 ≤ v) : passed v (n + 1) = passed v n + 1 := by
  show passed v n + (if bounds.getD n 0 ≤ v then 1 else 0) = passed v n + 1
  rw [if_pos h]
theorem passed_no (v : Int) (n : Nat) (h : ¬ bounds.getD n 0 ≤ v) : passed v (n + 1) = passed v n := by
  show passed v n + (if bounds.getD n 0 ≤ v then 1 else 0) = passed v n
  rw [if_neg h]; rfl
def clip (n low high : Int) : Int := if n < low then low else if n > high then high else n
theorem bounds_in : ∀ n, n < 7 → 0 < bounds.getD n 0 ∧ bounds.getD n 0 ≤ 1048575 := by decide
theorem passed_cut (v : Int) : ∀ n, n ≤ 7 → passed (clip v 0 1048575) n = passed v n
  | 0, _ => rfl
  | n + 1, h => by
    have ih := passed_cut v n (by omega)
    have hb := bounds_in n (by omega)
    have hv : bounds.getD n 0 ≤ clip v 0 1048575 ↔ bounds.getD n 0 ≤ v := by unfold clip; split <;> (try split) <;> omega
    by_cases h1 : bounds.getD n 0 ≤ v
    · rw [passed_yes _ _ h1, passed_yes _ _ (hv.2 h1), ih]
    · rw [passed_no _ _ h1, passed_no _ _ (fun h => h1 (hv.1 h)), ih]
theorem degree_cut (v : Int) : degree (clip v 0 1048575) = degree v := by unfold degree; rw [passed_cut v 7 (by decide)]
theorem degree_at : ∀ k, k < 7 → degree (bounds.getD k 0) = (k : Int) + 2 ∧ degree (bounds.getD k 0 + -1) = (k : Int) + 1 := by decide
end Go.Proofs.Ytmbbhmmciidfnaa.RM
