/- The fourteenth law: num, alive; which record any bytes are, by both programs. -/
import Derived.Test.YtapfneemaodnnaaRecRefRead
import Derived.Test.YtapfneemaodnnaaRecSame
namespace Go.Proofs.Ytapfneemaodnnaa
set_option maxRecDepth 20000
open Go.RowKit Go.Deep
set_option linter.unusedVariables false
theorem num14_any (n : Int) (w : World) : Calls Try.prog 14 #[.int .i64 n] w fun e w' => e = .returned (.int .i64 n) ∧ w = w' := by
  go_enter Try.func14, Try.ntmps14
  go_wp2
  go_ret
  exact ⟨rfl, rfl⟩
/-- Which record bytes are: it, and no error; or none. -/
def RecIs (xs : List Nat) (r : Rc) (er : Nat) : Prop := (er = 0 ∧ KM.Right r ∧ KM.bytes r = xs) ∨ (er = 2 ∧ r = Rc.zero ∧ ∀ r', KM.Right r' → KM.bytes r' ≠ xs)
theorem KM.rk_right {r : Rc} {xs : List Nat} (h : KM.Right r) (hb : KM.bytes r = xs) : KM.rk xs = r := by
  have ht := KM.tk_bytes h
  rw [hb] at ht
  unfold KM.rk
  rw [ht]
  obtain ⟨p, n, b, s, m, k, e, g, u, d⟩ := r
  cases g with
  | false => rfl
  | true =>
    have hd := (h.2.2.2.1 rfl).2.2
    simp only at hd
    subst hd
    rfl
theorem asked14_read (xs : List Nat) (hlt : ∀ x ∈ xs, x < 256) (hn : xs.length ≤ 1000000000) : ∃ r er, RecIs xs r er ∧ (∀ v w, U8s w v xs → Calls Try.prog 9 #[v] w (ROut r (er : Nat) w)) ∧ (∀ v w, U8s w v xs → Calls Try.prog 10 #[v] w (ROut r (er : Nat) w)) := by
  have hrr : ∀ v w, U8s w v xs → Calls Try.prog 10 #[v] w (RROut w xs) := fun v w hv => by
    by_cases c : KM.gn 1 (xs, false) = 1
    · exact rread_gone v xs w hv c hn
    · exact rread_sym v xs w hv c hn
  by_cases hex : ∃ r, KM.Right r ∧ KM.bytes r = xs
  · obtain ⟨r, hr, hb⟩ := hex
    have hrk := KM.rk_right hr hb
    have hgood : Good xs := by
      have ht := KM.tk_bytes hr
      rw [hb] at ht
      refine ⟨by rw [ht], ?_, ?_⟩
      · rw [hrk]; exact hr
      · rw [hrk]; exact hb
    refine ⟨r, 0, .inl ⟨rfl, hr, hb⟩, fun v w hv => ?_, fun v w hv => (hrr v w hv).mono fun e w' h => ?_⟩
    · refine read_yes v xs w hv r (fun t w' hc => (taken_any xs t w' hc).mono fun e w2 h => ?_) hr
      obtain ⟨a, c, he, hu, hg⟩ := h
      have ht := KM.tk_bytes hr
      rw [hb] at ht
      rw [ht] at he hu
      refine ⟨a, c, ?_, hu, hg⟩
      rw [he]
      cases r.g <;> rfl
    · have := h.1 hgood
      rw [hrk] at this
      exact this
  · have hno : ∀ r', KM.Right r' → KM.bytes r' ≠ xs := fun r' h1 h2 => hex ⟨r', h1, h2⟩
    have hngood : ¬ Good xs := fun h => hno _ h.2.1 h.2.2
    refine ⟨Rc.zero, 2, .inr ⟨rfl, rfl, hno⟩, fun v w hv => ?_, fun v w hv => (hrr v w hv).mono fun e w' h => h.2 hngood⟩
    cases hok : ((decide ((KM.tk xs).2.1 = 0) || decide ((KM.tk xs).2.1 = 1)) && !(KM.tk xs).2.2) with
    | false =>
      refine read_bad v xs w hv (KM.tk xs).1 (fun t w' hc => (taken_any xs t w' hc).mono fun e w2 h => ?_)
      obtain ⟨a, c, he, hu, hg⟩ := h
      rw [hok] at he
      exact ⟨a, c, he, hu, hg⟩
    | true =>
      refine read_no v xs w hv (KM.tk xs).1 (fun t w' hc => (taken_any xs t w' hc).mono fun e w2 h => ?_) (fun hr => ?_)
      · obtain ⟨a, c, he, hu, hg⟩ := h
        rw [hok] at he
        exact ⟨a, c, he, hu, hg⟩
      · rw [Bool.and_eq_true, Bool.or_eq_true, decide_eq_true_eq, decide_eq_true_eq] at hok
        exact hno _ hr (KM.bytes_tk hlt (by simpa using hok.2) hok.1 fun hg => (hr.2.2.2.1 hg).2.2)
/-- The tombstone of the example. -/
def stone : Rc := ⟨0, 1, 0, 0, 0, 0, 0, true, 0, []⟩
theorem stone_right : KM.Right stone := by
  refine ⟨by decide, by decide, by decide, fun _ => by decide, fun h => by cases h⟩
theorem recIs_nil {r : Rc} {er : Nat} (h : RecIs [] r er) : er = 2 ∧ r = Rc.zero := by
  rcases h with ⟨_, _, h⟩ | ⟨h1, h2, _⟩
  · have := KM.bytes_pos r
    rw [h] at this
    simp at this
  · exact ⟨h1, h2⟩
theorem recIs_bytes {r r' : Rc} {er : Nat} (hr : KM.Right r) (h : RecIs (KM.bytes r) r' er) : er = 0 ∧ r' = r := by
  rcases h with ⟨h1, h2, h3⟩ | ⟨_, _, h⟩
  · refine ⟨h1, ?_⟩
    rw [← KM.rk_right h2 h3, KM.rk_right hr rfl]
  · exact absurd rfl (h r hr)
theorem rec_len {r : Rc} (h : KM.Right r) : (KM.bytes r).length ≤ 88 := by
  obtain ⟨_, _, _, h4, h5⟩ := h
  unfold KM.bytes
  by_cases hg : r.g = true
  · rw [if_pos hg, KM.head_length]; omega
  · rw [if_neg hg, List.length_append, List.length_append, KM.head_length, KM.body_length]
    have := h5 (by simpa using hg)
    obtain ⟨⟨hs, _⟩, _, hl⟩ := this
    obtain ⟨_, _, _, h64, _⟩ := hs
    omega
end Go.Proofs.Ytapfneemaodnnaa
