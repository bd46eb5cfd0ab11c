/- Which record any bytes are, by both programs. -/
import Derived.Test.YtdbdnfjgmdkneaaRecRefRead
namespace Go.Proofs.Ytdbdnfjgmdkneaa
set_option maxRecDepth 20000
open Go.RowKit Go.Deep
set_option linter.unusedVariables false
/-- Which record bytes are: it, and no error; or none. -/
def RecIs (xs : List Nat) (r : Rc) (er : Nat) : Prop := (er = 0 ∧ KM.Right r ∧ KM.bytes r = xs) ∨ (er = 2 ∧ r = Rc.zero ∧ ∀ r', KM.Right r' → KM.bytes r' ≠ xs)
theorem KM.rk_right {r : Rc} {xs : List Nat} (h : KM.Right r) (hb : KM.bytes r = xs) : KM.rk xs = r := by
  have ht := KM.tk_bytes h
  rw [hb] at ht
  unfold KM.rk
  rw [ht]
  obtain ⟨p, n, b, s, m, k, e, g, u, d⟩ := r
  cases g with
  | false => rfl
  | true =>
    have hd := (h.2.2.2.1 rfl).2.2
    simp only at hd
    subst hd
    rfl
theorem asked14_new (xs : List Nat) (hlt : ∀ x ∈ xs, x < 256) (hn : xs.length ≤ 1000000000) : ∃ r er, RecIs xs r er ∧ (∀ v w, U8s w v xs → Calls Try.prog 16 #[v] w (ROutN r (er : Nat) w)) ∧ (∀ v w, U8s w v xs → Calls Try.prog 17 #[v] w (ROutN r (er : Nat) w)) := by
  have hrr : ∀ v w, U8s w v xs → Calls Try.prog 17 #[v] w (RROut w xs) := fun v w hv => by
    by_cases c : KM.gn 1 (xs, false) = 1
    · exact rread_gone v xs w hv c hn
    · exact rread_sym v xs w hv c hn
  by_cases hex : ∃ r, KM.Right r ∧ KM.bytes r = xs
  · obtain ⟨r, hr, hb⟩ := hex
    have hrk := KM.rk_right hr hb
    have hgood : Good xs := by
      have ht := KM.tk_bytes hr
      rw [hb] at ht
      refine ⟨by rw [ht], ?_, ?_⟩
      · rw [hrk]; exact hr
      · rw [hrk]; exact hb
    refine ⟨r, 0, .inl ⟨rfl, hr, hb⟩, fun v w hv => ?_, fun v w hv => (hrr v w hv).mono fun e w' h => ?_⟩
    · refine read_yes v xs w hv r (fun t w' hc => (taken_any xs t w' hc).mono fun e w2 h => ?_) hr
      obtain ⟨a, c, he, hu, hg⟩ := h
      have ht := KM.tk_bytes hr
      rw [hb] at ht
      rw [ht] at he hu
      refine ⟨a, c, ?_, hu, hg⟩
      rw [he]
      cases r.g <;> rfl
    · have := h.1 hgood
      rw [hrk] at this
      exact this
  · have hno : ∀ r', KM.Right r' → KM.bytes r' ≠ xs := fun r' h1 h2 => hex ⟨r', h1, h2⟩
    have hngood : ¬ Good xs := fun h => hno _ h.2.1 h.2.2
    refine ⟨Rc.zero, 2, .inr ⟨rfl, rfl, hno⟩, fun v w hv => ?_, fun v w hv => (hrr v w hv).mono fun e w' h => h.2 hngood⟩
    cases hok : ((decide ((KM.tk xs).2.1 = 0) || decide ((KM.tk xs).2.1 = 1)) && !(KM.tk xs).2.2) with
    | false =>
      refine read_bad v xs w hv (KM.tk xs).1 (fun t w' hc => (taken_any xs t w' hc).mono fun e w2 h => ?_)
      obtain ⟨a, c, he, hu, hg⟩ := h
      rw [hok] at he
      exact ⟨a, c, he, hu, hg⟩
    | true =>
      refine read_no v xs w hv (KM.tk xs).1 (fun t w' hc => (taken_any xs t w' hc).mono fun e w2 h => ?_) (fun hr => ?_)
      · obtain ⟨a, c, he, hu, hg⟩ := h
        rw [hok] at he
        exact ⟨a, c, he, hu, hg⟩
      · rw [Bool.and_eq_true, Bool.or_eq_true, decide_eq_true_eq, decide_eq_true_eq] at hok
        exact hno _ hr (KM.bytes_tk hlt (by simpa using hok.2) hok.1 fun hg => (hr.2.2.2.1 hg).2.2)
theorem asked14_read (xs : List Nat) (hlt : ∀ x ∈ xs, x < 256) (hn : xs.length ≤ 1000000000) : ∃ r er, RecIs xs r er ∧ (∀ v w, U8s w v xs → Calls Try.prog 16 #[v] w (ROut r (er : Nat) w)) ∧ (∀ v w, U8s w v xs → Calls Try.prog 17 #[v] w (ROut r (er : Nat) w)) := by
  obtain ⟨r, er, h, h1, h2⟩ := asked14_new xs hlt hn
  exact ⟨r, er, h, fun v w hv => (h1 v w hv).mono fun _ _ k => k.old, fun v w hv => (h2 v w hv).mono fun _ _ k => k.old⟩
end Go.Proofs.Ytdbdnfjgmdkneaa
