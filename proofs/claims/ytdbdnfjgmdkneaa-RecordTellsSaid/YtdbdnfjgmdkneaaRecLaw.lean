/- The fourteenth law: num, alive; which record any bytes are, by both programs. -/
import Derived.Test.YtdbdnfjgmdkneaaRecIs
import Derived.Test.YtdbdnfjgmdkneaaRecSame
namespace Go.Proofs.Ytdbdnfjgmdkneaa
set_option maxRecDepth 20000
open Go.RowKit Go.Deep
set_option linter.unusedVariables false
theorem num14_any (n : Int) (w : World) : Calls Try.prog 21 #[.int .i64 n] w fun e w' => e = .returned (.int .i64 n) ∧ w = w' := by
  go_enter Try.func21, Try.ntmps21
  go_wp2
  go_ret
  exact ⟨rfl, rfl⟩
/-- The tombstone of the example. -/
def stone : Rc := ⟨0, 1, 0, 0, 0, 0, 0, true, 0, []⟩
theorem stone_right : KM.Right stone := by
  refine ⟨by decide, by decide, by decide, fun _ => by decide, fun h => by cases h⟩
theorem recIs_nil {r : Rc} {er : Nat} (h : RecIs [] r er) : er = 2 ∧ r = Rc.zero := by
  rcases h with ⟨_, _, h⟩ | ⟨h1, h2, _⟩
  · have := KM.bytes_pos r
    rw [h] at this
    simp at this
  · exact ⟨h1, h2⟩
theorem recIs_bytes {r r' : Rc} {er : Nat} (hr : KM.Right r) (h : RecIs (KM.bytes r) r' er) : er = 0 ∧ r' = r := by
  rcases h with ⟨h1, h2, h3⟩ | ⟨_, _, h⟩
  · refine ⟨h1, ?_⟩
    rw [← KM.rk_right h2 h3, KM.rk_right hr rfl]
  · exact absurd rfl (h r hr)
theorem rec_len {r : Rc} (h : KM.Right r) : (KM.bytes r).length ≤ 88 := by
  obtain ⟨_, _, _, h4, h5⟩ := h
  unfold KM.bytes
  by_cases hg : r.g = true
  · rw [if_pos hg, KM.head_length]; omega
  · rw [if_neg hg, List.length_append, List.length_append, KM.head_length, KM.body_length]
    have := h5 (by simpa using hg)
    obtain ⟨⟨hs, _⟩, _, hl⟩ := this
    obtain ⟨_, _, _, h64, _⟩ := hs
    omega
end Go.Proofs.Ytdbdnfjgmdkneaa
