/- slices.IndexFunc of contacts. -/
import Derived.Test.YtmbbhmmciidfnaaBkCt
import Derived.WalkKit
import Derived.IntWalk
namespace Go.Proofs.Ytmbbhmmciidfnaa
set_option maxRecDepth 20000
open Go.RowKit Go.Deep
set_option linter.unusedVariables false
/-- The closure F, whose one captured variable lies in block c, tells whether q holds of a contact. -/
def CTells (F c : Nat) (q : Ct → Bool) (w : World) : Prop := ∀ (x : Ct) (w' : World), w'.heap[c]? = w.heap[c]? → Calls Try.prog F #[CV x, .pointer (some ⟨c, 0, none⟩)] w' fun e w2 => e = .returned (.bool (q x)) ∧ w'.Extends w2
abbrev CEnters (F : FuncId) : Prop := ∀ (args : Array Value) (w : World), (callFunc F args).run Try.prog w = .ok (.enter F args) w
theorem center_of {F : FuncId} {fn : Func} (hf : Try.prog.funcs[F]? = some fn) (hname : (fn.name == "runtime.NumGoroutine") = false) (hb : fn.body.isNone = false) : CEnters F := fun args w => by
  have h1 : fn.name ≠ "runtime.NumGoroutine" := by simpa using hname
  simp only [callFunc, Sem.run_bind, run_program, Result.andThen_ok, hf]
  simp [h1, hb]
/-- Where the first one stands of which q holds. -/
def cfnd (q : Ct → Bool) : List Ct → Nat
  | [] => 0
  | c :: l => if q c then 0 else cfnd q l + 1
theorem cfnd_uniq {q : Ct → Bool} : ∀ {l : List Ct} {k : Nat}, k ≤ l.length → (∀ m, m < k → q (l.getD m z21) = false) → (k < l.length → q (l.getD k z21) = true) → cfnd q l = k
  | [], k, hk, _, _ => by simp at hk; rw [hk]; rfl
  | p :: l, 0, _, _, h2 => by
    have : q p = true := h2 (by simp)
    unfold cfnd; rw [if_pos this]
  | p :: l, k + 1, hk, h1, h2 => by
    have h0 : q p = false := h1 0 (by omega)
    unfold cfnd
    rw [if_neg (by rw [h0]; decide), cfnd_uniq (k := k) (by simpa using hk) (fun m hm => h1 (m + 1) (by omega)) (fun hk' => h2 (by simpa using hk'))]
theorem cfnd_le (q : Ct → Bool) : ∀ l : List Ct, cfnd q l ≤ l.length
  | [] => Nat.le_refl _
  | p :: l => by
    have := cfnd_le q l
    unfold cfnd
    split
    · exact Nat.zero_le _
    · rw [List.length_cons]; omega
theorem cfnd_lt (q : Ct → Bool) : ∀ (l : List Ct) (m : Nat), m < cfnd q l → q (l.getD m z21) = false
  | [], m, h => by simp [cfnd] at h
  | p :: l, m, h => by
    unfold cfnd at h
    split at h
    · omega
    · rename_i hq
      cases m with
      | zero => exact Bool.eq_false_iff.2 hq
      | succ m => exact cfnd_lt q l m (by omega)
theorem cfnd_at (q : Ct → Bool) : ∀ (l : List Ct), cfnd q l < l.length → q (l.getD (cfnd q l) z21) = true
  | [], h => by simp [cfnd] at h
  | p :: l, h => by
    unfold cfnd at h ⊢
    split
    · rename_i hq; exact hq
    · rename_i hq
      rw [if_neg hq, List.length_cons] at h
      exact cfnd_at q l (by omega)
def cidx (q : Ct → Bool) (l : List Ct) : Int := if cfnd q l < l.length then (cfnd q l : Int) else -1
theorem cidx_any (F c : Nat) (hen : CEnters F) (q : Ct → Bool) (g o cap n : Nat) (l : List Ct) (w : World) (hn : l.length = n) (hl : n ≤ 1000000) (hr : ∀ k, k < n → w.rangeAt g (o + k * 21) (CL (l.getD k z21))) (hg : g < w.heap.size) (hF : CTells F c q w) (hc : c < w.heap.size) :
    Calls Try.prog 16 #[.slice (some ⟨g, o, none⟩) n cap, .func (.func F) #[] #[.pointer (some ⟨c, 0, none⟩)]] w fun e w' => e = .returned (.int .i64 (cidx q l)) ∧ w.Extends w' := by
  have HF := Lib.hid hF
  have HAT := Lib.hid hr
  have HQ : Hid (∀ k, k < n → (∀ m, m < k → q (l.getD m z21) = false) → q (l.getD k z21) = true → cidx q l = (k : Int)) := fun k hk h1 h2 => by
    have := cfnd_uniq (q := q) (l := l) (k := k) (by omega) h1 (fun _ => h2)
    unfold cidx; rw [this, if_pos (by omega)]
  have HQN : Hid ((∀ m, m < n → q (l.getD m z21) = false) → cidx q l = -1) := fun h1 => by
    have := cfnd_uniq (q := q) (l := l) (k := l.length) (by omega) (by rw [hn]; exact h1) (fun h => absurd h (Nat.lt_irrefl _))
    unfold cidx; rw [this, if_neg (Nat.lt_irrefl _)]
  clear hr hF hn
  generalize cidx q l = ix at *
  go_enter Try.func16, Try.ntmps16
  go_wp2_with fail
  go_loopw [8] (fun s8 wr => ∃ k : Nat, k ≤ n ∧ s8 = .int .i64 k ∧ Hid (w.Extends wr) ∧ Hid (∀ m, m < k → q (l.getD m z21) = false)) (fun s8 _ => n - (intOf s8).toNat)
  case atStart => exact ⟨0, by omega, rfl, Gr.ext_refl _, fun m hm => absurd hm (Nat.not_lt_zero _)⟩
  case round =>
    obtain ⟨k, hk, rfl, HX, HN⟩ := hrel
    by_cases h1 : k < n
    · have hr := range_ext (HAT.out k h1) HX.out
      have HCL := Lib.hid (HF.out (l.getD k z21) wr (HX.out.block c hc))
      have HQK := Lib.hid (HQ.out k h1)
      have HNX : Hid (∀ b, q (l.getD k z21) = b → b = false → ∀ m, m < k + 1 → q (l.getD m z21) = false) := fun b e1 e2 m hm => by
        rcases Nat.lt_or_ge m k with h | h
        · exact HN.out m h
        · obtain rfl : m = k := by omega
          exact e1.trans e2
      have HQK2 := Lib.hid (HQK.out HN.out)
      clear HQK
      generalize hb : q (l.getD k z21) = b at *
      have HB := Lib.hid hb
      clear hb
      obtain ⟨x, hx⟩ : ∃ x, CV (l.getD k z21) = x := ⟨_, rfl⟩
      have HXV := Lib.hid hx
      rw [hx] at HCL
      clear hx
      go_wp2_with (refine wpList_load_ct rfl (.tmp 14) rfl g (o + k * 21) (l.getD k z21) x HXV.out rfl hr ?_)
      refine HCL.out.mono ?_
      rintro e w2 ⟨rfl, hx2⟩
      have HX2 := Lib.hid (Gr.ext_trans HX.out hx2)
      clear hx2 HCL hr
      cases b with
      | true =>
        have HP := HQK2.out rfl
        go_wp2
        go_ret
        exact ⟨by rw [HP]; rfl, HX2.out⟩
      | false =>
        have HN2 := Lib.hid (HNX.out false rfl rfl)
        clear HNX HQK2
        go_wp2
        go_roundw
        case rel => exact ⟨k + 1, by omega, by go_num, HX2, HN2⟩
        case measure => simp [intOf]; omega
    · obtain rfl : k = n := by omega
      have HP := HQN.out HN.out
      go_wp2
      go_ret
      exact ⟨by rw [HP]; rfl, HX.out⟩
end Go.Proofs.Ytmbbhmmciidfnaa
