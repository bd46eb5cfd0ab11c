/- Calls of a law's own; what the statements of stage 21 hold alive. -/
import Derived.Test.YtiiidbomfkjfgaaCalLate
import Derived.Test.YtiiidbomfkjfgaaCalCadd
namespace Go.Proofs.Ytiiidbomfkjfgaa
set_option maxRecDepth 20000
open Go.RowKit Go.Deep
set_option linter.unusedVariables false
theorem wf_in64 {x : Int} (h : (Lit.int .i64 x).wf = true) : -9223372036854775808 ≤ x ∧ x ≤ 9223372036854775807 := by
  have e1 : IntKind.i64.min = -9223372036854775808 := by decide
  have e2 : IntKind.i64.max = 9223372036854775807 := by decide
  have h' : (decide (IntKind.i64.min ≤ x) && decide (x ≤ IntKind.i64.max)) = true := h
  rw [e1, e2, Bool.and_eq_true, decide_eq_true_eq, decide_eq_true_eq] at h'
  exact h'
/-- Calls in a block of their own; all that they have lies behind it. -/
def Cw (w : World) (c last : Nat) (cs : List Cl) : Prop := CsAt w c 0 (fun i => c < i) last cs
theorem Cw.new (w : World) : Cw (w.alloc (.cells #[.pointer none] 27)) w.heap.size 0 [] :=
  ⟨Nat.lt_irrefl _, _, _, .pointer none, heap_alloc_new _ _, rfl, .inl ⟨rfl, rfl, rfl⟩⟩
theorem Cw.ext {w w' : World} {c last : Nat} {cs : List Cl} (h : Cw w c last cs) (hx : w.Extends w') : Cw w' c last cs := CsAt.ext h hx
theorem Cw.perm {w : World} {c last : Nat} {cs cs' : List Cl} (h : Cw w c last cs) (hp : cs.Perm cs') : Cw w c last cs' := CsAt.perm h hp
theorem fr_below {c : Nat} {D : Nat → Prop} {w w' : World} (h : Fr D w w') (hc : c < w.heap.size) (hD : ∀ i, D i → c ≤ i) : Below c w w' := h.below (Nat.le_of_lt hc) hD
theorem cw_add (c last : Nat) (cs : List Cl) (op pr now : Int) (w : World) (h : Cw w c last cs) (hl : last + 1 ≤ 8000) (hop : In64 op) (hnow : In64 now) :
    Calls Try.prog 6 #[.pointer (some ⟨c, 0, none⟩), .int .i64 op, .int .i64 pr, .int .i64 now] w fun e w' => e = .returned (.int .i64 ((last : Int) + 1)) ∧ Below c w w' ∧ Cw w' c (last + 1) (cs ++ [⟨(last : Int) + 1, op, pr, untilOf now⟩]) := by
  have hlt := CsAt.lt h
  refine (cadd_any c 0 _ last cs op pr now w h hl hop hnow).mono ?_
  rintro e w' ⟨rfl, hf, _, hc⟩
  refine ⟨rfl, fr_below hf hlt (fun i hi => by omega), hc.mono (fun i hi => ?_) (Nat.lt_irrefl _)⟩
  rcases hi with hi | hi
  · exact hi
  · show c < i; omega
def CwTake (c last : Nat) (cs : List Cl) (tag pr : Int) (w : World) (e : Ending) (w' : World) : Prop :=
  Below c w w' ∧ ((∃ x cs', x.t = tag ∧ x.p = pr ∧ (x :: cs').Perm cs ∧ e = .returned (.tuple #[CVL x, .bool true]) ∧ Cw w' c last cs') ∨ ((∀ x ∈ cs, x.t = tag → x.p ≠ pr) ∧ e = .returned (.tuple #[CVL zc, .bool false]) ∧ Cw w' c last cs ∧ w.Extends w'))
theorem cw_take (c last : Nat) (cs : List Cl) (tag pr : Int) (w : World) (h : Cw w c last cs) (ht : In64 tag) :
    Calls Try.prog 7 #[.pointer (some ⟨c, 0, none⟩), .int .i64 tag, .int .i64 pr] w (CwTake c last cs tag pr w) := by
  have hlt := CsAt.lt h
  refine (ctake_any c 0 _ last cs tag pr w h ht).mono ?_
  rintro e w' (⟨x, cs', h1, h2, h3, h4, hf, hc⟩ | ⟨h1, h2, hx⟩)
  · exact ⟨fr_below hf hlt (fun i hi => Nat.le_of_lt hi), .inl ⟨x, cs', h1, h2, h3, h4, hc⟩⟩
  · exact ⟨(Gr.below_of hx).mono (Nat.le_of_lt hlt), .inr ⟨h1, h2, h.ext hx, hx⟩⟩
def CwLate (c last : Nat) (cs : List Cl) (now : Int) (w : World) (e : Ending) (w' : World) : Prop :=
  Below c w w' ∧ ∃ v ls csr, e = .returned v ∧ Cls w' w.heap.size v ls ∧ (csr ++ ls).Perm cs ∧ (∀ x ∈ ls, x.u < now) ∧ (∀ x ∈ csr, now ≤ x.u) ∧ Cw w' c last csr
theorem cw_late (c last : Nat) (cs : List Cl) (now : Int) (w : World) (h : Cw w c last cs) :
    Calls Try.prog 9 #[.pointer (some ⟨c, 0, none⟩), .int .i64 now] w (CwLate c last cs now w) := by
  have hlt := CsAt.lt h
  refine (clate_any c 0 _ last cs now w h).mono ?_
  rintro e w' ⟨v, ls, csr, h1, h2, h3, h4, h5, h6, hf, hc⟩
  exact ⟨fr_below hf hlt (fun i hi => Nat.le_of_lt hi), v, ls, csr, h1, h2, h3, h4, h5, hc⟩
theorem cw_len (c last : Nat) (cs : List Cl) (w : World) (h : Cw w c last cs) :
    Calls Try.prog 8 #[.pointer (some ⟨c, 0, none⟩)] w fun e w' => e = .returned (.int .i64 ((cs.length : Nat) : Int)) ∧ w = w' := clen_any c 0 _ last cs w h
set_option maxHeartbeats 1000000 in
theorem alive21_any (w : World) : Calls Try.prog 5 #[] w fun e w' => e = .returned (.bool true) ∧ w.Extends w' := by
  have HNEW := Lib.hid (Cw.new w)
  have HB0 : Hid (∀ o, Below w.heap.size w (w.alloc o)) := fun o => Gr.below_of (ext_alloc _ _)
  go_enter Try.func5, Try.ntmps5
  go_upto_region 2 with fail
  have HB1 := Lib.hid (HB0.out (.cells #[.pointer none] 27))
  generalize hw1 : World.alloc w _ = w1 at *
  obtain ⟨c, hc⟩ : ∃ c, w.heap.size = c := ⟨_, rfl⟩
  have HCE := Lib.hid hc
  rw [hc] at HNEW HB1 ⊢
  clear hw1 HB0 hc
  have HLN := Lib.hid (cw_len c 0 [] w1 HNEW.out)
  go_wp2_with fail
  refine HLN.out.mono ?_
  rintro e w2 ⟨rfl, rfl⟩
  have HAD := Lib.hid (cw_add c 0 [] 1 2 3 w1 HNEW.out (by omega) (by decide) (by decide))
  simp only [Int.cast_ofNat_Int, List.length_nil]
  clear HLN
  go_wp2_with fail
  refine HAD.out.mono ?_
  rintro e w2 ⟨rfl, hb2, hc2⟩
  have e9 : ([] : List Cl) ++ [⟨((0 : Nat) : Int) + 1, 1, 2, untilOf 3⟩] = [⟨1, 1, 2, 9⟩] := by
    have : untilOf 3 = 9 := by decide
    simp [this]
  rw [e9] at hc2
  have HB2 := Lib.hid (HB1.out.trans hb2)
  have HTK := Lib.hid (cw_take c 1 _ 1 2 w2 hc2 (by decide))
  clear hb2 hc2 HAD HNEW
  simp only [Int.cast_ofNat_Int, Int.zero_add]
  go_wp2_with fail
  refine HTK.out.mono ?_
  rintro e w3 ⟨hb3, ⟨x, cs', h1, h2, h3, rfl, h5⟩ | ⟨h1, _, _⟩⟩
  · have hx : x = ⟨1, 1, 2, 9⟩ := by
      exact List.mem_singleton.1 (h3.mem_iff.1 (List.mem_cons_self))
    subst hx
    have HB3 := Lib.hid (HB2.out.trans hb3)
    have HFX : Hid (∀ w4, w3.Extends w4 → w.Extends w4) := fun w4 hx => by
      have hle := HB3.out.size
      exact Gr.ext_of (by rw [HCE.out]; exact HB3.out.trans ((Gr.below_of hx).mono (by have := HCE.out; omega)))
    have HX4 := Lib.hid (HFX.out _ (ext_alloc w3 (.cells #[.int .i64 1, .int .i64 1, .int .i64 2, .int .i64 9] 30)))
    clear hb3 h3 h5 h1 h2 HTK HB2 HB1 HFX
    go_wp2
    go_ret
    exact ⟨rfl, HX4.out⟩
  · exact absurd rfl (h1 ⟨1, 1, 2, 9⟩ (by simp) rfl)
end Go.Proofs.Ytiiidbomfkjfgaa
