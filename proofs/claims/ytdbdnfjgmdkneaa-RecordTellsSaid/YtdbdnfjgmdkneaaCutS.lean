/- Cuts of a slice of bytes: x[n:], x[:n], x[l:r], as equations for the walk and as what they read as. -/
import Derived.Test.YtdbdnfjgmdkneaaRws
import Derived.Test.YtdbdnfjgmdkneaaMarks
import Derived.Handy
namespace Go.Proofs.Ytdbdnfjgmdkneaa
set_option maxRecDepth 20000
open Go.RowKit
set_option linter.unusedVariables false
theorem U8s.sliced {w : World} {a : Option Addr} {cap : Nat} {xs : List Nat} (h : U8s w (.slice a xs.length cap) xs) (l r : Nat) (hl : l ≤ r) (hr : r ≤ xs.length) : ∃ a', sliced a l r cap 1 = .slice a' (r - l) (cap - l) ∧ U8s w (.slice a' (r - l) (cap - l)) ((xs.take r).drop l) := by
  have hlen : ((xs.take r).drop l).length = r - l := by rw [List.length_drop, List.length_take]; omega
  have hcap : xs.length ≤ cap ∧ cap ≤ maxLen := by
    rcases h with ⟨rfl, a', cap', hv, hm⟩ | ⟨b, off, cap', hv, h2, h2', _⟩
    · cases hv; exact ⟨Nat.zero_le _, hm⟩
    · cases hv; exact ⟨h2, h2'⟩
  unfold Go.sliced
  by_cases h0 : r - l = 0
  · refine ⟨_, rfl, .inl ⟨List.eq_nil_of_length_eq_zero (by omega), _, _, by rw [h0], by omega⟩⟩
  · rw [if_neg (by omega)]
    have hlt := h.lt
    obtain ⟨b, off, rfl, hb, hc⟩ := h.cell.2 (by omega)
    refine ⟨_, rfl, .inr ⟨b, off + l, cap - l, by rw [hlen]; simp [Addr.add_mid], by rw [hlen]; omega, by omega, hb, fun k hk => ?_, fun x hx => hlt x (List.mem_of_mem_take (List.mem_of_mem_drop hx))⟩⟩
    rw [hlen] at hk
    rw [Nat.add_assoc, hc (l + k) (by omega)]
    have e : ((xs.take r).drop l).getD k 0 = xs.getD (l + k) 0 := by
      rw [List.getD_eq_getElem?_getD, List.getElem?_drop, List.getElem?_take, if_pos (by omega), ← List.getD_eq_getElem?_getD]
    rw [e]
/-- The operation of a cut, where its run is known by an equation. -/
theorem wpList_slice {P : Program} {w : World} {ops : Array Oper} {rest : List Oper} {o : Oper} {a : Act} {Q : Exit → Act → World → Prop} (hgd : o.guard = none) (t : TypeId) (x : Operand) (lo hi : Option Operand) (ho : o.op = .slice t x lo hi none)
    (ht : P.underlying t = some (.slice (P.elem t))) (v : Value) (l h : Option Value) (hx : a.eval x = v) (hl : lo.map a.eval = l) (hh : hi.map a.eval = h) {v' : Value}
    (hr : (Instr.slice t v l h none).run P w = .ok v' w) (hk : wpList P ops Q rest (a.put o.dst v') w) : wpList P ops Q (o :: rest) a w := by
  refine wpList_plain hgd fun K hK => ?_
  have hr' : (Instr.sliceAt t v l h none).run P w = .ok v' w := by rw [run_sliceAt_slice (P := P) w t v l h none ht]; exact hr
  unfold Oper.wp
  simp [execOp, ho, hx, hl, hh, hr', Result.andThen]
  exact hK _ _ hk
theorem elemBytes : Try.prog.underlying 26 = some (.slice (Try.prog.elem 26)) := by kernel_rfl
theorem sizeByte (w : World) : (sizeOf (Try.prog.elem 26)).run Try.prog w = .ok 1 w := by
  obtain ⟨i, hi, hz, hs, _⟩ := info_parts byteinfo
  have e : Try.prog.elem 26 = 5 := by kernel_rfl
  rw [e]
  simp [sizeOf, typeInfo, hi, hs]
theorem cut_from {w : World} {v : Value} {xs : List Nat} (h : U8s w v xs) (n : Nat) (hn : n ≤ xs.length) :
    ∃ a c, (∀ w', (Instr.slice 26 v (some (.int .i64 (n : Nat))) none none).run Try.prog w' = .ok (.slice a (xs.length - n) c) w') ∧ U8s w (.slice a (xs.length - n) c) (xs.drop n) := by
  obtain ⟨a, cap, rfl, _, _⟩ := h.slice
  obtain ⟨a', e, hu⟩ := h.sliced n xs.length hn (Nat.le_refl _)
  rw [List.take_length] at hu
  refine ⟨a', cap - n, fun w' => ?_, hu⟩
  rw [run_slice_l (P := Try.prog) w' 26 a xs.length cap elemBytes .i64 n (by omega) (by omega), sizeByte]
  simp only [Result.andThen_ok, Int.toNat_natCast, e]
theorem cut_to {w : World} {v : Value} {xs : List Nat} (h : U8s w v xs) (n : Nat) (hn : n ≤ xs.length) :
    ∃ a c, (∀ w', (Instr.slice 26 v none (some (.int .i64 (n : Nat))) none).run Try.prog w' = .ok (.slice a n c) w') ∧ U8s w (.slice a n c) (xs.take n) := by
  obtain ⟨a, cap, rfl, hc, _⟩ := h.slice
  obtain ⟨a', e, hu⟩ := h.sliced 0 n (Nat.zero_le _) hn
  rw [List.drop_zero] at hu
  refine ⟨a', cap - 0, fun w' => ?_, hu⟩
  rw [run_slice_h (P := Try.prog) w' 26 a xs.length cap elemBytes .i64 n (by omega) (by omega), sizeByte]
  simp only [Result.andThen_ok, Int.toNat_natCast, e, Nat.sub_zero]
theorem cut_part {w : World} {v : Value} {xs : List Nat} (h : U8s w v xs) (l r : Nat) (hl : l ≤ r) (hr : r ≤ xs.length) :
    ∃ a c, (∀ w', (Instr.slice 26 v (some (.int .i64 (l : Nat))) (some (.int .i64 (r : Nat))) none).run Try.prog w' = .ok (.slice a (r - l) c) w') ∧ U8s w (.slice a (r - l) c) ((xs.take r).drop l) := by
  obtain ⟨a, cap, rfl, hc, _⟩ := h.slice
  obtain ⟨a', e, hu⟩ := h.sliced l r hl hr
  refine ⟨a', cap - l, fun w' => ?_, hu⟩
  rw [run_slice_lh (P := Try.prog) w' 26 a xs.length cap elemBytes .i64 .i64 l r (by omega) (by omega) (by omega), sizeByte]
  simp only [Result.andThen_ok, Int.toNat_natCast, e]
end Go.Proofs.Ytdbdnfjgmdkneaa
