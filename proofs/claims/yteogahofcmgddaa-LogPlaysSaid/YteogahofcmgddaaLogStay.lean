/- What stays where a log's block is written, or a slice of rows grows; a cut of a slice of rows. -/
import Derived.Test.YteogahofcmgddaaLogLaw
namespace Go.Proofs.Yteogahofcmgddaa
set_option maxRecDepth 20000
open Go.RowKit Go.Deep
set_option linter.unusedVariables false
theorem below_of_ext {w w' : World} {B : Nat} (h : w.Extends w') (hB : B ≤ w.heap.size) : Below B w w' := ⟨h.os, h.tape, h.output, h.size, fun i hi => h.block i (by omega)⟩
theorem LAt.block {w : World} {t s : Nat} {l : List (List Nat)} (h : LAt w t l s) : ∃ p, w.heap[t]? = some (.cells #[.pointer p, .int .i64 ((s : Nat) : Int)] 27 (0, 0)) := by
  obtain ⟨p, h1, _⟩ := h
  exact ⟨p, h1⟩
/-- A log stays while a slice of elements of another type grows. -/
theorem LAt.row {w w' : World} {t s B n : Nat} {l : List (List Nat)} {T : TypeId} {v : Value} {vs : List Value} (h : LAt w t l s) (ho : w.ownsRow B T 1 v n vs) (hT1 : T ≠ 47) (hT2 : T ≠ 27) (hg : w.grownBy w' v.ownBlock) : LAt w' t l s := by
  cases hv : v.ownBlock with
  | none =>
    rw [hv] at hg
    exact h.ext (grown_none hg)
  | some g =>
    rw [hv] at hg
    obtain ⟨cs, hc⟩ := owns_at ho hv
    refine h.grown hg hc hT1 (fun e => ?_)
    subst e
    obtain ⟨p, hb⟩ := h.block
    rw [hb] at hc
    simp only [Option.some.injEq, Obj.cells.injEq] at hc
    exact hT2 hc.2.1.symm
/-- A slice of rows of a call's own stays where a log's block is written. -/
theorem Mats.logged {w w' : World} {B R t k s : Nat} {T : TypeId} {v : Value} {l m : List (List Nat)} (h : Mats w B R T v k l) (hl : LAt w t m s) (hT : T ≠ 27) (hR : R ≤ t) (hg : w.grownBy w' (some t)) : Mats w' B R T v k l := by
  obtain ⟨p, hb⟩ := hl.block
  obtain ⟨vs, ho, hr⟩ := h
  have hne : ∀ (g : Nat) (cs : Array Value) (T' : TypeId), w.heap[g]? = some (.cells cs T' (0, 0)) → T' ≠ 27 → g ≠ t := fun g cs T' hc hT' e => by
    subst e
    rw [hb] at hc
    simp only [Option.some.injEq, Obj.cells.injEq] at hc
    exact hT' hc.2.1.symm
  refine ⟨vs, ho.kept hg ?_, fun j hj => ?_⟩
  · cases hv : v.ownBlock with
    | none => exact .inl rfl
    | some g =>
      obtain ⟨cs, hc⟩ := owns_at ho hv
      exact .inr fun e => hne g cs T hc hT (Option.some.inj e)
  · obtain ⟨u, h1, h2⟩ := hr j hj
    refine ⟨u, h1, h2.grown hg ?_⟩
    rcases h2.2 with h3 | h3
    · exact .inl h3
    · refine .inr fun e => ?_
      obtain ⟨h4, h5⟩ := h3 t e
      rcases h5 with h5 | ⟨cs, hc⟩
      · omega
      · exact hne t cs _ hc (by decide) rfl
/-- Rows stay where a log's block is written: neither bytes nor slices lie in it. -/
theorem Rws.logged {w w' : World} {t s : Nat} {v : Value} {l m : List (List Nat)} (h : Rws w v l) (hl : LAt w t m s) (hg : w.grownBy w' (some t)) : Rws w' v l := by
  obtain ⟨p, hb⟩ := hl.block
  rcases h with h | ⟨b, off, cap, hv, h2, h2', h3, h4⟩
  · exact .inl h
  · by_cases h0 : l.length = 0
    · refine .inl ⟨List.eq_nil_of_length_eq_zero h0, _, _, by rw [hv, h0]⟩
    · have hne : b ≠ t := fun e => by
        subst e
        obtain ⟨u, hu, hr⟩ := h4 0 (by omega)
        obtain ⟨a, c, rfl, _⟩ := hr.slice
        rw [cell_of_row _ _ _ _ _ _ hb] at hu
        obtain ⟨hlt, hq⟩ := Array.getElem?_eq_some_iff.1 hu
        have : Value.slice a (l.getD 0 []).length c ∈ (#[Value.pointer p, .int .i64 ((s : Nat) : Int)] : Array Value).toList := by rw [← hq]; exact Array.getElem_mem_toList hlt
        simp at this
      refine .inr ⟨b, off, cap, hv, h2, h2', Nat.lt_of_lt_of_le h3 hg.size, fun k hk => ?_⟩
      obtain ⟨u, hu, hr⟩ := h4 k hk
      refine ⟨u, ?_, hr.beside hb (fun y hy n e => ?_) hg⟩
      · rw [World.cell?_of_block (w := w) (w' := w') (a := ⟨b, off + k, none⟩) (hg.block b h3 (by simpa using hne))]
        exact hu
      · subst e; simp at hy
theorem elemRows : Try.prog.underlying 40 = some (.slice (Try.prog.elem 40)) := by kernel_rfl
theorem sizeRow (w : World) : (sizeOf (Try.prog.elem 40)).run Try.prog w = .ok 1 w := by
  obtain ⟨i, hi, hz, hs, _⟩ := info_parts bytesinfo
  have e : Try.prog.elem 40 = 29 := by kernel_rfl
  rw [e]
  simp [sizeOf, typeInfo, hi, hs]
theorem cutrows_to {w : World} {v : Value} {l : List (List Nat)} (h : Rws w v l) (hc : ∀ a n c, v = .slice a n c → n ≤ c ∧ c ≤ maxLen) (n : Nat) (hn : n ≤ l.length) :
    ∃ a c, (∀ w', (Instr.slice 40 v none (some (.int .i64 (n : Nat))) none).run Try.prog w' = .ok (.slice a n c) w') ∧ Rws w (.slice a n c) (l.take n) := by
  obtain ⟨a, cap, rfl, hcap⟩ := h.slice
  have hm := (hc _ _ _ rfl).2
  have hlen : (l.take n).length = n := by rw [List.length_take]; omega
  by_cases h0 : n = 0
  · subst h0
    have e : ∃ a', sliced a 0 0 cap 1 = .slice a' 0 cap := ⟨_, rfl⟩
    obtain ⟨a', e⟩ := e
    refine ⟨a', cap, fun w' => ?_, .inl ⟨by simp, _, _, rfl⟩⟩
    rw [run_slice_h (P := Try.prog) w' 40 a l.length cap elemRows .i64 ((0 : Nat) : Int) (by omega) (by omega), sizeRow]
    simp only [Result.andThen_ok, Int.toNat_natCast, e]
  · rcases h with ⟨rfl, _⟩ | ⟨b, off, cap', hv, h2, h2', h3, h4⟩
    · simp at hn; omega
    · cases hv
      have e : sliced (some ⟨b, off, none⟩) 0 n cap 1 = .slice (some ⟨b, off, none⟩) n cap := by
        unfold Go.sliced
        rw [if_neg (by omega)]
        simp [Addr.add_mid]
      refine ⟨some ⟨b, off, none⟩, cap, fun w' => ?_, .inr ⟨b, off, cap, by rw [hlen], by omega, h2', h3, fun k hk => ?_⟩⟩
      · rw [run_slice_h (P := Try.prog) w' 40 _ l.length cap elemRows .i64 ((n : Nat) : Int) (by omega) (by omega), sizeRow]
        simp only [Result.andThen_ok, Int.toNat_natCast, e]
      · obtain ⟨u, hu, hr⟩ := h4 k (by omega)
        refine ⟨u, hu, ?_⟩
        rw [show (l.take n).getD k [] = l.getD k [] by simp [List.getD_eq_getElem?_getD, show k < n by omega]]
        exact hr
theorem Mats.cut {w : World} {B R k : Nat} {T : TypeId} {v : Value} {l : List (List Nat)} (h : Mats w B R T v k l) (hk : k = l.length) (n : Nat) (hn : n ≤ k) :
    ∃ a c, (∀ w', (Instr.slice 40 v none (some (.int .i64 (n : Nat))) none).run Try.prog w' = .ok (.slice a n c) w') ∧ Rws w (.slice a n c) (l.take n) := by
  refine cutrows_to (h.rws hk) (fun a n c e => ?_) n (by omega)
  obtain ⟨vs, ho, _⟩ := h
  rcases ho.2 with ⟨rfl, _⟩ | ⟨g, cap, cur, rfl, hbg, hg, hnc, hcm, _⟩
  · cases e; exact ⟨Nat.le_refl _, Nat.zero_le _⟩
  · cases e; exact ⟨hnc, hcm⟩
namespace LM
theorem size_take_le (l : List (List Nat)) (k : Nat) : ∀ (i : Nat), (∀ j, j < i → (l.getD j []).length ≤ k) → size (l.take i) ≤ (k + 2) * i
  | 0, _ => by simp [size]
  | i + 1, h => by
    have ih := size_take_le l k i fun j hj => h j (by omega)
    by_cases hi : i < l.length
    · rw [← take_snoc l i hi, size_snoc, Nat.mul_succ]
      have := h i (by omega)
      omega
    · rw [List.take_of_length_le (by omega)]
      rw [List.take_of_length_le (by omega)] at ih
      rw [Nat.mul_succ]; omega
/-- One piece more, asked whether it still fits. -/
theorem upto_step (k : Int) (l : List (List Nat)) (i : Nat) (hi : i < l.length) : (upto k.toNat (l.take (i + 1))).length = if ((size (l.take (i + 1)) : Nat) : Int) ≤ k then i + 1 else (upto k.toNat (l.take i)).length := by
  have hs := take_snoc l i hi
  have hpos : 2 ≤ size (l.take (i + 1)) := by rw [← hs, size_snoc]; omega
  split
  · rename_i h
    rw [upto_all (by omega), List.length_take]; omega
  · rename_i h
    have hlt : k.toNat < size (l.take (i + 1)) := by omega
    rw [← hs] at hlt ⊢
    rw [upto_snoc hlt]
/-- What a crash leaves: what was sure, and of the rest the whole pieces. -/
theorem upto_sure (k : Int) (a b : List (List Nat)) : upto (keep (size a) k (size (a ++ b))) (a ++ b) = a ++ upto k.toNat b := by
  unfold keep
  rw [size_append, show size a + size b - size a = size b by omega, upto_append, upto_cap]
theorem upto_again (k : Int) (l : List (List Nat)) : upto (keep (size l) k (size l)) l = l := by
  unfold keep
  exact upto_all (by omega)
theorem upto_part (k : Nat) (a b : List (List Nat)) : (a ++ b).take (a.length + (upto k b).length) = a ++ upto k b := by
  rw [List.take_length_add_append, ← upto_take]
end LM
end Go.Proofs.Yteogahofcmgddaa
