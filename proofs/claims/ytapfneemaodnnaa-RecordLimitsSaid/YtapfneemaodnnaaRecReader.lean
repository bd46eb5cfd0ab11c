/- wire.Reader: Of, Number, Rest, Short. -/
import Derived.Test.YtapfneemaodnnaaRecCur
namespace Go.Proofs.Ytapfneemaodnnaa
set_option maxRecDepth 20000
open Go.RowKit Go.Deep
set_option linter.unusedVariables false
theorem number_any (t W : Nat) (s : List Nat × Bool) (w : World) (hW : W ≤ 4) (h : CurAt 60 w t s) :
    Calls Try.prog 27 #[.pointer (some ⟨t, 0, none⟩), .int .i64 W] w (TakeOut 60 w t W s) := by
  obtain ⟨a, c, h0, h1, f0, f1, hu, hh⟩ := h.cells
  obtain ⟨xs, b⟩ := s
  simp only at h0 h1 hu hh
  cases b with
  | true =>
    have HP : Hid (TakeOut 60 w t W (xs, true) (.returned (.int .i64 (0 : Nat))) (w.setCell ⟨t, 1, none⟩ (.bool true))) := by
      refine ⟨by unfold KM.gn; rw [if_pos (Or.inl rfl)], ?_, grown_set _ _ _ _⟩
      unfold KM.gs; rw [if_pos (Or.inl rfl)]
      exact CurAt.short hh hu
    clear hu hh
    go_enter Try.func27, Try.ntmps27
    go_wp2
    go_ret
    exact HP.out
  | false =>
    by_cases hl : xs.length < W
    · have HP : Hid (TakeOut 60 w t W (xs, false) (.returned (.int .i64 (0 : Nat))) (w.setCell ⟨t, 1, none⟩ (.bool true))) := by
        refine ⟨by unfold KM.gn; rw [if_pos (Or.inr hl)], ?_, grown_set _ _ _ _⟩
        unfold KM.gs; rw [if_pos (Or.inr hl)]
        exact CurAt.short hh hu
      clear hu hh
      generalize xs.length = n at *
      go_enter Try.func27, Try.ntmps27
      go_wp2
      go_ret
      exact HP.out
    · obtain ⟨a2, c2, hsl, hd2⟩ := cut_from hu W (by omega)
      have HSL := Lib.hid hsl
      have HP : Hid (TakeOut 60 w t W (xs, false) (.returned (.int .i64 (KM.num (xs.take W) : Nat))) (w.setCell ⟨t, 0, none⟩ (.slice a2 (xs.length - W) c2))) := by
        have c : ¬ ((xs, false).2 = true ∨ (xs, false).1.length < W) := by simp; omega
        refine ⟨by unfold KM.gn; rw [if_neg c], ?_, grown_set _ _ _ _⟩
        unfold KM.gs; rw [if_neg c]
        exact CurAt.left hh (by rw [List.length_drop]) hd2
      obtain ⟨a3, c3, hsl3, hd3⟩ := cut_to hu W (by omega)
      have HSL3 := Lib.hid hsl3
      have HC := Lib.hid hd3.cell.2
      have HLT := Lib.hid hu.lt
      have HNT : Hid (∀ q, q < W → KM.num (xs.take (q + 1)) = KM.num (xs.take q) * 256 + (xs.take W).getD q 0) := fun q hq => by
        rw [KM.num_take_succ xs q (by omega), List.getD_eq_getElem?_getD (l := xs.take W), List.getElem?_take, if_pos hq, ← List.getD_eq_getElem?_getD]
      have HLT3 := Lib.hid hd3.lt
      have hlen := hu.len
      unfold maxLen at hlen
      clear hu hh hsl hd2 hsl3 hd3
      go_enter Try.func27, Try.ntmps27
      go_wp2_with (refine wpList_slice rfl 26 (.tmp 27) none (some (.tmp 28)) rfl elemBytes _ _ _ rfl rfl rfl (HSL3.out _) ?_)
      go_loopw [5, 31] (fun s5 s31 wr => ∃ q : Nat, q ≤ W ∧ s5 = .int .i64 (KM.num (xs.take q) : Nat) ∧ s31 = .int .i64 (q : Nat) ∧ wr = w) (fun _ s31 _ => (W - intOf s31).toNat)
      case atStart => exact ⟨0, by omega, by rfl, by rfl, rfl⟩
      case round =>
        obtain ⟨q, hq, rfl, rfl, rfl⟩ := hrel
        by_cases h : q < W
        · have hb := KM.num_take_lt xs HLT.out q (by omega)
          have HS := Lib.hid (HNT.out q h)
          obtain ⟨g, off, rfl, hg, hcell⟩ := HC.out (by omega)
          have hc := hcell q (by omega)
          have hx : (xs.take W).getD q 0 < 256 := getD_lt _ HLT3.out q
          generalize (xs.take W).getD q 0 = x at *
          generalize KM.num (xs.take q) = m at *
          have hor := i64_or_byte m x (by omega) hx
          clear hcell
          go_wp2
          go_roundw
          case rel => exact ⟨q + 1, by omega, by rw [HS.out]; go_num, by go_num, trivial⟩
          case measure => simp [intOf]; omega
        · obtain rfl : q = W := by omega
          go_wp2_with (refine wpList_slice rfl 26 (.tmp 45) (some (.tmp 46)) none rfl elemBytes _ _ _ rfl rfl rfl (HSL.out _) ?_)
          go_ret
          exact HP.out
theorem of_any (v : Value) (xs : List Nat) (w : World) (h : U8s w v xs) :
    Calls Try.prog 21 #[v] w fun e w' => ∃ t, e = .returned (.pointer (some ⟨t, 0, none⟩)) ∧ CurAt 60 w' t (xs, false) ∧ w.Extends w' ∧ w.heap.size ≤ t := by
  obtain ⟨a, c, rfl, _, _⟩ := h.slice
  have HP : Hid (∃ t, Ending.returned (.pointer (some ⟨w.heap.size, 0, none⟩)) = .returned (.pointer (some ⟨t, 0, none⟩)) ∧ CurAt 60 (w.alloc (.cells #[.slice a xs.length c, .bool false] 60)) t (xs, false) ∧ w.Extends (w.alloc (.cells #[.slice a xs.length c, .bool false] 60)) ∧ w.heap.size ≤ t) :=
    ⟨_, rfl, CurAt.new h, ext_alloc _ _, Nat.le_refl _⟩
  clear h
  go_enter Try.func21, Try.ntmps21
  go_wp2
  go_ret
  exact HP.out
theorem short_any (t : Nat) (s : List Nat × Bool) (w : World) (h : CurAt 60 w t s) :
    Calls Try.prog 29 #[.pointer (some ⟨t, 0, none⟩)] w fun e w' => e = .returned (.bool s.2) ∧ w = w' := by
  obtain ⟨a, c, h0, h1, f0, f1, hu, hh⟩ := h.cells
  clear hu hh
  go_enter Try.func29, Try.ntmps29
  go_wp2
  go_ret
  exact ⟨rfl, rfl⟩
theorem rest_any (t : Nat) (s : List Nat × Bool) (w : World) (h : CurAt 60 w t s) :
    Calls Try.prog 28 #[.pointer (some ⟨t, 0, none⟩)] w fun e w' => ∃ a c, e = .returned (.slice a s.1.length c) ∧ U8s w' (.slice a s.1.length c) s.1 ∧ CurAt 60 w' t ([], s.2) ∧ w.grownBy w' (some t) := by
  obtain ⟨a, c, h0, h1, f0, f1, hu, hh⟩ := h.cells
  have HP : Hid (∃ a' c', Ending.returned (.slice a s.1.length c) = .returned (.slice a' s.1.length c') ∧ U8s (w.setCell ⟨t, 0, none⟩ (.slice none 0 0)) (.slice a' s.1.length c') s.1 ∧ CurAt 60 (w.setCell ⟨t, 0, none⟩ (.slice none 0 0)) t ([], s.2) ∧ w.grownBy (w.setCell ⟨t, 0, none⟩ (.slice none 0 0)) (some t)) :=
    ⟨a, c, rfl, hu.beside hh (cur_cells _ _ _ _) (grown_set _ _ _ _), CurAt.left hh rfl (nil_u8s _ _ _), grown_set _ _ _ _⟩
  clear hu hh h
  go_enter Try.func28, Try.ntmps28
  go_wp2
  go_ret
  exact HP.out
end Go.Proofs.Ytapfneemaodnnaa
