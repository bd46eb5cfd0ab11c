/- wire.Reader: Of, Number, Rest, Short. -/
import Derived.Test.YtdbdnfjgmdkneaaRecCur
namespace Go.Proofs.Ytdbdnfjgmdkneaa
set_option maxRecDepth 20000
open Go.RowKit Go.Deep
set_option linter.unusedVariables false
/-- A cut with a bound of its own: x[:n:n]. -/
theorem wpList_slice3 {P : Program} {w : World} {ops : Array Oper} {rest : List Oper} {o : Oper} {a : Act} {Q : Exit → Act → World → Prop} (hgd : o.guard = none) (t : TypeId) (x : Operand) (lo hi mx : Option Operand) (ho : o.op = .slice t x lo hi mx)
    (ht : P.underlying t = some (.slice (P.elem t))) (v : Value) (l h m : Option Value) (hx : a.eval x = v) (hl : lo.map a.eval = l) (hh : hi.map a.eval = h) (hm : mx.map a.eval = m) {v' : Value}
    (hr : (Instr.slice t v l h m).run P w = .ok v' w) (hk : wpList P ops Q rest (a.put o.dst v') w) : wpList P ops Q (o :: rest) a w := by
  refine wpList_plain hgd fun K hK => ?_
  have hr' : (Instr.sliceAt t v l h m).run P w = .ok v' w := by rw [run_sliceAt_slice (P := P) w t v l h m ht]; exact hr
  unfold Oper.wp
  simp [execOp, ho, hx, hl, hh, hm, hr', Result.andThen]
  exact hK _ _ hk
theorem cut_top {w : World} {v : Value} {xs : List Nat} (h : U8s w v xs) (n : Nat) (hn : n ≤ xs.length) :
    ∃ a c, (∀ w', (Instr.slice 26 v none (some (.int .i64 (n : Nat))) (some (.int .i64 (n : Nat)))).run Try.prog w' = .ok (.slice a n c) w') ∧ U8s w (.slice a n c) (xs.take n) := by
  obtain ⟨a, cap, rfl, hc, hm⟩ := h.slice
  have hlen : (xs.take n).length = n := by rw [List.length_take]; omega
  have hlt : ∀ x ∈ xs.take n, x < 256 := fun x hx => h.lt x (List.mem_of_mem_take hx)
  refine ⟨if n = 0 then a else a.map (·.add 0), n, fun w' => ?_, ?_⟩
  · rw [run_slice_hm (P := Try.prog) w' 26 a xs.length cap elemBytes .i64 .i64 n n (by omega) (by omega) (by omega), sizeByte]
    simp only [Result.andThen_ok, Int.toNat_natCast, Go.sliced, Nat.sub_zero, Nat.zero_mul]
  · by_cases h0 : n = 0
    · subst h0
      exact .inl ⟨by simp, _, 0, rfl, Nat.zero_le _⟩
    · rw [if_neg h0]
      obtain ⟨b, off, rfl, hb, hcell⟩ := h.cell.2 (by omega)
      refine .inr ⟨b, off, n, by rw [hlen]; simp [Addr.add_mid], by rw [hlen]; exact Nat.le_refl _, by omega, hb, fun k hk => ?_, hlt⟩
      rw [hlen] at hk
      rw [hcell k (by omega)]
      have e : (xs.take n).getD k 0 = xs.getD k 0 := by
        rw [List.getD_eq_getElem?_getD, List.getElem?_take, if_pos (by omega), ← List.getD_eq_getElem?_getD]
      rw [e]
/-- Taking a piece of so many bytes. -/
def KM.pc (n : Nat) (s : List Nat × Bool) : List Nat := if s.2 = true ∨ s.1.length < n then [] else s.1.take n
theorem KM.gn_pc (n : Nat) (s : List Nat × Bool) : KM.gn n s = KM.num (KM.pc n s) := by
  unfold KM.gn KM.pc
  split <;> rfl
theorem KM.pc_len (n : Nat) (s : List Nat × Bool) : (KM.pc n s).length ≤ n := by
  unfold KM.pc
  split
  · exact Nat.zero_le _
  · rw [List.length_take]; omega
/-- What taking a piece answers. -/
def PieceOut (T : TypeId) (w : World) (t n : Nat) (s : List Nat × Bool) (e : Ending) (w' : World) : Prop := ∃ a c, e = .returned (.slice a (KM.pc n s).length c) ∧ U8s w' (.slice a (KM.pc n s).length c) (KM.pc n s) ∧ CurAt T w' t (KM.gs n s) ∧ w.grownBy w' (some t)
theorem piece_any (t n : Nat) (s : List Nat × Bool) (w : World) (hn : n ≤ 1000000) (h : CurAt 126 w t s) :
    Calls Try.prog 101 #[.pointer (some ⟨t, 0, none⟩), .int .i64 n] w (PieceOut 126 w t n s) := by
  obtain ⟨a, c, h0, h1, f0, f1, hu, hh⟩ := h.cells
  obtain ⟨xs, b⟩ := s
  simp only at h0 h1 hu hh
  have hlen := hu.len
  unfold maxLen at hlen
  have HPB : (b = true ∨ xs.length < n) → Hid (PieceOut 126 w t n (xs, b) (.returned (.slice none 0 0)) (w.setCell ⟨t, 1, none⟩ (.bool true))) := fun hc => by
    have e : KM.pc n (xs, b) = [] := by unfold KM.pc; rw [if_pos hc]
    refine ⟨none, 0, by rw [e]; rfl, by rw [e]; exact nil_u8s _ _ _, ?_, grown_set _ _ _ _⟩
    unfold KM.gs; rw [if_pos hc]
    exact CurAt.short hh hu
  cases b with
  | true =>
    have HP := HPB (Or.inl rfl)
    clear hu hh HPB hlen
    go_enter Try.func101, Try.ntmps101
    go_wp2
    go_ret
    exact HP.out
  | false =>
    by_cases hl : xs.length < n
    · have HP := HPB (Or.inr hl)
      clear hu hh HPB
      generalize xs.length = m at *
      go_enter Try.func101, Try.ntmps101
      go_wp2
      go_ret
      exact HP.out
    · obtain ⟨a2, c2, hsl, hd2⟩ := cut_from hu n (by omega)
      obtain ⟨a3, c3, hsl3, hd3⟩ := cut_top hu n (by omega)
      have HSL := Lib.hid hsl
      have HSL3 := Lib.hid hsl3
      have HP : Hid (PieceOut 126 w t n (xs, false) (.returned (.slice a3 n c3)) (w.setCell ⟨t, 0, none⟩ (.slice a2 (xs.length - n) c2))) := by
        have c : ¬ ((xs, false).2 = true ∨ (xs, false).1.length < n) := by simp; omega
        have e : KM.pc n (xs, false) = xs.take n := by unfold KM.pc; rw [if_neg c]
        have el : (KM.pc n (xs, false)).length = n := by rw [e, List.length_take]; omega
        refine ⟨a3, c3, by rw [el], by rw [el, e]; exact hd3.beside hh (cur_cells _ _ _ _) (grown_set _ _ _ _), ?_, grown_set _ _ _ _⟩
        unfold KM.gs; rw [if_neg c]
        exact CurAt.left hh (by rw [List.length_drop]) hd2
      clear hu hh hsl hd2 hsl3 hd3 HPB
      generalize xs.length = m at *
      go_enter Try.func101, Try.ntmps101
      go_wp2_with (first | refine wpList_slice3 rfl 26 (.tmp 25) none (some (.tmp 26)) (some (.tmp 27)) rfl elemBytes _ _ _ _ rfl rfl rfl rfl (HSL3.out _) ?_ | refine wpList_slice rfl 26 (.tmp 33) (some (.tmp 34)) none rfl elemBytes _ _ _ rfl rfl rfl (HSL.out _) ?_)
      go_ret
      exact HP.out
theorem number_any (t W : Nat) (s : List Nat × Bool) (w : World) (hW : W ≤ 4) (h : CurAt 126 w t s) :
    Calls Try.prog 83 #[.pointer (some ⟨t, 0, none⟩), .int .i64 W] w (TakeOut 126 w t W s) := by
  have HPI := Lib.hid (piece_any t W s w (by omega) h)
  clear h
  go_enter Try.func83, Try.ntmps83
  go_wp2_with fail
  refine HPI.out.mono ?_
  rintro e w1 ⟨a, c, rfl, hu, hc, hg⟩
  have HP : Hid (TakeOut 126 w t W s (.returned (.int .i64 (KM.num (KM.pc W s) : Nat))) w1) := ⟨by rw [KM.gn_pc], hc, hg⟩
  have hl := KM.pc_len W s
  clear HPI hc hg
  generalize KM.pc W s = ys at *
  have HC := Lib.hid hu.cell.2
  have HLT := Lib.hid hu.lt
  have HNT := Lib.hid (KM.num_take_succ ys)
  have HNL : Hid (KM.num ys = KM.num (ys.take ys.length)) := by show _ = _; rw [List.take_length]
  clear hu
  generalize ys.length = n at *
  go_wp2_with fail
  go_loopw [5, 12] (fun s5 s12 wr => ∃ q : Nat, q ≤ n ∧ s5 = .int .i64 (KM.num (ys.take q) : Nat) ∧ s12 = .int .i64 (q : Nat) ∧ wr = w1) (fun _ s12 _ => (n - intOf s12).toNat)
  case atStart => exact ⟨0, by omega, by rfl, by rfl, rfl⟩
  case round =>
    obtain ⟨q, hq, rfl, rfl, rfl⟩ := hrel
    by_cases h : q < n
    · have hb := KM.num_take_lt ys HLT.out q (by omega)
      have HS := Lib.hid (HNT.out q h)
      obtain ⟨g, off, rfl, hg, hcell⟩ := HC.out (by omega)
      have hc := hcell q (by omega)
      have hx : ys.getD q 0 < 256 := getD_lt ys HLT.out q
      generalize ys.getD q 0 = x at *
      generalize KM.num (ys.take q) = m at *
      have hor := i64_or_byte m x (by omega) hx
      clear hcell
      go_wp2
      go_roundw
      case rel => exact ⟨q + 1, by omega, by rw [HS.out]; go_num, by go_num, trivial⟩
      case measure => simp [intOf]; omega
    · obtain rfl : q = n := by omega
      rw [← HNL.out]
      go_wp2
      go_ret
      exact HP.out
theorem of_any (v : Value) (xs : List Nat) (w : World) (h : U8s w v xs) :
    Calls Try.prog 61 #[v] w fun e w' => ∃ t, e = .returned (.pointer (some ⟨t, 0, none⟩)) ∧ CurAt 126 w' t (xs, false) ∧ w.Extends w' ∧ w.heap.size ≤ t := by
  obtain ⟨a, c, rfl, _, _⟩ := h.slice
  have HP : Hid (∃ t, Ending.returned (.pointer (some ⟨w.heap.size, 0, none⟩)) = .returned (.pointer (some ⟨t, 0, none⟩)) ∧ CurAt 126 (w.alloc (.cells #[.slice a xs.length c, .bool false] 126)) t (xs, false) ∧ w.Extends (w.alloc (.cells #[.slice a xs.length c, .bool false] 126)) ∧ w.heap.size ≤ t) :=
    ⟨_, rfl, CurAt.new h, ext_alloc _ _, Nat.le_refl _⟩
  clear h
  go_enter Try.func61, Try.ntmps61
  go_wp2
  go_ret
  exact HP.out
theorem short_any (t : Nat) (s : List Nat × Bool) (w : World) (h : CurAt 126 w t s) :
    Calls Try.prog 85 #[.pointer (some ⟨t, 0, none⟩)] w fun e w' => e = .returned (.bool s.2) ∧ w = w' := by
  obtain ⟨a, c, h0, h1, f0, f1, hu, hh⟩ := h.cells
  clear hu hh
  go_enter Try.func85, Try.ntmps85
  go_wp2
  go_ret
  exact ⟨rfl, rfl⟩
theorem rest_any (t : Nat) (s : List Nat × Bool) (w : World) (h : CurAt 126 w t s) :
    Calls Try.prog 84 #[.pointer (some ⟨t, 0, none⟩)] w fun e w' => ∃ a c, e = .returned (.slice a s.1.length c) ∧ U8s w' (.slice a s.1.length c) s.1 ∧ CurAt 126 w' t ([], s.2) ∧ w.grownBy w' (some t) := by
  obtain ⟨a, c, h0, h1, f0, f1, hu, hh⟩ := h.cells
  have HP : Hid (∃ a' c', Ending.returned (.slice a s.1.length c) = .returned (.slice a' s.1.length c') ∧ U8s (w.setCell ⟨t, 0, none⟩ (.slice none 0 0)) (.slice a' s.1.length c') s.1 ∧ CurAt 126 (w.setCell ⟨t, 0, none⟩ (.slice none 0 0)) t ([], s.2) ∧ w.grownBy (w.setCell ⟨t, 0, none⟩ (.slice none 0 0)) (some t)) :=
    ⟨a, c, rfl, hu.beside hh (cur_cells _ _ _ _) (grown_set _ _ _ _), CurAt.left hh rfl (nil_u8s _ _ _), grown_set _ _ _ _⟩
  clear hu hh h
  go_enter Try.func84, Try.ntmps84
  go_wp2
  go_ret
  exact HP.out
end Go.Proofs.Ytdbdnfjgmdkneaa
