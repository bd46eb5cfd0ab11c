/- In one text: RecReader, GrowR, RecTaken, Prm, PrmAt. -/
import Derived.Maps.Range
import Derived.Maps.AppendAt
import Derived.Test.YtdbdnfjgmdkneaaRows
import Derived.WalkKit
import Derived.Handy
import Derived.Lib.Hide
import Derived.IntWalk
import Derived.Test.YtdbdnfjgmdkneaaMD1
import Derived.Test.YtdbdnfjgmdkneaaMD2
namespace Go.Proofs.Ytdbdnfjgmdkneaa
set_option maxRecDepth 20000
open Go.RowKit Go.Deep
set_option linter.unusedVariables false
/-- A cut with a bound of its own: x[:n:n]. -/
theorem wpList_slice3 {P : Program} {w : World} {ops : Array Oper} {rest : List Oper} {o : Oper} {a : Act} {Q : Exit → Act → World → Prop} (hgd : o.guard = none) (t : TypeId) (x : Operand) (lo hi mx : Option Operand) (ho : o.op = .slice t x lo hi mx)
    (ht : P.underlying t = some (.slice (P.elem t))) (v : Value) (l h m : Option Value) (hx : a.eval x = v) (hl : lo.map a.eval = l) (hh : hi.map a.eval = h) (hm : mx.map a.eval = m) {v' : Value}
    (hr : (Instr.slice t v l h m).run P w = .ok v' w) (hk : wpList P ops Q rest (a.put o.dst v') w) : wpList P ops Q (o :: rest) a w := by
  refine wpList_plain hgd fun K hK => ?_
  have hr' : (Instr.sliceAt t v l h m).run P w = .ok v' w := by rw [run_sliceAt_slice (P := P) w t v l h m ht]; exact hr
  unfold Oper.wp
  simp [execOp, ho, hx, hl, hh, hm, hr', Result.andThen]
  exact hK _ _ hk
theorem cut_top {w : World} {v : Value} {xs : List Nat} (h : U8s w v xs) (n : Nat) (hn : n ≤ xs.length) :
    ∃ a c, (∀ w', (Instr.slice 26 v none (some (.int .i64 (n : Nat))) (some (.int .i64 (n : Nat)))).run Try.prog w' = .ok (.slice a n c) w') ∧ U8s w (.slice a n c) (xs.take n) := by
  obtain ⟨a, cap, rfl, hc, hm⟩ := h.slice
  have hlen : (xs.take n).length = n := by rw [List.length_take]; omega
  have hlt : ∀ x ∈ xs.take n, x < 256 := fun x hx => h.lt x (List.mem_of_mem_take hx)
  refine ⟨if n = 0 then a else a.map (·.add 0), n, fun w' => ?_, ?_⟩
  · rw [run_slice_hm (P := Try.prog) w' 26 a xs.length cap elemBytes .i64 .i64 n n (by omega) (by omega) (by omega), sizeByte]
    simp only [Result.andThen_ok, Int.toNat_natCast, Go.sliced, Nat.sub_zero, Nat.zero_mul]
  · by_cases h0 : n = 0
    · subst h0
      exact .inl ⟨by simp, _, 0, rfl, Nat.zero_le _⟩
    · rw [if_neg h0]
      obtain ⟨b, off, rfl, hb, hcell⟩ := h.cell.2 (by omega)
      refine .inr ⟨b, off, n, by rw [hlen]; simp [Addr.add_mid], by rw [hlen]; exact Nat.le_refl _, by omega, hb, fun k hk => ?_, hlt⟩
      rw [hlen] at hk
      rw [hcell k (by omega)]
      have e : (xs.take n).getD k 0 = xs.getD k 0 := by
        rw [List.getD_eq_getElem?_getD, List.getElem?_take, if_pos (by omega), ← List.getD_eq_getElem?_getD]
      rw [e]
/-- Taking a piece of so many bytes. -/
def KM.pc (n : Nat) (s : List Nat × Bool) : List Nat := if s.2 = true ∨ s.1.length < n then [] else s.1.take n
theorem KM.gn_pc (n : Nat) (s : List Nat × Bool) : KM.gn n s = KM.num (KM.pc n s) := by
  unfold KM.gn KM.pc
  split <;> rfl
theorem KM.pc_len (n : Nat) (s : List Nat × Bool) : (KM.pc n s).length ≤ n := by
  unfold KM.pc
  split
  · exact Nat.zero_le _
  · rw [List.length_take]; omega
/-- What taking a piece answers. -/
def PieceOut (T : TypeId) (w : World) (t n : Nat) (s : List Nat × Bool) (e : Ending) (w' : World) : Prop := ∃ a c, e = .returned (.slice a (KM.pc n s).length c) ∧ U8s w' (.slice a (KM.pc n s).length c) (KM.pc n s) ∧ CurAt T w' t (KM.gs n s) ∧ w.grownBy w' (some t)
theorem piece_any (t n : Nat) (s : List Nat × Bool) (w : World) (hn : n ≤ 1000000) (h : CurAt 126 w t s) :
    Calls Try.prog 101 #[.pointer (some ⟨t, 0, none⟩), .int .i64 n] w (PieceOut 126 w t n s) := by
  obtain ⟨a, c, h0, h1, f0, f1, hu, hh⟩ := h.cells
  obtain ⟨xs, b⟩ := s
  simp only at h0 h1 hu hh
  have hlen := hu.len
  unfold maxLen at hlen
  have HPB : (b = true ∨ xs.length < n) → Hid (PieceOut 126 w t n (xs, b) (.returned (.slice none 0 0)) (w.setCell ⟨t, 1, none⟩ (.bool true))) := fun hc => by
    have e : KM.pc n (xs, b) = [] := by unfold KM.pc; rw [if_pos hc]
    refine ⟨none, 0, by rw [e]; rfl, by rw [e]; exact nil_u8s _ _ _, ?_, grown_set _ _ _ _⟩
    unfold KM.gs; rw [if_pos hc]
    exact CurAt.short hh hu
  cases b with
  | true =>
    have HP := HPB (Or.inl rfl)
    clear hu hh HPB hlen
    go_enter Try.func101, Try.ntmps101
    go_wp2
    go_ret
    exact HP.out
  | false =>
    by_cases hl : xs.length < n
    · have HP := HPB (Or.inr hl)
      clear hu hh HPB
      generalize xs.length = m at *
      go_enter Try.func101, Try.ntmps101
      go_wp2
      go_ret
      exact HP.out
    · obtain ⟨a2, c2, hsl, hd2⟩ := cut_from hu n (by omega)
      obtain ⟨a3, c3, hsl3, hd3⟩ := cut_top hu n (by omega)
      have HSL := Lib.hid hsl
      have HSL3 := Lib.hid hsl3
      have HP : Hid (PieceOut 126 w t n (xs, false) (.returned (.slice a3 n c3)) (w.setCell ⟨t, 0, none⟩ (.slice a2 (xs.length - n) c2))) := by
        have c : ¬ ((xs, false).2 = true ∨ (xs, false).1.length < n) := by simp; omega
        have e : KM.pc n (xs, false) = xs.take n := by unfold KM.pc; rw [if_neg c]
        have el : (KM.pc n (xs, false)).length = n := by rw [e, List.length_take]; omega
        refine ⟨a3, c3, by rw [el], by rw [el, e]; exact hd3.beside hh (cur_cells _ _ _ _) (grown_set _ _ _ _), ?_, grown_set _ _ _ _⟩
        unfold KM.gs; rw [if_neg c]
        exact CurAt.left hh (by rw [List.length_drop]) hd2
      clear hu hh hsl hd2 hsl3 hd3 HPB
      generalize xs.length = m at *
      go_enter Try.func101, Try.ntmps101
      go_wp2_with (first | refine wpList_slice3 rfl 26 (.tmp 25) none (some (.tmp 26)) (some (.tmp 27)) rfl elemBytes _ _ _ _ rfl rfl rfl rfl (HSL3.out _) ?_ | refine wpList_slice rfl 26 (.tmp 33) (some (.tmp 34)) none rfl elemBytes _ _ _ rfl rfl rfl (HSL.out _) ?_)
      go_ret
      exact HP.out
theorem number_any (t W : Nat) (s : List Nat × Bool) (w : World) (hW : W ≤ 4) (h : CurAt 126 w t s) :
    Calls Try.prog 83 #[.pointer (some ⟨t, 0, none⟩), .int .i64 W] w (TakeOut 126 w t W s) := by
  have HPI := Lib.hid (piece_any t W s w (by omega) h)
  clear h
  go_enter Try.func83, Try.ntmps83
  go_wp2_with fail
  refine HPI.out.mono ?_
  rintro e w1 ⟨a, c, rfl, hu, hc, hg⟩
  have HP : Hid (TakeOut 126 w t W s (.returned (.int .i64 (KM.num (KM.pc W s) : Nat))) w1) := ⟨by rw [KM.gn_pc], hc, hg⟩
  have hl := KM.pc_len W s
  clear HPI hc hg
  generalize KM.pc W s = ys at *
  have HC := Lib.hid hu.cell.2
  have HLT := Lib.hid hu.lt
  have HNT := Lib.hid (KM.num_take_succ ys)
  have HNL : Hid (KM.num ys = KM.num (ys.take ys.length)) := by show _ = _; rw [List.take_length]
  clear hu
  generalize ys.length = n at *
  go_wp2_with fail
  go_loopw [5, 12] (fun s5 s12 wr => ∃ q : Nat, q ≤ n ∧ s5 = .int .i64 (KM.num (ys.take q) : Nat) ∧ s12 = .int .i64 (q : Nat) ∧ wr = w1) (fun _ s12 _ => (n - intOf s12).toNat)
  case atStart => exact ⟨0, by omega, by rfl, by rfl, rfl⟩
  case round =>
    obtain ⟨q, hq, rfl, rfl, rfl⟩ := hrel
    by_cases h : q < n
    · have hb := KM.num_take_lt ys HLT.out q (by omega)
      have HS := Lib.hid (HNT.out q h)
      obtain ⟨g, off, rfl, hg, hcell⟩ := HC.out (by omega)
      have hc := hcell q (by omega)
      have hx : ys.getD q 0 < 256 := getD_lt ys HLT.out q
      generalize ys.getD q 0 = x at *
      generalize KM.num (ys.take q) = m at *
      have hor := i64_or_byte m x (by omega) hx
      clear hcell
      go_wp2
      go_roundw
      case rel => exact ⟨q + 1, by omega, by rw [HS.out]; go_num, by go_num, trivial⟩
      case measure => simp [intOf]; omega
    · obtain rfl : q = n := by omega
      rw [← HNL.out]
      go_wp2
      go_ret
      exact HP.out
theorem of_any (v : Value) (xs : List Nat) (w : World) (h : U8s w v xs) :
    Calls Try.prog 61 #[v] w fun e w' => ∃ t, e = .returned (.pointer (some ⟨t, 0, none⟩)) ∧ CurAt 126 w' t (xs, false) ∧ w.Extends w' ∧ w.heap.size ≤ t := by
  obtain ⟨a, c, rfl, _, _⟩ := h.slice
  have HP : Hid (∃ t, Ending.returned (.pointer (some ⟨w.heap.size, 0, none⟩)) = .returned (.pointer (some ⟨t, 0, none⟩)) ∧ CurAt 126 (w.alloc (.cells #[.slice a xs.length c, .bool false] 126)) t (xs, false) ∧ w.Extends (w.alloc (.cells #[.slice a xs.length c, .bool false] 126)) ∧ w.heap.size ≤ t) :=
    ⟨_, rfl, CurAt.new h, ext_alloc _ _, Nat.le_refl _⟩
  clear h
  go_enter Try.func61, Try.ntmps61
  go_wp2
  go_ret
  exact HP.out
theorem short_any (t : Nat) (s : List Nat × Bool) (w : World) (h : CurAt 126 w t s) :
    Calls Try.prog 85 #[.pointer (some ⟨t, 0, none⟩)] w fun e w' => e = .returned (.bool s.2) ∧ w = w' := by
  obtain ⟨a, c, h0, h1, f0, f1, hu, hh⟩ := h.cells
  clear hu hh
  go_enter Try.func85, Try.ntmps85
  go_wp2
  go_ret
  exact ⟨rfl, rfl⟩
theorem rest_any (t : Nat) (s : List Nat × Bool) (w : World) (h : CurAt 126 w t s) :
    Calls Try.prog 84 #[.pointer (some ⟨t, 0, none⟩)] w fun e w' => ∃ a c, e = .returned (.slice a s.1.length c) ∧ U8s w' (.slice a s.1.length c) s.1 ∧ CurAt 126 w' t ([], s.2) ∧ w.grownBy w' (some t) := by
  obtain ⟨a, c, h0, h1, f0, f1, hu, hh⟩ := h.cells
  have HP : Hid (∃ a' c', Ending.returned (.slice a s.1.length c) = .returned (.slice a' s.1.length c') ∧ U8s (w.setCell ⟨t, 0, none⟩ (.slice none 0 0)) (.slice a' s.1.length c') s.1 ∧ CurAt 126 (w.setCell ⟨t, 0, none⟩ (.slice none 0 0)) t ([], s.2) ∧ w.grownBy (w.setCell ⟨t, 0, none⟩ (.slice none 0 0)) (some t)) :=
    ⟨a, c, rfl, hu.beside hh (cur_cells _ _ _ _) (grown_set _ _ _ _), CurAt.left hh rfl (nil_u8s _ _ _), grown_set _ _ _ _⟩
  clear hu hh h
  go_enter Try.func84, Try.ntmps84
  go_wp2
  go_ret
  exact HP.out
end Go.Proofs.Ytdbdnfjgmdkneaa
namespace Go.Proofs.Ytdbdnfjgmdkneaa
set_option maxRecDepth 20000
open Go.RowKit
namespace GrR
open Gr (AnyE check growB pick)
section
variable {P : Program} {ops : Array Oper} {Q : Exit → Act → World → Prop} {md : Region.Mode} {S : World → Prop}
def walk (B : Option Nat) (P : Program) (ops : Array Oper) (Q : Exit → Act → World → Prop) (tail : List Oper) : List (Bool × Oper) → Act → World → Prop
  | [], a, w => wpList P ops Q tail a w
  | (true, o) :: rest, a, w => if Region.wanted o (yielded ops a.tmps) = true then o.wp P a w (fun a' w' => w.grownBy w' B ∧ walk B P ops Q tail rest a' w') Q else walk B P ops Q tail rest (a.put o.dst undef) w
  | (false, o) :: rest, a, w => ∃ v, YieldsIf P ops (fun w' => w.grownBy w' B) o v a ∧ walk B P ops Q tail rest (a.put o.dst v) w
theorem walk_nil {B : Option Nat} {tail : List Oper} {a : Act} {w : World} (h : wpList P ops Q tail a w) : walk B P ops Q tail [] a w := h
/-- An operation that is taken. -/
theorem walk_t {B : Option Nat} {tail : List Oper} {rest : List (Bool × Oper)} {o : Oper} {a : Act} {w : World} (v : Value) (hy : YieldsIf P ops (fun w' => w.grownBy w' B) o v a) (h : walk B P ops Q tail rest (a.put o.dst v) w) :
    walk B P ops Q tail ((false, o) :: rest) a w := ⟨v, hy, h⟩
/-- An operation that is carried out. -/
theorem walk_c {B : Option Nat} {tail : List Oper} {rest : List (Bool × Oper)} {o : Oper} {a : Act} {w : World}
    (h : ∀ K : Act → World → Prop, Shut (∀ a' w', w.grownBy w' B → walk B P ops Q tail rest a' w' → K a' w') → if Region.wanted o (yielded ops a.tmps) = true then o.wp P a w K Q else K (a.put o.dst undef) w) :
    walk B P ops Q tail ((true, o) :: rest) a w := by
  have h0 := h (fun a' w' => w.grownBy w' B ∧ walk B P ops Q tail rest a' w') (fun _ _ h1 h2 => ⟨h1, h2⟩)
  unfold walk
  split
  · rename_i hw; rw [if_pos hw] at h0; exact h0
  · rename_i hw; rw [if_neg hw] at h0; exact h0.2

theorem walk_sound (B : Option Nat) {l : List Oper} {n : Nat} (hsel : Region.noSelect l.toArray = true) (hs : Region.sinkB md l.toArray n = true) (hc : Region.chainB md l.toArray n = true) (hn : n < l.toArray.size)
    (hQ : ∀ d v c a w, Q (.panic c) (Act.put a d v) w → Q (.panic c) a w) :
    ∀ (ord : List (Bool × Nat)) (listed : Array Bool) (a : Act) (w : World), HeadInv md l.toArray n listed → check md l.toArray n (l.toArray.size - n) ord listed = true →
      walk B P l.toArray Q (l.drop n) (pick l ord) a w →
      AnyE P md l.toArray Q n (fun listed' a' w' => Region.seqB md l.toArray (l.toArray.size - n) n listed' = true ∧ wpList P l.toArray Q (l.drop n) a' w') (fun w' => w.grownBy w' B) ord.length listed a w
  | [], listed, a, w, _, hB, h => ⟨hB, h⟩
  | (c, i) :: rest, listed, a, w, inv, hB, h => by
    simp only [check, Bool.and_eq_true, decide_eq_true_eq] at hB
    obtain ⟨⟨hin, hr⟩, hB'⟩ := hB
    have hil : i < l.length := by have : l.toArray.size = l.length := by simp
                                  omega
    have ho : l[i]? = some l[i] := List.getElem?_eq_getElem hil
    have hoa : l.toArray[i]? = some l[i] := by simp
    simp only [pick, ho] at h
    cases c with
    | true =>
      simp only [decide_eq_true_eq] at hr
      refine ⟨(by rw [hr]; simp), fun j hj => ?_⟩
      rw [hr] at hj
      obtain rfl : j = i := by simpa using hj
      refine ⟨hin, ?_⟩
      have hrm : j ∈ Region.ready md l.toArray listed := by rw [hr]; simp
      unfold walk at h
      unfold wpOp
      simp only [hoa]
      split
      · rename_i hw
        rw [if_pos hw] at h
        exact .inl (Oper.wp_mono (fun a' w' hk => ⟨hk.1, AnyE.weaken (fun u hu => grown_trans hk.1 hu) _ _ _ _ (walk_sound B hsel hs hc hn hQ rest _ a' w' (inv.set hrm hin) hB' hk.2)⟩) h)
      · rename_i hw
        rw [if_neg hw] at h
        exact ⟨grown_refl w B, walk_sound B hsel hs hc hn hQ rest _ _ w (inv.set hrm hin) hB' h⟩
    | false =>
      simp only [Bool.and_eq_true] at hr
      unfold walk at h
      obtain ⟨v, hy, hK⟩ := h
      have hrm : i ∈ Region.ready md l.toArray listed := by simpa using hr.1
      exact AnyE.first hoa (Region.noSelect_spec hsel) hs hc hn hin (fun c a w => hQ _ v c a w) (fun listed' a' w' hL => seqB_ready hL.1) rest.length listed a w inv (Region.free_spec hoa hr.2) hrm hy (grown_refl w B)
        (walk_sound B hsel hs hc hn hQ rest _ _ w (inv.set hrm hin) hB' hK)

theorem region (B : Option Nat) {id : Nat} {a : Act} {w : World} {l : List Oper} (n : Nat) (ord : List (Bool × Nat)) (hm : P.follows .mixedOrders = true) (hB : growB .any l.toArray n ord = true)
    (hQ : ∀ d v c a w, Q (.panic c) (Act.put a d v) w → Q (.panic c) a w)
    (h : walk B P l.toArray Q (l.drop n) (pick l ord) a w.drew) : (Code.region id l.toArray true).wp P Q a w := by
  simp only [growB, Bool.and_eq_true, decide_eq_true_eq] at hB
  obtain ⟨⟨⟨⟨⟨hsel, hn⟩, hs⟩, hc⟩, hlen⟩, hck⟩ := hB
  have hdl : (l.drop n).length = l.toArray.size - n := by simp
  have inv0 : HeadInv .any l.toArray n (Array.replicate l.toArray.size false) :=
    ⟨by simp, fun j oj _ hl => (by rw [getD_replicate_false] at hl; cases hl), fun t _ ht => getD_in (by simpa using ht) (getD_replicate_false _ _)⟩
  have H := walk_sound B (md := .any) hsel hs hc hn hQ ord _ a w.drew inv0 hck h
  refine wp_region_any hm ?_
  have := AnyE.any (Q := Q) (g := l.toArray.size - n) (fun listed a' w' hL => by
    have := wpAny_of_seq (md := .any) (Q' := Q) (l.drop n) n listed a' w' (fun j => by simp [List.getElem?_drop]) (by rw [hdl]; exact hL.1) hL.2
    rwa [hdl] at this) _ _ _ _ H
  rw [hlen] at this
  exact this
end
end GrR
end Go.Proofs.Ytdbdnfjgmdkneaa
namespace Go.Proofs.Ytdbdnfjgmdkneaa
set_option maxRecDepth 20000
open Go.RowKit Go.Deep
set_option linter.unusedVariables false
/-- A record's variable: these are its ten cells. -/
def R10 (w : World) (b : Nat) (l : List Value) : Prop := w.heap[b]? = some (.cells l.toArray 28)
theorem R10.cell {w : World} {b : Nat} {l : List Value} (h : R10 w b l) (i : Nat) (v : Value) (hv : l[i]? = some v) : w.cell? ⟨b, i, none⟩ = some v := by
  rw [cell_of_row _ _ _ _ _ _ h, List.getElem?_toArray]; exact hv
theorem R10.frozen {w : World} {b : Nat} {l : List Value} (h : R10 w b l) (i : Nat) : w.frozen? ⟨b, i, none⟩ = false := frozen_of_row _ _ _ _ _ h
theorem R10.set {w : World} {b : Nat} {l : List Value} (h : R10 w b l) (i : Nat) (v : Value) : R10 (w.setCell ⟨b, i, none⟩ v) b (l.set i v) := by
  unfold R10 at *
  rw [heap_setCell_same _ _ _ _ _ _ h, List.setIfInBounds_toArray]
theorem R10.kept {w w' : World} {b t : Nat} {l : List Value} (h : R10 w b l) (hg : w.grownBy w' (some t)) (hne : b ≠ t) : R10 w' b l := by
  unfold R10 at *
  rw [hg.block b (Array.getElem?_eq_some_iff.1 h).1 (by simpa using hne)]; exact h
theorem R10.ext {w w' : World} {b : Nat} {l : List Value} (h : R10 w b l) (hx : w.Extends w') : R10 w' b l := by
  unfold R10 at *
  rw [hx.block b (Array.getElem?_eq_some_iff.1 h).1]; exact h
theorem R10.lt {w : World} {b : Nat} {l : List Value} (h : R10 w b l) : b < w.heap.size := (Array.getElem?_eq_some_iff.1 h).1
theorem grown_nothing (w : World) (r : Option Nat) : w.grownBy w r := ⟨rfl, rfl, rfl, Nat.le_refl _, fun _ _ _ => rfl⟩
/-- No byte is in them. -/
def No8 (l : List Value) : Prop := ∀ y ∈ l, ∀ n, y ≠ .int .u8 n
theorem U8s.by10 {w w' : World} {v : Value} {xs : List Nat} {b : Nat} {l : List Value} (h : U8s w v xs) (hb : R10 w b l) (hl : No8 l) (hg : w.grownBy w' (some b)) : U8s w' v xs :=
  h.beside hb hl hg
theorem CurAt.by10 {T : TypeId} {w w' : World} {t : Nat} {s : List Nat × Bool} {b : Nat} {l : List Value} (h : CurAt T w t s) (hb : R10 w b l) (hl : No8 l) (hg : w.grownBy w' (some b)) (hne : b ≠ t) : CurAt T w' t s := by
  have ht := h.lt
  obtain ⟨a, c, h1, h2⟩ := h
  exact ⟨a, c, by rw [hg.block t ht (by simpa using fun e => hne e.symm)]; exact h1, h2.by10 hb hl hg⟩
def TakenOut (w : World) (t : Nat) (xs : List Nat) (e : Ending) (w' : World) : Prop :=
  ∃ a c, e = .returned (.tuple #[(KM.tk xs).1.val (.slice a (KM.tk xs).1.d.length c), .bool ((decide ((KM.tk xs).2.1 = 0) || decide ((KM.tk xs).2.1 = 1)) && !(KM.tk xs).2.2)]) ∧ U8s w' (.slice a (KM.tk xs).1.d.length c) (KM.tk xs).1.d ∧ w.grownBy w' (some t)
set_option maxHeartbeats 2000000 in
theorem taken_any (xs : List Nat) (t : Nat) (w : World) (h : CurAt 126 w t (xs, false)) :
    Calls Try.prog 60 #[.pointer (some ⟨t, 0, none⟩)] w (TakenOut w t xs) := by
  have ht := h.lt
  obtain ⟨s0, hs0⟩ : ∃ s, s = ((xs, false) : List Nat × Bool) := ⟨_, rfl⟩
  rw [← hs0] at h
  have HS0 := Lib.hid hs0
  have H0 := Lib.hid h
  clear h hs0
  go_enter Try.func60, Try.ntmps60
  go_wp2_with fail
  generalize hw1 : World.alloc (World.alloc w _) _ = w1
  have hx1 : w.Extends w1 := by subst hw1; exact Gr.ext_trans (ext_alloc _ _) (ext_alloc _ _)
  have ha : R10 w1 w.heap.size [.int .i64 0, .int .i64 0, .int .i64 0, .int .i64 0, .int .i64 0, .int .i64 0, .int .i64 0, .bool false, .int .i64 0, .slice none 0 0] := by subst hw1; unfold R10; rw [Go.heap_alloc_old (h := by simp)]; exact heap_alloc_new _ _
  have hr : R10 w1 (w.heap.size + 1) [.int .i64 0, .int .i64 0, .int .i64 0, .int .i64 0, .int .i64 0, .int .i64 0, .int .i64 0, .bool false, .int .i64 0, .slice none 0 0] := by subst hw1; have h := heap_alloc_new (w.alloc (.cells ([.int .i64 0, .int .i64 0, .int .i64 0, .int .i64 0, .int .i64 0, .int .i64 0, .int .i64 0, .bool false, .int .i64 0, .slice none 0 0] : List Value).toArray 28)) (.cells ([.int .i64 0, .int .i64 0, .int .i64 0, .int .i64 0, .int .i64 0, .int .i64 0, .int .i64 0, .bool false, .int .i64 0, .slice none 0 0] : List Value).toArray 28); rw [show (w.alloc (.cells ([.int .i64 0, .int .i64 0, .int .i64 0, .int .i64 0, .int .i64 0, .int .i64 0, .int .i64 0, .bool false, .int .i64 0, .slice none 0 0] : List Value).toArray 28)).heap.size = w.heap.size + 1 by simp] at h; exact h
  have HC1 := Lib.hid (H0.out.ext hx1)
  have HG1 : Hid (w.grownBy w1 (some t)) := ⟨hx1.os, hx1.tape, hx1.output, hx1.size, fun i hi _ => hx1.block i hi⟩
  obtain ⟨b4, hb4⟩ : ∃ b, b = w.heap.size + 1 := ⟨_, rfl⟩
  obtain ⟨b2, hb2⟩ : ∃ b, b = w.heap.size := ⟨_, rfl⟩
  rw [← hb4] at hr ⊢
  rw [← hb2] at ha ⊢
  have HA1 := Lib.hid ha
  have HR1 := Lib.hid hr
  have HNE : Hid (b2 ≠ t ∧ b4 ≠ t ∧ b4 ≠ b2 ∧ w.heap.size ≤ b2 ∧ w.heap.size ≤ b4) := by show _ ∧ _; omega
  clear hw1 hx1 ha hr hb2 hb4 ht H0
  refine (number_any t 1 s0 w1 (by omega) HC1.out).mono ?_
  rintro e' w2 ⟨rfl, hc, hg⟩
  obtain ⟨q, hL⟩ : ∃ q, q = KM.gn 1 s0 := ⟨_, rfl⟩
  obtain ⟨s1, hs⟩ : ∃ s', s' = KM.gs 1 s0 := ⟨_, rfl⟩
  rw [← hL]
  rw [← hs] at hc
  have HLq := Lib.hid hL
  have HS1 := Lib.hid hs
  have HC2 := Lib.hid hc
  have HG2 := Lib.hid (HG1.out.trans hg)
  have HA2 := Lib.hid (HA1.out.kept hg HNE.out.1)
  have HR2 := Lib.hid (HR1.out.kept hg HNE.out.2.1)
  clear hL hs hc hg HC1 HG1 HA1 HR1
  go_wp2_with fail
  refine (number_any t 4 s1 w2 (by omega) HC2.out).mono ?_
  rintro e' w3 ⟨rfl, hc, hg⟩
  obtain ⟨p, hL⟩ : ∃ p, p = KM.gn 4 s1 := ⟨_, rfl⟩
  obtain ⟨s2, hs⟩ : ∃ s', s' = KM.gs 4 s1 := ⟨_, rfl⟩
  rw [← hL]
  rw [← hs] at hc
  have HLp := Lib.hid hL
  have HS2 := Lib.hid hs
  have HC3 := Lib.hid hc
  have HG3 := Lib.hid (HG2.out.trans hg)
  have HA3 := Lib.hid (HA2.out.kept hg HNE.out.1)
  have HR3 := Lib.hid (HR2.out.kept hg HNE.out.2.1)
  clear hL hs hc hg HC2 HG2 HA2 HR2
  go_wp2_with fail
  refine (number_any t 4 s2 w3 (by omega) HC3.out).mono ?_
  rintro e' w4 ⟨rfl, hc, hg⟩
  obtain ⟨n, hL⟩ : ∃ n, n = KM.gn 4 s2 := ⟨_, rfl⟩
  obtain ⟨s3, hs⟩ : ∃ s', s' = KM.gs 4 s2 := ⟨_, rfl⟩
  rw [← hL]
  rw [← hs] at hc
  have HLn := Lib.hid hL
  have HS3 := Lib.hid hs
  have HC4 := Lib.hid hc
  have HG4 := Lib.hid (HG3.out.trans hg)
  have HA4 := Lib.hid (HA3.out.kept hg HNE.out.1)
  have HR4 := Lib.hid (HR3.out.kept hg HNE.out.2.1)
  clear hL hs hc hg HC3 HG3 HA3 HR3
  go_wp2_with fail
  refine (number_any t 4 s3 w4 (by omega) HC4.out).mono ?_
  rintro e' w5 ⟨rfl, hc, hg⟩
  obtain ⟨u, hL⟩ : ∃ u, u = KM.gn 4 s3 := ⟨_, rfl⟩
  obtain ⟨s4, hs⟩ : ∃ s', s' = KM.gs 4 s3 := ⟨_, rfl⟩
  rw [← hL]
  rw [← hs] at hc
  have HLu := Lib.hid hL
  have HS4 := Lib.hid hs
  have HC5 := Lib.hid hc
  have HG5 := Lib.hid (HG4.out.trans hg)
  have HA5 := Lib.hid (HA4.out.kept hg HNE.out.1)
  have HR5 := Lib.hid (HR4.out.kept hg HNE.out.2.1)
  clear hL hs hc hg HC4 HG4 HA4 HR4
  have t0 := HR5.out.cell 0 _ rfl
  have t1 := HR5.out.cell 1 _ rfl
  have t8 := HR5.out.cell 8 _ rfl
  have t7 := HR5.out.cell 7 _ rfl
  have f0 := HR5.out.frozen 0
  have f1 := HR5.out.frozen 1
  have f8 := HR5.out.frozen 8
  have f7 := HR5.out.frozen 7
  have hb := HR5.out.lt
  by_cases hk : q = 1
  · have hq0 : (((q : Int)) == 0) = false := by rw [beq_eq_false_iff_ne]; omega
    have hq1 : (((q : Int)) == 1) = true := by rw [beq_iff_eq]; omega
    have hk1 : (((q : Int)) == 1) = true := by rw [beq_iff_eq]; omega
    go_wp2_with fail
    clear hk1
    clear t0 f0 t1 f1 t8 f8 t7 f7 hb
    obtain ⟨w6, hw⟩ : ∃ w', w' = (((w5.setCell ⟨b4, 0, none⟩ (.int .i64 (p : Nat))).setCell ⟨b4, 1, none⟩ (.int .i64 (n : Nat))).setCell ⟨b4, 8, none⟩ (.int .i64 (u : Nat))).setCell ⟨b4, 7, none⟩ (.bool true) := ⟨_, rfl⟩
    rw [← hw]
    have hg : w5.grownBy w6 (some b4) := by subst hw; exact (((grown_set w5 b4 0 (.int .i64 (p : Nat))).trans (grown_set _ b4 1 (.int .i64 (n : Nat)))).trans (grown_set _ b4 8 (.int .i64 (u : Nat)))).trans (grown_set _ b4 7 (.bool true))
    have HR6 : Hid (R10 w6 b4 [.int .i64 (p : Nat), .int .i64 (n : Nat), .int .i64 0, .int .i64 0, .int .i64 0, .int .i64 0, .int .i64 0, .bool true, .int .i64 (u : Nat), .slice none 0 0]) := by subst hw; exact ((((HR5.out.set 0 (.int .i64 (p : Nat))).set 1 (.int .i64 (n : Nat))).set 8 (.int .i64 (u : Nat))).set 7 (.bool true))
    have HA6 := Lib.hid (HA5.out.kept hg (fun e => HNE.out.2.2.1 e.symm))
    have HC6 := Lib.hid (HC5.out.by10 HR5.out (by intro y hy n e; subst e; simp at hy) hg HNE.out.2.1)
    have HG6 := Lib.hid (HG5.out.andThen hg (fun j hj => .inl (by have := HNE.out; simp at hj; omega)))
    clear hw hg HR5 HA5 HC5 HG5
    refine (rest_any t s4 w6 HC6.out).mono ?_
    rintro e' w7 ⟨ra, rc, rfl, hu, hc, hg⟩
    have HU7 := Lib.hid hu
    have HC7 := Lib.hid hc
    have HG7 := Lib.hid (HG6.out.trans hg)
    have HA7 := Lib.hid (HA6.out.kept hg HNE.out.1)
    have HR7 := Lib.hid (HR6.out.kept hg HNE.out.2.1)
    clear hu hc hg HC6 HG6 HA6 HR6
    obtain ⟨rs, rb⟩ := s4
    simp only at HU7 HC7 ⊢
    obtain ⟨rl, hrl⟩ : ∃ rl, rl = rs.length := ⟨_, rfl⟩
    rw [← hrl] at HU7 ⊢
    have HRL := Lib.hid hrl
    clear hrl
    have t9 := HR7.out.cell 9 _ rfl
    have f9 := HR7.out.frozen 9
    have hb := HR7.out.lt
    go_wp2_with fail
    clear t9 f9 hb
    obtain ⟨w8, hw⟩ : ∃ w', w' = w7.setCell ⟨b4, 9, none⟩ (.slice ra rl rc) := ⟨_, rfl⟩
    rw [← hw]
    have hg : w7.grownBy w8 (some b4) := by subst hw; exact grown_set w7 b4 9 (.slice ra rl rc)
    have HR8 : Hid (R10 w8 b4 [.int .i64 (p : Nat), .int .i64 (n : Nat), .int .i64 0, .int .i64 0, .int .i64 0, .int .i64 0, .int .i64 0, .bool true, .int .i64 (u : Nat), .slice ra rl rc]) := by subst hw; exact (HR7.out.set 9 (.slice ra rl rc))
    have HA8 := Lib.hid (HA7.out.kept hg (fun e => HNE.out.2.2.1 e.symm))
    have HC8 := Lib.hid (HC7.out.by10 HR7.out (by intro y hy n e; subst e; simp at hy) hg HNE.out.2.1)
    have HG8 := Lib.hid (HG7.out.andThen hg (fun j hj => .inl (by have := HNE.out; simp at hj; omega)))
    have HUN := Lib.hid (HU7.out.by10 HR7.out (by intro y hy n e; subst e; simp at hy) hg)
    clear hw hg HR7 HA7 HC7 HG7 HU7
    have HU8 := HUN
    clear HUN
    obtain ⟨RR, hRR⟩ : ∃ RR, RR = some b2 := ⟨_, rfl⟩
    have HCF : Hid (∀ w', w8.drew.grownBy w' RR → R10 w' b4 [.int .i64 (p : Nat), .int .i64 (n : Nat), .int .i64 0, .int .i64 0, .int .i64 0, .int .i64 0, .int .i64 0, .bool true, .int .i64 (u : Nat), .slice ra rl rc]) := fun w' hw' => HR8.out.kept (t := b2) ⟨hw'.os, hw'.tape, hw'.output, hw'.size, fun i hi hne => hw'.block i hi (by rw [hRR]; exact hne)⟩ HNE.out.2.2.1
    have HZ2 := HA8
    refine GrR.region RR 13 [(false,0),(false,1),(false,2),(false,3),(false,4),(false,5),(false,6),(false,7),(false,8),(true,9),(false,10),(false,11),(true,12)] (by kernel_rfl) (by kernel_rfl) (fun d _ _ _ _ h => by cases d <;> exact h) ?_
    simp only [Gr.pick, List.getElem?_cons_zero, List.getElem?_cons_succ, List.drop_succ_cons, List.drop_zero]
    have HCd : Hid (CurAt 126 w8.drew t ([], rb)) := HC8.out.ext (Gr.ext_drew (Gr.ext_refl _))
    have HGd : Hid (w.grownBy w8.drew (some t)) := ⟨HG8.out.os, HG8.out.tape, HG8.out.output, HG8.out.size, HG8.out.block⟩
    have HAd : Hid (R10 w8.drew b2 [.int .i64 0, .int .i64 0, .int .i64 0, .int .i64 0, .int .i64 0, .int .i64 0, .int .i64 0, .bool false, .int .i64 0, .slice none 0 0]) := HA8.out
    have HUd : Hid (U8s w8.drew (.slice ra rl rc) rs) := HU8.out.ext (Gr.ext_drew (Gr.ext_refl _))
    clear HC8 HG8 HA8 HR8 HU8 HZ2
    generalize w8.drew = w9 at *
    refine GrR.walk_t ?_ (Or.inl ⟨by rfl, ?_⟩) ?_
    rotate_left
    · intro w' hw'
      have hq := HCF.out w' hw'
      have t0 := hq.cell 0 _ rfl
      have t1 := hq.cell 1 _ rfl
      have t2 := hq.cell 2 _ rfl
      have t3 := hq.cell 3 _ rfl
      have t4 := hq.cell 4 _ rfl
      have t5 := hq.cell 5 _ rfl
      have t6 := hq.cell 6 _ rfl
      have t7 := hq.cell 7 _ rfl
      have t8 := hq.cell 8 _ rfl
      have t9 := hq.cell 9 _ rfl
      clear hw'
      go_simp
      try with_reducible rfl
    simp only [Act.put, List.setIfInBounds_toArray, List.set_cons_zero, List.set_cons_succ]
    iterate 8
      refine GrR.walk_t ?_ (Or.inl ⟨by rfl, ?_⟩) ?_
      rotate_left
      · intro w' hw'
        have hq := HCF.out w' hw'
        have t0 := hq.cell 0 _ rfl
        have t1 := hq.cell 1 _ rfl
        have t2 := hq.cell 2 _ rfl
        have t3 := hq.cell 3 _ rfl
        have t4 := hq.cell 4 _ rfl
        have t5 := hq.cell 5 _ rfl
        have t6 := hq.cell 6 _ rfl
        have t7 := hq.cell 7 _ rfl
        have t8 := hq.cell 8 _ rfl
        have t9 := hq.cell 9 _ rfl
        clear hw'
        go_simp
        try with_reducible rfl
      simp only [Act.put, List.setIfInBounds_toArray, List.set_cons_zero, List.set_cons_succ]
    refine GrR.walk_c (fun K hK => ?_)
    go_simp
    refine (short_any t ([], rb) w9 HCd.out).mono ?_
    rintro e' w10 ⟨rfl, rfl⟩
    try go_simp
    refine hK.out _ _ (grown_nothing _ _) ?_
    clear hK K
    iterate 2
      refine GrR.walk_t ?_ (Or.inl ⟨by rfl, ?_⟩) ?_
      rotate_left
      · intro w' hw'
        clear hw'
        go_simp
        try with_reducible rfl
      simp only [Act.put, List.setIfInBounds_toArray, List.set_cons_zero, List.set_cons_succ]
    refine GrR.walk_c (fun K hK => ?_)
    have t0 := HAd.out.cell 0 _ rfl
    have t1 := HAd.out.cell 1 _ rfl
    have t2 := HAd.out.cell 2 _ rfl
    have t3 := HAd.out.cell 3 _ rfl
    have t4 := HAd.out.cell 4 _ rfl
    have t5 := HAd.out.cell 5 _ rfl
    have t6 := HAd.out.cell 6 _ rfl
    have t7 := HAd.out.cell 7 _ rfl
    have t8 := HAd.out.cell 8 _ rfl
    have t9 := HAd.out.cell 9 _ rfl
    have f0 := HAd.out.frozen 0
    have f1 := HAd.out.frozen 1
    have f2 := HAd.out.frozen 2
    have f3 := HAd.out.frozen 3
    have f4 := HAd.out.frozen 4
    have f5 := HAd.out.frozen 5
    have f6 := HAd.out.frozen 6
    have f7 := HAd.out.frozen 7
    have f8 := HAd.out.frozen 8
    have f9 := HAd.out.frozen 9
    go_simp
    clear t0 f0 t1 f1 t2 f2 t3 f3 t4 f4 t5 f5 t6 f6 t7 f7 t8 f8 t9 f9
    obtain ⟨wf, hw⟩ : ∃ w', w' = ((((((((((w9).setCell ⟨b2, 0, none⟩ (.int .i64 (p : Nat))).setCell ⟨b2, 1, none⟩ (.int .i64 (n : Nat))).setCell ⟨b2, 2, none⟩ (.int .i64 0)).setCell ⟨b2, 3, none⟩ (.int .i64 0)).setCell ⟨b2, 4, none⟩ (.int .i64 0)).setCell ⟨b2, 5, none⟩ (.int .i64 0)).setCell ⟨b2, 6, none⟩ (.int .i64 0)).setCell ⟨b2, 7, none⟩ (.bool true)).setCell ⟨b2, 8, none⟩ (.int .i64 (u : Nat))).setCell ⟨b2, 9, none⟩ (.slice ra rl rc) := ⟨_, rfl⟩
    rw [← hw]
    have hg : w9.grownBy wf (some b2) := by subst hw; exact (((((((((grown_set w9 b2 0 (.int .i64 (p : Nat))).trans (grown_set _ b2 1 (.int .i64 (n : Nat)))).trans (grown_set _ b2 2 (.int .i64 0))).trans (grown_set _ b2 3 (.int .i64 0))).trans (grown_set _ b2 4 (.int .i64 0))).trans (grown_set _ b2 5 (.int .i64 0))).trans (grown_set _ b2 6 (.int .i64 0))).trans (grown_set _ b2 7 (.bool true))).trans (grown_set _ b2 8 (.int .i64 (u : Nat)))).trans (grown_set _ b2 9 (.slice ra rl rc))
    have HAF : R10 wf b2 [.int .i64 (p : Nat), .int .i64 (n : Nat), .int .i64 0, .int .i64 0, .int .i64 0, .int .i64 0, .int .i64 0, .bool true, .int .i64 (u : Nat), .slice ra rl rc] := by subst hw; exact ((((((((((HAd.out.set 0 (.int .i64 (p : Nat))).set 1 (.int .i64 (n : Nat))).set 2 (.int .i64 0)).set 3 (.int .i64 0)).set 4 (.int .i64 0)).set 5 (.int .i64 0)).set 6 (.int .i64 0)).set 7 (.bool true)).set 8 (.int .i64 (u : Nat))).set 9 (.slice ra rl rc))
    have HUF := HUd.out.by10 HAd.out (by intro y hy n e; subst e; simp at hy) hg
    have HGF := HGd.out.andThen hg (fun j hj => .inl (by have := HNE.out; simp at hj; omega))
    refine hK.out _ _ (by rw [hRR]; exact hg) ?_
    clear hK K hw hg HCF HCd HGd HAd HUd
    refine GrR.walk_nil ?_
    have HTK : KM.tk xs = ((⟨(p : Nat), (n : Nat), 0, 0, 0, 0, 0, true, (u : Nat), rs⟩ : Rc), q, rb) := by
      unfold KM.tk
      simp only
      rw [← HS0.out, ← HS1.out, ← HS2.out, ← HS3.out, ← HS4.out, ← HLq.out, ← HLp.out, ← HLn.out, ← HLu.out, if_pos hk, hk]
    have HP : Hid (TakenOut w t xs (.returned (.tuple #[.agg #[.int .i64 (p : Nat), .int .i64 (n : Nat), .int .i64 0, .int .i64 0, .int .i64 0, .int .i64 0, .int .i64 0, .bool true, .int .i64 (u : Nat), .slice ra rl rc], .bool (!rb)])) wf) := by
      unfold TakenOut
      rw [HTK]
      refine ⟨ra, rc, ?_, by rw [← HRL.out]; exact HUF, HGF⟩
      simp only
      rw [← HRL.out]
      have hd : ((decide (q = 0) || decide (q = 1)) && !rb) = (!rb) := by simp [hk]
      rw [hd]
      rfl
    clear HTK HUF HGF hk
    have t0 := HAF.cell 0 _ rfl
    have t1 := HAF.cell 1 _ rfl
    have t2 := HAF.cell 2 _ rfl
    have t3 := HAF.cell 3 _ rfl
    have t4 := HAF.cell 4 _ rfl
    have t5 := HAF.cell 5 _ rfl
    have t6 := HAF.cell 6 _ rfl
    have t7 := HAF.cell 7 _ rfl
    have t8 := HAF.cell 8 _ rfl
    have t9 := HAF.cell 9 _ rfl
    have hbl := HAF.lt
    clear HAF
    go_wp2
    refine bodyPost_ret (by simp [results, Try.results60, go_sem, t0, t1, t2, t3, t4, t5, t6, t7, t8, t9]; try rfl) rfl ?_
    exact HP.out
  · have hk1 : (((q : Int)) == 1) = false := by rw [beq_eq_false_iff_ne]; omega
    go_wp2_with fail
    clear hk1
    clear t0 f0 t1 f1 t8 f8 t7 f7 hb
    obtain ⟨w6, hw⟩ : ∃ w', w' = (((w5.setCell ⟨b4, 0, none⟩ (.int .i64 (p : Nat))).setCell ⟨b4, 1, none⟩ (.int .i64 (n : Nat))).setCell ⟨b4, 8, none⟩ (.int .i64 (u : Nat))).setCell ⟨b4, 7, none⟩ (.bool false) := ⟨_, rfl⟩
    rw [← hw]
    have hg : w5.grownBy w6 (some b4) := by subst hw; exact (((grown_set w5 b4 0 (.int .i64 (p : Nat))).trans (grown_set _ b4 1 (.int .i64 (n : Nat)))).trans (grown_set _ b4 8 (.int .i64 (u : Nat)))).trans (grown_set _ b4 7 (.bool false))
    have HR6 : Hid (R10 w6 b4 [.int .i64 (p : Nat), .int .i64 (n : Nat), .int .i64 0, .int .i64 0, .int .i64 0, .int .i64 0, .int .i64 0, .bool false, .int .i64 (u : Nat), .slice none 0 0]) := by subst hw; exact ((((HR5.out.set 0 (.int .i64 (p : Nat))).set 1 (.int .i64 (n : Nat))).set 8 (.int .i64 (u : Nat))).set 7 (.bool false))
    have HA6 := Lib.hid (HA5.out.kept hg (fun e => HNE.out.2.2.1 e.symm))
    have HC6 := Lib.hid (HC5.out.by10 HR5.out (by intro y hy n e; subst e; simp at hy) hg HNE.out.2.1)
    have HG6 := Lib.hid (HG5.out.andThen hg (fun j hj => .inl (by have := HNE.out; simp at hj; omega)))
    clear hw hg HR5 HA5 HC5 HG5
    refine (number_any t 2 s4 w6 (by omega) HC6.out).mono ?_
    rintro e' w7 ⟨rfl, hc, hg⟩
    obtain ⟨b, hL⟩ : ∃ b, b = KM.gn 2 s4 := ⟨_, rfl⟩
    obtain ⟨s5, hs⟩ : ∃ s', s' = KM.gs 2 s4 := ⟨_, rfl⟩
    rw [← hL]
    rw [← hs] at hc
    have HLb := Lib.hid hL
    have HS5 := Lib.hid hs
    have HC7 := Lib.hid hc
    have HG7 := Lib.hid (HG6.out.trans hg)
    have HA7 := Lib.hid (HA6.out.kept hg HNE.out.1)
    have HR7 := Lib.hid (HR6.out.kept hg HNE.out.2.1)
    clear hL hs hc hg HC6 HG6 HA6 HR6
    go_wp2_with fail
    refine (number_any t 2 s5 w7 (by omega) HC7.out).mono ?_
    rintro e' w8 ⟨rfl, hc, hg⟩
    obtain ⟨s, hL⟩ : ∃ s, s = KM.gn 2 s5 := ⟨_, rfl⟩
    obtain ⟨s6, hs⟩ : ∃ s', s' = KM.gs 2 s5 := ⟨_, rfl⟩
    rw [← hL]
    rw [← hs] at hc
    have HLs := Lib.hid hL
    have HS6 := Lib.hid hs
    have HC8 := Lib.hid hc
    have HG8 := Lib.hid (HG7.out.trans hg)
    have HA8 := Lib.hid (HA7.out.kept hg HNE.out.1)
    have HR8 := Lib.hid (HR7.out.kept hg HNE.out.2.1)
    clear hL hs hc hg HC7 HG7 HA7 HR7
    go_wp2_with fail
    refine (number_any t 2 s6 w8 (by omega) HC8.out).mono ?_
    rintro e' w9 ⟨rfl, hc, hg⟩
    obtain ⟨m, hL⟩ : ∃ m, m = KM.gn 2 s6 := ⟨_, rfl⟩
    obtain ⟨s7, hs⟩ : ∃ s', s' = KM.gs 2 s6 := ⟨_, rfl⟩
    rw [← hL]
    rw [← hs] at hc
    have HLm := Lib.hid hL
    have HS7 := Lib.hid hs
    have HC9 := Lib.hid hc
    have HG9 := Lib.hid (HG8.out.trans hg)
    have HA9 := Lib.hid (HA8.out.kept hg HNE.out.1)
    have HR9 := Lib.hid (HR8.out.kept hg HNE.out.2.1)
    clear hL hs hc hg HC8 HG8 HA8 HR8
    have t2 := HR9.out.cell 2 _ rfl
    have t3 := HR9.out.cell 3 _ rfl
    have t4 := HR9.out.cell 4 _ rfl
    have f2 := HR9.out.frozen 2
    have f3 := HR9.out.frozen 3
    have f4 := HR9.out.frozen 4
    have hb := HR9.out.lt
    go_wp2_with fail
    clear t2 f2 t3 f3 t4 f4 hb
    obtain ⟨w10, hw⟩ : ∃ w', w' = ((w9.setCell ⟨b4, 2, none⟩ (.int .i64 (b : Nat))).setCell ⟨b4, 3, none⟩ (.int .i64 (s : Nat))).setCell ⟨b4, 4, none⟩ (.int .i64 (m : Nat)) := ⟨_, rfl⟩
    rw [← hw]
    have hg : w9.grownBy w10 (some b4) := by subst hw; exact ((grown_set w9 b4 2 (.int .i64 (b : Nat))).trans (grown_set _ b4 3 (.int .i64 (s : Nat)))).trans (grown_set _ b4 4 (.int .i64 (m : Nat)))
    have HR10 : Hid (R10 w10 b4 [.int .i64 (p : Nat), .int .i64 (n : Nat), .int .i64 (b : Nat), .int .i64 (s : Nat), .int .i64 (m : Nat), .int .i64 0, .int .i64 0, .bool false, .int .i64 (u : Nat), .slice none 0 0]) := by subst hw; exact (((HR9.out.set 2 (.int .i64 (b : Nat))).set 3 (.int .i64 (s : Nat))).set 4 (.int .i64 (m : Nat)))
    have HA10 := Lib.hid (HA9.out.kept hg (fun e => HNE.out.2.2.1 e.symm))
    have HC10 := Lib.hid (HC9.out.by10 HR9.out (by intro y hy n e; subst e; simp at hy) hg HNE.out.2.1)
    have HG10 := Lib.hid (HG9.out.andThen hg (fun j hj => .inl (by have := HNE.out; simp at hj; omega)))
    clear hw hg HR9 HA9 HC9 HG9
    refine (number_any t 2 s7 w10 (by omega) HC10.out).mono ?_
    rintro e' w11 ⟨rfl, hc, hg⟩
    obtain ⟨j, hL⟩ : ∃ j, j = KM.gn 2 s7 := ⟨_, rfl⟩
    obtain ⟨s8, hs⟩ : ∃ s', s' = KM.gs 2 s7 := ⟨_, rfl⟩
    rw [← hL]
    rw [← hs] at hc
    have HLj := Lib.hid hL
    have HS8 := Lib.hid hs
    have HC11 := Lib.hid hc
    have HG11 := Lib.hid (HG10.out.trans hg)
    have HA11 := Lib.hid (HA10.out.kept hg HNE.out.1)
    have HR11 := Lib.hid (HR10.out.kept hg HNE.out.2.1)
    clear hL hs hc hg HC10 HG10 HA10 HR10
    go_wp2_with fail
    refine (number_any t 3 s8 w11 (by omega) HC11.out).mono ?_
    rintro e' w12 ⟨rfl, hc, hg⟩
    obtain ⟨e, hL⟩ : ∃ e, e = KM.gn 3 s8 := ⟨_, rfl⟩
    obtain ⟨s9, hs⟩ : ∃ s', s' = KM.gs 3 s8 := ⟨_, rfl⟩
    rw [← hL]
    rw [← hs] at hc
    have HLe := Lib.hid hL
    have HS9 := Lib.hid hs
    have HC12 := Lib.hid hc
    have HG12 := Lib.hid (HG11.out.trans hg)
    have HA12 := Lib.hid (HA11.out.kept hg HNE.out.1)
    have HR12 := Lib.hid (HR11.out.kept hg HNE.out.2.1)
    clear hL hs hc hg HC11 HG11 HA11 HR11
    have t5 := HR12.out.cell 5 _ rfl
    have t6 := HR12.out.cell 6 _ rfl
    have f5 := HR12.out.frozen 5
    have f6 := HR12.out.frozen 6
    have hb := HR12.out.lt
    go_wp2_with fail
    clear t5 f5 t6 f6 hb
    obtain ⟨w13, hw⟩ : ∃ w', w' = (w12.setCell ⟨b4, 5, none⟩ (.int .i64 (j : Nat))).setCell ⟨b4, 6, none⟩ (.int .i64 (e : Nat)) := ⟨_, rfl⟩
    rw [← hw]
    have hg : w12.grownBy w13 (some b4) := by subst hw; exact (grown_set w12 b4 5 (.int .i64 (j : Nat))).trans (grown_set _ b4 6 (.int .i64 (e : Nat)))
    have HR13 : Hid (R10 w13 b4 [.int .i64 (p : Nat), .int .i64 (n : Nat), .int .i64 (b : Nat), .int .i64 (s : Nat), .int .i64 (m : Nat), .int .i64 (j : Nat), .int .i64 (e : Nat), .bool false, .int .i64 (u : Nat), .slice none 0 0]) := by subst hw; exact ((HR12.out.set 5 (.int .i64 (j : Nat))).set 6 (.int .i64 (e : Nat)))
    have HA13 := Lib.hid (HA12.out.kept hg (fun e => HNE.out.2.2.1 e.symm))
    have HC13 := Lib.hid (HC12.out.by10 HR12.out (by intro y hy n e; subst e; simp at hy) hg HNE.out.2.1)
    have HG13 := Lib.hid (HG12.out.andThen hg (fun j hj => .inl (by have := HNE.out; simp at hj; omega)))
    clear hw hg HR12 HA12 HC12 HG12
    refine (rest_any t s9 w13 HC13.out).mono ?_
    rintro e' w14 ⟨ra, rc, rfl, hu, hc, hg⟩
    have HU14 := Lib.hid hu
    have HC14 := Lib.hid hc
    have HG14 := Lib.hid (HG13.out.trans hg)
    have HA14 := Lib.hid (HA13.out.kept hg HNE.out.1)
    have HR14 := Lib.hid (HR13.out.kept hg HNE.out.2.1)
    clear hu hc hg HC13 HG13 HA13 HR13
    obtain ⟨rs, rb⟩ := s9
    simp only at HU14 HC14 ⊢
    obtain ⟨rl, hrl⟩ : ∃ rl, rl = rs.length := ⟨_, rfl⟩
    rw [← hrl] at HU14 ⊢
    have HRL := Lib.hid hrl
    clear hrl
    have t9 := HR14.out.cell 9 _ rfl
    have f9 := HR14.out.frozen 9
    have hb := HR14.out.lt
    go_wp2_with fail
    clear t9 f9 hb
    obtain ⟨w15, hw⟩ : ∃ w', w' = w14.setCell ⟨b4, 9, none⟩ (.slice ra rl rc) := ⟨_, rfl⟩
    rw [← hw]
    have hg : w14.grownBy w15 (some b4) := by subst hw; exact grown_set w14 b4 9 (.slice ra rl rc)
    have HR15 : Hid (R10 w15 b4 [.int .i64 (p : Nat), .int .i64 (n : Nat), .int .i64 (b : Nat), .int .i64 (s : Nat), .int .i64 (m : Nat), .int .i64 (j : Nat), .int .i64 (e : Nat), .bool false, .int .i64 (u : Nat), .slice ra rl rc]) := by subst hw; exact (HR14.out.set 9 (.slice ra rl rc))
    have HA15 := Lib.hid (HA14.out.kept hg (fun e => HNE.out.2.2.1 e.symm))
    have HC15 := Lib.hid (HC14.out.by10 HR14.out (by intro y hy n e; subst e; simp at hy) hg HNE.out.2.1)
    have HG15 := Lib.hid (HG14.out.andThen hg (fun j hj => .inl (by have := HNE.out; simp at hj; omega)))
    have HUN := Lib.hid (HU14.out.by10 HR14.out (by intro y hy n e; subst e; simp at hy) hg)
    clear hw hg HR14 HA14 HC14 HG14 HU14
    have HU15 := HUN
    clear HUN
    obtain ⟨RR, hRR⟩ : ∃ RR, RR = some b2 := ⟨_, rfl⟩
    have HCF : Hid (∀ w', w15.drew.grownBy w' RR → R10 w' b4 [.int .i64 (p : Nat), .int .i64 (n : Nat), .int .i64 (b : Nat), .int .i64 (s : Nat), .int .i64 (m : Nat), .int .i64 (j : Nat), .int .i64 (e : Nat), .bool false, .int .i64 (u : Nat), .slice ra rl rc]) := fun w' hw' => HR15.out.kept (t := b2) ⟨hw'.os, hw'.tape, hw'.output, hw'.size, fun i hi hne => hw'.block i hi (by rw [hRR]; exact hne)⟩ HNE.out.2.2.1
    have HZ2 := HA15
    refine GrR.region RR 13 [(false,0),(false,1),(false,2),(false,3),(false,4),(false,5),(false,6),(false,7),(false,8),(true,9),(false,10),(false,11),(true,12)] (by kernel_rfl) (by kernel_rfl) (fun d _ _ _ _ h => by cases d <;> exact h) ?_
    simp only [Gr.pick, List.getElem?_cons_zero, List.getElem?_cons_succ, List.drop_succ_cons, List.drop_zero]
    have HCd : Hid (CurAt 126 w15.drew t ([], rb)) := HC15.out.ext (Gr.ext_drew (Gr.ext_refl _))
    have HGd : Hid (w.grownBy w15.drew (some t)) := ⟨HG15.out.os, HG15.out.tape, HG15.out.output, HG15.out.size, HG15.out.block⟩
    have HAd : Hid (R10 w15.drew b2 [.int .i64 0, .int .i64 0, .int .i64 0, .int .i64 0, .int .i64 0, .int .i64 0, .int .i64 0, .bool false, .int .i64 0, .slice none 0 0]) := HA15.out
    have HUd : Hid (U8s w15.drew (.slice ra rl rc) rs) := HU15.out.ext (Gr.ext_drew (Gr.ext_refl _))
    clear HC15 HG15 HA15 HR15 HU15 HZ2
    generalize w15.drew = w9 at *
    by_cases hk0 : q = 0
    · have hq0 : (((q : Int)) == 0) = true := by rw [beq_iff_eq]; omega
      have hq1 : (((q : Int)) == 1) = false := by rw [beq_eq_false_iff_ne]; omega
      refine GrR.walk_t ?_ (Or.inl ⟨by rfl, ?_⟩) ?_
      rotate_left
      · intro w' hw'
        have hq := HCF.out w' hw'
        have t0 := hq.cell 0 _ rfl
        have t1 := hq.cell 1 _ rfl
        have t2 := hq.cell 2 _ rfl
        have t3 := hq.cell 3 _ rfl
        have t4 := hq.cell 4 _ rfl
        have t5 := hq.cell 5 _ rfl
        have t6 := hq.cell 6 _ rfl
        have t7 := hq.cell 7 _ rfl
        have t8 := hq.cell 8 _ rfl
        have t9 := hq.cell 9 _ rfl
        clear hw'
        go_simp
        try with_reducible rfl
      simp only [Act.put, List.setIfInBounds_toArray, List.set_cons_zero, List.set_cons_succ]
      iterate 3
        refine GrR.walk_t ?_ (Or.inl ⟨by rfl, ?_⟩) ?_
        rotate_left
        · intro w' hw'
          have hq := HCF.out w' hw'
          have t0 := hq.cell 0 _ rfl
          have t1 := hq.cell 1 _ rfl
          have t2 := hq.cell 2 _ rfl
          have t3 := hq.cell 3 _ rfl
          have t4 := hq.cell 4 _ rfl
          have t5 := hq.cell 5 _ rfl
          have t6 := hq.cell 6 _ rfl
          have t7 := hq.cell 7 _ rfl
          have t8 := hq.cell 8 _ rfl
          have t9 := hq.cell 9 _ rfl
          clear hw'
          go_simp
          try with_reducible rfl
        simp only [Act.put, List.setIfInBounds_toArray, List.set_cons_zero, List.set_cons_succ]
      refine GrR.walk_t _ (Or.inr ⟨by rfl, rfl⟩) ?_
      simp only [Act.put, List.setIfInBounds_toArray, List.set_cons_zero, List.set_cons_succ]
      refine GrR.walk_t _ (Or.inr ⟨by rfl, rfl⟩) ?_
      simp only [Act.put, List.setIfInBounds_toArray, List.set_cons_zero, List.set_cons_succ]
      iterate 3
        refine GrR.walk_t ?_ (Or.inl ⟨by rfl, ?_⟩) ?_
        rotate_left
        · intro w' hw'
          have hq := HCF.out w' hw'
          have t0 := hq.cell 0 _ rfl
          have t1 := hq.cell 1 _ rfl
          have t2 := hq.cell 2 _ rfl
          have t3 := hq.cell 3 _ rfl
          have t4 := hq.cell 4 _ rfl
          have t5 := hq.cell 5 _ rfl
          have t6 := hq.cell 6 _ rfl
          have t7 := hq.cell 7 _ rfl
          have t8 := hq.cell 8 _ rfl
          have t9 := hq.cell 9 _ rfl
          clear hw'
          go_simp
          try with_reducible rfl
        simp only [Act.put, List.setIfInBounds_toArray, List.set_cons_zero, List.set_cons_succ]
      refine GrR.walk_c (fun K hK => ?_)
      go_simp
      refine (short_any t ([], rb) w9 HCd.out).mono ?_
      rintro e' w10 ⟨rfl, rfl⟩
      try go_simp
      refine hK.out _ _ (grown_nothing _ _) ?_
      clear hK K
      iterate 2
        refine GrR.walk_t ?_ (Or.inl ⟨by rfl, ?_⟩) ?_
        rotate_left
        · intro w' hw'
          clear hw'
          go_simp
          try with_reducible rfl
        simp only [Act.put, List.setIfInBounds_toArray, List.set_cons_zero, List.set_cons_succ]
      refine GrR.walk_c (fun K hK => ?_)
      have t0 := HAd.out.cell 0 _ rfl
      have t1 := HAd.out.cell 1 _ rfl
      have t2 := HAd.out.cell 2 _ rfl
      have t3 := HAd.out.cell 3 _ rfl
      have t4 := HAd.out.cell 4 _ rfl
      have t5 := HAd.out.cell 5 _ rfl
      have t6 := HAd.out.cell 6 _ rfl
      have t7 := HAd.out.cell 7 _ rfl
      have t8 := HAd.out.cell 8 _ rfl
      have t9 := HAd.out.cell 9 _ rfl
      have f0 := HAd.out.frozen 0
      have f1 := HAd.out.frozen 1
      have f2 := HAd.out.frozen 2
      have f3 := HAd.out.frozen 3
      have f4 := HAd.out.frozen 4
      have f5 := HAd.out.frozen 5
      have f6 := HAd.out.frozen 6
      have f7 := HAd.out.frozen 7
      have f8 := HAd.out.frozen 8
      have f9 := HAd.out.frozen 9
      go_simp
      clear t0 f0 t1 f1 t2 f2 t3 f3 t4 f4 t5 f5 t6 f6 t7 f7 t8 f8 t9 f9
      obtain ⟨wf, hw⟩ : ∃ w', w' = ((((((((((w9).setCell ⟨b2, 0, none⟩ (.int .i64 (p : Nat))).setCell ⟨b2, 1, none⟩ (.int .i64 (n : Nat))).setCell ⟨b2, 2, none⟩ (.int .i64 (b : Nat))).setCell ⟨b2, 3, none⟩ (.int .i64 (s : Nat))).setCell ⟨b2, 4, none⟩ (.int .i64 (m : Nat))).setCell ⟨b2, 5, none⟩ (.int .i64 (j : Nat))).setCell ⟨b2, 6, none⟩ (.int .i64 (e : Nat))).setCell ⟨b2, 7, none⟩ (.bool false)).setCell ⟨b2, 8, none⟩ (.int .i64 (u : Nat))).setCell ⟨b2, 9, none⟩ (.slice ra rl rc) := ⟨_, rfl⟩
      rw [← hw]
      have hg : w9.grownBy wf (some b2) := by subst hw; exact (((((((((grown_set w9 b2 0 (.int .i64 (p : Nat))).trans (grown_set _ b2 1 (.int .i64 (n : Nat)))).trans (grown_set _ b2 2 (.int .i64 (b : Nat)))).trans (grown_set _ b2 3 (.int .i64 (s : Nat)))).trans (grown_set _ b2 4 (.int .i64 (m : Nat)))).trans (grown_set _ b2 5 (.int .i64 (j : Nat)))).trans (grown_set _ b2 6 (.int .i64 (e : Nat)))).trans (grown_set _ b2 7 (.bool false))).trans (grown_set _ b2 8 (.int .i64 (u : Nat)))).trans (grown_set _ b2 9 (.slice ra rl rc))
      have HAF : R10 wf b2 [.int .i64 (p : Nat), .int .i64 (n : Nat), .int .i64 (b : Nat), .int .i64 (s : Nat), .int .i64 (m : Nat), .int .i64 (j : Nat), .int .i64 (e : Nat), .bool false, .int .i64 (u : Nat), .slice ra rl rc] := by subst hw; exact ((((((((((HAd.out.set 0 (.int .i64 (p : Nat))).set 1 (.int .i64 (n : Nat))).set 2 (.int .i64 (b : Nat))).set 3 (.int .i64 (s : Nat))).set 4 (.int .i64 (m : Nat))).set 5 (.int .i64 (j : Nat))).set 6 (.int .i64 (e : Nat))).set 7 (.bool false)).set 8 (.int .i64 (u : Nat))).set 9 (.slice ra rl rc))
      have HUF := HUd.out.by10 HAd.out (by intro y hy n e; subst e; simp at hy) hg
      have HGF := HGd.out.andThen hg (fun j hj => .inl (by have := HNE.out; simp at hj; omega))
      refine hK.out _ _ (by rw [hRR]; exact hg) ?_
      clear hK K hw hg HCF HCd HGd HAd HUd
      refine GrR.walk_nil ?_
      have HTK : KM.tk xs = ((⟨(p : Nat), (n : Nat), (b : Nat), (s : Nat), (m : Nat), (j : Nat), (e : Nat), false, (u : Nat), rs⟩ : Rc), q, rb) := by
        unfold KM.tk
        simp only
        rw [← HS0.out, ← HS1.out, ← HS2.out, ← HS3.out, ← HS4.out, ← HS5.out, ← HS6.out, ← HS7.out, ← HS8.out, ← HS9.out, ← HLq.out, ← HLp.out, ← HLn.out, ← HLu.out, ← HLb.out, ← HLs.out, ← HLm.out, ← HLj.out, ← HLe.out, if_neg hk]
      have HP : Hid (TakenOut w t xs (.returned (.tuple #[.agg #[.int .i64 (p : Nat), .int .i64 (n : Nat), .int .i64 (b : Nat), .int .i64 (s : Nat), .int .i64 (m : Nat), .int .i64 (j : Nat), .int .i64 (e : Nat), .bool false, .int .i64 (u : Nat), .slice ra rl rc], .bool (!rb)])) wf) := by
        unfold TakenOut
        rw [HTK]
        refine ⟨ra, rc, ?_, by rw [← HRL.out]; exact HUF, HGF⟩
        simp only
        rw [← HRL.out]
        have hd : ((decide (q = 0) || decide (q = 1)) && !rb) = (!rb) := by simp [hk0]
        rw [hd]
        rfl
      clear HTK HUF HGF hk hk0
      have t0 := HAF.cell 0 _ rfl
      have t1 := HAF.cell 1 _ rfl
      have t2 := HAF.cell 2 _ rfl
      have t3 := HAF.cell 3 _ rfl
      have t4 := HAF.cell 4 _ rfl
      have t5 := HAF.cell 5 _ rfl
      have t6 := HAF.cell 6 _ rfl
      have t7 := HAF.cell 7 _ rfl
      have t8 := HAF.cell 8 _ rfl
      have t9 := HAF.cell 9 _ rfl
      have hbl := HAF.lt
      clear HAF
      go_wp2
      refine bodyPost_ret (by simp [results, Try.results60, go_sem, t0, t1, t2, t3, t4, t5, t6, t7, t8, t9]; try rfl) rfl ?_
      exact HP.out
    · have hq0 : (((q : Int)) == 0) = false := by rw [beq_eq_false_iff_ne]; omega
      have hq1 : (((q : Int)) == 1) = false := by rw [beq_eq_false_iff_ne]; omega
      refine GrR.walk_t ?_ (Or.inl ⟨by rfl, ?_⟩) ?_
      rotate_left
      · intro w' hw'
        have hq := HCF.out w' hw'
        have t0 := hq.cell 0 _ rfl
        have t1 := hq.cell 1 _ rfl
        have t2 := hq.cell 2 _ rfl
        have t3 := hq.cell 3 _ rfl
        have t4 := hq.cell 4 _ rfl
        have t5 := hq.cell 5 _ rfl
        have t6 := hq.cell 6 _ rfl
        have t7 := hq.cell 7 _ rfl
        have t8 := hq.cell 8 _ rfl
        have t9 := hq.cell 9 _ rfl
        clear hw'
        go_simp
        try with_reducible rfl
      simp only [Act.put, List.setIfInBounds_toArray, List.set_cons_zero, List.set_cons_succ]
      iterate 7
        refine GrR.walk_t ?_ (Or.inl ⟨by rfl, ?_⟩) ?_
        rotate_left
        · intro w' hw'
          have hq := HCF.out w' hw'
          have t0 := hq.cell 0 _ rfl
          have t1 := hq.cell 1 _ rfl
          have t2 := hq.cell 2 _ rfl
          have t3 := hq.cell 3 _ rfl
          have t4 := hq.cell 4 _ rfl
          have t5 := hq.cell 5 _ rfl
          have t6 := hq.cell 6 _ rfl
          have t7 := hq.cell 7 _ rfl
          have t8 := hq.cell 8 _ rfl
          have t9 := hq.cell 9 _ rfl
          clear hw'
          go_simp
          try with_reducible rfl
        simp only [Act.put, List.setIfInBounds_toArray, List.set_cons_zero, List.set_cons_succ]
      refine GrR.walk_t _ (Or.inr ⟨by rfl, rfl⟩) ?_
      simp only [Act.put, List.setIfInBounds_toArray, List.set_cons_zero, List.set_cons_succ]
      refine GrR.walk_c (fun K hK => ?_)
      rw [if_neg (by intro h; cases h)]
      refine hK.out _ _ (grown_nothing _ _) ?_
      clear hK K
      simp only [Act.put, List.setIfInBounds_toArray, List.set_cons_zero, List.set_cons_succ]
      refine GrR.walk_t _ (Or.inr ⟨by rfl, rfl⟩) ?_
      simp only [Act.put, List.setIfInBounds_toArray, List.set_cons_zero, List.set_cons_succ]
      refine GrR.walk_t ?_ (Or.inl ⟨by rfl, ?_⟩) ?_
      rotate_left
      · intro w' hw'
        clear hw'
        go_simp
        try with_reducible rfl
      simp only [Act.put, List.setIfInBounds_toArray, List.set_cons_zero, List.set_cons_succ]
      refine GrR.walk_c (fun K hK => ?_)
      have t0 := HAd.out.cell 0 _ rfl
      have t1 := HAd.out.cell 1 _ rfl
      have t2 := HAd.out.cell 2 _ rfl
      have t3 := HAd.out.cell 3 _ rfl
      have t4 := HAd.out.cell 4 _ rfl
      have t5 := HAd.out.cell 5 _ rfl
      have t6 := HAd.out.cell 6 _ rfl
      have t7 := HAd.out.cell 7 _ rfl
      have t8 := HAd.out.cell 8 _ rfl
      have t9 := HAd.out.cell 9 _ rfl
      have f0 := HAd.out.frozen 0
      have f1 := HAd.out.frozen 1
      have f2 := HAd.out.frozen 2
      have f3 := HAd.out.frozen 3
      have f4 := HAd.out.frozen 4
      have f5 := HAd.out.frozen 5
      have f6 := HAd.out.frozen 6
      have f7 := HAd.out.frozen 7
      have f8 := HAd.out.frozen 8
      have f9 := HAd.out.frozen 9
      go_simp
      clear t0 f0 t1 f1 t2 f2 t3 f3 t4 f4 t5 f5 t6 f6 t7 f7 t8 f8 t9 f9
      obtain ⟨wf, hw⟩ : ∃ w', w' = ((((((((((w9).setCell ⟨b2, 0, none⟩ (.int .i64 (p : Nat))).setCell ⟨b2, 1, none⟩ (.int .i64 (n : Nat))).setCell ⟨b2, 2, none⟩ (.int .i64 (b : Nat))).setCell ⟨b2, 3, none⟩ (.int .i64 (s : Nat))).setCell ⟨b2, 4, none⟩ (.int .i64 (m : Nat))).setCell ⟨b2, 5, none⟩ (.int .i64 (j : Nat))).setCell ⟨b2, 6, none⟩ (.int .i64 (e : Nat))).setCell ⟨b2, 7, none⟩ (.bool false)).setCell ⟨b2, 8, none⟩ (.int .i64 (u : Nat))).setCell ⟨b2, 9, none⟩ (.slice ra rl rc) := ⟨_, rfl⟩
      rw [← hw]
      have hg : w9.grownBy wf (some b2) := by subst hw; exact (((((((((grown_set w9 b2 0 (.int .i64 (p : Nat))).trans (grown_set _ b2 1 (.int .i64 (n : Nat)))).trans (grown_set _ b2 2 (.int .i64 (b : Nat)))).trans (grown_set _ b2 3 (.int .i64 (s : Nat)))).trans (grown_set _ b2 4 (.int .i64 (m : Nat)))).trans (grown_set _ b2 5 (.int .i64 (j : Nat)))).trans (grown_set _ b2 6 (.int .i64 (e : Nat)))).trans (grown_set _ b2 7 (.bool false))).trans (grown_set _ b2 8 (.int .i64 (u : Nat)))).trans (grown_set _ b2 9 (.slice ra rl rc))
      have HAF : R10 wf b2 [.int .i64 (p : Nat), .int .i64 (n : Nat), .int .i64 (b : Nat), .int .i64 (s : Nat), .int .i64 (m : Nat), .int .i64 (j : Nat), .int .i64 (e : Nat), .bool false, .int .i64 (u : Nat), .slice ra rl rc] := by subst hw; exact ((((((((((HAd.out.set 0 (.int .i64 (p : Nat))).set 1 (.int .i64 (n : Nat))).set 2 (.int .i64 (b : Nat))).set 3 (.int .i64 (s : Nat))).set 4 (.int .i64 (m : Nat))).set 5 (.int .i64 (j : Nat))).set 6 (.int .i64 (e : Nat))).set 7 (.bool false)).set 8 (.int .i64 (u : Nat))).set 9 (.slice ra rl rc))
      have HUF := HUd.out.by10 HAd.out (by intro y hy n e; subst e; simp at hy) hg
      have HGF := HGd.out.andThen hg (fun j hj => .inl (by have := HNE.out; simp at hj; omega))
      refine hK.out _ _ (by rw [hRR]; exact hg) ?_
      clear hK K hw hg HCF HCd HGd HAd HUd
      refine GrR.walk_nil ?_
      have HTK : KM.tk xs = ((⟨(p : Nat), (n : Nat), (b : Nat), (s : Nat), (m : Nat), (j : Nat), (e : Nat), false, (u : Nat), rs⟩ : Rc), q, rb) := by
        unfold KM.tk
        simp only
        rw [← HS0.out, ← HS1.out, ← HS2.out, ← HS3.out, ← HS4.out, ← HS5.out, ← HS6.out, ← HS7.out, ← HS8.out, ← HS9.out, ← HLq.out, ← HLp.out, ← HLn.out, ← HLu.out, ← HLb.out, ← HLs.out, ← HLm.out, ← HLj.out, ← HLe.out, if_neg hk]
      have HP : Hid (TakenOut w t xs (.returned (.tuple #[.agg #[.int .i64 (p : Nat), .int .i64 (n : Nat), .int .i64 (b : Nat), .int .i64 (s : Nat), .int .i64 (m : Nat), .int .i64 (j : Nat), .int .i64 (e : Nat), .bool false, .int .i64 (u : Nat), .slice ra rl rc], .bool (false)])) wf) := by
        unfold TakenOut
        rw [HTK]
        refine ⟨ra, rc, ?_, by rw [← HRL.out]; exact HUF, HGF⟩
        simp only
        rw [← HRL.out]
        have hd : ((decide (q = 0) || decide (q = 1)) && !rb) = (false) := by simp [hk, hk0]
        rw [hd]
        rfl
      clear HTK HUF HGF hk hk0
      have t0 := HAF.cell 0 _ rfl
      have t1 := HAF.cell 1 _ rfl
      have t2 := HAF.cell 2 _ rfl
      have t3 := HAF.cell 3 _ rfl
      have t4 := HAF.cell 4 _ rfl
      have t5 := HAF.cell 5 _ rfl
      have t6 := HAF.cell 6 _ rfl
      have t7 := HAF.cell 7 _ rfl
      have t8 := HAF.cell 8 _ rfl
      have t9 := HAF.cell 9 _ rfl
      have hbl := HAF.lt
      clear HAF
      go_wp2
      refine bodyPost_ret (by simp [results, Try.results60, go_sem, t0, t1, t2, t3, t4, t5, t6, t7, t8, t9]; try rfl) rfl ?_
      exact HP.out
end Go.Proofs.Ytdbdnfjgmdkneaa
namespace Go.Proofs.Ytdbdnfjgmdkneaa
set_option maxRecDepth 20000
open Go.RowKit
namespace PM
/-- How many low rows a block of k source symbols has. -/
def s (k : Nat) : Nat := 2 + k / 8
def w (k : Nat) : Nat := k + s k
def l (k : Nat) : Nat := w k + 2
end PM
/-- Params as a value. -/
abbrev PV (k s h : Int) : Value := .agg #[.int .i64 k, .int .i64 s, .int .i64 h]
theorem pret64 {a b : Int} (h : a = b) : Ending.returned (.int .i64 a) = .returned (.int .i64 b) := by rw [h]
theorem prm_ext_alloc (w : World) (o : Obj) : w.Extends (w.alloc o) := Gr.ext_of ((Below.refl _ _).alloc (Nat.le_refl _) _)
theorem prm_cells (w : World) (T : TypeId) (k s h : Int) : (w.alloc (.cells #[.int .i64 k, .int .i64 s, .int .i64 h] T)).cell? ⟨w.heap.size, 0, none⟩ = some (.int .i64 k) ∧
    (w.alloc (.cells #[.int .i64 k, .int .i64 s, .int .i64 h] T)).cell? ⟨w.heap.size, 1, none⟩ = some (.int .i64 s) ∧ (w.alloc (.cells #[.int .i64 k, .int .i64 s, .int .i64 h] T)).cell? ⟨w.heap.size, 2, none⟩ = some (.int .i64 h) := by
  have h0 := heap_alloc_new w (.cells #[.int .i64 k, .int .i64 s, .int .i64 h] T)
  exact ⟨by rw [cell_of_row _ _ _ _ _ _ h0]; rfl, by rw [cell_of_row _ _ _ _ _ _ h0]; rfl, by rw [cell_of_row _ _ _ _ _ _ h0]; rfl⟩
end Go.Proofs.Ytdbdnfjgmdkneaa
namespace Go.Proofs.Ytdbdnfjgmdkneaa
set_option maxRecDepth 20000
open Go.RowKit
/-- Params laid at block b. -/
def PAt (w : World) (b : Nat) (k s h : Int) : Prop := w.cell? ⟨b, 0, none⟩ = some (.int .i64 k) ∧ w.cell? ⟨b, 1, none⟩ = some (.int .i64 s) ∧ w.cell? ⟨b, 2, none⟩ = some (.int .i64 h)
theorem PAt.ext {w w' : World} {b : Nat} {k s h : Int} (hp : PAt w b k s h) (hx : w.Extends w') : PAt w' b k s h := ⟨hx.cell_of hp.1, hx.cell_of hp.2.1, hx.cell_of hp.2.2⟩
theorem PAt.lt {w : World} {b : Nat} {k s h : Int} (hp : PAt w b k s h) : b < w.heap.size := World.block_lt_of_cell? w _ hp.1
theorem PAt.new (w : World) (T : TypeId) (k s h : Int) : PAt (w.alloc (.cells #[.int .i64 k, .int .i64 s, .int .i64 h] T)) w.heap.size k s h := prm_cells w T k s h
end Go.Proofs.Ytdbdnfjgmdkneaa
