/- A cursor over bytes behind a pointer: the reference's reader and wire.Reader. -/
import Derived.Test.YtdbdnfjgmdkneaaRecPut
import Derived.Test.YtdbdnfjgmdkneaaCutS
namespace Go.Proofs.Ytdbdnfjgmdkneaa
set_option maxRecDepth 20000
open Go.RowKit Go.Deep
set_option linter.unusedVariables false
/-- No number of a byte in a block's cells: a slice of bytes does not lie there. -/
theorem U8s.beside {w w' : World} {v : Value} {xs : List Nat} {t : Nat} {cs : Array Value} {T : TypeId} {f : Nat × Nat} (h : U8s w v xs) (ht : w.heap[t]? = some (.cells cs T f)) (hc : ∀ y ∈ cs.toList, ∀ n, y ≠ .int .u8 n) (hg : w.grownBy w' (some t)) : U8s w' v xs := by
  rcases h with h | ⟨b, off, cap, h1, h2, h2', h3, h4, h5⟩
  · exact .inl h
  · by_cases h0 : xs.length = 0
    · exact .inl ⟨List.eq_nil_of_length_eq_zero h0, _, _, by rw [h1, h0], h2'⟩
    · have hb : b ≠ t := fun e => by
        subst e
        have := h4 0 (by omega)
        rw [cell_of_row _ _ _ _ _ _ ht] at this
        obtain ⟨hlt, hv⟩ := Array.getElem?_eq_some_iff.1 this
        exact hc _ (Array.getElem_mem_toList hlt) _ hv
      have hblk := hg.block b h3 (by simpa using hb)
      refine .inr ⟨b, off, cap, h1, h2, h2', Nat.lt_of_lt_of_le h3 hg.size, fun k hk => ?_, h5⟩
      rw [World.cell?_of_block (w := w) (w' := w') (a := ⟨b, off + k, none⟩) hblk]
      exact h4 k hk
/-- A cursor of this state lies at block t. -/
def CurAt (T : TypeId) (w : World) (t : Nat) (s : List Nat × Bool) : Prop := ∃ a c, w.heap[t]? = some (.cells #[.slice a s.1.length c, .bool s.2] T) ∧ U8s w (.slice a s.1.length c) s.1
theorem CurAt.lt {T : TypeId} {w : World} {t : Nat} {s : List Nat × Bool} (h : CurAt T w t s) : t < w.heap.size := by
  obtain ⟨a, c, h1, _⟩ := h
  exact (Array.getElem?_eq_some_iff.1 h1).1
theorem CurAt.ext {T : TypeId} {w w' : World} {t : Nat} {s : List Nat × Bool} (h : CurAt T w t s) (hx : w.Extends w') : CurAt T w' t s := by
  have hl := h.lt
  obtain ⟨a, c, h1, h2⟩ := h
  exact ⟨a, c, by rw [hx.block t hl]; exact h1, h2.ext hx⟩
theorem CurAt.new {T : TypeId} {w : World} {a : Option Addr} {c : Nat} {xs : List Nat} (h : U8s w (.slice a xs.length c) xs) : CurAt T (w.alloc (.cells #[.slice a xs.length c, .bool false] T)) w.heap.size (xs, false) :=
  ⟨a, c, heap_alloc_new _ _, h.ext (ext_alloc _ _)⟩
theorem cur_cells (a : Option Addr) (n c : Nat) (b : Bool) : ∀ y ∈ (#[Value.slice a n c, .bool b] : Array Value).toList, ∀ n, y ≠ .int .u8 n := by
  intro y hy n e
  subst e
  simp at hy
theorem grown_set (w : World) (t i : Nat) (v : Value) : w.grownBy (w.setCell ⟨t, i, none⟩ v) (some t) :=
  ⟨rfl, rfl, rfl, by simp, fun k _ hk => heap_setCell_other w _ k v (by simpa using hk)⟩
theorem CurAt.cells {T : TypeId} {w : World} {t : Nat} {s : List Nat × Bool} (h : CurAt T w t s) : ∃ a c, w.cell? ⟨t, 0, none⟩ = some (.slice a s.1.length c) ∧ w.cell? ⟨t, 1, none⟩ = some (.bool s.2) ∧ w.frozen? ⟨t, 0, none⟩ = false ∧ w.frozen? ⟨t, 1, none⟩ = false ∧ U8s w (.slice a s.1.length c) s.1 ∧
    w.heap[t]? = some (.cells #[.slice a s.1.length c, .bool s.2] T) := by
  obtain ⟨a, c, h1, h2⟩ := h
  exact ⟨a, c, by rw [cell_of_row _ _ _ _ _ _ h1]; rfl, by rw [cell_of_row _ _ _ _ _ _ h1]; rfl, frozen_of_row _ _ _ _ _ h1, frozen_of_row _ _ _ _ _ h1, h2, h1⟩
/-- What is left was set. -/
theorem CurAt.left {T : TypeId} {w : World} {t : Nat} {a a' : Option Addr} {n c n' c' : Nat} {b : Bool} {ys : List Nat} (h1 : w.heap[t]? = some (.cells #[.slice a n c, .bool b] T)) (hn : n' = ys.length) (hu : U8s w (.slice a' n' c') ys) :
    CurAt T (w.setCell ⟨t, 0, none⟩ (.slice a' n' c')) t (ys, b) := by
  subst hn
  refine ⟨a', c', ?_, hu.beside h1 (cur_cells _ _ _ _) (grown_set _ _ _ _)⟩
  rw [heap_setCell_same _ _ _ _ _ _ h1]; rfl
/-- That there was too little was set. -/
theorem CurAt.short {T : TypeId} {w : World} {t : Nat} {a : Option Addr} {c : Nat} {b : Bool} {ys : List Nat} (h1 : w.heap[t]? = some (.cells #[.slice a ys.length c, .bool b] T)) (hu : U8s w (.slice a ys.length c) ys) :
    CurAt T (w.setCell ⟨t, 1, none⟩ (.bool true)) t (ys, true) := by
  refine ⟨a, c, ?_, hu.beside h1 (cur_cells _ _ _ _) (grown_set _ _ _ _)⟩
  rw [heap_setCell_same _ _ _ _ _ _ h1]; rfl
theorem i64_or_byte (n b : Nat) (hn : n < 4294967296) (hb : b < 256) : bits .or .i64 ((n : Int) * 256) (b : Int) = ((n * 256 + b : Nat) : Int) := by
  have h1 : (BitVec.ofInt 64 ((n : Int) * 256)).toNat = n * 256 := by
    rw [BitVec.toNat_ofInt]; omega
  have h2 : (BitVec.ofInt 64 (b : Int)).toNat = b := by
    rw [BitVec.toNat_ofInt]; omega
  have key : (BitVec.ofInt 64 ((n : Int) * 256) ||| BitVec.ofInt 64 (b : Int)).toNat = n * 256 + b := by
    rw [BitVec.toNat_or, h1, h2, show n * 256 = 2 ^ 8 * n by omega, ← Nat.two_pow_add_eq_or_of_lt (by omega : b < 2 ^ 8)]
  show IntKind.i64.wrap ((BitVec.ofInt 64 ((n : Int) * 256) ||| BitVec.ofInt 64 (b : Int)).toNat : Nat) = _
  rw [key, IntKind.wrap_i64]
  omega
namespace KM
theorem num_take_lt (xs : List Nat) (h : ∀ x ∈ xs, x < 256) (q : Nat) (hq : q ≤ 3) : num (xs.take q) < 16777216 := by
  have h1 := num_lt (xs.take q) fun x hx => h x (List.mem_of_mem_take hx)
  have h2 : 256 ^ (xs.take q).length ≤ 256 ^ 3 := Nat.pow_le_pow_right (by decide) (by rw [List.length_take]; omega)
  omega
theorem num_take_succ (xs : List Nat) (q : Nat) (h : q < xs.length) : num (xs.take (q + 1)) = num (xs.take q) * 256 + xs.getD q 0 := by
  rw [List.take_succ_eq_append_getElem h, num_snoc]
  simp [h]
end KM
/-- What taking a number answers. -/
def TakeOut (T : TypeId) (w : World) (t W : Nat) (s : List Nat × Bool) (e : Ending) (w' : World) : Prop := e = .returned (.int .i64 (KM.gn W s : Nat)) ∧ CurAt T w' t (KM.gs W s) ∧ w.grownBy w' (some t)
theorem get_any (t W : Nat) (s : List Nat × Bool) (w : World) (hW : W ≤ 4) (h : CurAt 102 w t s) :
    Calls Try.prog 62 #[.pointer (some ⟨t, 0, none⟩), .int .i64 W] w (TakeOut 102 w t W s) := by
  obtain ⟨a, c, h0, h1, f0, f1, hu, hh⟩ := h.cells
  obtain ⟨xs, b⟩ := s
  simp only at h0 h1 hu hh
  cases b with
  | true =>
    have HP : Hid (TakeOut 102 w t W (xs, true) (.returned (.int .i64 (0 : Nat))) (w.setCell ⟨t, 1, none⟩ (.bool true))) := by
      refine ⟨by unfold KM.gn; rw [if_pos (Or.inl rfl)], ?_, grown_set _ _ _ _⟩
      unfold KM.gs; rw [if_pos (Or.inl rfl)]
      exact CurAt.short hh hu
    clear hu hh
    go_enter Try.func62, Try.ntmps62
    go_wp2
    go_ret
    exact HP.out
  | false =>
    by_cases hl : xs.length < W
    · have HP : Hid (TakeOut 102 w t W (xs, false) (.returned (.int .i64 (0 : Nat))) (w.setCell ⟨t, 1, none⟩ (.bool true))) := by
        refine ⟨by unfold KM.gn; rw [if_pos (Or.inr hl)], ?_, grown_set _ _ _ _⟩
        unfold KM.gs; rw [if_pos (Or.inr hl)]
        exact CurAt.short hh hu
      clear hu hh
      generalize xs.length = n at *
      go_enter Try.func62, Try.ntmps62
      go_wp2
      go_ret
      exact HP.out
    · obtain ⟨a2, c2, hsl, hd2⟩ := cut_from hu W (by omega)
      have HSL := Lib.hid hsl
      have HP : Hid (TakeOut 102 w t W (xs, false) (.returned (.int .i64 (KM.num (xs.take W) : Nat))) (w.setCell ⟨t, 0, none⟩ (.slice a2 (xs.length - W) c2))) := by
        have c : ¬ ((xs, false).2 = true ∨ (xs, false).1.length < W) := by simp; omega
        refine ⟨by unfold KM.gn; rw [if_neg c], ?_, grown_set _ _ _ _⟩
        unfold KM.gs; rw [if_neg c]
        exact CurAt.left hh (by rw [List.length_drop]) hd2
      have HC := Lib.hid hu.cell.2
      have HLT := Lib.hid hu.lt
      have HNT := Lib.hid (KM.num_take_succ xs)
      have hlen := hu.len
      unfold maxLen at hlen
      clear hu hh hsl hd2
      go_enter Try.func62, Try.ntmps62
      go_wp2_with fail
      go_loopw [5, 6] (fun s5 s6 wr => ∃ q : Nat, q ≤ W ∧ s5 = .int .i64 (KM.num (xs.take q) : Nat) ∧ s6 = .int .i64 (q : Nat) ∧ wr = w) (fun _ s6 _ => (W - intOf s6).toNat)
      case atStart => exact ⟨0, by omega, by rfl, by rfl, rfl⟩
      case round =>
        obtain ⟨q, hq, rfl, rfl, rfl⟩ := hrel
        by_cases h : q < W
        · have hb := KM.num_take_lt xs HLT.out q (by omega)
          have HS := Lib.hid (HNT.out q (by omega))
          obtain ⟨g, off, rfl, hg, hcell⟩ := HC.out (by omega)
          have hc := hcell q (by omega)
          have hx : xs.getD q 0 < 256 := getD_lt xs HLT.out q
          generalize xs.getD q 0 = x at *
          generalize KM.num (xs.take q) = m at *
          have hor := i64_or_byte m x (by omega) hx
          clear hcell
          go_wp2
          go_roundw
          case rel => exact ⟨q + 1, by omega, by rw [HS.out]; go_num, by go_num, trivial⟩
          case measure => simp [intOf]; omega
        · obtain rfl : q = W := by omega
          go_wp2_with (refine wpList_slice rfl 26 (.tmp 43) (some (.tmp 44)) none rfl elemBytes _ _ _ rfl rfl rfl (HSL.out _) ?_)
          go_ret
          exact HP.out
end Go.Proofs.Ytdbdnfjgmdkneaa
