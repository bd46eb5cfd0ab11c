/- A queue of calls: Len, Less, Swap. -/
import Derived.Test.YtiiidbomfkjfgaaRows
import Derived.Test.YtiiidbomfkjfgaaCalQ
import Derived.WalkKit
import Derived.Handy
import Derived.Lib.Hide
import Derived.BigRegion
namespace Go.Proofs.Ytiiidbomfkjfgaa
set_option maxRecDepth 20000
open Go.RowKit Go.Deep
set_option linter.unusedVariables false
theorem wqlen_any (a : Option Addr) (n cap : Nat) (w : World) : Calls Try.prog 57 #[.slice a n cap] w fun e w' => e = .returned (.int .i64 (n : Nat)) ∧ w = w' := by
  go_enter Try.func57, Try.ntmps57
  go_wp2
  go_ret
  exact ⟨rfl, rfl⟩
set_option maxHeartbeats 1000000 in
theorem wqless_any (g n cap i j : Nat) (l : List Wt) (post : List Value) (w : World) (h : QArr w g l post) (hn : l.length = n) (hi : i < n) (hj : j < n) :
    Calls Try.prog 58 #[.slice (some ⟨g, 0, none⟩) n cap, .int .i64 (i : Nat), .int .i64 (j : Nat)] w fun e w' => e = .returned (.bool (wlt (l.getD i zw) (l.getD j zw))) ∧ w.Extends w' := by
  have hci := h.cell (k := i) (by omega)
  have hcj := h.cell (k := j) (by omega)
  have hui := (h.each i (by omega)).cells.2.2.2.1
  have huj := (h.each j (by omega)).cells.2.2.2.1
  have HE : Hid (wlt (l.getD i zw) (l.getD j zw) = decide ((l.getD i zw).c.u < (l.getD j zw).c.u)) := rfl
  rw [HE.out]
  have HX : Hid (w.Extends w.drew) := Gr.ext_drew (Gr.ext_refl w)
  generalize (l.getD i zw).c.u = ui at *
  generalize (l.getD j zw).c.u = uj at *
  generalize (l.getD i zw).b = bi at *
  generalize (l.getD j zw).b = bj at *
  clear h hn HE
  go_enter Try.func58, Try.ntmps58
  go_wp2_with fail
  go_region
  go_wp2
  go_ret
  exact ⟨rfl, HX.out⟩
set_option maxHeartbeats 1000000 in
theorem wqswap_any (g n cap i j : Nat) (l : List Wt) (post : List Value) (w : World) (h : QArr w g l post) (hn : l.length = n) (hi : i < n) (hj : j < n) (hne : i ≠ j) :
    Calls Try.prog 59 #[.slice (some ⟨g, 0, none⟩) n cap, .int .i64 (i : Nat), .int .i64 (j : Nat)] w fun e w' => e = .returned (.tuple #[]) ∧ QArr w' g (HM.swap zw l i j) post ∧ Fr (QD g l) w w' := by
  have hci := h.cell (k := i) (by omega)
  have hcj := h.cell (k := j) (by omega)
  have hfi := h.frozen i
  have hfj := h.frozen j
  have HS : Hid (∀ w1, QArr w1 g l post → _) := fun w1 h1 => QArr.swapped h1 (i := i) (j := j) (by omega) (by omega) hne
  have hpi := (h.each i (by omega)).cells.2.2.2.2
  have hpj := (h.each j (by omega)).cells.2.2.2.2
  have hqi := (h.each i (by omega)).frozen 4
  have hqj := (h.each j (by omega)).frozen 4
  have hgi : g ≠ (l.getD i zw).b := fun e => h.ne (e ▸ bs_get (by omega))
  have hgj : g ≠ (l.getD j zw).b := fun e => h.ne (e ▸ bs_get (by omega))
  have hij := bs_ne h.nd (i := i) (j := j) (by omega) (by omega) hne
  have H := Lib.hid h
  have HDI : Hid (QD g l (l.getD i zw).b) := .inr (bs_get (by omega))
  have HDJ : Hid (QD g l (l.getD j zw).b) := .inr (bs_get (by omega))
  generalize (l.getD i zw).b = bi at *
  generalize (l.getD j zw).b = bj at *
  clear h hn
  go_enter Try.func59, Try.ntmps59
  go_wp2_with fail
  go_region
  have hs1 : w.heap.size ≤ (w.setCell ⟨g, i, none⟩ (pv bj)).heap.size := by simp
  generalize hw2 : World.drew _ = w2
  have HW : Hid (∀ (x y : Value), ((w2.setCell ⟨bj, 4, none⟩ x).setCell ⟨bi, 4, none⟩ y).heap = ((((w.setCell ⟨g, i, none⟩ (pv bj)).setCell ⟨g, j, none⟩ (pv bi)).setCell ⟨bj, 4, none⟩ x).setCell ⟨bi, 4, none⟩ y).heap) := fun x y => by rw [← hw2]; rfl
  have HF : Hid (Fr (QD g l) w w2) := by
    rw [← hw2]
    exact (Fr.set (Fr.set (Fr.refl _ _) (.inl rfl) _) (.inl rfl) _).drew
  have gi : w2.cell? ⟨g, i, none⟩ = some (pv bj) := by
    rw [← hw2]
    show ((w.setCell _ _).setCell _ _).cell? _ = _
    rw [World.cell?_setCell_other _ _ _ _ (fun e => hne (by injection e with _ e2; exact e2.symm)), World.cell?_setCell_same _ _ _ hci]
  have gj : w2.cell? ⟨g, j, none⟩ = some (pv bi) := by
    rw [← hw2]
    show ((w.setCell _ _).setCell _ _).cell? _ = _
    rw [World.cell?_setCell_same _ _ _ (by rw [World.cell?_setCell_other _ _ _ _ (fun e => hne (by injection e with _ e2))]; exact hcj)]
  have pi' : w2.cell? ⟨bi, 4, none⟩ = some (.int .i64 (i : Nat)) := by
    rw [← hw2]
    show ((w.setCell _ _).setCell _ _).cell? _ = _
    rw [World.cell?_setCell_far _ _ _ _ hgi, World.cell?_setCell_far _ _ _ _ hgi]; exact hpi
  have pj' : w2.cell? ⟨bj, 4, none⟩ = some (.int .i64 (j : Nat)) := by
    rw [← hw2]
    show ((w.setCell _ _).setCell _ _).cell? _ = _
    rw [World.cell?_setCell_far _ _ _ _ hgj, World.cell?_setCell_far _ _ _ _ hgj]; exact hpj
  have qi' : w2.frozen? ⟨bi, 4, none⟩ = false := by
    rw [← hw2]
    show ((w.setCell _ _).setCell _ _).frozen? _ = _
    rw [World.frozen?_setCell, World.frozen?_setCell]; exact hqi
  have qj' : w2.frozen? ⟨bj, 4, none⟩ = false := by
    rw [← hw2]
    show ((w.setCell _ _).setCell _ _).frozen? _ = _
    rw [World.frozen?_setCell, World.frozen?_setCell]; exact hqj
  clear hw2 hs1 hci hcj hpi hpj hqi hqj hfi hfj
  go_wp2_with fail
  go_region
  have hfin : QArr (((w2.setCell ⟨bj, 4, none⟩ (.int .i64 (i : Nat))).setCell ⟨bi, 4, none⟩ (.int .i64 (j : Nat))).drew) g (HM.swap zw l i j) post := (HS.out w H.out).heap (HW.out _ _)
  have hfr : Fr (QD g l) w (((w2.setCell ⟨bj, 4, none⟩ (.int .i64 (i : Nat))).setCell ⟨bi, 4, none⟩ (.int .i64 (j : Nat))).drew) := (Fr.set (Fr.set HF.out HDJ.out _) HDI.out _).drew
  have HFIN := Lib.hid hfin
  have HFR := Lib.hid hfr
  clear hfin hfr HS HW HF gi gj pi' pj' qi' qj'
  generalize World.drew _ = w3 at *
  go_wp2
  go_end0
  exact ⟨rfl, HFIN.out, HFR.out⟩
end Go.Proofs.Ytiiidbomfkjfgaa
