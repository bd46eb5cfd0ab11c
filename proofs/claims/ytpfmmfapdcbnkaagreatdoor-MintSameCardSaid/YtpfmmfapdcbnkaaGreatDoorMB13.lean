/- In one text: GrowR, RecTaken, SplNum, SplK, RecRight, RecWire, RecBytes, RecRead, GrowB, Conv, RecRefRead, RecIs, RecSame, RecLaw, LetMath, OwnI. -/
import Derived.Maps.Range
import Derived.Maps.AppendAt
import Derived.Deep.DeepCutAuto
import Derived.Lib.Hide
import Derived.Handy
import Derived.WalkKit
import Derived.IntWalk
import Derived.Laws.BitsLemmas
import Derived.Laws.BytesArg
import Derived.Laws.StructEq
import Derived.Test.YtpfmmfapdcbnkaaGreatDoorRows
import Derived.Laws.Rows
import Derived.Laws.Tables
import Derived.ChangeKeysEq
import Derived.Deep.OwnRows
import Derived.Lib.SliceRun
import Derived.Test.YtpfmmfapdcbnkaaGreatDoorMB1
import Derived.Test.YtpfmmfapdcbnkaaGreatDoorMB2
import Derived.Test.YtpfmmfapdcbnkaaGreatDoorMB3
import Derived.Test.YtpfmmfapdcbnkaaGreatDoorMB8
import Derived.Test.YtpfmmfapdcbnkaaGreatDoorMB9
import Derived.Test.YtpfmmfapdcbnkaaGreatDoorMB12
namespace Go.Proofs.YtpfmmfapdcbnkaaGreatDoor
set_option maxRecDepth 20000
open Go.RowKit
namespace GrR
open Gr (AnyE check growB pick)
section
variable {P : Program} {ops : Array Oper} {Q : Exit → Act → World → Prop} {md : Region.Mode} {S : World → Prop}
def walk (B : Option Nat) (P : Program) (ops : Array Oper) (Q : Exit → Act → World → Prop) (tail : List Oper) : List (Bool × Oper) → Act → World → Prop
  | [], a, w => wpList P ops Q tail a w
  | (true, o) :: rest, a, w => if Region.wanted o (yielded ops a.tmps) = true then o.wp P a w (fun a' w' => w.grownBy w' B ∧ walk B P ops Q tail rest a' w') Q else walk B P ops Q tail rest (a.put o.dst undef) w
  | (false, o) :: rest, a, w => ∃ v, YieldsIf P ops (fun w' => w.grownBy w' B) o v a ∧ walk B P ops Q tail rest (a.put o.dst v) w
theorem walk_nil {B : Option Nat} {tail : List Oper} {a : Act} {w : World} (h : wpList P ops Q tail a w) : walk B P ops Q tail [] a w := h
/-- An operation that is taken. -/
theorem walk_t {B : Option Nat} {tail : List Oper} {rest : List (Bool × Oper)} {o : Oper} {a : Act} {w : World} (v : Value) (hy : YieldsIf P ops (fun w' => w.grownBy w' B) o v a) (h : walk B P ops Q tail rest (a.put o.dst v) w) :
    walk B P ops Q tail ((false, o) :: rest) a w := ⟨v, hy, h⟩
/-- An operation that is carried out. -/
theorem walk_c {B : Option Nat} {tail : List Oper} {rest : List (Bool × Oper)} {o : Oper} {a : Act} {w : World}
    (h : ∀ K : Act → World → Prop, Shut (∀ a' w', w.grownBy w' B → walk B P ops Q tail rest a' w' → K a' w') → if Region.wanted o (yielded ops a.tmps) = true then o.wp P a w K Q else K (a.put o.dst undef) w) :
    walk B P ops Q tail ((true, o) :: rest) a w := by
  have h0 := h (fun a' w' => w.grownBy w' B ∧ walk B P ops Q tail rest a' w') (fun _ _ h1 h2 => ⟨h1, h2⟩)
  unfold walk
  split
  · rename_i hw; rw [if_pos hw] at h0; exact h0
  · rename_i hw; rw [if_neg hw] at h0; exact h0.2

theorem walk_sound (B : Option Nat) {l : List Oper} {n : Nat} (hsel : Region.noSelect l.toArray = true) (hs : Region.sinkB md l.toArray n = true) (hc : Region.chainB md l.toArray n = true) (hn : n < l.toArray.size)
    (hQ : ∀ d v c a w, Q (.panic c) (Act.put a d v) w → Q (.panic c) a w) :
    ∀ (ord : List (Bool × Nat)) (listed : Array Bool) (a : Act) (w : World), HeadInv md l.toArray n listed → check md l.toArray n (l.toArray.size - n) ord listed = true →
      walk B P l.toArray Q (l.drop n) (pick l ord) a w →
      AnyE P md l.toArray Q n (fun listed' a' w' => Region.seqB md l.toArray (l.toArray.size - n) n listed' = true ∧ wpList P l.toArray Q (l.drop n) a' w') (fun w' => w.grownBy w' B) ord.length listed a w
  | [], listed, a, w, _, hB, h => ⟨hB, h⟩
  | (c, i) :: rest, listed, a, w, inv, hB, h => by
    simp only [check, Bool.and_eq_true, decide_eq_true_eq] at hB
    obtain ⟨⟨hin, hr⟩, hB'⟩ := hB
    have hil : i < l.length := by have : l.toArray.size = l.length := by simp
                                  omega
    have ho : l[i]? = some l[i] := List.getElem?_eq_getElem hil
    have hoa : l.toArray[i]? = some l[i] := by simp
    simp only [pick, ho] at h
    cases c with
    | true =>
      simp only [decide_eq_true_eq] at hr
      refine ⟨(by rw [hr]; simp), fun j hj => ?_⟩
      rw [hr] at hj
      obtain rfl : j = i := by simpa using hj
      refine ⟨hin, ?_⟩
      have hrm : j ∈ Region.ready md l.toArray listed := by rw [hr]; simp
      unfold walk at h
      unfold wpOp
      simp only [hoa]
      split
      · rename_i hw
        rw [if_pos hw] at h
        exact .inl (Oper.wp_mono (fun a' w' hk => ⟨hk.1, AnyE.weaken (fun u hu => grown_trans hk.1 hu) _ _ _ _ (walk_sound B hsel hs hc hn hQ rest _ a' w' (inv.set hrm hin) hB' hk.2)⟩) h)
      · rename_i hw
        rw [if_neg hw] at h
        exact ⟨grown_refl w B, walk_sound B hsel hs hc hn hQ rest _ _ w (inv.set hrm hin) hB' h⟩
    | false =>
      simp only [Bool.and_eq_true] at hr
      unfold walk at h
      obtain ⟨v, hy, hK⟩ := h
      have hrm : i ∈ Region.ready md l.toArray listed := by simpa using hr.1
      exact AnyE.first hoa (Region.noSelect_spec hsel) hs hc hn hin (fun c a w => hQ _ v c a w) (fun listed' a' w' hL => seqB_ready hL.1) rest.length listed a w inv (Region.free_spec hoa hr.2) hrm hy (grown_refl w B)
        (walk_sound B hsel hs hc hn hQ rest _ _ w (inv.set hrm hin) hB' hK)

theorem region (B : Option Nat) {id : Nat} {a : Act} {w : World} {l : List Oper} (n : Nat) (ord : List (Bool × Nat)) (hm : P.follows .mixedOrders = true) (hB : growB .any l.toArray n ord = true)
    (hQ : ∀ d v c a w, Q (.panic c) (Act.put a d v) w → Q (.panic c) a w)
    (h : walk B P l.toArray Q (l.drop n) (pick l ord) a w.drew) : (Code.region id l.toArray true).wp P Q a w := by
  simp only [growB, Bool.and_eq_true, decide_eq_true_eq] at hB
  obtain ⟨⟨⟨⟨⟨hsel, hn⟩, hs⟩, hc⟩, hlen⟩, hck⟩ := hB
  have hdl : (l.drop n).length = l.toArray.size - n := by simp
  have inv0 : HeadInv .any l.toArray n (Array.replicate l.toArray.size false) :=
    ⟨by simp, fun j oj _ hl => (by rw [getD_replicate_false] at hl; cases hl), fun t _ ht => getD_in (by simpa using ht) (getD_replicate_false _ _)⟩
  have H := walk_sound B (md := .any) hsel hs hc hn hQ ord _ a w.drew inv0 hck h
  refine wp_region_any hm ?_
  have := AnyE.any (Q := Q) (g := l.toArray.size - n) (fun listed a' w' hL => by
    have := wpAny_of_seq (md := .any) (Q' := Q) (l.drop n) n listed a' w' (fun j => by simp [List.getElem?_drop]) (by rw [hdl]; exact hL.1) hL.2
    rwa [hdl] at this) _ _ _ _ H
  rw [hlen] at this
  exact this
end
end GrR
end Go.Proofs.YtpfmmfapdcbnkaaGreatDoor
namespace Go.Proofs.YtpfmmfapdcbnkaaGreatDoor
set_option maxRecDepth 20000
open Go.RowKit Go.Deep
set_option linter.unusedVariables false
/-- A record's variable: these are its ten cells. -/
def R10 (w : World) (b : Nat) (l : List Value) : Prop := w.heap[b]? = some (.cells l.toArray 32)
theorem R10.cell {w : World} {b : Nat} {l : List Value} (h : R10 w b l) (i : Nat) (v : Value) (hv : l[i]? = some v) : w.cell? ⟨b, i, none⟩ = some v := by
  rw [cell_of_row _ _ _ _ _ _ h, List.getElem?_toArray]; exact hv
theorem R10.frozen {w : World} {b : Nat} {l : List Value} (h : R10 w b l) (i : Nat) : w.frozen? ⟨b, i, none⟩ = false := frozen_of_row _ _ _ _ _ h
theorem R10.set {w : World} {b : Nat} {l : List Value} (h : R10 w b l) (i : Nat) (v : Value) : R10 (w.setCell ⟨b, i, none⟩ v) b (l.set i v) := by
  unfold R10 at *
  rw [heap_setCell_same _ _ _ _ _ _ h, List.setIfInBounds_toArray]
theorem R10.kept {w w' : World} {b t : Nat} {l : List Value} (h : R10 w b l) (hg : w.grownBy w' (some t)) (hne : b ≠ t) : R10 w' b l := by
  unfold R10 at *
  rw [hg.block b (Array.getElem?_eq_some_iff.1 h).1 (by simpa using hne)]; exact h
theorem R10.ext {w w' : World} {b : Nat} {l : List Value} (h : R10 w b l) (hx : w.Extends w') : R10 w' b l := by
  unfold R10 at *
  rw [hx.block b (Array.getElem?_eq_some_iff.1 h).1]; exact h
theorem R10.lt {w : World} {b : Nat} {l : List Value} (h : R10 w b l) : b < w.heap.size := (Array.getElem?_eq_some_iff.1 h).1
end Go.Proofs.YtpfmmfapdcbnkaaGreatDoor
namespace Go.Proofs.YtpfmmfapdcbnkaaGreatDoor
set_option maxRecDepth 20000
open Go.RowKit
set_option linter.unusedVariables false
theorem within_yes (n m : Int) (w : World) (h1 : 1 ≤ n) (h2 : n ≤ m) :
    Calls Tryz.prog 60 #[.int .i64 n, .int .i64 m] w fun e w' => e = .returned (.bool true) ∧ w = w' := by
  go_enter Tryz.func60, Tryz.ntmps60
  go_wp2
  go_ret
  exact ⟨rfl, rfl⟩
theorem within_no (n m : Int) (w : World) (h : n < 1 ∨ m < n) :
    Calls Tryz.prog 60 #[.int .i64 n, .int .i64 m] w fun e w' => e = .returned (.bool false) ∧ w = w' := by
  by_cases h1 : n < 1
  · have h1' : decide ((n : Int) ≥ 1) = false := by simp; omega
    go_enter Tryz.func60, Tryz.ntmps60
    go_wp2
    go_ret
    exact ⟨rfl, rfl⟩
  · have h2 : decide (n ≤ m) = false := by simp; omega
    go_enter Tryz.func60, Tryz.ntmps60
    go_wp2
    go_ret
    exact ⟨rfl, rfl⟩
theorem up_any (b s : Nat) (w : World) (hb : b ≤ 10000) (hs : 1 ≤ s) (hs2 : s ≤ 10000) :
    Calls Tryz.prog 61 #[.int .i64 b, .int .i64 s] w fun e w' => e = .returned (.int .i64 ((b + s - 1) / s : Nat)) ∧ w = w' := by
  obtain ⟨q, hq⟩ : ∃ q, q = (b + s - 1) / s := ⟨_, rfl⟩
  have hi : (((b : Int) + s - 1) / s : Int) = q := by
    rw [hq, Int.natCast_ediv, show ((b + s - 1 : Nat) : Int) = (b : Int) + s - 1 by omega]
  rw [← hq]
  go_enter Tryz.func61, Tryz.ntmps61
  go_wp2
  go_ret
  exact ⟨pret64 hi, rfl⟩
theorem right_yes (b s m : Int) (w : World) (h : CM.Right b s m) :
    Calls Tryz.prog 37 #[PV b s m] w fun e w' => e = .returned (.bool true) ∧ w.Extends w' := by
  obtain ⟨h1, h2, h3, h4, h5, h6⟩ := h
  go_enter Tryz.func37, Tryz.ntmps37
  go_wp2_with fail
  generalize hw1 : World.alloc w _ = w1
  have hx1 : w.Extends w1 := by subst hw1; exact prm_ext_alloc _ _
  have hp : PAt w1 w.heap.size b s m := by subst hw1; exact PAt.new w 25 b s m
  generalize w.heap.size = g at hp ⊢
  clear hw1
  have HX1 := Lib.hid hx1
  have hb1 := hp.lt
  have HP1 := Lib.hid hp
  obtain ⟨p0, p1, p2⟩ := hp
  clear hx1
  refine (within_yes b 4000 w1 h1 h2).mono ?_
  rintro e w2 ⟨rfl, rfl⟩
  go_wp2_with fail
  refine (within_yes s 64 w1 h3 h4).mono ?_
  rintro e w2 ⟨rfl, rfl⟩
  go_wp2_with fail
  refine (within_yes m 40 w1 h5 h6).mono ?_
  rintro e w2 ⟨rfl, rfl⟩
  go_wp2
  go_ret
  exact ⟨by rfl, HX1.out⟩
theorem right_no (b s m : Int) (w : World) (h : ¬ CM.Right b s m) :
    Calls Tryz.prog 37 #[PV b s m] w fun e w' => e = .returned (.bool false) ∧ w.Extends w' := by
  unfold CM.Right at h
  go_enter Tryz.func37, Tryz.ntmps37
  go_wp2_with fail
  generalize hw1 : World.alloc w _ = w1
  have hx1 : w.Extends w1 := by subst hw1; exact prm_ext_alloc _ _
  have hp : PAt w1 w.heap.size b s m := by subst hw1; exact PAt.new w 25 b s m
  generalize w.heap.size = g at hp ⊢
  clear hw1
  have HX1 := Lib.hid hx1
  have hb1 := hp.lt
  have HP1 := Lib.hid hp
  obtain ⟨p0, p1, p2⟩ := hp
  clear hx1
  by_cases c1 : b < 1 ∨ 4000 < b
  · clear h
    refine (within_no b 4000 w1 c1).mono ?_
    rintro e w2 ⟨rfl, rfl⟩
    go_wp2
    go_ret
    exact ⟨by rfl, HX1.out⟩
  · refine (within_yes b 4000 w1 (by omega) (by omega)).mono ?_
    rintro e w2 ⟨rfl, rfl⟩
    go_wp2_with fail
    by_cases c2 : s < 1 ∨ 64 < s
    · clear h
      refine (within_no s 64 w1 c2).mono ?_
      rintro e w2 ⟨rfl, rfl⟩
      go_wp2
      go_ret
      exact ⟨by rfl, HX1.out⟩
    · refine (within_yes s 64 w1 (by omega) (by omega)).mono ?_
      rintro e w2 ⟨rfl, rfl⟩
      go_wp2_with fail
      refine (within_no m 40 w1 (by omega)).mono ?_
      rintro e w2 ⟨rfl, rfl⟩
      go_wp2
      go_ret
      exact ⟨by rfl, HX1.out⟩
theorem rright_yes (b s m : Int) (w : World) (h : CM.Right b s m) :
    Calls Tryz.prog 14 #[PV b s m] w fun e w' => e = .returned (.bool true) ∧ w.Extends w' := by
  obtain ⟨h1, h2, h3, h4, h5, h6⟩ := h
  go_enter Tryz.func14, Tryz.ntmps14
  go_upto_region 1 with fail
  generalize hw1 : World.alloc w _ = w1
  have hx1 : w.Extends w1 := by subst hw1; exact prm_ext_alloc _ _
  have hp : PAt w1 w.heap.size b s m := by subst hw1; exact PAt.new w 25 b s m
  generalize w.heap.size = g at hp ⊢
  clear hw1
  have HX1 := Lib.hid hx1
  have hb1 := hp.lt
  have HP1 := Lib.hid hp
  obtain ⟨p0, p1, p2⟩ := hp
  clear hx1
  go_wp2
  go_ret
  exact ⟨by rfl, HX1.out⟩
theorem rright_no (b s m : Int) (w : World) (h : ¬ CM.Right b s m) :
    Calls Tryz.prog 14 #[PV b s m] w fun e w' => e = .returned (.bool false) ∧ w.Extends w' := by
  unfold CM.Right at h
  go_enter Tryz.func14, Tryz.ntmps14
  go_upto_region 1 with fail
  generalize hw1 : World.alloc w _ = w1
  have hx1 : w.Extends w1 := by subst hw1; exact prm_ext_alloc _ _
  have hp : PAt w1 w.heap.size b s m := by subst hw1; exact PAt.new w 25 b s m
  generalize w.heap.size = g at hp ⊢
  clear hw1
  have HX1 := Lib.hid hx1
  have hb1 := hp.lt
  have HP1 := Lib.hid hp
  obtain ⟨p0, p1, p2⟩ := hp
  clear hx1
  by_cases c1 : b < 1
  · have d1 : decide (b ≥ 1) = false := by simp; omega
    clear h c1
    go_wp2
    go_ret
    exact ⟨by rfl, HX1.out⟩
  by_cases c2 : 4000 < b
  · have d1 : decide (b ≤ 4000) = false := by simp; omega
    clear h c2
    go_wp2
    go_ret
    exact ⟨by rfl, HX1.out⟩
  by_cases c3 : s < 1
  · have d1 : decide (s ≥ 1) = false := by simp; omega
    clear h c3
    go_wp2
    go_ret
    exact ⟨by rfl, HX1.out⟩
  by_cases c4 : 64 < s
  · have d1 : decide (s ≤ 64) = false := by simp; omega
    clear h c4
    go_wp2
    go_ret
    exact ⟨by rfl, HX1.out⟩
  by_cases c5 : m < 1
  · have d1 : decide (m ≥ 1) = false := by simp; omega
    clear h c5
    go_wp2
    go_ret
    exact ⟨by rfl, HX1.out⟩
  have c6 : 40 < m := by omega
  have d1 : decide (m ≤ 40) = false := by simp; omega
  clear h c6
  go_wp2
  go_ret
  exact ⟨by rfl, HX1.out⟩
end Go.Proofs.YtpfmmfapdcbnkaaGreatDoor
namespace Go.Proofs.YtpfmmfapdcbnkaaGreatDoor
set_option maxRecDepth 20000
open Go.RowKit
set_option linter.unusedVariables false
theorem CM.right_of {b s m : Nat} (h : CM.Right b s m) : 1 ≤ b ∧ b ≤ 4000 ∧ 1 ≤ s ∧ s ≤ 64 ∧ 1 ≤ m ∧ m ≤ 40 := by obtain ⟨h1, h2, h3, h4, h5, h6⟩ := h; omega
theorem sym_no (b s m : Int) (w : World) (h : ¬ CM.Right b s m) :
    Calls Tryz.prog 62 #[PV b s m] w fun e w' => e = .returned (.int .i64 (0 : Nat)) ∧ w.Extends w' := by
  go_enter Tryz.func62, Tryz.ntmps62
  go_wp2_with fail
  generalize hw1 : World.alloc w _ = w1
  have hx1 : w.Extends w1 := by subst hw1; exact prm_ext_alloc _ _
  have hp : PAt w1 w.heap.size b s m := by subst hw1; exact PAt.new w 25 b s m
  generalize w.heap.size = g at hp ⊢
  clear hw1
  have HX1 := Lib.hid hx1
  have HP1 := Lib.hid hp
  have hb1 := hp.lt
  obtain ⟨p0, p1, p2⟩ := hp
  clear hx1
  refine (right_no b s m w1 h).mono ?_
  rintro e w2 ⟨rfl, hx⟩
  have HX2 := Lib.hid (Gr.ext_trans HX1.out hx)
  have HP2 := Lib.hid (HP1.out.ext hx)
  have hb2 := HP2.out.lt
  clear p0 p1 p2 hx
  obtain ⟨p0, p1, p2⟩ := HP2.out
  go_wp2
  go_ret
  exact ⟨by rfl, HX2.out⟩
theorem sym_yes (b s m : Nat) (w : World) (h : CM.Right b s m) :
    Calls Tryz.prog 62 #[PV b s m] w fun e w' => e = .returned (.int .i64 (CM.sy b s : Nat)) ∧ w.Extends w' := by
  obtain ⟨h1, h2, h3, h4, h5, h6⟩ := CM.right_of h
  have HU := Lib.hid (CM.up_eq b s h1 h3)
  have hyl := CM.sy_le b s h1
  have hyp := CM.sy_pos b s
  have HS : Hid (((b : Int) - 1) / s + 1 = (CM.sy b s : Nat)) := by
    show _ = _
    unfold CM.sy
    rw [Int.natCast_add, Int.natCast_ediv, show ((b - 1 : Nat) : Int) = (b : Int) - 1 by omega]; rfl
  generalize CM.sy b s = y at *
  have HR := Lib.hid h
  clear h
  go_enter Tryz.func62, Tryz.ntmps62
  go_wp2_with fail
  generalize hw1 : World.alloc w _ = w1
  have hx1 : w.Extends w1 := by subst hw1; exact prm_ext_alloc _ _
  have hp : PAt w1 w.heap.size b s m := by subst hw1; exact PAt.new w 25 b s m
  generalize w.heap.size = g at hp ⊢
  clear hw1
  have HX1 := Lib.hid hx1
  have HP1 := Lib.hid hp
  have hb1 := hp.lt
  obtain ⟨p0, p1, p2⟩ := hp
  clear hx1
  refine (right_yes b s m w1 HR.out).mono ?_
  rintro e w2 ⟨rfl, hx⟩
  have HX2 := Lib.hid (Gr.ext_trans HX1.out hx)
  have HP2 := Lib.hid (HP1.out.ext hx)
  have hb2 := HP2.out.lt
  clear p0 p1 p2 hx
  obtain ⟨p0, p1, p2⟩ := HP2.out
  go_wp2_with fail
  refine (up_any b s w2 (by omega) h3 (by omega)).mono ?_
  rintro e w3 ⟨rfl, rfl⟩
  rw [HU.out]
  go_wp2
  go_ret
  exact ⟨by rfl, HX2.out⟩
theorem rsym_no (b s m : Int) (w : World) (h : ¬ CM.Right b s m) :
    Calls Tryz.prog 28 #[PV b s m] w fun e w' => e = .returned (.int .i64 (0 : Nat)) ∧ w.Extends w' := by
  go_enter Tryz.func28, Tryz.ntmps28
  go_wp2_with fail
  generalize hw1 : World.alloc w _ = w1
  have hx1 : w.Extends w1 := by subst hw1; exact prm_ext_alloc _ _
  have hp : PAt w1 w.heap.size b s m := by subst hw1; exact PAt.new w 25 b s m
  generalize w.heap.size = g at hp ⊢
  clear hw1
  have HX1 := Lib.hid hx1
  have HP1 := Lib.hid hp
  have hb1 := hp.lt
  obtain ⟨p0, p1, p2⟩ := hp
  clear hx1
  refine (rright_no b s m w1 h).mono ?_
  rintro e w2 ⟨rfl, hx⟩
  have HX2 := Lib.hid (Gr.ext_trans HX1.out hx)
  have HP2 := Lib.hid (HP1.out.ext hx)
  have hb2 := HP2.out.lt
  clear p0 p1 p2 hx
  obtain ⟨p0, p1, p2⟩ := HP2.out
  go_wp2
  go_ret
  exact ⟨by rfl, HX2.out⟩
theorem rsym_yes (b s m : Nat) (w : World) (h : CM.Right b s m) :
    Calls Tryz.prog 28 #[PV b s m] w fun e w' => e = .returned (.int .i64 (CM.sy b s : Nat)) ∧ w.Extends w' := by
  obtain ⟨h1, h2, h3, h4, h5, h6⟩ := CM.right_of h
  have HU := Lib.hid (CM.up_eq b s h1 h3)
  have hyl := CM.sy_le b s h1
  have hyp := CM.sy_pos b s
  have HS : Hid (((b : Int) - 1) / s + 1 = (CM.sy b s : Nat)) := by
    show _ = _
    unfold CM.sy
    rw [Int.natCast_add, Int.natCast_ediv, show ((b - 1 : Nat) : Int) = (b : Int) - 1 by omega]; rfl
  generalize CM.sy b s = y at *
  have HR := Lib.hid h
  clear h
  go_enter Tryz.func28, Tryz.ntmps28
  go_wp2_with fail
  generalize hw1 : World.alloc w _ = w1
  have hx1 : w.Extends w1 := by subst hw1; exact prm_ext_alloc _ _
  have hp : PAt w1 w.heap.size b s m := by subst hw1; exact PAt.new w 25 b s m
  generalize w.heap.size = g at hp ⊢
  clear hw1
  have HX1 := Lib.hid hx1
  have HP1 := Lib.hid hp
  have hb1 := hp.lt
  obtain ⟨p0, p1, p2⟩ := hp
  clear hx1
  refine (rright_yes b s m w1 HR.out).mono ?_
  rintro e w2 ⟨rfl, hx⟩
  have HX2 := Lib.hid (Gr.ext_trans HX1.out hx)
  have HP2 := Lib.hid (HP1.out.ext hx)
  have hb2 := HP2.out.lt
  clear p0 p1 p2 hx
  obtain ⟨p0, p1, p2⟩ := HP2.out
  have hdv : ((s : Int) == 0) = false := by simp; omega
  go_wp2
  go_ret
  exact ⟨pret64 (by rw [HS.out]; exact IntWalk.wrap64_in _ ⟨by omega, by omega⟩), HX2.out⟩
theorem blocks_no (b s m : Int) (w : World) (h : ¬ CM.Right b s m) :
    Calls Tryz.prog 38 #[PV b s m] w fun e w' => e = .returned (.int .i64 (0 : Nat)) ∧ w.Extends w' := by
  go_enter Tryz.func38, Tryz.ntmps38
  go_wp2_with fail
  generalize hw1 : World.alloc w _ = w1
  have hx1 : w.Extends w1 := by subst hw1; exact prm_ext_alloc _ _
  have hp : PAt w1 w.heap.size b s m := by subst hw1; exact PAt.new w 25 b s m
  generalize w.heap.size = g at hp ⊢
  clear hw1
  have HX1 := Lib.hid hx1
  have HP1 := Lib.hid hp
  have hb1 := hp.lt
  obtain ⟨p0, p1, p2⟩ := hp
  clear hx1
  refine (right_no b s m w1 h).mono ?_
  rintro e w2 ⟨rfl, hx⟩
  have HX2 := Lib.hid (Gr.ext_trans HX1.out hx)
  have HP2 := Lib.hid (HP1.out.ext hx)
  have hb2 := HP2.out.lt
  clear p0 p1 p2 hx
  obtain ⟨p0, p1, p2⟩ := HP2.out
  go_wp2
  go_ret
  exact ⟨by rfl, HX2.out⟩
theorem blocks_yes (b s m : Nat) (w : World) (h : CM.Right b s m) :
    Calls Tryz.prog 38 #[PV b s m] w fun e w' => e = .returned (.int .i64 (CM.bl b s m : Nat)) ∧ w.Extends w' := by
  obtain ⟨h1, h2, h3, h4, h5, h6⟩ := CM.right_of h
  have HY := Lib.hid (fun w => sym_yes b s m w h)
  have hyl := CM.sy_le b s h1
  have hyp := CM.sy_pos b s
  have HU : Hid ((CM.sy b s + m - 1) / m = CM.bl b s m) := CM.up_eq (CM.sy b s) m hyp h5
  have hnl := CM.bl_le b s m
  have hnp := CM.bl_pos b s m
  have HS : Hid (((CM.sy b s : Int) - 1) / m + 1 = (CM.bl b s m : Nat)) := by
    show _ = _
    unfold CM.bl
    rw [Int.natCast_add, Int.natCast_ediv, show ((CM.sy b s - 1 : Nat) : Int) = (CM.sy b s : Int) - 1 by omega]; rfl
  generalize CM.bl b s m = n at *
  generalize CM.sy b s = y at *
  have HR := Lib.hid h
  clear h
  go_enter Tryz.func38, Tryz.ntmps38
  go_wp2_with fail
  generalize hw1 : World.alloc w _ = w1
  have hx1 : w.Extends w1 := by subst hw1; exact prm_ext_alloc _ _
  have hp : PAt w1 w.heap.size b s m := by subst hw1; exact PAt.new w 25 b s m
  generalize w.heap.size = g at hp ⊢
  clear hw1
  have HX1 := Lib.hid hx1
  have HP1 := Lib.hid hp
  have hb1 := hp.lt
  obtain ⟨p0, p1, p2⟩ := hp
  clear hx1
  refine (right_yes b s m w1 HR.out).mono ?_
  rintro e w2 ⟨rfl, hx⟩
  have HX2 := Lib.hid (Gr.ext_trans HX1.out hx)
  have HP2 := Lib.hid (HP1.out.ext hx)
  have hb2 := HP2.out.lt
  clear p0 p1 p2 hx
  obtain ⟨p0, p1, p2⟩ := HP2.out
  have HC : Hid (∀ w', w2.drew.Extends w' → w'.cell? ⟨g, 0, none⟩ = some (.int .i64 b) ∧ w'.cell? ⟨g, 1, none⟩ = some (.int .i64 s) ∧ w'.cell? ⟨g, 2, none⟩ = some (.int .i64 m)) := fun w' hw' => HP2.out.ext (Gr.of_drew hw')
  go_upto_region 3 with fail
  clear p0 p1 p2
  refine Gr.region 4 [(false,0),(false,2),(false,3),(true,1)] (by kernel_rfl) (by kernel_rfl) (fun d _ _ _ _ h => by cases d <;> exact h) ?_
  simp only [Gr.pick, List.getElem?_cons_zero, List.getElem?_cons_succ, List.drop_succ_cons, List.drop_zero]
  have HX3 := Lib.hid (Gr.ext_drew HX2.out)
  generalize w2.drew = w3 at *
  iterate 3
    refine Gr.walk_t ?_ (Or.inl ⟨by rfl, ?_⟩) ?_
    rotate_left
    · intro w' hw'
      obtain ⟨c0, c1, c2⟩ := HC.out w' hw'
      clear hw'
      go_simp
      try with_reducible rfl
    simp only [Act.put, List.setIfInBounds_toArray, List.set_cons_zero, List.set_cons_succ]
  refine Gr.walk_c (fun K hK => ?_)
  go_simp
  refine (HY.out w3).mono ?_
  rintro e w4 ⟨rfl, hx⟩
  have HX4 := Lib.hid (Gr.ext_trans HX3.out hx)
  try go_simp
  refine hK.out _ _ (hx) ?_
  clear hK K
  refine Gr.walk_nil ?_
  go_wp2_with fail
  refine (up_any y m w4 (by omega) h5 (by omega)).mono ?_
  rintro e w5 ⟨rfl, rfl⟩
  rw [HU.out]
  go_wp2
  go_ret
  exact ⟨by rfl, HX4.out⟩
theorem rblocks_no (b s m : Int) (w : World) (h : ¬ CM.Right b s m) :
    Calls Tryz.prog 15 #[PV b s m] w fun e w' => e = .returned (.int .i64 (0 : Nat)) ∧ w.Extends w' := by
  go_enter Tryz.func15, Tryz.ntmps15
  go_wp2_with fail
  generalize hw1 : World.alloc w _ = w1
  have hx1 : w.Extends w1 := by subst hw1; exact prm_ext_alloc _ _
  have hp : PAt w1 w.heap.size b s m := by subst hw1; exact PAt.new w 25 b s m
  generalize w.heap.size = g at hp ⊢
  clear hw1
  have HX1 := Lib.hid hx1
  have HP1 := Lib.hid hp
  have hb1 := hp.lt
  obtain ⟨p0, p1, p2⟩ := hp
  clear hx1
  refine (rright_no b s m w1 h).mono ?_
  rintro e w2 ⟨rfl, hx⟩
  have HX2 := Lib.hid (Gr.ext_trans HX1.out hx)
  have HP2 := Lib.hid (HP1.out.ext hx)
  have hb2 := HP2.out.lt
  clear p0 p1 p2 hx
  obtain ⟨p0, p1, p2⟩ := HP2.out
  go_wp2
  go_ret
  exact ⟨by rfl, HX2.out⟩
theorem rblocks_yes (b s m : Nat) (w : World) (h : CM.Right b s m) :
    Calls Tryz.prog 15 #[PV b s m] w fun e w' => e = .returned (.int .i64 (CM.bl b s m : Nat)) ∧ w.Extends w' := by
  obtain ⟨h1, h2, h3, h4, h5, h6⟩ := CM.right_of h
  have HY := Lib.hid (fun w => rsym_yes b s m w h)
  have hyl := CM.sy_le b s h1
  have hyp := CM.sy_pos b s
  have HU : Hid ((CM.sy b s + m - 1) / m = CM.bl b s m) := CM.up_eq (CM.sy b s) m hyp h5
  have hnl := CM.bl_le b s m
  have hnp := CM.bl_pos b s m
  have HS : Hid (((CM.sy b s : Int) - 1) / m + 1 = (CM.bl b s m : Nat)) := by
    show _ = _
    unfold CM.bl
    rw [Int.natCast_add, Int.natCast_ediv, show ((CM.sy b s - 1 : Nat) : Int) = (CM.sy b s : Int) - 1 by omega]; rfl
  generalize CM.bl b s m = n at *
  generalize CM.sy b s = y at *
  have HR := Lib.hid h
  clear h
  go_enter Tryz.func15, Tryz.ntmps15
  go_wp2_with fail
  generalize hw1 : World.alloc w _ = w1
  have hx1 : w.Extends w1 := by subst hw1; exact prm_ext_alloc _ _
  have hp : PAt w1 w.heap.size b s m := by subst hw1; exact PAt.new w 25 b s m
  generalize w.heap.size = g at hp ⊢
  clear hw1
  have HX1 := Lib.hid hx1
  have HP1 := Lib.hid hp
  have hb1 := hp.lt
  obtain ⟨p0, p1, p2⟩ := hp
  clear hx1
  refine (rright_yes b s m w1 HR.out).mono ?_
  rintro e w2 ⟨rfl, hx⟩
  have HX2 := Lib.hid (Gr.ext_trans HX1.out hx)
  have HP2 := Lib.hid (HP1.out.ext hx)
  have hb2 := HP2.out.lt
  clear p0 p1 p2 hx
  obtain ⟨p0, p1, p2⟩ := HP2.out
  have HC : Hid (∀ w', w2.drew.Extends w' → w'.cell? ⟨g, 0, none⟩ = some (.int .i64 b) ∧ w'.cell? ⟨g, 1, none⟩ = some (.int .i64 s) ∧ w'.cell? ⟨g, 2, none⟩ = some (.int .i64 m)) := fun w' hw' => HP2.out.ext (Gr.of_drew hw')
  go_upto_region 3 with fail
  clear p0 p1 p2
  have hdv : ((m : Int) == 0) = false := by simp; omega
  refine Gr.region 5 [(false,0),(false,3),(false,4),(true,1),(false,2)] (by kernel_rfl) (by kernel_rfl) (fun d _ _ _ _ h => by cases d <;> exact h) ?_
  simp only [Gr.pick, List.getElem?_cons_zero, List.getElem?_cons_succ, List.drop_succ_cons, List.drop_zero]
  have HX3 := Lib.hid (Gr.ext_drew HX2.out)
  generalize w2.drew = w3 at *
  iterate 3
    refine Gr.walk_t ?_ (Or.inl ⟨by rfl, ?_⟩) ?_
    rotate_left
    · intro w' hw'
      obtain ⟨c0, c1, c2⟩ := HC.out w' hw'
      clear hw'
      go_simp
      try with_reducible rfl
    simp only [Act.put, List.setIfInBounds_toArray, List.set_cons_zero, List.set_cons_succ]
  refine Gr.walk_c (fun K hK => ?_)
  go_simp
  refine (HY.out w3).mono ?_
  rintro e w4 ⟨rfl, hx⟩
  have HX4 := Lib.hid (Gr.ext_trans HX3.out hx)
  try go_simp
  refine hK.out _ _ (hx) ?_
  clear hK K
  refine Gr.walk_t ?_ (Or.inl ⟨by rfl, ?_⟩) ?_
  rotate_left
  · intro w' hw'
    clear hw'
    go_simp
    try with_reducible rfl
  simp only [Act.put, List.setIfInBounds_toArray, List.set_cons_zero, List.set_cons_succ]
  refine Gr.walk_nil ?_
  go_wp2
  go_ret
  exact ⟨pret64 (by rw [HS.out]; exact IntWalk.wrap64_in _ ⟨by omega, by omega⟩), HX4.out⟩
end Go.Proofs.YtpfmmfapdcbnkaaGreatDoor
namespace Go.Proofs.YtpfmmfapdcbnkaaGreatDoor
set_option maxRecDepth 20000
open Go.RowKit Go.Deep
set_option linter.unusedVariables false
theorem RCell.new {T : TypeId} (w w1 : World) (r : Rc) (u : Value) (hw : w.alloc (.cells (r.cells u).toArray T) = w1) : w1.rangeAt w.heap.size 0 (r.cells u) ∧ w.Extends w1 ∧ w.heap.size < w1.heap.size := by
  subst hw
  exact ⟨box_rec _ _ _ _, ext_alloc _ _, by simp⟩
end Go.Proofs.YtpfmmfapdcbnkaaGreatDoor
namespace Go.Proofs.YtpfmmfapdcbnkaaGreatDoor
set_option maxRecDepth 20000
open Go.RowKit Go.Deep
set_option linter.unusedVariables false
/-- A literal of these numbers. -/
def NumAt (w : World) (g : Nat) (ns : List Nat) : Prop := w.heap[g]? = some (.cells (ns.map fun (n : Nat) => Value.int .i64 (n : Int)).toArray 3)
theorem NumAt.kept {w w' : World} {g : Nat} {ns : List Nat} {B : Nat} {v : Value} {k : Nat} {xs : List Value} (h : NumAt w g ns) (ho : w.ownsRow B 5 1 v k xs) (hg : w.grownBy w' v.ownBlock) : NumAt w' g ns := by
  unfold NumAt at *
  rw [hg.block g (Array.getElem?_eq_some_iff.1 h).1 fun e => ?_]
  · exact h
  · rcases ho.2 with ⟨rfl, _⟩ | ⟨g', cap, cur, rfl, hbg, hg', _⟩
    · cases e
    · simp only [Value.ownBlock, Option.some.injEq] at e
      subst e
      rw [h] at hg'
      simp only [Option.some.injEq, Obj.cells.injEq] at hg'
      exact absurd hg'.2.1 (by decide)
theorem NumAt.alloc {w : World} {g : Nat} {ns : List Nat} (h : NumAt w g ns) (o : Obj) : NumAt (w.alloc o) g ns := by
  unfold NumAt at *
  rw [Go.heap_alloc_old (w := _) (o := _) (h := (Array.getElem?_eq_some_iff.1 h).1)]; exact h
theorem NumAt.cell {w : World} {g : Nat} {ns : List Nat} (h : NumAt w g ns) {k : Nat} (hk : k < ns.length) : w.cell? ⟨g, k, none⟩ = some (.int .i64 (ns.getD k 0 : Nat)) := by
  rw [cell_of_row _ _ _ _ _ _ h]
  simp [hk]
theorem NumAt.lt {w : World} {g : Nat} {ns : List Nat} (h : NumAt w g ns) : g < w.heap.size := (Array.getElem?_eq_some_iff.1 h).1
namespace KM
end KM
end Go.Proofs.YtpfmmfapdcbnkaaGreatDoor
namespace Go.Proofs.YtpfmmfapdcbnkaaGreatDoor
set_option maxRecDepth 20000
open Go.RowKit Go.Deep
set_option linter.unusedVariables false
theorem NumAt.new (w : World) (ns : List Nat) (g : Nat) (cs : Array Value) (hg : g = w.heap.size) (hc : cs = (ns.map fun (n : Nat) => Value.int .i64 (n : Int)).toArray) : NumAt (w.alloc (.cells cs 3)) g ns := by
  subst hg; subst hc
  exact heap_alloc_new _ _
end Go.Proofs.YtpfmmfapdcbnkaaGreatDoor
namespace Go.Proofs.YtpfmmfapdcbnkaaGreatDoor
set_option maxRecDepth 20000
open Go.RowKit Go.Deep
set_option linter.unusedVariables false
/-- What reading answers: a record, its data in memory; and the error. -/
def ROut (r : Rc) (er : Int) (w : World) (e : Ending) (w' : World) : Prop := ∃ a c, e = .returned (.tuple #[r.val (.slice a r.d.length c), .int .i64 er]) ∧ U8s w' (.slice a r.d.length c) r.d ∧ w.Extends w'
/-- And the data lie in memory of the call's own. -/
def ROutN (r : Rc) (er : Int) (w : World) (e : Ending) (w' : World) : Prop := ∃ a c, e = .returned (.tuple #[r.val (.slice a r.d.length c), .int .i64 er]) ∧ U8s w' (.slice a r.d.length c) r.d ∧ w.Extends w' ∧ ∀ g, (Value.slice a r.d.length c).ownBlock = some g → w.heap.size ≤ g
theorem ROutN.old {r : Rc} {er : Int} {w w' : World} {e : Ending} (h : ROutN r er w e w') : ROut r er w e w' := by
  obtain ⟨a, c, h1, h2, h3, _⟩ := h
  exact ⟨a, c, h1, h2, h3⟩
end Go.Proofs.YtpfmmfapdcbnkaaGreatDoor
namespace Go.Proofs.YtpfmmfapdcbnkaaGreatDoor
set_option maxRecDepth 20000
open Go.RowKit
namespace GrB
open Gr (AnyE check growB pick)
section
variable {P : Program} {ops : Array Oper} {Q : Exit → Act → World → Prop} {md : Region.Mode} {S : World → Prop}
def walk (B : Nat) (P : Program) (ops : Array Oper) (Q : Exit → Act → World → Prop) (tail : List Oper) : List (Bool × Oper) → Act → World → Prop
  | [], a, w => wpList P ops Q tail a w
  | (true, o) :: rest, a, w => if Region.wanted o (yielded ops a.tmps) = true then o.wp P a w (fun a' w' => Below B w w' ∧ walk B P ops Q tail rest a' w') Q else walk B P ops Q tail rest (a.put o.dst undef) w
  | (false, o) :: rest, a, w => ∃ v, YieldsIf P ops (Below B w) o v a ∧ walk B P ops Q tail rest (a.put o.dst v) w
theorem walk_nil {B : Nat} {tail : List Oper} {a : Act} {w : World} (h : wpList P ops Q tail a w) : walk B P ops Q tail [] a w := h
/-- An operation that is taken. -/
theorem walk_t {B : Nat} {tail : List Oper} {rest : List (Bool × Oper)} {o : Oper} {a : Act} {w : World} (v : Value) (hy : YieldsIf P ops (Below B w) o v a) (h : walk B P ops Q tail rest (a.put o.dst v) w) :
    walk B P ops Q tail ((false, o) :: rest) a w := ⟨v, hy, h⟩
/-- An operation that is carried out. -/
theorem walk_c {B : Nat} {tail : List Oper} {rest : List (Bool × Oper)} {o : Oper} {a : Act} {w : World}
    (h : ∀ K : Act → World → Prop, Shut (∀ a' w', Below B w w' → walk B P ops Q tail rest a' w' → K a' w') → if Region.wanted o (yielded ops a.tmps) = true then o.wp P a w K Q else K (a.put o.dst undef) w) :
    walk B P ops Q tail ((true, o) :: rest) a w := by
  have h0 := h (fun a' w' => Below B w w' ∧ walk B P ops Q tail rest a' w') (fun _ _ h1 h2 => ⟨h1, h2⟩)
  unfold walk
  split
  · rename_i hw; rw [if_pos hw] at h0; exact h0
  · rename_i hw; rw [if_neg hw] at h0; exact h0.2

theorem walk_sound (B : Nat) {l : List Oper} {n : Nat} (hsel : Region.noSelect l.toArray = true) (hs : Region.sinkB md l.toArray n = true) (hc : Region.chainB md l.toArray n = true) (hn : n < l.toArray.size)
    (hQ : ∀ d v c a w, Q (.panic c) (Act.put a d v) w → Q (.panic c) a w) :
    ∀ (ord : List (Bool × Nat)) (listed : Array Bool) (a : Act) (w : World), HeadInv md l.toArray n listed → check md l.toArray n (l.toArray.size - n) ord listed = true →
      walk B P l.toArray Q (l.drop n) (pick l ord) a w →
      AnyE P md l.toArray Q n (fun listed' a' w' => Region.seqB md l.toArray (l.toArray.size - n) n listed' = true ∧ wpList P l.toArray Q (l.drop n) a' w') (Below B w) ord.length listed a w
  | [], listed, a, w, _, hB, h => ⟨hB, h⟩
  | (c, i) :: rest, listed, a, w, inv, hB, h => by
    simp only [check, Bool.and_eq_true, decide_eq_true_eq] at hB
    obtain ⟨⟨hin, hr⟩, hB'⟩ := hB
    have hil : i < l.length := by have : l.toArray.size = l.length := by simp
                                  omega
    have ho : l[i]? = some l[i] := List.getElem?_eq_getElem hil
    have hoa : l.toArray[i]? = some l[i] := by simp
    simp only [pick, ho] at h
    cases c with
    | true =>
      simp only [decide_eq_true_eq] at hr
      refine ⟨(by rw [hr]; simp), fun j hj => ?_⟩
      rw [hr] at hj
      obtain rfl : j = i := by simpa using hj
      refine ⟨hin, ?_⟩
      have hrm : j ∈ Region.ready md l.toArray listed := by rw [hr]; simp
      unfold walk at h
      unfold wpOp
      simp only [hoa]
      split
      · rename_i hw
        rw [if_pos hw] at h
        exact .inl (Oper.wp_mono (fun a' w' hk => ⟨hk.1, AnyE.weaken (fun u hu => Below.trans hk.1 hu) _ _ _ _ (walk_sound B hsel hs hc hn hQ rest _ a' w' (inv.set hrm hin) hB' hk.2)⟩) h)
      · rename_i hw
        rw [if_neg hw] at h
        exact ⟨Below.refl B w, walk_sound B hsel hs hc hn hQ rest _ _ w (inv.set hrm hin) hB' h⟩
    | false =>
      simp only [Bool.and_eq_true] at hr
      unfold walk at h
      obtain ⟨v, hy, hK⟩ := h
      have hrm : i ∈ Region.ready md l.toArray listed := by simpa using hr.1
      exact AnyE.first hoa (Region.noSelect_spec hsel) hs hc hn hin (fun c a w => hQ _ v c a w) (fun listed' a' w' hL => seqB_ready hL.1) rest.length listed a w inv (Region.free_spec hoa hr.2) hrm hy (Below.refl B w)
        (walk_sound B hsel hs hc hn hQ rest _ _ w (inv.set hrm hin) hB' hK)

theorem region (B : Nat) {id : Nat} {a : Act} {w : World} {l : List Oper} (n : Nat) (ord : List (Bool × Nat)) (hm : P.follows .mixedOrders = true) (hB : growB .any l.toArray n ord = true)
    (hQ : ∀ d v c a w, Q (.panic c) (Act.put a d v) w → Q (.panic c) a w)
    (h : walk B P l.toArray Q (l.drop n) (pick l ord) a w.drew) : (Code.region id l.toArray true).wp P Q a w := by
  simp only [growB, Bool.and_eq_true, decide_eq_true_eq] at hB
  obtain ⟨⟨⟨⟨⟨hsel, hn⟩, hs⟩, hc⟩, hlen⟩, hck⟩ := hB
  have hdl : (l.drop n).length = l.toArray.size - n := by simp
  have inv0 : HeadInv .any l.toArray n (Array.replicate l.toArray.size false) :=
    ⟨by simp, fun j oj _ hl => (by rw [getD_replicate_false] at hl; cases hl), fun t _ ht => getD_in (by simpa using ht) (getD_replicate_false _ _)⟩
  have H := walk_sound B (md := .any) hsel hs hc hn hQ ord _ a w.drew inv0 hck h
  refine wp_region_any hm ?_
  have := AnyE.any (Q := Q) (g := l.toArray.size - n) (fun listed a' w' hL => by
    have := wpAny_of_seq (md := .any) (Q' := Q) (l.drop n) n listed a' w' (fun j => by simp [List.getElem?_drop]) (by rw [hdl]; exact hL.1) hL.2
    rwa [hdl] at this) _ _ _ _ H
  rw [hlen] at this
  exact this
end
end GrB
end Go.Proofs.YtpfmmfapdcbnkaaGreatDoor
namespace Go.Proofs.YtpfmmfapdcbnkaaGreatDoor
set_option maxRecDepth 20000
open Go.RowKit
/-- Bytes as a string. -/
def strOf (xs : List Nat) : ByteArray := strOfNums (xs.map fun (x : Nat) => (x : Int))
theorem conv_none {P : Program} (w : World) (a : Option Addr) (cap : Nat) (src e dst : TypeId) (hs : P.underlying src = some (.slice e)) (he : P.underlying e = some (.int .u8)) (hd : P.underlying dst = some .string) :
    (convert src dst (.slice a 0 cap)).run P w = .ok (.string (strOf [])) w := by
  rw [run_convert_bytes_string w src dst e a 0 cap hs he hd]
  cases a with
  | none => simp [Conv.bytesToString]; rfl
  | some a =>
    rw [run_bytesToString w a 0 cap [] (by simp [loadCells, loadCellsFrom])]
    rfl
theorem conv_any {P : Program} {w : World} {v : Value} {xs : List Nat} (h : U8s w v xs) (src e dst : TypeId) (hs : P.underlying src = some (.slice e)) (he : P.underlying e = some (.int .u8)) (hd : P.underlying dst = some .string) :
    (convert src dst v).run P w = .ok (.string (strOf xs)) w := by
  obtain ⟨a, cap, rfl, _, _⟩ := h.slice
  by_cases h0 : xs.length = 0
  · have : xs = [] := List.eq_nil_of_length_eq_zero h0
    subst this
    exact conv_none w a cap src e dst hs he hd
  · obtain ⟨b, off, rfl, _, hc⟩ := h.cell.2 (by omega)
    refine run_convert_bytes_arg w src e hs he b off xs.length cap (xs.map fun (x : Nat) => (x : Int)) (by simp) (fun i hi => ?_) dst hd
    rw [hc i hi]
    simp [hi]
end Go.Proofs.YtpfmmfapdcbnkaaGreatDoor
namespace Go.Proofs.YtpfmmfapdcbnkaaGreatDoor
set_option maxRecDepth 20000
open Go.RowKit Go.Deep
set_option linter.unusedVariables false
/-- What the reference takes: of a tombstone no data. -/
def KM.rk (xs : List Nat) : Rc := ⟨(KM.tk xs).1.p, (KM.tk xs).1.n, (KM.tk xs).1.b, (KM.tk xs).1.s, (KM.tk xs).1.m, (KM.tk xs).1.k, (KM.tk xs).1.e, (KM.tk xs).1.g, (KM.tk xs).1.u, if (KM.tk xs).1.g then [] else (KM.tk xs).1.d⟩
/-- Whether bytes are a record's, as the reference tells it. -/
def Good (xs : List Nat) : Prop := (KM.tk xs).2.2 = false ∧ KM.Right (KM.rk xs) ∧ KM.bytes (KM.rk xs) = xs
end Go.Proofs.YtpfmmfapdcbnkaaGreatDoor
namespace Go.Proofs.YtpfmmfapdcbnkaaGreatDoor
set_option maxRecDepth 20000
open Go.RowKit Go.Deep
set_option linter.unusedVariables false
theorem KM.rk_right {r : Rc} {xs : List Nat} (h : KM.Right r) (hb : KM.bytes r = xs) : KM.rk xs = r := by
  have ht := KM.tk_bytes h
  rw [hb] at ht
  unfold KM.rk
  rw [ht]
  obtain ⟨p, n, b, s, m, k, e, g, u, d⟩ := r
  cases g with
  | false => rfl
  | true =>
    have hd := (h.2.2.2.1 rfl).2.2
    simp only at hd
    subst hd
    rfl
end Go.Proofs.YtpfmmfapdcbnkaaGreatDoor
namespace Go.Proofs.YtpfmmfapdcbnkaaGreatDoor
set_option maxRecDepth 20000
open Go.RowKit Go.Deep
set_option linter.unusedVariables false
theorem conv_ob {w : World} {v : Value} {xs : List Nat} (h : U8s w v xs) : (convert 30 9 v).run Tryz.prog w = .ok (.string (strOf xs)) w := conv_any h _ _ _ Tryz.underlying30 Tryz.underlying5 Tryz.underlying9
set_option maxHeartbeats 1000000 in
theorem same_rec (r : Rc) (a a' : Option Addr) (c c' : Nat) (w : World) (hu : U8s w (.slice a r.d.length c) r.d) (hu' : U8s w (.slice a' r.d.length c') r.d) :
    Calls Tryz.prog 12 #[r.val (.slice a r.d.length c), r.val (.slice a' r.d.length c')] w fun e w' => e = .returned (.bool true) ∧ w.Extends w' := by
  obtain ⟨p, n, b, s, m, k, e, g, u, d⟩ := r
  have HU : Hid (U8s w (.slice a d.length c) d) := hu
  have HU' : Hid (U8s w (.slice a' d.length c') d) := hu'
  clear hu hu'
  show Calls Tryz.prog 12 #[.agg #[.int .i64 p, .int .i64 n, .int .i64 b, .int .i64 s, .int .i64 m, .int .i64 k, .int .i64 e, .bool g, .int .i64 u, .slice a d.length c], .agg #[.int .i64 p, .int .i64 n, .int .i64 b, .int .i64 s, .int .i64 m, .int .i64 k, .int .i64 e, .bool g, .int .i64 u, .slice a' d.length c']] w _
  go_enter Tryz.func12, Tryz.ntmps12
  go_upto_region 1 with fail
  generalize hw1 : World.alloc w _ = w1
  generalize hw2 : World.alloc w1 _ = w2
  have hs1 : w1.heap.size = w.heap.size + 1 := by subst hw1; simp
  have hx1 : w.Extends w1 := by subst hw1; exact ext_alloc _ _
  have hx2 : w1.Extends w2 := by subst hw2; exact ext_alloc _ _
  have hb1 : w1.rangeAt w.heap.size 0 (Rc.cells ⟨p, n, b, s, m, k, e, g, u, d⟩ (.slice a d.length c)) := by subst hw1; exact box_rec w 32 ⟨p, n, b, s, m, k, e, g, u, d⟩ _
  have hb2 : w2.rangeAt w1.heap.size 0 (Rc.cells ⟨p, n, b, s, m, k, e, g, u, d⟩ (.slice a' d.length c')) := by subst hw2; exact box_rec w1 32 ⟨p, n, b, s, m, k, e, g, u, d⟩ _
  have hb1' := rangeAt_ext hb1 hx2
  rw [hs1] at hb2
  clear hw1 hw2 hb1 hs1
  have hx := Gr.ext_trans hx1 hx2
  have hv1 := conv_ob (HU.out.ext hx)
  have hv2 := conv_ob (HU'.out.ext hx)
  generalize w.heap.size = x at *
  have a0 : w2.cell? ⟨x, 0, none⟩ = some (.int .i64 p) := hb1' 0 _ rfl
  have a1 : w2.cell? ⟨x, 1, none⟩ = some (.int .i64 n) := hb1' 1 _ rfl
  have a2 : w2.cell? ⟨x, 2, none⟩ = some (.int .i64 b) := hb1' 2 _ rfl
  have a3 : w2.cell? ⟨x, 3, none⟩ = some (.int .i64 s) := hb1' 3 _ rfl
  have a4 : w2.cell? ⟨x, 4, none⟩ = some (.int .i64 m) := hb1' 4 _ rfl
  have a5 : w2.cell? ⟨x, 5, none⟩ = some (.int .i64 k) := hb1' 5 _ rfl
  have a6 : w2.cell? ⟨x, 6, none⟩ = some (.int .i64 e) := hb1' 6 _ rfl
  have a7 : w2.cell? ⟨x, 7, none⟩ = some (.bool g) := hb1' 7 _ rfl
  have a8 : w2.cell? ⟨x, 8, none⟩ = some (.int .i64 u) := hb1' 8 _ rfl
  have a9 : w2.cell? ⟨x, 9, none⟩ = some (.slice a d.length c) := hb1' 9 _ rfl
  have b0 : w2.cell? ⟨x + 1, 0, none⟩ = some (.int .i64 p) := hb2 0 _ rfl
  have b1 : w2.cell? ⟨x + 1, 1, none⟩ = some (.int .i64 n) := hb2 1 _ rfl
  have b2 : w2.cell? ⟨x + 1, 2, none⟩ = some (.int .i64 b) := hb2 2 _ rfl
  have b3 : w2.cell? ⟨x + 1, 3, none⟩ = some (.int .i64 s) := hb2 3 _ rfl
  have b4 : w2.cell? ⟨x + 1, 4, none⟩ = some (.int .i64 m) := hb2 4 _ rfl
  have b5 : w2.cell? ⟨x + 1, 5, none⟩ = some (.int .i64 k) := hb2 5 _ rfl
  have b6 : w2.cell? ⟨x + 1, 6, none⟩ = some (.int .i64 e) := hb2 6 _ rfl
  have b7 : w2.cell? ⟨x + 1, 7, none⟩ = some (.bool g) := hb2 7 _ rfl
  have b8 : w2.cell? ⟨x + 1, 8, none⟩ = some (.int .i64 u) := hb2 8 _ rfl
  have b9 : w2.cell? ⟨x + 1, 9, none⟩ = some (.slice a' d.length c') := hb2 9 _ rfl
  have HX := Lib.hid hx
  clear hb1' hb2 HU HU' hx1 hx2 hx
  generalize strOf d = sd at *
  generalize d.length = dl at *
  go_wp2
  go_ret
  exact ⟨by cases g <;> rfl, HX.out⟩
end Go.Proofs.YtpfmmfapdcbnkaaGreatDoor
namespace Go.Proofs.YtpfmmfapdcbnkaaGreatDoor
set_option maxRecDepth 20000
open Go.RowKit Go.Deep
set_option linter.unusedVariables false
theorem rec_len {r : Rc} (h : KM.Right r) : (KM.bytes r).length ≤ 88 := by
  obtain ⟨_, _, _, h4, h5⟩ := h
  unfold KM.bytes
  by_cases hg : r.g = true
  · rw [if_pos hg, KM.head_length]; omega
  · rw [if_neg hg, List.length_append, List.length_append, KM.head_length, KM.body_length]
    have := h5 (by simpa using hg)
    obtain ⟨⟨hs, _⟩, _, hl⟩ := this
    obtain ⟨_, _, _, h64, _⟩ := hs
    omega
end Go.Proofs.YtpfmmfapdcbnkaaGreatDoor
namespace Go.Proofs.YtpfmmfapdcbnkaaGreatDoor
set_option maxRecDepth 20000
open Go.RowKit Go.Deep
set_option linter.unusedVariables false
/-- A letter: kind, from, to, tag, the id's two numbers, peers, records. -/
structure Lt where
  k : Int
  f : Int
  t : Int
  g : Int
  p : Int
  n : Int
  ps : List Int
  rs : List Rc
namespace LQ
def N31 (x : Int) : Prop := 0 ≤ x ∧ x ≤ 2147483647
def zero : Lt := ⟨0, 0, 0, 0, 0, 0, [], []⟩
/-- A letter that may be. -/
def Right (l : Lt) : Prop := (1 ≤ l.k ∧ l.k ≤ 3) ∧ (N31 l.f ∧ N31 l.t ∧ N31 l.g ∧ N31 l.p ∧ N31 l.n) ∧ (l.ps.length ≤ 255 ∧ ∀ x ∈ l.ps, N31 x) ∧ l.rs.length ≤ 255 ∧ ∀ r ∈ l.rs, KM.Right r
def pb (ps : List Int) : List Nat := (ps.map fun x => KM.nb 4 x.toNat).flatten
def rb1 (r : Rc) : List Nat := KM.nb 2 (KM.bytes r).length ++ KM.bytes r
def rb (rs : List Rc) : List Nat := (rs.map rb1).flatten
def head (l : Lt) (ys : List Nat) : List Nat := KM.nb 1 l.k.toNat ++ (KM.nb 4 l.f.toNat ++ (KM.nb 4 l.t.toNat ++ (KM.nb 4 l.g.toNat ++ (KM.nb 4 l.p.toNat ++ (KM.nb 4 l.n.toNat ++ ys)))))
/-- Its bytes. -/
def bytes (l : Lt) : List Nat := head l (KM.nb 1 l.ps.length ++ (pb l.ps ++ (KM.nb 1 l.rs.length ++ rb l.rs)))
theorem rb_cons (r : Rc) (rs : List Rc) : rb (r :: rs) = rb1 r ++ rb rs := rfl
theorem head_length (l : Lt) (ys : List Nat) : (head l ys).length = 21 + ys.length := by
  simp only [head, List.length_append, KM.nb_length]; omega
theorem rec_two {r : Rc} (h : KM.Right r) : (KM.bytes r).length < 256 ^ 2 := by have := rec_len h; omega
/-- So many numbers of four bytes, taken one behind the other. -/
def tkp : Nat → List Nat × Bool → List Int × (List Nat × Bool)
  | 0, s => ([], s)
  | q + 1, s => ((tkp q s).1 ++ [((KM.gn 4 (tkp q s).2 : Nat) : Int)], KM.gs 4 (tkp q s).2)
theorem take_snoc {α : Type} (l : List α) (q : Nat) (d : α) (h : q < l.length) : l.take (q + 1) = l.take q ++ [l.getD q d] := by
  rw [List.take_succ_eq_append_getElem h]
  simp [h]
/-- So many records, taken one behind the other: these, and what is left. -/
def RT : Nat → List Nat × Bool → List Rc → List Nat × Bool → Prop
  | 0, s, rs, s' => rs = [] ∧ s' = s
  | q + 1, s, rs, s' => ∃ rs0 s0 r, RT q s rs0 s0 ∧ rs = rs0 ++ [r] ∧ KM.Right r ∧ KM.bytes r = KM.pc (KM.gn 2 s0) (KM.gs 2 s0) ∧ s' = KM.gs (KM.gn 2 s0) (KM.gs 2 s0)
theorem RT.len {s : List Nat × Bool} : ∀ {q : Nat} {rs : List Rc} {s' : List Nat × Bool}, RT q s rs s' → rs.length = q
  | 0, _, _, h => by rw [h.1]; rfl
  | q + 1, _, _, ⟨rs0, s0, r, h1, h2, _⟩ => by rw [h2, List.length_append, RT.len h1]; rfl
theorem RT.right {s : List Nat × Bool} : ∀ {q : Nat} {rs : List Rc} {s' : List Nat × Bool}, RT q s rs s' → ∀ r ∈ rs, KM.Right r
  | 0, _, _, h => by rw [h.1]; intro r hr; cases hr
  | q + 1, _, _, ⟨rs0, s0, r, h1, h2, h3, _⟩ => by
    rw [h2]
    intro x hx
    rcases List.mem_append.1 hx with hx | hx
    · exact RT.right h1 x hx
    · obtain rfl : x = r := by simpa using hx
      exact h3
theorem RT.lt {s : List Nat × Bool} (h : ∀ x ∈ s.1, x < 256) : ∀ {q : Nat} {rs : List Rc} {s' : List Nat × Bool}, RT q s rs s' → ∀ x ∈ s'.1, x < 256
  | 0, _, _, h1 => by rw [h1.2]; exact h
  | q + 1, _, _, ⟨rs0, s0, r, h1, _, _, _, h5⟩ => by
    rw [h5]
    exact KM.gs_lt (KM.gs_lt (RT.lt h h1))
theorem RT.slen {s : List Nat × Bool} : ∀ {q : Nat} {rs : List Rc} {s' : List Nat × Bool}, RT q s rs s' → s'.1.length ≤ s.1.length
  | 0, _, _, h1 => by rw [h1.2]; exact Nat.le_refl _
  | q + 1, _, _, ⟨rs0, s0, r, h1, _, _, _, h5⟩ => by
    rw [h5]
    exact Nat.le_trans (KM.gs_len _ _) (Nat.le_trans (KM.gs_len _ _) (RT.slen h1))
theorem pc_some (xs ys : List Nat) : KM.pc xs.length (xs ++ ys, false) = xs ∧ KM.gs xs.length (xs ++ ys, false) = (ys, false) := by
  have c : ¬ ((xs ++ ys, false).2 = true ∨ (xs ++ ys, false).1.length < xs.length) := by simp
  unfold KM.pc KM.gs
  rw [if_neg c, if_neg c]
  simp
/-- The next record of a letter's. -/
theorem rb_step {rs : List Rc} (hrs : ∀ r ∈ rs, KM.Right r) (ys : List Nat) {q : Nat} (hq : q < rs.length) : ∃ r, KM.Right r ∧ rs.drop q = r :: rs.drop (q + 1) ∧ rs.take (q + 1) = rs.take q ++ [r] ∧
    KM.gn 2 (rb (rs.drop q) ++ ys, false) = (KM.bytes r).length ∧ KM.gs 2 (rb (rs.drop q) ++ ys, false) = (KM.bytes r ++ (rb (rs.drop (q + 1)) ++ ys), false) ∧
    KM.pc (KM.bytes r).length (KM.bytes r ++ (rb (rs.drop (q + 1)) ++ ys), false) = KM.bytes r ∧ KM.gs (KM.bytes r).length (KM.bytes r ++ (rb (rs.drop (q + 1)) ++ ys), false) = (rb (rs.drop (q + 1)) ++ ys, false) := by
  refine ⟨rs[q], hrs _ (List.getElem_mem _), List.drop_eq_getElem_cons hq, List.take_succ_eq_append_getElem hq, ?_, ?_, (pc_some _ _).1, (pc_some _ _).2⟩
  · rw [List.drop_eq_getElem_cons hq, rb_cons, rb1, List.append_assoc, List.append_assoc]
    exact (KM.gs_some (rec_two (hrs _ (List.getElem_mem _)))).1
  · rw [List.drop_eq_getElem_cons hq, rb_cons, rb1, List.append_assoc, List.append_assoc]
    exact (KM.gs_some (rec_two (hrs _ (List.getElem_mem _)))).2
theorem RT.some {rs0 : List Rc} (hrs : ∀ r ∈ rs0, KM.Right r) (ys : List Nat) : ∀ {q : Nat} {rs : List Rc} {s' : List Nat × Bool}, RT q (rb rs0 ++ ys, false) rs s' → q ≤ rs0.length → rs = rs0.take q ∧ s' = (rb (rs0.drop q) ++ ys, false)
  | 0, _, _, h, _ => ⟨h.1, h.2⟩
  | q + 1, _, _, ⟨rs1, s1, r, h1, h2, h3, h4, h5⟩, hq => by
    obtain ⟨rfl, rfl⟩ := RT.some hrs ys h1 (by omega)
    obtain ⟨r', a1, a2, a3, a4, a5, a6, a7⟩ := rb_step hrs ys (q := q) (by omega)
    rw [a4, a5, a6] at h4
    rw [a4, a5, a7] at h5
    have e : r = r' := by rw [← KM.rk_right h3 rfl, ← KM.rk_right a1 rfl, h4]
    subst e
    exact ⟨by rw [h2, a3], h5⟩
/-- How far a letter's first numbers are taken. -/
structure Hd where
  k : Nat
  f : Nat
  t : Nat
  g : Nat
  p : Nat
  n : Nat
  c : Nat
  s : List Nat × Bool
def hd (xs : List Nat) : Hd :=
  let s0 : List Nat × Bool := (xs, false)
  let s1 := KM.gs 1 s0
  let s2 := KM.gs 4 s1
  let s3 := KM.gs 4 s2
  let s4 := KM.gs 4 s3
  let s5 := KM.gs 4 s4
  let s6 := KM.gs 4 s5
  ⟨KM.gn 1 s0, KM.gn 4 s1, KM.gn 4 s2, KM.gn 4 s3, KM.gn 4 s4, KM.gn 4 s5, KM.gn 1 s6, KM.gs 1 s6⟩
/-- The letter that so far was taken: q peers, and these records. -/
def far (xs : List Nat) (q : Nat) (rs : List Rc) : Lt := ⟨(hd xs).k, (hd xs).f, (hd xs).t, (hd xs).g, (hd xs).p, (hd xs).n, (tkp q (hd xs).s).1, rs⟩
def sm (xs : List Nat) : List Nat × Bool := KM.gs 1 (tkp (hd xs).c (hd xs).s).2
end LQ
end Go.Proofs.YtpfmmfapdcbnkaaGreatDoor
namespace Go.Proofs.YtpfmmfapdcbnkaaGreatDoor
set_option maxRecDepth 20000
open Go.RowKit Go.Deep
set_option linter.unusedVariables false
theorem owniinfo : (Tryz.prog.info? 3).map (fun i => (i.zero, i.size, i.bytes)) = some (some (.int .i64 0), 1, 8) := by kernel_rfl
/-- v is a slice of the call's own, in memory from B on, of the ints xs. -/
def OwnI (w : World) (B : Nat) (v : Value) (xs : List Int) : Prop := w.ownsRow B 3 1 v xs.length (i64vs xs)
theorem OwnI.nil (w : World) (B : Nat) : OwnI w B (.slice none 0 0) [] := World.ownsRow_nil _ _ _ _
theorem OwnI.ints {w : World} {B : Nat} {v : Value} {xs : List Int} (h : OwnI w B v xs) : Ints w v xs := owns_ints h
theorem OwnI.ext {w w' : World} {B : Nat} {v : Value} {xs : List Int} (h : OwnI w B v xs) (hx : w.Extends w') : OwnI w' B v xs := owns_ext h hx
theorem OwnI.mono {w : World} {B B' : Nat} {v : Value} {xs : List Int} (h : OwnI w B v xs) (hB : B' ≤ B) : OwnI w B' v xs := owns_base h hB
theorem OwnI.lt {w : World} {B : Nat} {v : Value} {xs : List Int} (h : OwnI w B v xs) : ∀ g, v.ownBlock = some g → B ≤ g ∧ g < w.heap.size := fun g hg => World.ownsRow.lt h g hg
theorem OwnI.below {w w' : World} {B C : Nat} {v : Value} {xs : List Int} (h : OwnI w B v xs) (hv : ∀ g, v.ownBlock = some g → g < C) (hb : Below C w w') : OwnI w' B v xs := by
  refine ⟨h.1, ?_⟩
  rcases h.2 with hn | ⟨g, cap, cur, rfl, hbg, hg, rest⟩
  · exact .inl hn
  · exact .inr ⟨g, cap, cur, rfl, hbg, (hb.block g (hv g rfl)).trans hg, rest⟩
theorem OwnI.kinds {w : World} {B : Nat} {v : Value} {xs : List Int} (h : OwnI w B v xs) : (v = .slice none 0 0 ∧ xs = []) ∨ ∃ g cap, v = .slice (some ⟨g, 0, none⟩) xs.length cap ∧ xs.length ≤ cap := by
  rcases h.2 with ⟨rfl, h0⟩ | ⟨g, cap, cur, rfl, _, _, hc, _⟩
  · exact .inl ⟨rfl, List.eq_nil_of_length_eq_zero h0⟩
  · exact .inr ⟨g, cap, rfl, hc⟩
theorem OwnI.slice {w : World} {B : Nat} {v : Value} {xs : List Int} (h : OwnI w B v xs) : ∃ a cap, v = .slice a xs.length cap := by
  rcases h.kinds with ⟨rfl, rfl⟩ | ⟨g, cap, rfl, _⟩
  · exact ⟨_, _, rfl⟩
  · exact ⟨_, _, rfl⟩
theorem i64vs_one (xs : List Int) : ∀ u ∈ i64vs xs, u.oneCell' = true := fun u hu => by
  obtain ⟨x, _, rfl⟩ := List.mem_map.1 hu; rfl
theorem i64vs_app (xs ys : List Int) : i64vs (xs ++ ys) = i64vs xs ++ i64vs ys := by simp [i64vs]
theorem ints_src {w : World} {g o n c : Nat} {l : List Int} (hn : l.length = n) (h : ∀ k, k < n → w.cell? ⟨g, o + k, none⟩ = some (.int .i64 (l.getD k 0))) : Src Tryz.prog 1 42 (.slice (some ⟨g, o, none⟩) n c) n (i64vs l) w := by
  refine Src.ofSlice w Tryz.underlying42 ⟨g, o, none⟩ n c (i64vs l) (by rw [i64vs_length, hn, Nat.mul_one]) (fun j u hu => ?_) (i64vs_one l)
  have hj : j < l.length := by have := (List.getElem?_eq_some_iff.1 hu).1; rwa [i64vs_length] at this
  rw [Addr.add_mid, h j (by omega)]
  simp only [i64vs, List.getElem?_map, List.getElem?_eq_getElem hj, Option.map_some, Option.some.injEq] at hu
  rw [← hu]
  simp [hj]
/-- One int alone. -/
theorem one_src {w : World} {y c : Nat} {x : Int} {T : TypeId} (h : w.heap[y]? = some (.cells #[.int .i64 x] T (0, 0))) : Src Tryz.prog 1 42 (.slice (some ⟨y, 0, none⟩) 1 c) 1 (i64vs [x]) w :=
  ints_src rfl fun k hk => by
    obtain rfl : k = 0 := by omega
    rw [cell_of_row _ _ _ _ _ _ h]; rfl
theorem Ints.cut {w : World} {a : Option Addr} {len cap m : Nat} {l : List Int} (h : Ints w (.slice a len cap) l) (hm : m ≤ len) : Ints w (.slice a m cap) (l.take m) := by
  obtain ⟨hn, hc⟩ := h.cell
  obtain ⟨a', cap', hv, h1, h2⟩ := h.slice
  cases hv
  by_cases h0 : m = 0
  · subst h0; exact .inl ⟨rfl, a, cap, rfl, h2⟩
  · obtain ⟨b, off, rfl, hb, hcell⟩ := hc (by omega)
    refine .inr ⟨b, off, cap, by rw [List.length_take]; congr 1; omega, by rw [List.length_take]; omega, h2, hb, fun k hk => ?_⟩
    rw [List.length_take] at hk
    rw [hcell k (by omega)]
    simp [show k < m by omega]
end Go.Proofs.YtpfmmfapdcbnkaaGreatDoor
