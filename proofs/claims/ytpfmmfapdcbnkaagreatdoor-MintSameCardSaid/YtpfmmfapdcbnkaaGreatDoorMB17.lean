/- In one text: BlkSym, MntRef, MntHave, MntFresh, FldRPower, PreRefLow, PreRefHigh. -/
import Derived.Deep.DeepCutAuto
import Derived.Deep.WholeRow
import Derived.Handy
import Derived.Lib.Hide
import Derived.Test.YtpfmmfapdcbnkaaGreatDoorMB1
import Derived.Test.YtpfmmfapdcbnkaaGreatDoorMB3
import Derived.Test.YtpfmmfapdcbnkaaGreatDoorMB8
import Derived.Test.YtpfmmfapdcbnkaaGreatDoorMB9
import Derived.Test.YtpfmmfapdcbnkaaGreatDoorMB10
import Derived.Test.YtpfmmfapdcbnkaaGreatDoorMB14
import Derived.Test.YtpfmmfapdcbnkaaGreatDoorMB15
import Derived.Test.YtpfmmfapdcbnkaaGreatDoorMB16
namespace Go.Proofs.YtpfmmfapdcbnkaaGreatDoor
set_option maxRecDepth 20000
open Go.RowKit Go.Deep
set_option linter.unusedVariables false
/-- A symbol and an error. -/
def SymOut (w : World) (row : List Nat) (err : Int) (e : Ending) (w' : World) : Prop := ∃ v, e = .returned (.tuple #[v, .int .i64 err]) ∧ w.Extends w' ∧ RowOk w' 0 v row
set_option maxHeartbeats 1000000 in
theorem symbol_yes (b : Nat) (k s h j size esi : Int) (v : Value) (row : List Nat) (w : World) (hb : BAt w b k s h j size v) (hl : 0 < row.length)
    (hd : ∀ w', w.Extends w' → Calls Tryz.prog 73 #[PV k s h, .int .i64 j, .int .i64 size, v, .int .i64 esi] w' (RowNew w' row)) :
    Calls Tryz.prog 45 #[.pointer (some ⟨b, 0, none⟩), .int .i64 esi] w (SymOut w row 0) := by
  have HD := Lib.hid hd
  have HB := Lib.hid (hb.ext (Gr.ext_drew (Gr.ext_refl w)))
  clear hb hd
  go_enter Tryz.func45, Tryz.ntmps45
  go_wp2_with fail
  have HX1 : Hid (w.Extends w.drew) := Gr.ext_drew (Gr.ext_refl w)
  refine Gr.region 18 [(false,0),(false,1),(false,2),(false,3),(false,4),(false,5),(false,6),(false,7),(false,8),(false,9),(false,10),(false,11),(false,12),(false,13),(false,14),(false,15),(false,16),(true,17)] (by kernel_rfl) (by kernel_rfl) (fun d _ _ _ _ h => by cases d <;> exact h) ?_
  simp only [Gr.pick, List.getElem?_cons_zero, List.getElem?_cons_succ, List.drop_succ_cons, List.drop_zero]
  generalize w.drew = w1 at *
  iterate 17
    refine Gr.walk_t ?_ (Or.inl ⟨by rfl, ?_⟩) ?_
    rotate_left
    · intro w' hw'
      obtain ⟨p0, p1, p2, p3, p4, p5⟩ := HB.out.ext hw'
      clear hw'
      go_simp
      try with_reducible rfl
    simp only [Act.put, List.setIfInBounds_toArray, List.set_cons_zero, List.set_cons_succ]
  refine Gr.walk_c (fun K hK => ?_)
  go_simp
  refine (HD.out w1 HX1.out).mono ?_
  rintro e w2 ⟨u, rfl, hx2, hu⟩
  have hue := hu.1.slice
  have HU := Lib.hid hu
  obtain ⟨ua, uc, rfl, _⟩ := hue
  have HX2 := Lib.hid (Gr.ext_trans HX1.out hx2)
  try go_simp
  refine hK.out _ _ (hx2) ?_
  clear hK K
  clear hx2 hu HX1 HD HB
  have HP : Hid (SymOut w row 0 (.returned (.tuple #[.slice ua row.length uc, .int .i64 0])) w2) := ⟨_, rfl, HX2.out, HU.out⟩
  generalize row.length = n at *
  have hn0 : ((n : Int) == 0) = false := by rw [beq_eq_false_iff_ne]; omega
  refine Gr.walk_nil ?_
  go_wp2
  go_returns
  exact HP.out
set_option maxHeartbeats 1000000 in
theorem symbol_no (b : Nat) (k s h j size esi : Int) (v : Value) (w : World) (hb : BAt w b k s h j size v)
    (hd : ∀ w', w.Extends w' → Calls Tryz.prog 73 #[PV k s h, .int .i64 j, .int .i64 size, v, .int .i64 esi] w' (RowNew w' [])) :
    Calls Tryz.prog 45 #[.pointer (some ⟨b, 0, none⟩), .int .i64 esi] w (SymOut w [] 1) := by
  have HD := Lib.hid hd
  have HB := Lib.hid (hb.ext (Gr.ext_drew (Gr.ext_refl w)))
  clear hb hd
  go_enter Tryz.func45, Tryz.ntmps45
  go_wp2_with fail
  have HX1 : Hid (w.Extends w.drew) := Gr.ext_drew (Gr.ext_refl w)
  refine Gr.region 18 [(false,0),(false,1),(false,2),(false,3),(false,4),(false,5),(false,6),(false,7),(false,8),(false,9),(false,10),(false,11),(false,12),(false,13),(false,14),(false,15),(false,16),(true,17)] (by kernel_rfl) (by kernel_rfl) (fun d _ _ _ _ h => by cases d <;> exact h) ?_
  simp only [Gr.pick, List.getElem?_cons_zero, List.getElem?_cons_succ, List.drop_succ_cons, List.drop_zero]
  generalize w.drew = w1 at *
  iterate 17
    refine Gr.walk_t ?_ (Or.inl ⟨by rfl, ?_⟩) ?_
    rotate_left
    · intro w' hw'
      obtain ⟨p0, p1, p2, p3, p4, p5⟩ := HB.out.ext hw'
      clear hw'
      go_simp
      try with_reducible rfl
    simp only [Act.put, List.setIfInBounds_toArray, List.set_cons_zero, List.set_cons_succ]
  refine Gr.walk_c (fun K hK => ?_)
  go_simp
  refine (HD.out w1 HX1.out).mono ?_
  rintro e w2 ⟨u, rfl, hx2, hu⟩
  have hue := hu.1.slice
  obtain ⟨ua, uc, rfl, _⟩ := hue
  have HX2 := Lib.hid (Gr.ext_trans HX1.out hx2)
  try go_simp
  refine hK.out _ _ (hx2) ?_
  clear hK K
  clear hx2 hu HX1 HD HB
  have HP : Hid (SymOut w [] 1 (.returned (.tuple #[.slice none 0 0, .int .i64 1])) w2) := ⟨_, rfl, HX2.out, nil_ok _ _⟩
  refine Gr.walk_nil ?_
  go_wp2
  go_returns
  exact HP.out
/-- The symbol of a number, nothing where there is none; and the error. -/
def symOf (k j size : Nat) (c : List (List Nat)) (esi : Int) : List Nat := if EsiOk esi then DM.drop k j size c esi.toNat else []
def symErr (esi : Int) : Int := if EsiOk esi then 0 else 1
/-- Symbol of a block. -/
theorem symbol_any (b k j size : Nat) (esi : Int) (v : Value) (c : List (List Nat)) (w : World) (k1 : 1 ≤ k) (k2 : k ≤ 40) (hj : j ≤ 255) (h1 : 1 ≤ size) (h2 : size ≤ 64) (hl : c.length = PM.l k) (hb : BAt w b k (PM.s k) 2 j size v) (hv : Rws w v c) (hT : Tab w) :
    Calls Tryz.prog 45 #[.pointer (some ⟨b, 0, none⟩), .int .i64 esi] w (SymOut w (symOf k j size c esi) (symErr esi)) := by
  by_cases he : EsiOk esi
  · have he' := he
    obtain ⟨en, rfl⟩ := Int.eq_ofNat_of_zero_le he'.1
    have := he'.2
    unfold symOf symErr
    rw [if_pos he, if_pos he, Int.toNat_natCast]
    exact symbol_yes b k (PM.s k) 2 j size en v _ w hb (by rw [DM.drop_length]; exact h1) fun w' hx => (drop_some k j size en v c w' k1 k2 hj (by omega) h1 h2 hl (hv.ext hx) (hT.ext hx)).mono fun _ _ h => new_made h
  · unfold symOf symErr
    rw [if_neg he, if_neg he]
    exact symbol_no b k (PM.s k) 2 j size esi v w hb fun w' hx => drop_no k j size esi v c w' k1 k2 (hv.ext hx) (fun h => he h.2)
/-- The reference's block. -/
def RAt (w : World) (b : Nat) (k j size : Int) (v : Value) : Prop :=
  w.cell? ⟨b, 0, none⟩ = some (.int .i64 k) ∧ w.cell? ⟨b, 1, none⟩ = some (.int .i64 j) ∧ w.cell? ⟨b, 2, none⟩ = some (.int .i64 size) ∧ w.cell? ⟨b, 3, none⟩ = some v
theorem RAt.ext {w w' : World} {b : Nat} {k j size : Int} {v : Value} (hp : RAt w b k j size v) (hx : w.Extends w') : RAt w' b k j size v :=
  ⟨hx.cell_of hp.1, hx.cell_of hp.2.1, hx.cell_of hp.2.2.1, hx.cell_of hp.2.2.2⟩
theorem RAt.new (w : World) (T : TypeId) (k j size : Int) (v : Value) : RAt (w.alloc (.cells #[.int .i64 k, .int .i64 j, .int .i64 size, v] T)) w.heap.size k j size v := by
  have h0 := heap_alloc_new w (.cells #[.int .i64 k, .int .i64 j, .int .i64 size, v] T)
  exact ⟨by rw [cell_of_row _ _ _ _ _ _ h0]; rfl, by rw [cell_of_row _ _ _ _ _ _ h0]; rfl, by rw [cell_of_row _ _ _ _ _ _ h0]; rfl, by rw [cell_of_row _ _ _ _ _ _ h0]; rfl⟩
set_option maxHeartbeats 1000000 in
set_option maxRecDepth 100000 in
theorem refSymbol_any (b k j size : Nat) (esi : Int) (v : Value) (c : List (List Nat)) (w : World) (k1 : 1 ≤ k) (k2 : k ≤ 40) (hj : j ≤ 255) (h1 : 1 ≤ size) (h2 : size ≤ 64) (hl : c.length = PM.l k) (hb : RAt w b k j size v) (hv : Rws w v c) :
    Calls Tryz.prog 32 #[.pointer (some ⟨b, 0, none⟩), .int .i64 esi] w (SymOut w (symOf k j size c esi) (symErr esi)) := by
  by_cases he : EsiOk esi
  · have he' := he
    obtain ⟨en, rfl⟩ := Int.eq_ofNat_of_zero_le he'.1
    have hen : en < 16777216 := by have := he'.2; omega
    unfold symOf symErr
    rw [if_pos he, if_pos he, Int.toNat_natCast]
    have HD : Hid (∀ w', w.Extends w' → Calls Tryz.prog 54 #[.int .i64 k, .int .i64 j, .int .i64 size, v, .int .i64 en] w' (RowNew w' (DM.drop k j size c en))) := fun w' hx =>
      (refDrop_some k j size en v c w' k1 k2 hj (by omega) h1 h2 hl (hv.ext hx)).mono fun _ _ h => new_made h
    generalize DM.drop k j size c en = row at *
    have HB := Lib.hid (hb.ext (Gr.ext_drew (Gr.ext_refl w)))
    clear hb hv he he' hl h1 h2 k1 k2 hj
    go_enter Tryz.func32, Tryz.ntmps32
    go_wp2_with fail
    have HX1 : Hid (w.Extends w.drew) := Gr.ext_drew (Gr.ext_refl w)
    refine Gr.region 18 [(false,0),(false,1),(false,2),(false,3),(false,4),(false,5),(false,6),(false,7),(false,8),(false,9),(false,10),(false,11),(false,12),(false,13),(false,14),(false,15),(false,16),(true,17)] (by kernel_rfl) (by kernel_rfl) (fun d _ _ _ _ h => by cases d <;> exact h) ?_
    simp only [Gr.pick, List.getElem?_cons_zero, List.getElem?_cons_succ, List.drop_succ_cons, List.drop_zero]
    generalize w.drew = w1 at *
    iterate 17
      refine Gr.walk_t ?_ (Or.inl ⟨by rfl, ?_⟩) ?_
      rotate_left
      · intro w' hw'
        obtain ⟨p0, p1, p2, p3⟩ := HB.out.ext hw'
        clear hw'
        go_simp
        try with_reducible rfl
      simp only [Act.put, List.setIfInBounds_toArray, List.set_cons_zero, List.set_cons_succ]
    refine Gr.walk_c (fun K hK => ?_)
    go_simp
    refine (HD.out w1 HX1.out).mono ?_
    rintro e w2 ⟨u, rfl, hx2, hu⟩
    have HP : Hid (SymOut w row 0 (.returned (.tuple #[u, .int .i64 0])) w2) := ⟨_, rfl, Gr.ext_trans HX1.out hx2, hu⟩
    try go_simp
    refine hK.out _ _ (hx2) ?_
    clear hK K
    clear hx2 hu HX1 HD HB
    refine Gr.walk_nil ?_
    go_wp2
    go_returns
    exact HP.out
  · have HP : Hid (SymOut w [] 1 (.returned (.tuple #[.slice none 0 0, .int .i64 1])) w) := ⟨_, rfl, Gr.ext_refl _, nil_ok _ _⟩
    unfold symOf symErr
    rw [if_neg he, if_neg he]
    clear hb hv
    unfold EsiOk at he
    by_cases c1 : esi < 0
    rotate_left
    have c2 : 16777216 ≤ esi := by omega
    all_goals
      clear he
      go_enter Tryz.func32, Tryz.ntmps32
      go_wp2
      go_returns
      exact HP.out
end Go.Proofs.YtpfmmfapdcbnkaaGreatDoor
namespace Go.Proofs.YtpfmmfapdcbnkaaGreatDoor
set_option maxRecDepth 20000
open Go.RowKit Go.Deep
set_option linter.unusedVariables false
/-- What stands where a call has boxed an id and a shape, and laid a record's variable. -/
structure MB (w w1 : World) (y : Nat) (p n b s m : Int) : Prop where
  x : w.Extends w1
  at_ : y = w.heap.size
  i : ∀ w', w1.Extends w' → w'.cell? ⟨y, 0, none⟩ = some (.int .i64 p) ∧ w'.cell? ⟨y, 1, none⟩ = some (.int .i64 n)
  s : ∀ w', w1.Extends w' → w'.cell? ⟨y + 1, 0, none⟩ = some (.int .i64 b) ∧ w'.cell? ⟨y + 1, 1, none⟩ = some (.int .i64 s) ∧ w'.cell? ⟨y + 1, 2, none⟩ = some (.int .i64 m)
  z : RB w1 (y + 1 + 1) Rc.zero (.slice none 0 0)
  lt : y + 1 < w1.heap.size
theorem MB.made (w : World) (p n b s m : Int) : MB w (((w.alloc (.cells #[.int .i64 p, .int .i64 n] 23)).alloc (.cells #[.int .i64 b, .int .i64 s, .int .i64 m] 25)).alloc (.cells #[.int .i64 0, .int .i64 0, .int .i64 0, .int .i64 0, .int .i64 0, .int .i64 0, .int .i64 0, .bool false, .int .i64 0, .slice none 0 0] 32)) w.heap.size p n b s m := by
  have e : ∀ (w : World) (o : Obj), (w.alloc o).heap.size = w.heap.size + 1 := fun w o => by simp
  refine ⟨Gr.ext_trans (ext_alloc _ _) (Gr.ext_trans (ext_alloc _ _) (ext_alloc _ _)), rfl, fun w' hx => ?_, fun w' hx => ?_, ?_, by simp⟩
  · have h : w'.heap[w.heap.size]? = some (.cells #[.int .i64 p, .int .i64 n] 23) := by
      rw [hx.block _ (by simp; omega), (ext_alloc _ _).block _ (by simp; omega), (ext_alloc _ _).block _ (by simp)]
      exact heap_alloc_new _ _
    exact ⟨by rw [cell_of_row _ _ _ _ _ _ h]; rfl, by rw [cell_of_row _ _ _ _ _ _ h]; rfl⟩
  · have h0 := PAt.new (w.alloc (.cells #[.int .i64 p, .int .i64 n] 23)) 25 b s m
    rw [e] at h0
    exact (h0.ext (ext_alloc _ _)).ext hx
  · have h0 := heap_alloc_new ((w.alloc (.cells #[.int .i64 p, .int .i64 n] 23)).alloc (.cells #[.int .i64 b, .int .i64 s, .int .i64 m] 25)) (.cells #[.int .i64 0, .int .i64 0, .int .i64 0, .int .i64 0, .int .i64 0, .int .i64 0, .int .i64 0, .bool false, .int .i64 0, .slice none 0 0] 32)
    rw [e, e] at h0
    exact h0
end Go.Proofs.YtpfmmfapdcbnkaaGreatDoor
namespace Go.Proofs.YtpfmmfapdcbnkaaGreatDoor
set_option maxRecDepth 20000
open Go.RowKit Go.Deep
set_option linter.unusedVariables false
/-- An id is boxed. -/
structure MI (w w1 : World) (y : Nat) (p n : Int) : Prop where
  x : w.Extends w1
  i : ∀ w', w1.Extends w' → w'.cell? ⟨y, 0, none⟩ = some (.int .i64 p) ∧ w'.cell? ⟨y, 1, none⟩ = some (.int .i64 n)
theorem MI.made (w : World) (p n : Int) : MI w (w.alloc (.cells #[.int .i64 p, .int .i64 n] 23)) w.heap.size p n := by
  refine ⟨ext_alloc _ _, fun w' hx => ?_⟩
  have h : w'.heap[w.heap.size]? = some (.cells #[.int .i64 p, .int .i64 n] 23) := by
    rw [hx.block _ (by simp)]
    exact heap_alloc_new _ _
  exact ⟨by rw [cell_of_row _ _ _ _ _ _ h]; rfl, by rw [cell_of_row _ _ _ _ _ _ h]; rfl⟩
set_option maxHeartbeats 8000000 in
theorem having_any (p n : Int) (v : Value) (l : List Rc) (w : World) (hv : Recs w v l) (hm : l.length ≤ 9000) :
    Calls Tryz.prog 22 #[.agg #[.int .i64 p, .int .i64 n], v] w fun e w' => ∃ u, e = .returned u ∧ w.Extends w' ∧ Recs w' u (mineOf p n l) := by
  obtain ⟨ra, rc, rfl⟩ := hv.slice
  have HRA := Lib.hid hv.at.2
  have hrm := hv.len
  unfold maxLen at hrm
  have HT0 : Hid (mineTo p n l 0 = []) := mineTo_zero p n l
  have HTN : Hid (mineTo p n l l.length = mineOf p n l) := mineTo_full p n l
  have HTS : Hid (∀ k, k < l.length → mineTo p n l (k + 1) = if (l.getD k Rc.zero).p = p ∧ (l.getD k Rc.zero).n = n then mineTo p n l k ++ [l.getD k Rc.zero] else mineTo p n l k) := fun k hk => mineTo_step p n l k hk
  generalize hMT : mineTo p n l = MT at *
  generalize mineOf p n l = MINE at *
  obtain ⟨q, hq⟩ : ∃ q, q = l.length := ⟨_, rfl⟩
  rw [← hq] at HRA HTN HTS hm hrm ⊢
  clear hv hMT hq
  go_enter Tryz.func22, Tryz.ntmps22
  go_upto_region 1 with fail
  obtain ⟨y, hy⟩ : ∃ y, y = w.heap.size := ⟨_, rfl⟩
  have HMB := Lib.hid (MI.made w p n)
  generalize hw1 : World.alloc _ _ = w1 at *
  rw [← hy] at HMB ⊢
  clear hw1 hy
  obtain ⟨B, hB⟩ : ∃ B, B = w1.heap.size := ⟨_, rfl⟩
  have HBW : Hid (B = w1.heap.size) := hB
  clear hB
  go_wp2_with fail
  go_loopw [5, 10] (fun s14 s15 wr => ∃ (k : Nat) (ps : List Pr), k ≤ q ∧ s15 = .int .i64 (k : Nat) ∧ Hid (w1.Extends wr) ∧ Hid (RS wr B s14 ps) ∧ Hid (ps.map Prod.fst = MT k) ∧ Hid (ps.length ≤ k)) (fun _ s15 _ => q - (intOf s15).toNat)
  case atStart => exact ⟨0, [], by omega, by rfl, Gr.ext_refl _, RS.nil _ _, by rw [HT0.out]; rfl, Nat.le_refl _⟩
  case round =>
    obtain ⟨k, ps, hk, rfl, HX, HS, HM, HPL⟩ := hrel
    obtain ⟨a7, c7, rfl⟩ := HS.out.slice
    by_cases h1 : k < q
    · obtain ⟨rb0, ro, rfl, hrb, hrc⟩ := HRA.out (by omega)
      obtain ⟨da, dc, hrr, huu⟩ := hrc k h1
      have HXw := Lib.hid (Gr.ext_trans HMB.out.x HX.out)
      have hrr2 := rangeAt_ext hrr HXw.out
      have HU := Lib.hid (huu.ext HXw.out)
      have HTK := Lib.hid (HTS.out k h1)
      clear hrc hrr huu
      generalize l.getD k Rc.zero = r at *
      obtain ⟨dl, hdl⟩ : ∃ dl, dl = r.d.length := ⟨_, rfl⟩
      rw [← hdl] at hrr2 HU
      have HDL : Hid (r.d.length = dl) := hdl.symm
      obtain ⟨c0, c1, c2, c3, c4, c5, c6, c7', c8, c9⟩ := RCell.ten hrr2
      clear hrr2 hdl
      go_upto_region 5 with fail
      clear c0 c1 c2 c3 c4 c5 c6 c7' c8 c9
      generalize hw : World.alloc wr _ = w3
      have hx : wr.Extends w3 := by subst hw; exact ext_alloc _ _
      have hbx : RB w3 wr.heap.size r (.slice da dl dc) := by subst hw; exact heap_alloc_new _ _
      obtain ⟨bx, hbn⟩ : ∃ b, b = wr.heap.size := ⟨_, rfl⟩
      rw [← hbn] at hbx ⊢
      have HX3 := Lib.hid (Gr.ext_trans HX.out hx)
      have HS3 : Hid (RS w3 B (.slice a7 ps.length c7) ps) := HS.out.ext hx
      have HU3 := Lib.hid (HU.out.ext hx)
      have HSLC : Hid (Slc ((r, Value.slice da dl dc) : Pr)) := ⟨da, dc, by show Value.slice da dl dc = Value.slice da r.d.length dc; rw [HDL.out]⟩
      have HB3 : Hid (B ≤ w3.heap.size) := by show _ ≤ _; rw [HBW.out]; exact HX3.out.size
      obtain ⟨c0, c1, c2, c3, c4, c5, c6, c7', c8, c9⟩ := RCell.ten hbx.range
      simp only [Nat.zero_add] at c0 c1 c2 c3 c4 c5 c6 c7' c8 c9
      have hbl := hbx.lt
      obtain ⟨i0, i1⟩ := HMB.out.i w3 HX3.out
      clear hw hx hbx hbn HS HX HU HXw
      by_cases hm : r.p = p ∧ r.n = n
      · have HTK2 : Hid (MT (k + 1) = MT k ++ [r]) := by show _ = _; rw [HTK.out, if_pos hm]
        have hp : (r.p == p) = true := beq_iff_eq.2 hm.1
        have hn : (r.n == n) = true := beq_iff_eq.2 hm.2
        clear hm HTK
        go_upto_region 6 with fail
        clear hp hn i0 i1
        go_wp2_with (at_builtin; refine wpList_app_rs rfl (.tmp 18) (.tmp 20) rfl B _ ps rfl (HS3.out.ext (ext_alloc _ _)) _ ((r, Value.slice da dl dc) : Pr) rfl (src_rec (r := r) Tryz.underlying26 _ _ rfl rfl) HSLC.out (by show U8s _ (Value.slice da dl dc) r.d; exact HU3.out.ext (ext_alloc _ _)) (by have := HPL.out; omega) (Nat.le_trans HB3.out (ext_alloc _ _).size) ?_)
        intro v9 w10 ho hg10
        have HX10 : Hid (w1.Extends w10) := ext_own (Gr.ext_trans HX3.out (ext_alloc _ _)) hg10 (fun j hj => by have := (HS3.out.own.lt j hj).1; rw [HBW.out] at this; exact this)
        have HS10 := Lib.hid ho
        have HL10 : Hid ((ps ++ [((r, Value.slice da dl dc) : Pr)]).length ≤ k + 1) := by show _ ≤ _; rw [List.length_append]; have := HPL.out; simp; omega
        have HM10 : Hid ((ps ++ [((r, Value.slice da dl dc) : Pr)]).map Prod.fst = MT (k + 1)) := by show _ = _; rw [HTK2.out, List.map_append, HM.out]; rfl
        clear ho hg10 HS3 HX3 HTK2 HM HPL c0 c1 c2 c3 c4 c5 c6 c7' c8 c9 hbl
        go_wp2
        go_roundw
        case rel => exact ⟨k + 1, _, by omega, by go_num, HX10, HS10, HM10, HL10⟩
        case measure => simp [intOf]; omega
      · have HTK2 : Hid (MT (k + 1) = MT k) := by show _ = _; rw [HTK.out, if_neg hm]
        have HM2 : Hid (ps.map Prod.fst = MT (k + 1)) := by show _ = _; rw [HTK2.out]; exact HM.out
        have HPL2 : Hid (ps.length ≤ k + 1) := Nat.le_succ_of_le HPL.out
        clear HTK HTK2 HM HPL HSLC HU3
        by_cases hp1 : r.p = p
        · have hp : (r.p == p) = true := beq_iff_eq.2 hp1
          have hn : (r.n == n) = false := beq_eq_false_iff_ne.2 fun e => hm ⟨hp1, e⟩
          clear hm hp1
          go_wp2
          go_roundw
          case rel => exact ⟨k + 1, ps, by omega, by go_num, HX3, HS3, HM2, HPL2⟩
          case measure => simp [intOf]; omega
        · have hp : (r.p == p) = false := beq_eq_false_iff_ne.2 hp1
          clear hm hp1
          go_wp2
          go_roundw
          case rel => exact ⟨k + 1, ps, by omega, by go_num, HX3, HS3, HM2, HPL2⟩
          case measure => simp [intOf]; omega
    · obtain rfl : k = q := by omega
      have HRM : Hid (Recs wr (.slice a7 ps.length c7) MINE) := by have h := HS.out.recs; rw [HM.out, HTN.out] at h; exact h
      have HXW := Lib.hid (Gr.ext_trans HMB.out.x HX.out)
      clear HS HM HPL HRA HT0 HTN HTS HMB HX
      go_wp2
      go_ret
      exact ⟨_, rfl, HXW.out, HRM.out⟩
end Go.Proofs.YtpfmmfapdcbnkaaGreatDoor
namespace Go.Proofs.YtpfmmfapdcbnkaaGreatDoor
set_option maxRecDepth 20000
open Go.RowKit Go.Deep
set_option linter.unusedVariables false
set_option maxHeartbeats 8000000 in
theorem pfresh_any (p n b s m blk esi un : Int) (v : Value) (l : List Rc) (w0 w : World) (h0 : w0.Extends w) (hT : Tab w0) (hv : Recs w v l) (hm : l.length ≤ 9000)
    (e1 : Nat) (xs : List Nat) (hdec : ∀ v w, w0.Extends w → Recs w v (mineOf p n l) → Calls Tryz.prog 21 #[PV b s m, v] w (JoinOut w e1 xs))
    (e2 : Int) (OK : World → Nat → Prop) (hnew : e1 = 0 → ∀ v w, w0.Extends w → U8s w v xs → Calls Tryz.prog 23 #[PV b s m, v] w (ObjOr w e2 OK))
    (e3 : Int) (d : List Nat) (hsym : e1 = 0 → e2 = 0 → ∀ o w, w0.Extends w → OK w o → Calls Tryz.prog 24 #[.pointer (some ⟨o, 0, none⟩), .int .i64 blk, .int .i64 esi] w (SymOut w d e3)) :
    Calls Tryz.prog 8 #[.agg #[.int .i64 p, .int .i64 n], PV b s m, .int .i64 blk, .int .i64 esi, .int .i64 un, v] w (FreshOut w (freshRec p n b s m blk esi un d (freshErr e1 e2 e3)) (freshErr e1 e2 e3)) := by
  have HRI := Lib.hid hv
  obtain ⟨ra, rc, rfl⟩ := hv.slice
  have HRA := Lib.hid hv.at.2
  have hrm := hv.len
  unfold maxLen at hrm
  have HHV := Lib.hid (fun w' (hx : w.Extends w') => having_any p n _ l w' (hv.ext hx) hm)
  have HDEC := Lib.hid hdec
  have HNEW := Lib.hid hnew
  have HSYM := Lib.hid hsym
  have H0 := Lib.hid h0
  have HE1 : Hid (e1 ≠ 0 → ∀ w', w.Extends w' → FreshOut w (freshRec p n b s m blk esi un d (freshErr e1 e2 e3)) (freshErr e1 e2 e3) (.returned (.tuple #[Rc.zero.val (.slice none 0 0), .int .i64 (e1 : Nat)])) w') := fun h w' hx => by
    have e : freshErr e1 e2 e3 = (e1 : Nat) := by unfold freshErr; rw [if_neg h]
    have e' : freshRec p n b s m blk esi un d (freshErr e1 e2 e3) = Rc.zero := by unfold freshRec; rw [e, if_neg (by omega)]
    rw [e', e]
    exact ⟨none, 0, rfl, hx, nil_u8s _ _ _⟩
  have HE2 : Hid (e1 = 0 → e2 ≠ 0 → ∀ w', w.Extends w' → FreshOut w (freshRec p n b s m blk esi un d (freshErr e1 e2 e3)) (freshErr e1 e2 e3) (.returned (.tuple #[Rc.zero.val (.slice none 0 0), .int .i64 e2])) w') := fun h h2 w' hx => by
    have e : freshErr e1 e2 e3 = e2 := by unfold freshErr; rw [if_pos h, if_neg h2]
    have e' : freshRec p n b s m blk esi un d (freshErr e1 e2 e3) = Rc.zero := by unfold freshRec; rw [e, if_neg h2]
    rw [e', e]
    exact ⟨none, 0, rfl, hx, nil_u8s _ _ _⟩
  have HE3 : Hid (e1 = 0 → e2 = 0 → e3 ≠ 0 → ∀ w', w.Extends w' → FreshOut w (freshRec p n b s m blk esi un d (freshErr e1 e2 e3)) (freshErr e1 e2 e3) (.returned (.tuple #[Rc.zero.val (.slice none 0 0), .int .i64 e3])) w') := fun h h2 h3 w' hx => by
    have e : freshErr e1 e2 e3 = e3 := by unfold freshErr; rw [if_pos h, if_pos h2]
    have e' : freshRec p n b s m blk esi un d (freshErr e1 e2 e3) = Rc.zero := by unfold freshRec; rw [e, if_neg h3]
    rw [e', e]
    exact ⟨none, 0, rfl, hx, nil_u8s _ _ _⟩
  have HE4 : Hid (e1 = 0 → e2 = 0 → e3 = 0 → ∀ w' a c, w.Extends w' → U8s w' (.slice a d.length c) d → FreshOut w (freshRec p n b s m blk esi un d (freshErr e1 e2 e3)) (freshErr e1 e2 e3) (.returned (.tuple #[.agg #[.int .i64 p, .int .i64 n, .int .i64 b, .int .i64 s, .int .i64 m, .int .i64 blk, .int .i64 esi, .bool false, .int .i64 un, .slice a d.length c], .int .i64 0])) w') := fun h h2 h3 w' a c hx hu => by
    have e : freshErr e1 e2 e3 = 0 := by unfold freshErr; rw [if_pos h, if_pos h2]; exact h3
    have e' : freshRec p n b s m blk esi un d (freshErr e1 e2 e3) = ⟨p, n, b, s, m, blk, esi, false, un, d⟩ := by unfold freshRec; rw [e, if_pos rfl]
    rw [e', e]
    exact ⟨a, c, rfl, hx, hu⟩
  generalize FreshOut w (freshRec p n b s m blk esi un d (freshErr e1 e2 e3)) (freshErr e1 e2 e3) = POST at *
  generalize mineOf p n l = MINE at *
  obtain ⟨q, hq⟩ : ∃ q, q = l.length := ⟨_, rfl⟩
  rw [← hq] at HHV hm hrm ⊢
  clear hv hdec hnew hsym h0 hq HRA
  go_enter Tryz.func8, Tryz.ntmps8
  go_upto_region 1 with fail
  obtain ⟨y, hy⟩ : ∃ y, y = w.heap.size := ⟨_, rfl⟩
  have HMB := Lib.hid (MB.made w p n b s m)
  generalize hw1 : World.alloc _ _ = w1 at *
  rw [← hy] at HMB ⊢
  clear hw1
  have HYW : Hid (w.heap.size ≤ y) := Nat.le_of_eq hy.symm
  clear hy
  have HSH : Hid (∀ w', w1.Extends w' → w'.cell? ⟨y + 1, 0, none⟩ = some (.int .i64 b) ∧ w'.cell? ⟨y + 1, 1, none⟩ = some (.int .i64 s) ∧ w'.cell? ⟨y + 1, 2, none⟩ = some (.int .i64 m)) := HMB.out.s
  have HIDD : Hid (∀ w', w1.Extends w' → w'.cell? ⟨y, 0, none⟩ = some (.int .i64 p) ∧ w'.cell? ⟨y, 1, none⟩ = some (.int .i64 n)) := HMB.out.i
  have HZ : Hid (RB w1 (y + 1 + 1) Rc.zero (.slice none 0 0)) := HMB.out.z
  have HXB := Lib.hid HMB.out.x
  have HSL0 : Hid (Slc ((Rc.zero, Value.slice none 0 0) : Pr)) := ⟨none, 0, rfl⟩
  clear HMB
  go_wp2_with fail
  refine Gr.region 9 [(false,0),(false,1),(false,2),(true,3),(true,4),(false,5),(false,6),(false,7),(false,8)] (by kernel_rfl) (by kernel_rfl) (fun d _ _ _ _ h => by cases d <;> exact h) ?_
  simp only [Gr.pick, List.getElem?_cons_zero, List.getElem?_cons_succ, List.drop_succ_cons, List.drop_zero]
  have HXD : Hid (w1.Extends w1.drew) := Gr.ext_drew (Gr.ext_refl _)
  generalize w1.drew = wd at *
  iterate 3
    refine Gr.walk_t ?_ (Or.inl ⟨by rfl, ?_⟩) ?_
    rotate_left
    · intro w' hw'
      obtain ⟨s0, s1, s2⟩ := HSH.out w' (Gr.ext_trans HXD.out hw')
      obtain ⟨i0, i1⟩ := HIDD.out w' (Gr.ext_trans HXD.out hw')
      clear hw'
      go_simp
      try with_reducible rfl
    simp only [Act.put, List.setIfInBounds_toArray, List.set_cons_zero, List.set_cons_succ]
  refine Gr.walk_c (fun K hK => ?_)
  go_simp
  refine (HHV.out wd (Gr.ext_trans HXB.out HXD.out)).mono ?_
  rintro e w8 ⟨u, rfl, hx8, hr8⟩
  obtain ⟨ma, mc, rfl⟩ := hr8.slice
  have HX8 := Lib.hid (Gr.ext_trans HXD.out hx8)
  have HR8 := Lib.hid hr8
  try go_simp
  refine hK.out _ _ (hx8) ?_
  clear hK K
  clear hx8 hr8 HXD HHV
  generalize MINE.length = ml at *
  refine Gr.walk_c (fun K hK => ?_)
  go_simp
  refine (HDEC.out _ w8 (Gr.ext_trans H0.out (Gr.ext_trans HXB.out HX8.out)) HR8.out).mono ?_
  rintro e w2 ⟨u, rfl, hx2, hu2⟩
  obtain ⟨ua, uc, rfl, -⟩ := hu2.slice
  have HX2 := Lib.hid (Gr.ext_trans HX8.out hx2)
  have HU2 := Lib.hid hu2
  try go_simp
  refine hK.out _ _ (hx2) ?_
  clear hK K
  clear hx2 hu2 HX8 HR8 HDEC
  iterate 4
    refine Gr.walk_t ?_ (Or.inl ⟨by rfl, ?_⟩) ?_
    rotate_left
    · intro w' hw'
      clear hw'
      go_simp
      try with_reducible rfl
    simp only [Act.put, List.setIfInBounds_toArray, List.set_cons_zero, List.set_cons_succ]
  refine Gr.walk_nil ?_
  by_cases he1 : e1 = 0
  case neg =>
    have hne : ((e1 : Int) == 0) = false := by rw [beq_eq_false_iff_ne]; omega
    have HP := Lib.hid (HE1.out he1)
    have HZZ := Lib.hid (HZ.out.ext HX2.out)
    go_wp2_with (refine wpList_store_rb rfl (.tmp 12) (.tmp 28) rfl (y + 1 + 1) Rc.zero Rc.zero _ (.slice none 0 0) rfl rfl HZZ.out HSL0.out ?_)
    intro w9 ha9 hg9
    obtain ⟨d0, d1, d2, d3, d4, d5, d6, d7, d8, d9⟩ := RCell.ten ha9.range
    simp only [Nat.zero_add, Rc.zero] at d0 d1 d2 d3 d4 d5 d6 d7 d8 d9
    have HX9 : Hid (w.Extends w9) := ext_own (Gr.ext_trans HXB.out HX2.out) hg9 (fun j hj => by have := Option.some.inj hj; have := HYW.out; omega)
    have HPF := Lib.hid (HP.out w9 HX9.out)
    clear ha9 hg9 HP HZZ HX9
    repeat (first | go_step | go_upon)
    refine bodyPost_ret (v := .tuple #[Rc.zero.val (.slice none 0 0), .int .i64 (e1 : Nat)]) (by simp [results, Tryz.results8, go_sem, d0, d1, d2, d3, d4, d5, d6, d7, d8, d9]; try rfl) rfl ?_
    exact HPF.out
  have he1' : ((e1 : Int) == 0) = true := by rw [beq_iff_eq]; omega
  have HNEW2 := Lib.hid (HNEW.out he1)
  obtain ⟨s0, s1, s2⟩ := HSH.out w2 HX2.out
  clear HE1 HNEW
  generalize xs.length = xl at *
  go_wp2_with fail
  clear he1' s0 s1 s2
  refine (HNEW2.out _ w2 (Gr.ext_trans H0.out (Gr.ext_trans HXB.out HX2.out)) HU2.out).mono ?_
  rintro e w3 ⟨hx3, ⟨hn2, rfl⟩ | ⟨hn2, o, rfl, hok⟩⟩
  · have HX3 := Lib.hid (Gr.ext_trans HX2.out hx3)
    have hne : (e2 == 0) = false := by rw [beq_eq_false_iff_ne]; exact hn2
    have HP := Lib.hid (HE2.out he1 hn2)
    clear hx3 HX2 HU2 HNEW2
    have HZZ := Lib.hid (HZ.out.ext HX3.out)
    go_wp2_with (refine wpList_store_rb rfl (.tmp 12) (.tmp 38) rfl (y + 1 + 1) Rc.zero Rc.zero _ (.slice none 0 0) rfl rfl HZZ.out HSL0.out ?_)
    intro w9 ha9 hg9
    obtain ⟨d0, d1, d2, d3, d4, d5, d6, d7, d8, d9⟩ := RCell.ten ha9.range
    simp only [Nat.zero_add, Rc.zero] at d0 d1 d2 d3 d4 d5 d6 d7 d8 d9
    have HX9 : Hid (w.Extends w9) := ext_own (Gr.ext_trans HXB.out HX3.out) hg9 (fun j hj => by have := Option.some.inj hj; have := HYW.out; omega)
    have HPF := Lib.hid (HP.out w9 HX9.out)
    clear ha9 hg9 HP HZZ HX9
    repeat (first | go_step | go_upon)
    refine bodyPost_ret (v := .tuple #[Rc.zero.val (.slice none 0 0), .int .i64 e2]) (by simp [results, Tryz.results8, go_sem, d0, d1, d2, d3, d4, d5, d6, d7, d8, d9]; try rfl) rfl ?_
    exact HPF.out
  have HX3 := Lib.hid (Gr.ext_trans HX2.out hx3)
  have HSYM2 := Lib.hid (HSYM.out he1 hn2 o w3 (Gr.ext_trans H0.out (Gr.ext_trans HXB.out HX3.out)) hok)
  clear hx3 hok HX2 HU2 HNEW2 HE2 HSYM
  go_wp2_with fail
  refine HSYM2.out.mono ?_
  rintro e w4 ⟨u, rfl, hx4, hu4⟩
  obtain ⟨ua4, uc4, rfl, -⟩ := hu4.1.slice
  have HX4 := Lib.hid (Gr.ext_trans HX3.out hx4)
  have HU4 := Lib.hid hu4.1
  clear hx4 hu4 HX3 HSYM2
  by_cases he3 : e3 = 0
  case neg =>
    have hne : (e3 == 0) = false := by rw [beq_eq_false_iff_ne]; exact he3
    have HP := Lib.hid (HE3.out he1 hn2 he3)
    clear HU4
    have HZZ := Lib.hid (HZ.out.ext HX4.out)
    go_wp2_with (refine wpList_store_rb rfl (.tmp 12) (.tmp 49) rfl (y + 1 + 1) Rc.zero Rc.zero _ (.slice none 0 0) rfl rfl HZZ.out HSL0.out ?_)
    intro w9 ha9 hg9
    obtain ⟨d0, d1, d2, d3, d4, d5, d6, d7, d8, d9⟩ := RCell.ten ha9.range
    simp only [Nat.zero_add, Rc.zero] at d0 d1 d2 d3 d4 d5 d6 d7 d8 d9
    have HX9 : Hid (w.Extends w9) := ext_own (Gr.ext_trans HXB.out HX4.out) hg9 (fun j hj => by have := Option.some.inj hj; have := HYW.out; omega)
    have HPF := Lib.hid (HP.out w9 HX9.out)
    clear ha9 hg9 HP HZZ HX9
    repeat (first | go_step | go_upon)
    refine bodyPost_ret (v := .tuple #[Rc.zero.val (.slice none 0 0), .int .i64 e3]) (by simp [results, Tryz.results8, go_sem, d0, d1, d2, d3, d4, d5, d6, d7, d8, d9]; try rfl) rfl ?_
    exact HPF.out
  have hee : (e3 == 0) = true := by rw [beq_iff_eq]; exact he3
  obtain ⟨s0, s1, s2⟩ := HSH.out w4 HX4.out
  obtain ⟨i0, i1⟩ := HIDD.out w4 HX4.out
  have HZ4 := Lib.hid (HZ.out.ext HX4.out)
  have HP := Lib.hid (HE4.out he1 hn2 he3)
  have HSLC : Hid (Slc (((⟨p, n, b, s, m, blk, esi, false, un, d⟩ : Rc), Value.slice ua4 d.length uc4) : Pr)) := ⟨_, _, rfl⟩
  clear HE3 HE4 HZ HSH HIDD
  go_wp2_with (refine wpList_store_rb rfl (.tmp 12) (.tmp 57) rfl (y + 1 + 1) Rc.zero ⟨p, n, b, s, m, blk, esi, false, un, d⟩ _ (.slice ua4 d.length uc4) rfl rfl HZ4.out HSLC.out ?_)
  intro w5 ha5 hg5
  obtain ⟨d0, d1, d2, d3, d4, d5, d6, d7, d8, d9⟩ := RCell.ten ha5.range
  simp only [Nat.zero_add] at d0 d1 d2 d3 d4 d5 d6 d7 d8 d9
  have HX5 : Hid (w.Extends w5) := ext_own (Gr.ext_trans HXB.out HX4.out) hg5 (fun j hj => by have := Option.some.inj hj; have := HYW.out; omega)
  have HU5 : Hid (U8s w5 (.slice ua4 d.length uc4) d) := HU4.out.beside HZ4.out (fun z hz t e => by subst e; simp [Rc.cells] at hz) hg5
  have HPF := Lib.hid (HP.out w5 ua4 uc4 HX5.out HU5.out)
  clear ha5 hg5 s0 s1 s2 i0 i1 hee he3 HP HX5 HU5 HZ4 HSLC HU4 HX4
  generalize d.length = dl at *
  repeat (first | go_step | go_upon)
  refine bodyPost_ret (v := .tuple #[.agg #[.int .i64 p, .int .i64 n, .int .i64 b, .int .i64 s, .int .i64 m, .int .i64 blk, .int .i64 esi, .bool false, .int .i64 un, .slice ua4 dl uc4], .int .i64 0]) (by simp [results, Tryz.results8, go_sem, d0, d1, d2, d3, d4, d5, d6, d7, d8, d9]; try rfl) rfl ?_
  exact HPF.out
end Go.Proofs.YtpfmmfapdcbnkaaGreatDoor
namespace Go.Proofs.YtpfmmfapdcbnkaaGreatDoor
set_option maxRecDepth 20000
open Go.RowKit
set_option maxHeartbeats 400000 in
theorem rpower_any (n : Int) (w : World) :
    Calls Tryz.prog 77 #[.int .i64 n] w fun e w' => e = .returned (.int .u8 (FM.ex (n % 255).toNat : Nat)) ∧ w = w' := by
  have hk : ((n % 255).toNat : Int) = n % 255 := Int.toNat_of_nonneg (by omega)
  have hl : (n % 255).toNat < 256 := by omega
  generalize (n % 255).toNat = k at *
  by_cases h0 : n.tmod 255 < 0
  · have e := Lib.hid (IntWalk.wrap64_in (n.tmod 255 + 255) (by rw [tmod_neg n h0]; omega))
    have e2 := Lib.hid ((tmod_neg n h0).trans hk.symm)
    clear hk
    go_enter Tryz.func77, Tryz.ntmps77
    go_wp2
    rw [e.out, e2.out]
    go_loop [4, 5] (fun x i => ∃ m : Nat, m ≤ k ∧ i = .int .i64 m ∧ x = .int .u8 (FM.ex m : Nat)) (fun _ i => (k - intOf i).toNat)
    case atStart => exact ⟨0, by omega, rfl, rfl⟩
    case round =>
      obtain ⟨m, hm, rfl, rfl⟩ := hrel
      have hx := FM.ex_lt m
      have hr : Hid (FM.rtm (FM.ex m) 2 = FM.ex (m + 1)) := FM.rtm_eq (FM.ex m) 2 hx (by omega)
      by_cases h0 : m < k
      · go_wp2_with fail
        refine (rtimes_any _ 2 hx (by omega) _).mono ?_
        rintro e w' ⟨rfl, rfl⟩
        go_wp2
        go_round
        case rel => exact ⟨m + 1, by omega, by go_num, by rw [hr.out]⟩
        case measure => simp [intOf]; omega
      · have hF : Hid (m = k) := by show _ = _; omega
        go_wp2
        go_ret
        exact ⟨retu8 (by rw [hF.out]), rfl⟩
  · have e2 := Lib.hid ((tmod_pos n h0).trans hk.symm)
    clear hk
    go_enter Tryz.func77, Tryz.ntmps77
    go_wp2
    rw [e2.out]
    go_loop [4, 5] (fun x i => ∃ m : Nat, m ≤ k ∧ i = .int .i64 m ∧ x = .int .u8 (FM.ex m : Nat)) (fun _ i => (k - intOf i).toNat)
    case atStart => exact ⟨0, by omega, rfl, rfl⟩
    case round =>
      obtain ⟨m, hm, rfl, rfl⟩ := hrel
      have hx := FM.ex_lt m
      have hr : Hid (FM.rtm (FM.ex m) 2 = FM.ex (m + 1)) := FM.rtm_eq (FM.ex m) 2 hx (by omega)
      by_cases h0 : m < k
      · go_wp2_with fail
        refine (rtimes_any _ 2 hx (by omega) _).mono ?_
        rintro e w' ⟨rfl, rfl⟩
        go_wp2
        go_round
        case rel => exact ⟨m + 1, by omega, by go_num, by rw [hr.out]⟩
        case measure => simp [intOf]; omega
      · have hF : Hid (m = k) := by show _ = _; omega
        go_wp2
        go_ret
        exact ⟨retu8 (by rw [hF.out]), rfl⟩
end Go.Proofs.YtpfmmfapdcbnkaaGreatDoor
namespace Go.Proofs.YtpfmmfapdcbnkaaGreatDoor
set_option maxRecDepth 20000
open Go.RowKit Go.Deep
set_option linter.unusedVariables false
/-- Rows of a call's own. -/
def MadeMats (w : World) (l : List (List Nat)) (e : Ending) (w' : World) : Prop := ∃ v, e = .returned v ∧ w.Extends w' ∧ Mats w' w.heap.size 0 30 v l.length l
theorem Own.tab {w : World} {b : Nat} {T : TypeId} {L : Nat} {f f' : Nat → Nat} (h : Own w b T (QM.tab L f)) (c v : Nat) (hc : c < L) (hv : v < 256) (e : ∀ x, (if x = c then v else f x) = f' x) : Own (w.setCell ⟨b, c, none⟩ (.int .u8 (v : Nat))) b T (QM.tab L f') := by
  have := h.set c v (by rw [QM.tab_length]; exact hc) hv
  rw [QM.tab_set] at this
  rwa [QM.tab_congr (fun x _ => e x)] at this
theorem Own.tabAt {w : World} {b : Nat} {T : TypeId} {L : Nat} {f : Nat → Nat} (h : Own w b T (QM.tab L f)) {c : Nat} (hc : c < L) : ∃ z : Nat, w.cell? ⟨b, c, none⟩ = some (.int .u8 (z : Nat)) :=
  ⟨_, h.1.cell (by rw [QM.tab_length]; exact hc)⟩
theorem Own.tabMade (w : World) (L : Nat) (T : TypeId) (f : Nat → Nat) (hL : L ≤ maxLen) (h0 : ∀ x, f x = 0) : Own (w.alloc (.cells (madeCells #[.int .u8 0] L) T)) w.heap.size T (QM.tab L f) := by
  have := Own.made w L T hL
  rw [QM.tab_rep] at this
  rwa [QM.tab_congr (fun x _ => (h0 x).symm)] at this
set_option maxHeartbeats 1000000 in
set_option maxRecDepth 100000 in
theorem refLow_some (k : Nat) (w : World) (h1 : 1 ≤ k) (h2 : k ≤ 40) :
    Calls Tryz.prog 55 #[.int .i64 k] w (MadeMats w (QM.low k)) := by
  have HSC := Lib.hid (fun w => refS_any k w (by omega))
  have HWC := Lib.hid (fun w => refW_any k w (by omega))
  have HLC := Lib.hid (fun w => refL_any k w (by omega))
  have hs7 := PM.s_le k h2
  have hs2 : 2 ≤ PM.s k := by unfold PM.s; omega
  have hW1 : PM.w k = k + PM.s k := rfl
  have hL1 : PM.l k = PM.w k + 2 := rfl
  have HG : Hid (QM.low k = QM.grid (PM.s k) (PM.l k) (QM.lowE k)) := rfl
  have HT0 := Lib.hid (QM.lowTo_zero k)
  have HTS := Lib.hid (QM.lowTo_same k)
  have HTH := Lib.hid (QM.lowTo_hit k)
  have HEF := Lib.hid (QM.lowE_of k)
  generalize QM.low k = lw at *
  have hmk := fun w => mkBytes (PM.l k) (by omega) w
  have HLW : Hid (PM.l k = k + PM.s k + 2) := by show _ = _; omega
  have HWV : Hid (PM.w k = k + PM.s k) := hW1
  have hL50 : PM.l k ≤ 50 := by omega
  clear hW1 hL1
  generalize PM.l k = L at *
  generalize PM.w k = W at *
  generalize PM.s k = S at *
  have hS0 : S ≠ 0 := by omega
  obtain ⟨i1, hi', hz0', hz1', hz2'⟩ := info_parts bytesinfo
  have HI' := Lib.hid hi'; clear hi'
  have HZ0' := Lib.hid hz0'; clear hz0'
  have HZ1' := Lib.hid hz1'; clear hz1'
  have HZ2' := Lib.hid hz2'; clear hz2'
  go_enter Tryz.func55, Tryz.ntmps55
  go_wp2_with fail
  refine (HSC.out _).mono ?_
  rintro e w' ⟨rfl, rfl⟩
  go_wp2_with fail
  go_loopw [4, 5] (fun o i wr => ∃ m : Nat, m ≤ S ∧ i = .int .i64 m ∧ Hid (w.Extends wr) ∧ Hid (Mats wr w.heap.size 0 30 o m (QM.grid m L (QM.lowE k)))) (fun _ i _ => (S - intOf i).toNat)
  case atStart => exact ⟨0, by omega, rfl, Lib.hid (Gr.ext_refl _), Lib.hid (Mats.nil _ _ _ _ _)⟩
  case round =>
    obtain ⟨m, hm, rfl, HX, HM⟩ := hrel
    by_cases h5 : m < S
    · obtain ⟨wo, hwo⟩ : ∃ wo, wo = wr := ⟨_, rfl⟩
      subst hwo
      go_wp2_with fail
      refine (HLC.out _).mono ?_
      rintro e w' ⟨rfl, rfl⟩
      go_wp2_with fail
      generalize hwa : World.alloc wo _ = wa
      have hxa : wo.Extends wa := by subst hwa; exact ext_alloc _ _
      have hoa : Own wa wo.heap.size 5 (QM.tab L (QM.lowTo k 0 m)) := by subst hwa; exact Own.tabMade wo L _ _ (by unfold maxLen; omega) (HT0.out m)
      obtain ⟨b, hb⟩ : ∃ b, b = wo.heap.size := ⟨_, rfl⟩
      rw [← hb] at hoa ⊢
      have HB : Hid (wo.heap.size ≤ b) := by show _ ≤ _; omega
      have HXA := Lib.hid hxa
      have HOA := Lib.hid hoa
      clear hwa hxa hoa hb
      go_loopw [7] (fun i wy => ∃ c : Nat, c ≤ k ∧ i = .int .i64 c ∧ Hid (wo.Extends wy) ∧ Hid (Own wy b 5 (QM.tab L (QM.lowTo k c m)))) (fun i _ => (k - intOf i).toNat)
      case atStart => exact ⟨0, by omega, rfl, HXA, HOA⟩
      case round =>
        obtain ⟨c, hc, rfl, HY, HO⟩ := hrel
        by_cases h6 : c < k
        · have hcL : c < L := by have := HLW.out; omega
          obtain ⟨r, hr⟩ : ∃ r, r = c % S := ⟨_, rfl⟩
          obtain ⟨d, hd⟩ : ∃ d, d = c / S := ⟨_, rfl⟩
          obtain ⟨q, hq⟩ : ∃ q, q = (d + c + 1) % S := ⟨_, rfl⟩
          have hdc : d ≤ c := by rw [hd]; exact Nat.div_le_self _ _
          have er : (c : Int) % (S : Int) = (r : Int) := by rw [hr, Int.natCast_emod]
          have ed : (c : Int) / (S : Int) = (d : Int) := by rw [hd, Int.natCast_ediv]
          have eq : ((d : Int) + (c : Int) + 1) % (S : Int) = (q : Int) := by rw [hq, Int.natCast_emod]; rfl
          have HHT : Hid (QM.hit S m c ↔ (r = m ∨ q = m)) := by
            show _ ↔ _
            unfold QM.hit; rw [← hd, ← hr, ← hq]
          clear hr hd hq
          obtain ⟨z, hcc⟩ := HO.out.tabAt hcL
          have hff := HO.out.1.frozen c
          by_cases ha : r = m
          · have b1 : ((r : Int) == (m : Int)) = true := by simp [ha]
            have HOS : Hid (Own (wr.setCell ⟨b, c, none⟩ (.int .u8 ((1 : Nat) : Int))) b 5 (QM.tab L (QM.lowTo k (c + 1) m))) := HO.out.tab c 1 hcL (by omega) fun x => HTH.out c m x (HHT.out.2 (.inl ha))
            have HYS : Hid (wo.Extends (wr.setCell ⟨b, c, none⟩ (.int .u8 ((1 : Nat) : Int)))) := HY.out.setCell _ _ HB.out
            clear ha HHT HO HY
            go_wp2
            go_roundw
            case rel => exact ⟨c + 1, by omega, by go_num, HYS, HOS⟩
            case measure => simp [intOf]; omega
          · have b1 : ((r : Int) == (m : Int)) = false := by rw [beq_eq_false_iff_ne]; omega
            by_cases hb : q = m
            · have b2 : ((q : Int) == (m : Int)) = true := by simp [hb]
              have HOS : Hid (Own (wr.setCell ⟨b, c, none⟩ (.int .u8 ((1 : Nat) : Int))) b 5 (QM.tab L (QM.lowTo k (c + 1) m))) := HO.out.tab c 1 hcL (by omega) fun x => HTH.out c m x (HHT.out.2 (.inr hb))
              have HYS : Hid (wo.Extends (wr.setCell ⟨b, c, none⟩ (.int .u8 ((1 : Nat) : Int)))) := HY.out.setCell _ _ HB.out
              clear ha hb HHT HO HY
              go_wp2
              go_roundw
              case rel => exact ⟨c + 1, by omega, by go_num, HYS, HOS⟩
              case measure => simp [intOf]; omega
            · have b2 : ((q : Int) == (m : Int)) = false := by rw [beq_eq_false_iff_ne]; omega
              have HOS : Hid (Own wr b 5 (QM.tab L (QM.lowTo k (c + 1) m))) := by
                have h := HO.out
                rwa [QM.tab_congr (fun x _ => (HTS.out c m x (fun h => by have := HHT.out.1 h; omega)).symm)] at h
              clear ha hb HHT HO
              go_wp2
              go_roundw
              case rel => exact ⟨c + 1, by omega, by go_num, HY, HOS⟩
              case measure => simp [intOf]; omega
        · obtain rfl : c = k := by omega
          clear HTS HTH
          obtain ⟨x, hx⟩ : ∃ x, x = c + m := ⟨_, rfl⟩
          obtain ⟨m2, hm2⟩ : ∃ m2, m2 = m % 2 := ⟨_, rfl⟩
          obtain ⟨y, hy⟩ : ∃ y, y = W + m2 := ⟨_, rfl⟩
          have hm22 : m2 < 2 := by omega
          have hxL : x < L := by have := HLW.out; omega
          have hyL : y < L := by have := HLW.out; have := HWV.out; omega
          have hW47 : W ≤ 50 := by have := HLW.out; have := HWV.out; omega
          have ex : (c : Int) + (m : Int) = (x : Int) := by omega
          have em : (m : Int) % 2 = (m2 : Int) := by omega
          have ey : (W : Int) + (m2 : Int) = (y : Int) := by omega
          have HO1 : Hid (Own (wr.setCell ⟨b, x, none⟩ (.int .u8 ((1 : Nat) : Int))) b 5 (QM.tab L (fun z => if z = x then 1 else QM.lowTo c c m z))) := HO.out.tab x 1 hxL (by omega) fun z => rfl
          have HY1 : Hid (wo.Extends (wr.setCell ⟨b, x, none⟩ (.int .u8 ((1 : Nat) : Int)))) := HY.out.setCell _ _ HB.out
          have HEQ : Hid (∀ z, (if z = y then 1 else if z = x then 1 else QM.lowTo c c m z) = QM.lowE c m z) := fun z => by rw [hy, hx, hm2]; exact HEF.out m z
          obtain ⟨z, hcc⟩ := HO.out.tabAt hxL
          have hff := HO.out.1.frozen x
          clear hx hm2 hy HO HY
          go_wp2_with fail
          generalize hwp : World.setCell wr _ _ = wp
          have hop : Own wp b 5 (QM.tab L (fun z => if z = x then 1 else QM.lowTo c c m z)) := by subst hwp; exact HO1.out
          have hyp : wo.Extends wp := by subst hwp; exact HY1.out
          clear hcc hff HO1 HY1 hwp
          obtain ⟨z, hcc⟩ := hop.tabAt hyL
          have hff := hop.1.frozen y
          have HO2 : Hid (Own (wp.setCell ⟨b, y, none⟩ (.int .u8 ((1 : Nat) : Int))) b 5 (QM.tab L (QM.lowE c m))) := hop.tab y 1 hyL (by omega) HEQ.out
          have HY2 : Hid (wo.Extends (wp.setCell ⟨b, y, none⟩ (.int .u8 ((1 : Nat) : Int)))) := hyp.setCell _ _ HB.out
          clear hop hyp HEQ
          generalize hwz : World.setCell wp _ _ = wz at HO2 HY2
          have HXZ := Lib.hid (Gr.ext_trans HX.out HY2.out)
          obtain ⟨vs, hown, hrows⟩ := HM.out.ext HY2.out
          have HOWN := Lib.hid hown
          have HROWS := Lib.hid hrows
          have HOB : Hid (∀ g, u4.ownBlock = some g → w.heap.size ≤ g) := fun g hg => (HOWN.out.lt g hg).1
          have HOK : Hid (RowOk wz 0 (.slice (some ⟨b, 0, none⟩) L L) (QM.tab L (QM.lowE c m))) := RowOk.own HO2.out _ (by rw [QM.tab_length]) (by rw [QM.tab_length])
          have hbs := HXZ.out.size
          have HSN : Hid (QM.grid m L (QM.lowE c) ++ [QM.tab L (QM.lowE c m)] = QM.grid (m + 1) L (QM.lowE c)) := (QM.grid_snoc m L _).symm
          have HGL : Hid (m = (QM.grid m L (QM.lowE c)).length) := (QM.grid_length _ _ _).symm
          clear hown hrows HM HO2 HY2 HX
          generalize QM.grid m L (QM.lowE c) = gl at *
          have hsz : wp.heap.size = wz.heap.size := by subst hwz; simp
          have HWZ := Lib.hid hwz
          have HSZ := Lib.hid hsz
          clear hwz hsz
          refine (HWC.out _).mono ?_
          rintro e w' ⟨rfl, rfl⟩
          go_wp2_with (at_builtin; rw [show World.setCell wp ⟨b, y, none⟩ (.int .u8 1) = wz from HWZ.out, HSZ.out]; refine wpList_append_own_src _ rfl _ _ 73 73 rfl w.heap.size 30 i1 (.slice none 0 0) 1 24 Tryz.underlying73 HI'.out HZ0'.out HZ1'.out HZ2'.out rfl _ _ _ rfl (HOWN.out.alloc _) _ 1 [.slice (some ⟨b, 0, none⟩) L L] rfl (src_one Tryz.underlying73 _ _ rfl rfl) (by unfold maxLen; omega) (by omega) (by simp; omega) ?_)
          intro v' w3 ho3 hg3 _
          have HP : Hid (w.Extends w3 ∧ Mats w3 w.heap.size 0 30 v' (m + 1) (QM.grid (m + 1) L (QM.lowE c))) := by
            refine ⟨Gr.ext_of (((Gr.below_of HXZ.out).alloc hbs _).grown hg3 (by simp; omega) HOB.out), ?_⟩
            rw [← HSN.out]
            exact Mats.snoc (Nat.zero_le _) (by decide) HGL.out (HOWN.out.alloc _) (fun j hj => by obtain ⟨u, h1, h2⟩ := HROWS.out j hj; exact ⟨u, h1, h2.ext (ext_alloc _ _)⟩) (HOK.out.ext (ext_alloc _ _)) hg3 ho3
          clear ho3 hg3
          go_wp2
          go_roundw
          case rel => exact ⟨m + 1, by omega, by go_num, Lib.hid HP.out.1, Lib.hid HP.out.2⟩
          case measure => simp [intOf]; omega
    · obtain rfl : m = S := by omega
      have HP : Hid (MadeMats w lw (.returned u4) wr) := by
        refine ⟨u4, rfl, HX.out, ?_⟩
        rw [HG.out, QM.grid_length]
        exact HM.out
      go_wp2
      go_ret
      exact HP.out
end Go.Proofs.YtpfmmfapdcbnkaaGreatDoor
namespace Go.Proofs.YtpfmmfapdcbnkaaGreatDoor
set_option maxRecDepth 20000
open Go.RowKit Go.Deep
set_option linter.unusedVariables false
/-- What the reference draws for place x of high row h, and its power. -/
theorem refDrawn_hv (h x : Nat) (hx : x < 4294967296) (w : World) : ∃ r : Nat, r < 255 ∧ (Calls Tryz.prog 27 #[.int .u32 x, .int .u32 (h + 7 : Nat), .int .i64 255] w fun e w' => e = .returned (.int .i64 r) ∧ w = w') ∧
    ∀ w, Calls Tryz.prog 77 #[.int .i64 r] w fun e w' => e = .returned (.int .u8 (QM.hv h x : Nat)) ∧ w = w' := by
  have hb := RM.rand_below x (h + 7) 255 (by omega)
  have hr := refRand_any x (h + 7) 255 hx (by omega) (by omega) w
  have hq : QM.hv h x = FM.ex (RM.rand x (h + 7) 255 % 255).toNat := rfl
  rw [hq]
  clear hq
  obtain ⟨r, hrr⟩ := Int.eq_ofNat_of_zero_le hb.1
  rw [hrr] at hr hb ⊢
  exact ⟨r, by omega, hr, fun w => rpower_any r w⟩
/-- The first c elements of a high row. -/
def QM.hrow (h c x : Nat) : Nat := if x < c then QM.hv h x else 0
theorem QM.hrow_zero (h x : Nat) : QM.hrow h 0 x = 0 := if_neg (Nat.not_lt_zero _)
theorem QM.hrow_step (h c x : Nat) : (if x = c then QM.hv h c else QM.hrow h c x) = QM.hrow h (c + 1) x := by
  unfold QM.hrow
  by_cases e : x = c
  · subst e; rw [if_pos rfl, if_pos (by omega)]
  · rw [if_neg e]
    by_cases h : x < c
    · rw [if_pos h, if_pos (by omega)]
    · rw [if_neg h, if_neg (by omega)]
theorem QM.hrow_full (k h x : Nat) : (if x = PM.w k + h then 1 else QM.hrow h (PM.w k) x) = QM.hiE k h x := QM.hiE_of k h x
set_option maxHeartbeats 1000000 in
set_option maxRecDepth 100000 in
theorem refHigh_some (k : Nat) (w : World) (h1 : 1 ≤ k) (h2 : k ≤ 40) :
    Calls Tryz.prog 56 #[.int .i64 k] w (MadeMats w (QM.high k)) := by
  have HWC := Lib.hid (fun w => refW_any k w (by omega))
  have HLC := Lib.hid (fun w => refL_any k w (by omega))
  have hs7 := PM.s_le k h2
  have hW1 : PM.w k = k + PM.s k := rfl
  have hL1 : PM.l k = PM.w k + 2 := rfl
  have HG : Hid (QM.high k = QM.grid 2 (PM.l k) (QM.hiE k)) := rfl
  have HEF := Lib.hid (QM.hrow_full k)
  generalize QM.high k = lw at *
  have hmk := fun w => mkBytes (PM.l k) (by omega) w
  have HLW : Hid (PM.l k = PM.w k + 2) := hL1
  have hW47 : PM.w k ≤ 48 := by omega
  have hL50 : PM.l k ≤ 50 := by omega
  clear hW1 hL1
  generalize PM.l k = L at *
  generalize PM.w k = W at *
  obtain ⟨i1, hi', hz0', hz1', hz2'⟩ := info_parts bytesinfo
  have HI' := Lib.hid hi'; clear hi'
  have HZ0' := Lib.hid hz0'; clear hz0'
  have HZ1' := Lib.hid hz1'; clear hz1'
  have HZ2' := Lib.hid hz2'; clear hz2'
  go_enter Tryz.func56, Tryz.ntmps56
  go_wp2_with fail
  go_loopw [3, 4] (fun o i wr => ∃ m : Nat, m ≤ 2 ∧ i = .int .i64 m ∧ Hid (w.Extends wr) ∧ Hid (Mats wr w.heap.size 0 30 o m (QM.grid m L (QM.hiE k)))) (fun _ i _ => (2 - intOf i).toNat)
  case atStart => exact ⟨0, by omega, rfl, Lib.hid (Gr.ext_refl _), Lib.hid (Mats.nil _ _ _ _ _)⟩
  case round =>
    obtain ⟨m, hm, rfl, HX, HM⟩ := hrel
    by_cases h5 : m < 2
    · obtain ⟨wo, hwo⟩ : ∃ wo, wo = wr := ⟨_, rfl⟩
      subst hwo
      go_wp2_with fail
      refine (HLC.out _).mono ?_
      rintro e w' ⟨rfl, rfl⟩
      go_wp2_with fail
      generalize hwa : World.alloc wo _ = wa
      have hxa : wo.Extends wa := by subst hwa; exact ext_alloc _ _
      have hoa : Own wa wo.heap.size 5 (QM.tab L (QM.hrow m 0)) := by subst hwa; exact Own.tabMade wo L _ _ (by unfold maxLen; omega) (QM.hrow_zero m)
      obtain ⟨b, hb⟩ : ∃ b, b = wo.heap.size := ⟨_, rfl⟩
      rw [← hb] at hoa ⊢
      have HB : Hid (wo.heap.size ≤ b) := by show _ ≤ _; omega
      have HXA := Lib.hid hxa
      have HOA := Lib.hid hoa
      clear hwa hxa hoa hb
      obtain ⟨h7, hh7⟩ : ∃ h7, h7 = m + 7 := ⟨_, rfl⟩
      have c7 : (m : Int) + 7 = (h7 : Int) := by omega
      have c9 : h7 ≤ 9 := by omega
      have HH7 := Lib.hid hh7
      clear hh7
      go_loopw [6] (fun i wy => ∃ c : Nat, c ≤ W ∧ i = .int .i64 c ∧ Hid (wo.Extends wy) ∧ Hid (Own wy b 5 (QM.tab L (QM.hrow m c)))) (fun i _ => (W - intOf i).toNat)
      case atStart => exact ⟨0, by omega, rfl, HXA, HOA⟩
      case round =>
        obtain ⟨c, hc, rfl, HY, HO⟩ := hrel
        by_cases h6 : c < W
        · have hcL : c < L := by have := HLW.out; omega
          obtain ⟨z, hcc⟩ := HO.out.tabAt hcL
          have hff := HO.out.1.frozen c
          have HOS : Hid (Own (wr.setCell ⟨b, c, none⟩ (.int .u8 ((QM.hv m c : Nat) : Int))) b 5 (QM.tab L (QM.hrow m (c + 1)))) := HO.out.tab c (QM.hv m c) hcL (QM.hv_lt m c) fun x => QM.hrow_step m c x
          have HYS : Hid (wo.Extends (wr.setCell ⟨b, c, none⟩ (.int .u8 ((QM.hv m c : Nat) : Int)))) := HY.out.setCell _ _ HB.out
          obtain ⟨r, hr, hrand, hpow⟩ := refDrawn_hv m c (by omega) wr
          rw [← HH7.out] at hrand
          have HRD := Lib.hid hrand
          have HPW := Lib.hid hpow
          clear hrand hpow HO HY
          generalize QM.hv m c = v at *
          go_wp2_with fail
          refine (HWC.out _).mono ?_
          rintro e w' ⟨rfl, rfl⟩
          go_wp2_with fail
          refine HRD.out.mono ?_
          rintro e wx ⟨rfl, rfl⟩
          go_wp2_with fail
          refine (HPW.out _).mono ?_
          rintro e wx ⟨rfl, rfl⟩
          clear HRD HPW
          go_wp2
          go_roundw
          case rel => exact ⟨c + 1, by omega, by go_num, HYS, HOS⟩
          case measure => simp [intOf]; omega
        · obtain rfl : c = W := by omega
          obtain ⟨x, hx⟩ : ∃ x, x = c + m := ⟨_, rfl⟩
          have hxL : x < L := by have := HLW.out; omega
          have ex : (c : Int) + (m : Int) = (x : Int) := by omega
          have HEQ : Hid (∀ z, (if z = x then 1 else QM.hrow m c z) = QM.hiE k m z) := fun z => by rw [hx]; exact HEF.out m z
          clear hx
          obtain ⟨z, hcc⟩ := HO.out.tabAt hxL
          have hff := HO.out.1.frozen x
          have HO2 : Hid (Own (wr.setCell ⟨b, x, none⟩ (.int .u8 ((1 : Nat) : Int))) b 5 (QM.tab L (QM.hiE k m))) := HO.out.tab x 1 hxL (by omega) HEQ.out
          have HY2 : Hid (wo.Extends (wr.setCell ⟨b, x, none⟩ (.int .u8 ((1 : Nat) : Int)))) := HY.out.setCell _ _ HB.out
          clear HEQ HO HY
          generalize hwz : World.setCell wr _ _ = wz at HO2 HY2
          have HXZ := Lib.hid (Gr.ext_trans HX.out HY2.out)
          obtain ⟨vs, hown, hrows⟩ := HM.out.ext HY2.out
          have HOWN := Lib.hid hown
          have HROWS := Lib.hid hrows
          have HOB : Hid (∀ g, u3.ownBlock = some g → w.heap.size ≤ g) := fun g hg => (HOWN.out.lt g hg).1
          have HOK : Hid (RowOk wz 0 (.slice (some ⟨b, 0, none⟩) L L) (QM.tab L (QM.hiE k m))) := RowOk.own HO2.out _ (by rw [QM.tab_length]) (by rw [QM.tab_length])
          have hbs := HXZ.out.size
          have HSN : Hid (QM.grid m L (QM.hiE k) ++ [QM.tab L (QM.hiE k m)] = QM.grid (m + 1) L (QM.hiE k)) := (QM.grid_snoc m L _).symm
          have HGL : Hid (m = (QM.grid m L (QM.hiE k)).length) := (QM.grid_length _ _ _).symm
          clear hown hrows HM HO2 HY2 HX
          generalize QM.grid m L (QM.hiE k) = gl at *
          have hsz : wr.heap.size = wz.heap.size := by subst hwz; simp
          have HWZ := Lib.hid hwz
          have HSZ := Lib.hid hsz
          clear hwz hsz
          go_wp2_with fail
          refine (HWC.out _).mono ?_
          rintro e w' ⟨rfl, rfl⟩
          go_wp2_with fail
          refine (HWC.out _).mono ?_
          rintro e w' ⟨rfl, rfl⟩
          go_wp2_with (at_builtin; rw [show World.setCell wr ⟨b, x, none⟩ (.int .u8 1) = wz from HWZ.out, HSZ.out]; refine wpList_append_own_src _ rfl _ _ 73 73 rfl w.heap.size 30 i1 (.slice none 0 0) 1 24 Tryz.underlying73 HI'.out HZ0'.out HZ1'.out HZ2'.out rfl _ _ _ rfl (HOWN.out.alloc _) _ 1 [.slice (some ⟨b, 0, none⟩) L L] rfl (src_one Tryz.underlying73 _ _ rfl rfl) (by unfold maxLen; omega) (by omega) (by simp; omega) ?_)
          intro v' w3 ho3 hg3 _
          have HP : Hid (w.Extends w3 ∧ Mats w3 w.heap.size 0 30 v' (m + 1) (QM.grid (m + 1) L (QM.hiE k))) := by
            refine ⟨Gr.ext_of (((Gr.below_of HXZ.out).alloc hbs _).grown hg3 (by simp; omega) HOB.out), ?_⟩
            rw [← HSN.out]
            exact Mats.snoc (Nat.zero_le _) (by decide) HGL.out (HOWN.out.alloc _) (fun j hj => by obtain ⟨u, h1, h2⟩ := HROWS.out j hj; exact ⟨u, h1, h2.ext (ext_alloc _ _)⟩) (HOK.out.ext (ext_alloc _ _)) hg3 ho3
          clear ho3 hg3
          go_wp2
          go_roundw
          case rel => exact ⟨m + 1, by omega, by go_num, Lib.hid HP.out.1, Lib.hid HP.out.2⟩
          case measure => simp [intOf]; omega
    · obtain rfl : m = 2 := by omega
      have HP : Hid (MadeMats w lw (.returned u3) wr) := by
        refine ⟨u3, rfl, HX.out, ?_⟩
        rw [HG.out, QM.grid_length]
        exact HM.out
      go_wp2
      go_ret
      exact HP.out
end Go.Proofs.YtpfmmfapdcbnkaaGreatDoor
