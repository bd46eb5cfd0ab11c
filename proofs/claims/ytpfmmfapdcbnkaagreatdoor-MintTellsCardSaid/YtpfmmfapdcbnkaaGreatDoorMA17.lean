/- In one text: BlkSym, MntRef, MntHave, MntFresh, FldRPower. -/
import Derived.Deep.DeepCutAuto
import Derived.Deep.WholeRow
import Derived.Test.YtpfmmfapdcbnkaaGreatDoorMA3
import Derived.Test.YtpfmmfapdcbnkaaGreatDoorMA9
import Derived.Test.YtpfmmfapdcbnkaaGreatDoorMA14
import Derived.Test.YtpfmmfapdcbnkaaGreatDoorMA15
import Derived.Test.YtpfmmfapdcbnkaaGreatDoorMA16
namespace Go.Proofs.YtpfmmfapdcbnkaaGreatDoor
set_option maxRecDepth 20000
open Go.RowKit Go.Deep
set_option linter.unusedVariables false
/-- A symbol and an error. -/
def SymOut (w : World) (row : List Nat) (err : Int) (e : Ending) (w' : World) : Prop := ∃ v, e = .returned (.tuple #[v, .int .i64 err]) ∧ w.Extends w' ∧ RowOk w' 0 v row
set_option maxHeartbeats 1000000 in
theorem symbol_yes (b : Nat) (k s h j size esi : Int) (v : Value) (row : List Nat) (w : World) (hb : BAt w b k s h j size v) (hl : 0 < row.length)
    (hd : ∀ w', w.Extends w' → Calls Tryz.prog 73 #[PV k s h, .int .i64 j, .int .i64 size, v, .int .i64 esi] w' (RowNew w' row)) :
    Calls Tryz.prog 45 #[.pointer (some ⟨b, 0, none⟩), .int .i64 esi] w (SymOut w row 0) := by
  have HD := Lib.hid hd
  have HB := Lib.hid (hb.ext (Gr.ext_drew (Gr.ext_refl w)))
  clear hb hd
  go_enter Tryz.func45, Tryz.ntmps45
  go_wp2_with fail
  have HX1 : Hid (w.Extends w.drew) := Gr.ext_drew (Gr.ext_refl w)
  refine Gr.region 18 [(false,0),(false,1),(false,2),(false,3),(false,4),(false,5),(false,6),(false,7),(false,8),(false,9),(false,10),(false,11),(false,12),(false,13),(false,14),(false,15),(false,16),(true,17)] (by kernel_rfl) (by kernel_rfl) (fun d _ _ _ _ h => by cases d <;> exact h) ?_
  simp only [Gr.pick, List.getElem?_cons_zero, List.getElem?_cons_succ, List.drop_succ_cons, List.drop_zero]
  generalize w.drew = w1 at *
  iterate 17
    refine Gr.walk_t ?_ (Or.inl ⟨by rfl, ?_⟩) ?_
    rotate_left
    · intro w' hw'
      obtain ⟨p0, p1, p2, p3, p4, p5⟩ := HB.out.ext hw'
      clear hw'
      go_simp
      try with_reducible rfl
    simp only [Act.put, List.setIfInBounds_toArray, List.set_cons_zero, List.set_cons_succ]
  refine Gr.walk_c (fun K hK => ?_)
  go_simp
  refine (HD.out w1 HX1.out).mono ?_
  rintro e w2 ⟨u, rfl, hx2, hu⟩
  have hue := hu.1.slice
  have HU := Lib.hid hu
  obtain ⟨ua, uc, rfl, _⟩ := hue
  have HX2 := Lib.hid (Gr.ext_trans HX1.out hx2)
  try go_simp
  refine hK.out _ _ (hx2) ?_
  clear hK K
  clear hx2 hu HX1 HD HB
  have HP : Hid (SymOut w row 0 (.returned (.tuple #[.slice ua row.length uc, .int .i64 0])) w2) := ⟨_, rfl, HX2.out, HU.out⟩
  generalize row.length = n at *
  have hn0 : ((n : Int) == 0) = false := by rw [beq_eq_false_iff_ne]; omega
  refine Gr.walk_nil ?_
  go_wp2
  go_returns
  exact HP.out
set_option maxHeartbeats 1000000 in
theorem symbol_no (b : Nat) (k s h j size esi : Int) (v : Value) (w : World) (hb : BAt w b k s h j size v)
    (hd : ∀ w', w.Extends w' → Calls Tryz.prog 73 #[PV k s h, .int .i64 j, .int .i64 size, v, .int .i64 esi] w' (RowNew w' [])) :
    Calls Tryz.prog 45 #[.pointer (some ⟨b, 0, none⟩), .int .i64 esi] w (SymOut w [] 1) := by
  have HD := Lib.hid hd
  have HB := Lib.hid (hb.ext (Gr.ext_drew (Gr.ext_refl w)))
  clear hb hd
  go_enter Tryz.func45, Tryz.ntmps45
  go_wp2_with fail
  have HX1 : Hid (w.Extends w.drew) := Gr.ext_drew (Gr.ext_refl w)
  refine Gr.region 18 [(false,0),(false,1),(false,2),(false,3),(false,4),(false,5),(false,6),(false,7),(false,8),(false,9),(false,10),(false,11),(false,12),(false,13),(false,14),(false,15),(false,16),(true,17)] (by kernel_rfl) (by kernel_rfl) (fun d _ _ _ _ h => by cases d <;> exact h) ?_
  simp only [Gr.pick, List.getElem?_cons_zero, List.getElem?_cons_succ, List.drop_succ_cons, List.drop_zero]
  generalize w.drew = w1 at *
  iterate 17
    refine Gr.walk_t ?_ (Or.inl ⟨by rfl, ?_⟩) ?_
    rotate_left
    · intro w' hw'
      obtain ⟨p0, p1, p2, p3, p4, p5⟩ := HB.out.ext hw'
      clear hw'
      go_simp
      try with_reducible rfl
    simp only [Act.put, List.setIfInBounds_toArray, List.set_cons_zero, List.set_cons_succ]
  refine Gr.walk_c (fun K hK => ?_)
  go_simp
  refine (HD.out w1 HX1.out).mono ?_
  rintro e w2 ⟨u, rfl, hx2, hu⟩
  have hue := hu.1.slice
  obtain ⟨ua, uc, rfl, _⟩ := hue
  have HX2 := Lib.hid (Gr.ext_trans HX1.out hx2)
  try go_simp
  refine hK.out _ _ (hx2) ?_
  clear hK K
  clear hx2 hu HX1 HD HB
  have HP : Hid (SymOut w [] 1 (.returned (.tuple #[.slice none 0 0, .int .i64 1])) w2) := ⟨_, rfl, HX2.out, nil_ok _ _⟩
  refine Gr.walk_nil ?_
  go_wp2
  go_returns
  exact HP.out
/-- The symbol of a number, nothing where there is none; and the error. -/
def symOf (k j size : Nat) (c : List (List Nat)) (esi : Int) : List Nat := if EsiOk esi then DM.drop k j size c esi.toNat else []
def symErr (esi : Int) : Int := if EsiOk esi then 0 else 1
/-- Symbol of a block. -/
theorem symbol_any (b k j size : Nat) (esi : Int) (v : Value) (c : List (List Nat)) (w : World) (k1 : 1 ≤ k) (k2 : k ≤ 40) (hj : j ≤ 255) (h1 : 1 ≤ size) (h2 : size ≤ 64) (hl : c.length = PM.l k) (hb : BAt w b k (PM.s k) 2 j size v) (hv : Rws w v c) (hT : Tab w) :
    Calls Tryz.prog 45 #[.pointer (some ⟨b, 0, none⟩), .int .i64 esi] w (SymOut w (symOf k j size c esi) (symErr esi)) := by
  by_cases he : EsiOk esi
  · have he' := he
    obtain ⟨en, rfl⟩ := Int.eq_ofNat_of_zero_le he'.1
    have := he'.2
    unfold symOf symErr
    rw [if_pos he, if_pos he, Int.toNat_natCast]
    exact symbol_yes b k (PM.s k) 2 j size en v _ w hb (by rw [DM.drop_length]; exact h1) fun w' hx => (drop_some k j size en v c w' k1 k2 hj (by omega) h1 h2 hl (hv.ext hx) (hT.ext hx)).mono fun _ _ h => new_made h
  · unfold symOf symErr
    rw [if_neg he, if_neg he]
    exact symbol_no b k (PM.s k) 2 j size esi v w hb fun w' hx => drop_no k j size esi v c w' k1 k2 (hv.ext hx) (fun h => he h.2)
/-- The reference's block. -/
def RAt (w : World) (b : Nat) (k j size : Int) (v : Value) : Prop :=
  w.cell? ⟨b, 0, none⟩ = some (.int .i64 k) ∧ w.cell? ⟨b, 1, none⟩ = some (.int .i64 j) ∧ w.cell? ⟨b, 2, none⟩ = some (.int .i64 size) ∧ w.cell? ⟨b, 3, none⟩ = some v
theorem RAt.ext {w w' : World} {b : Nat} {k j size : Int} {v : Value} (hp : RAt w b k j size v) (hx : w.Extends w') : RAt w' b k j size v :=
  ⟨hx.cell_of hp.1, hx.cell_of hp.2.1, hx.cell_of hp.2.2.1, hx.cell_of hp.2.2.2⟩
theorem RAt.new (w : World) (T : TypeId) (k j size : Int) (v : Value) : RAt (w.alloc (.cells #[.int .i64 k, .int .i64 j, .int .i64 size, v] T)) w.heap.size k j size v := by
  have h0 := heap_alloc_new w (.cells #[.int .i64 k, .int .i64 j, .int .i64 size, v] T)
  exact ⟨by rw [cell_of_row _ _ _ _ _ _ h0]; rfl, by rw [cell_of_row _ _ _ _ _ _ h0]; rfl, by rw [cell_of_row _ _ _ _ _ _ h0]; rfl, by rw [cell_of_row _ _ _ _ _ _ h0]; rfl⟩
set_option maxHeartbeats 1000000 in
set_option maxRecDepth 100000 in
theorem refSymbol_any (b k j size : Nat) (esi : Int) (v : Value) (c : List (List Nat)) (w : World) (k1 : 1 ≤ k) (k2 : k ≤ 40) (hj : j ≤ 255) (h1 : 1 ≤ size) (h2 : size ≤ 64) (hl : c.length = PM.l k) (hb : RAt w b k j size v) (hv : Rws w v c) :
    Calls Tryz.prog 32 #[.pointer (some ⟨b, 0, none⟩), .int .i64 esi] w (SymOut w (symOf k j size c esi) (symErr esi)) := by
  by_cases he : EsiOk esi
  · have he' := he
    obtain ⟨en, rfl⟩ := Int.eq_ofNat_of_zero_le he'.1
    have hen : en < 16777216 := by have := he'.2; omega
    unfold symOf symErr
    rw [if_pos he, if_pos he, Int.toNat_natCast]
    have HD : Hid (∀ w', w.Extends w' → Calls Tryz.prog 54 #[.int .i64 k, .int .i64 j, .int .i64 size, v, .int .i64 en] w' (RowNew w' (DM.drop k j size c en))) := fun w' hx =>
      (refDrop_some k j size en v c w' k1 k2 hj (by omega) h1 h2 hl (hv.ext hx)).mono fun _ _ h => new_made h
    generalize DM.drop k j size c en = row at *
    have HB := Lib.hid (hb.ext (Gr.ext_drew (Gr.ext_refl w)))
    clear hb hv he he' hl h1 h2 k1 k2 hj
    go_enter Tryz.func32, Tryz.ntmps32
    go_wp2_with fail
    have HX1 : Hid (w.Extends w.drew) := Gr.ext_drew (Gr.ext_refl w)
    refine Gr.region 18 [(false,0),(false,1),(false,2),(false,3),(false,4),(false,5),(false,6),(false,7),(false,8),(false,9),(false,10),(false,11),(false,12),(false,13),(false,14),(false,15),(false,16),(true,17)] (by kernel_rfl) (by kernel_rfl) (fun d _ _ _ _ h => by cases d <;> exact h) ?_
    simp only [Gr.pick, List.getElem?_cons_zero, List.getElem?_cons_succ, List.drop_succ_cons, List.drop_zero]
    generalize w.drew = w1 at *
    iterate 17
      refine Gr.walk_t ?_ (Or.inl ⟨by rfl, ?_⟩) ?_
      rotate_left
      · intro w' hw'
        obtain ⟨p0, p1, p2, p3⟩ := HB.out.ext hw'
        clear hw'
        go_simp
        try with_reducible rfl
      simp only [Act.put, List.setIfInBounds_toArray, List.set_cons_zero, List.set_cons_succ]
    refine Gr.walk_c (fun K hK => ?_)
    go_simp
    refine (HD.out w1 HX1.out).mono ?_
    rintro e w2 ⟨u, rfl, hx2, hu⟩
    have HP : Hid (SymOut w row 0 (.returned (.tuple #[u, .int .i64 0])) w2) := ⟨_, rfl, Gr.ext_trans HX1.out hx2, hu⟩
    try go_simp
    refine hK.out _ _ (hx2) ?_
    clear hK K
    clear hx2 hu HX1 HD HB
    refine Gr.walk_nil ?_
    go_wp2
    go_returns
    exact HP.out
  · have HP : Hid (SymOut w [] 1 (.returned (.tuple #[.slice none 0 0, .int .i64 1])) w) := ⟨_, rfl, Gr.ext_refl _, nil_ok _ _⟩
    unfold symOf symErr
    rw [if_neg he, if_neg he]
    clear hb hv
    unfold EsiOk at he
    by_cases c1 : esi < 0
    rotate_left
    have c2 : 16777216 ≤ esi := by omega
    all_goals
      clear he
      go_enter Tryz.func32, Tryz.ntmps32
      go_wp2
      go_returns
      exact HP.out
end Go.Proofs.YtpfmmfapdcbnkaaGreatDoor
namespace Go.Proofs.YtpfmmfapdcbnkaaGreatDoor
set_option maxRecDepth 20000
open Go.RowKit Go.Deep
set_option linter.unusedVariables false
/-- What stands where a call has boxed an id and a shape, and laid a record's variable. -/
structure MB (w w1 : World) (y : Nat) (p n b s m : Int) : Prop where
  x : w.Extends w1
  at_ : y = w.heap.size
  i : ∀ w', w1.Extends w' → w'.cell? ⟨y, 0, none⟩ = some (.int .i64 p) ∧ w'.cell? ⟨y, 1, none⟩ = some (.int .i64 n)
  s : ∀ w', w1.Extends w' → w'.cell? ⟨y + 1, 0, none⟩ = some (.int .i64 b) ∧ w'.cell? ⟨y + 1, 1, none⟩ = some (.int .i64 s) ∧ w'.cell? ⟨y + 1, 2, none⟩ = some (.int .i64 m)
  z : RB w1 (y + 1 + 1) Rc.zero (.slice none 0 0)
  lt : y + 1 < w1.heap.size
theorem MB.made (w : World) (p n b s m : Int) : MB w (((w.alloc (.cells #[.int .i64 p, .int .i64 n] 23)).alloc (.cells #[.int .i64 b, .int .i64 s, .int .i64 m] 25)).alloc (.cells #[.int .i64 0, .int .i64 0, .int .i64 0, .int .i64 0, .int .i64 0, .int .i64 0, .int .i64 0, .bool false, .int .i64 0, .slice none 0 0] 32)) w.heap.size p n b s m := by
  have e : ∀ (w : World) (o : Obj), (w.alloc o).heap.size = w.heap.size + 1 := fun w o => by simp
  refine ⟨Gr.ext_trans (ext_alloc _ _) (Gr.ext_trans (ext_alloc _ _) (ext_alloc _ _)), rfl, fun w' hx => ?_, fun w' hx => ?_, ?_, by simp⟩
  · have h : w'.heap[w.heap.size]? = some (.cells #[.int .i64 p, .int .i64 n] 23) := by
      rw [hx.block _ (by simp; omega), (ext_alloc _ _).block _ (by simp; omega), (ext_alloc _ _).block _ (by simp)]
      exact heap_alloc_new _ _
    exact ⟨by rw [cell_of_row _ _ _ _ _ _ h]; rfl, by rw [cell_of_row _ _ _ _ _ _ h]; rfl⟩
  · have h0 := PAt.new (w.alloc (.cells #[.int .i64 p, .int .i64 n] 23)) 25 b s m
    rw [e] at h0
    exact (h0.ext (ext_alloc _ _)).ext hx
  · have h0 := heap_alloc_new ((w.alloc (.cells #[.int .i64 p, .int .i64 n] 23)).alloc (.cells #[.int .i64 b, .int .i64 s, .int .i64 m] 25)) (.cells #[.int .i64 0, .int .i64 0, .int .i64 0, .int .i64 0, .int .i64 0, .int .i64 0, .int .i64 0, .bool false, .int .i64 0, .slice none 0 0] 32)
    rw [e, e] at h0
    exact h0
set_option maxHeartbeats 8000000 in
theorem rfresh_any (p n b s m blk esi un : Int) (v : Value) (l : List Rc) (w0 w : World) (h0 : w0.Extends w) (hv : Recs w v l) (hm : l.length ≤ 9000)
    (e1 : Nat) (xs : List Nat) (hdec : ∀ v w, w0.Extends w → Recs w v (mineOf p n l) → Calls Tryz.prog 25 #[PV b s m, v] w (JoinOut w e1 xs))
    (e2 : Int) (OK : World → Nat → Prop) (hnew : e1 = 0 → ∀ v w, w0.Extends w → U8s w v xs → Calls Tryz.prog 16 #[PV b s m, v] w (ObjOr w e2 OK))
    (e3 : Int) (d : List Nat) (hsym : e1 = 0 → e2 = 0 → ∀ o w, w0.Extends w → OK w o → Calls Tryz.prog 18 #[.pointer (some ⟨o, 0, none⟩), .int .i64 blk, .int .i64 esi] w (SymOut w d e3)) :
    Calls Tryz.prog 9 #[.agg #[.int .i64 p, .int .i64 n], PV b s m, .int .i64 blk, .int .i64 esi, .int .i64 un, v] w (FreshOut w (freshRec p n b s m blk esi un d (freshErr e1 e2 e3)) (freshErr e1 e2 e3)) := by
  have HRI := Lib.hid hv
  obtain ⟨ra, rc, rfl⟩ := hv.slice
  have HRA := Lib.hid hv.at.2
  have hrm := hv.len
  unfold maxLen at hrm
  have HT0 : Hid (mineTo p n l 0 = []) := mineTo_zero p n l
  have HTN : Hid (mineTo p n l l.length = mineOf p n l) := mineTo_full p n l
  have HTS : Hid (∀ k, k < l.length → mineTo p n l (k + 1) = if (l.getD k Rc.zero).p = p ∧ (l.getD k Rc.zero).n = n then mineTo p n l k ++ [l.getD k Rc.zero] else mineTo p n l k) := fun k hk => mineTo_step p n l k hk
  have HDEC := Lib.hid hdec
  have HNEW := Lib.hid hnew
  have HSYM := Lib.hid hsym
  have H0 := Lib.hid h0
  have HE1 : Hid (e1 ≠ 0 → ∀ w', w.Extends w' → FreshOut w (freshRec p n b s m blk esi un d (freshErr e1 e2 e3)) (freshErr e1 e2 e3) (.returned (.tuple #[Rc.zero.val (.slice none 0 0), .int .i64 (e1 : Nat)])) w') := fun h w' hx => by
    have e : freshErr e1 e2 e3 = (e1 : Nat) := by unfold freshErr; rw [if_neg h]
    have e' : freshRec p n b s m blk esi un d (freshErr e1 e2 e3) = Rc.zero := by unfold freshRec; rw [e, if_neg (by omega)]
    rw [e', e]
    exact ⟨none, 0, rfl, hx, nil_u8s _ _ _⟩
  have HE2 : Hid (e1 = 0 → e2 ≠ 0 → ∀ w', w.Extends w' → FreshOut w (freshRec p n b s m blk esi un d (freshErr e1 e2 e3)) (freshErr e1 e2 e3) (.returned (.tuple #[Rc.zero.val (.slice none 0 0), .int .i64 e2])) w') := fun h h2 w' hx => by
    have e : freshErr e1 e2 e3 = e2 := by unfold freshErr; rw [if_pos h, if_neg h2]
    have e' : freshRec p n b s m blk esi un d (freshErr e1 e2 e3) = Rc.zero := by unfold freshRec; rw [e, if_neg h2]
    rw [e', e]
    exact ⟨none, 0, rfl, hx, nil_u8s _ _ _⟩
  have HE3 : Hid (e1 = 0 → e2 = 0 → e3 ≠ 0 → ∀ w', w.Extends w' → FreshOut w (freshRec p n b s m blk esi un d (freshErr e1 e2 e3)) (freshErr e1 e2 e3) (.returned (.tuple #[Rc.zero.val (.slice none 0 0), .int .i64 e3])) w') := fun h h2 h3 w' hx => by
    have e : freshErr e1 e2 e3 = e3 := by unfold freshErr; rw [if_pos h, if_pos h2]
    have e' : freshRec p n b s m blk esi un d (freshErr e1 e2 e3) = Rc.zero := by unfold freshRec; rw [e, if_neg h3]
    rw [e', e]
    exact ⟨none, 0, rfl, hx, nil_u8s _ _ _⟩
  have HE4 : Hid (e1 = 0 → e2 = 0 → e3 = 0 → ∀ w' a c, w.Extends w' → U8s w' (.slice a d.length c) d → FreshOut w (freshRec p n b s m blk esi un d (freshErr e1 e2 e3)) (freshErr e1 e2 e3) (.returned (.tuple #[.agg #[.int .i64 p, .int .i64 n, .int .i64 b, .int .i64 s, .int .i64 m, .int .i64 blk, .int .i64 esi, .bool false, .int .i64 un, .slice a d.length c], .int .i64 0])) w') := fun h h2 h3 w' a c hx hu => by
    have e : freshErr e1 e2 e3 = 0 := by unfold freshErr; rw [if_pos h, if_pos h2]; exact h3
    have e' : freshRec p n b s m blk esi un d (freshErr e1 e2 e3) = ⟨p, n, b, s, m, blk, esi, false, un, d⟩ := by unfold freshRec; rw [e, if_pos rfl]
    rw [e', e]
    exact ⟨a, c, rfl, hx, hu⟩
  generalize FreshOut w (freshRec p n b s m blk esi un d (freshErr e1 e2 e3)) (freshErr e1 e2 e3) = POST at *
  generalize hMT : mineTo p n l = MT at *
  generalize mineOf p n l = MINE at *
  obtain ⟨q, hq⟩ : ∃ q, q = l.length := ⟨_, rfl⟩
  rw [← hq] at HRA HTN HTS hm hrm ⊢
  clear hv hdec hnew hsym h0 hMT hq
  go_enter Tryz.func9, Tryz.ntmps9
  go_upto_region 1 with fail
  obtain ⟨y, hy⟩ : ∃ y, y = w.heap.size := ⟨_, rfl⟩
  have HMB := Lib.hid (MB.made w p n b s m)
  generalize hw1 : World.alloc _ _ = w1 at *
  rw [← hy] at HMB ⊢
  clear hw1
  have HYW : Hid (w.heap.size ≤ y) := Nat.le_of_eq hy.symm
  clear hy
  obtain ⟨B, hB⟩ : ∃ B, B = w1.heap.size := ⟨_, rfl⟩
  have HBW : Hid (B = w1.heap.size) := hB
  clear hB
  go_wp2_with fail
  go_loopw [14, 15] (fun s14 s15 wr => ∃ (k : Nat) (ps : List Pr), k ≤ q ∧ s15 = .int .i64 (k : Nat) ∧ Hid (w1.Extends wr) ∧ Hid (RS wr B s14 ps) ∧ Hid (ps.map Prod.fst = MT k) ∧ Hid (ps.length ≤ k)) (fun _ s15 _ => q - (intOf s15).toNat)
  case atStart => exact ⟨0, [], by omega, by rfl, Gr.ext_refl _, RS.nil _ _, by rw [HT0.out]; rfl, Nat.le_refl _⟩
  case round =>
    obtain ⟨k, ps, hk, rfl, HX, HS, HM, HPL⟩ := hrel
    obtain ⟨a7, c7, rfl⟩ := HS.out.slice
    by_cases h1 : k < q
    · obtain ⟨rb0, ro, rfl, hrb, hrc⟩ := HRA.out (by omega)
      obtain ⟨da, dc, hrr, huu⟩ := hrc k h1
      have HXw := Lib.hid (Gr.ext_trans HMB.out.x (Gr.ext_drew HX.out))
      have hrr2 := rangeAt_ext hrr HXw.out
      have HU := Lib.hid (huu.ext HXw.out)
      have HTK := Lib.hid (HTS.out k h1)
      clear hrc hrr huu
      generalize l.getD k Rc.zero = r at *
      have HTEN : Hid (∀ w', wr.drew.Extends w' → w'.rangeAt rb0 (ro + k * 10) (r.cells (.slice da r.d.length dc))) := fun w' hx => rangeAt_ext hrr2 hx
      obtain ⟨dl, hdl⟩ : ∃ dl, dl = r.d.length := ⟨_, rfl⟩
      rw [← hdl] at HTEN HU
      have HDL : Hid (r.d.length = dl) := hdl.symm
      have HXd : Hid (w1.Extends wr.drew) := Gr.ext_drew HX.out
      have HSd : Hid (RS wr.drew B (.slice a7 ps.length c7) ps) := HS.out.ext (Gr.ext_drew (Gr.ext_refl _))
      have HID : Hid (∀ w', wr.drew.Extends w' → w'.cell? ⟨y, 0, none⟩ = some (.int .i64 p) ∧ w'.cell? ⟨y, 1, none⟩ = some (.int .i64 n)) := fun w' hx => HMB.out.i w' (Gr.ext_trans HXd.out hx)
      clear hrr2 hdl HS HX
      obtain ⟨xp, hxp⟩ : ∃ x, x = r.p := ⟨_, rfl⟩
      obtain ⟨xn, hxn⟩ : ∃ x, x = r.n := ⟨_, rfl⟩
      rw [← hxp, ← hxn] at HTK
      have HXP := Lib.hid hxp
      have HXN := Lib.hid hxn
      have HC2 : Hid (∀ w', wr.drew.Extends w' → w'.cell? ⟨rb0, ro + k * 10, none⟩ = some (.int .i64 xp) ∧ w'.cell? ⟨rb0, ro + k * 10 + 1, none⟩ = some (.int .i64 xn)) := fun w' hx => by
        rw [HXP.out, HXN.out]
        obtain ⟨c0, c1, -⟩ := RCell.ten (HTEN.out w' hx)
        exact ⟨c0, c1⟩
      clear hxp hxn
      have HSLC : Hid (Slc ((r, Value.slice da dl dc) : Pr)) := ⟨da, dc, by show Value.slice da dl dc = Value.slice da r.d.length dc; rw [HDL.out]⟩
      have HBd : Hid (B ≤ wr.drew.heap.size) := by show _ ≤ _; rw [HBW.out]; exact HXd.out.size
      by_cases hm : xp = p ∧ xn = n
      · have HTK2 : Hid (MT (k + 1) = MT k ++ [r]) := by show _ = _; rw [HTK.out, if_pos hm]
        have hp : (xp == p) = true := beq_iff_eq.2 hm.1
        have hn : (xn == n) = true := beq_iff_eq.2 hm.2
        clear hm HTK
        go_wp2_with fail
        refine Gr.region 6 [(false,0),(false,1),(false,2),(false,3),(false,4),(false,5)] (by kernel_rfl) (by kernel_rfl) (fun d _ _ _ _ h => by cases d <;> exact h) ?_
        simp only [Gr.pick, List.getElem?_cons_zero, List.getElem?_cons_succ, List.drop_succ_cons, List.drop_zero]
        generalize wr.drew = wd at *
        iterate 6
          refine Gr.walk_t ?_ (Or.inl ⟨by rfl, ?_⟩) ?_
          rotate_left
          · intro w' hw'
            obtain ⟨c0, c1⟩ := HC2.out w' hw'
            obtain ⟨i0, i1⟩ := HID.out w' hw'
            clear hw'
            go_simp
            try with_reducible rfl
          simp only [Act.put, List.setIfInBounds_toArray, List.set_cons_zero, List.set_cons_succ]
        refine Gr.walk_nil ?_
        obtain ⟨c0, c1, c2, c3, c4, c5, c6, c7', c8, c9⟩ := RCell.ten (HTEN.out wd (Gr.ext_refl _))
        clear HC2 HID HTEN
        go_wp2_with (at_builtin; refine wpList_app_rs rfl (.tmp 33) (.tmp 38) rfl B _ ps rfl (HSd.out.ext (ext_alloc _ _)) _ ((r, Value.slice da dl dc) : Pr) rfl (src_rec (r := r) Tryz.underlying26 _ _ rfl rfl) HSLC.out (by show U8s _ (Value.slice da dl dc) r.d; exact HU.out.ext (ext_alloc _ _)) (by have := HPL.out; omega) (Nat.le_trans HBd.out (ext_alloc _ _).size) ?_)
        intro v9 w10 ho hg10
        have HX10 : Hid (w1.Extends w10) := ext_own (Gr.ext_trans HXd.out (ext_alloc _ _)) hg10 (fun j hj => by have := (HSd.out.own.lt j hj).1; rw [HBW.out] at this; exact this)
        have HS10 := Lib.hid ho
        have HL10 : Hid ((ps ++ [((r, Value.slice da dl dc) : Pr)]).length ≤ k + 1) := by show _ ≤ _; rw [List.length_append]; have := HPL.out; simp; omega
        have HM10 : Hid ((ps ++ [((r, Value.slice da dl dc) : Pr)]).map Prod.fst = MT (k + 1)) := by show _ = _; rw [HTK2.out, List.map_append, HM.out]; rfl
        clear ho hg10 HSd HXd HTK2 HM HPL c0 c1 c2 c3 c4 c5 c6 c7' c8 c9
        go_wp2
        go_roundw
        case rel => exact ⟨k + 1, _, by omega, by go_num, HX10, HS10, HM10, HL10⟩
        case measure => simp [intOf]; omega
      · have HTK2 : Hid (MT (k + 1) = MT k) := by show _ = _; rw [HTK.out, if_neg hm]
        have HM2 : Hid (ps.map Prod.fst = MT (k + 1)) := by show _ = _; rw [HTK2.out]; exact HM.out
        have HPL2 : Hid (ps.length ≤ k + 1) := Nat.le_succ_of_le HPL.out
        clear HTK HTK2 HM HPL HTEN HU HSLC
        by_cases hp1 : xp = p
        · have hp : (xp == p) = true := beq_iff_eq.2 hp1
          have hn : (xn == n) = false := beq_eq_false_iff_ne.2 fun e => hm ⟨hp1, e⟩
          clear hm hp1
          go_wp2_with fail
          refine Gr.region 6 [(false,0),(false,1),(false,2),(false,3),(false,4),(false,5)] (by kernel_rfl) (by kernel_rfl) (fun d _ _ _ _ h => by cases d <;> exact h) ?_
          simp only [Gr.pick, List.getElem?_cons_zero, List.getElem?_cons_succ, List.drop_succ_cons, List.drop_zero]
          generalize wr.drew = wd at *
          iterate 6
            refine Gr.walk_t ?_ (Or.inl ⟨by rfl, ?_⟩) ?_
            rotate_left
            · intro w' hw'
              obtain ⟨c0, c1⟩ := HC2.out w' hw'
              obtain ⟨i0, i1⟩ := HID.out w' hw'
              clear hw'
              go_simp
              try with_reducible rfl
            simp only [Act.put, List.setIfInBounds_toArray, List.set_cons_zero, List.set_cons_succ]
          refine Gr.walk_nil ?_
          clear HC2 HID
          go_wp2
          go_roundw
          case rel => exact ⟨k + 1, ps, by omega, by go_num, HXd, HSd, HM2, HPL2⟩
          case measure => simp [intOf]; omega
        · have hp : (xp == p) = false := beq_eq_false_iff_ne.2 hp1
          clear hm hp1
          go_wp2_with fail
          refine Gr.region 6 [(false,0),(false,1),(false,2),(false,3),(false,4),(false,5)] (by kernel_rfl) (by kernel_rfl) (fun d _ _ _ _ h => by cases d <;> exact h) ?_
          simp only [Gr.pick, List.getElem?_cons_zero, List.getElem?_cons_succ, List.drop_succ_cons, List.drop_zero]
          generalize wr.drew = wd at *
          iterate 6
            refine Gr.walk_t ?_ (Or.inl ⟨by rfl, ?_⟩) ?_
            rotate_left
            · intro w' hw'
              obtain ⟨c0, c1⟩ := HC2.out w' hw'
              obtain ⟨i0, i1⟩ := HID.out w' hw'
              clear hw'
              go_simp
              try with_reducible rfl
            simp only [Act.put, List.setIfInBounds_toArray, List.set_cons_zero, List.set_cons_succ]
          refine Gr.walk_nil ?_
          clear HC2 HID
          go_wp2
          go_roundw
          case rel => exact ⟨k + 1, ps, by omega, by go_num, HXd, HSd, HM2, HPL2⟩
          case measure => simp [intOf]; omega
    · obtain rfl : k = q := by omega
      have HRM : Hid (Recs wr (.slice a7 ps.length c7) MINE) := by have h := HS.out.recs; rw [HM.out, HTN.out] at h; exact h
      have HXW := Lib.hid (Gr.ext_trans HMB.out.x HX.out)
      have HX0 := Lib.hid (Gr.ext_trans H0.out HXW.out)
      have HSH : Hid (∀ w', w1.Extends w' → w'.cell? ⟨y + 1, 0, none⟩ = some (.int .i64 b) ∧ w'.cell? ⟨y + 1, 1, none⟩ = some (.int .i64 s) ∧ w'.cell? ⟨y + 1, 2, none⟩ = some (.int .i64 m)) := HMB.out.s
      have HIDD : Hid (∀ w', w1.Extends w' → w'.cell? ⟨y, 0, none⟩ = some (.int .i64 p) ∧ w'.cell? ⟨y, 1, none⟩ = some (.int .i64 n)) := HMB.out.i
      have HZ : Hid (RB w1 (y + 1 + 1) Rc.zero (.slice none 0 0)) := HMB.out.z
      have HXB := Lib.hid HMB.out.x
      have HSL0 : Hid (Slc ((Rc.zero, Value.slice none 0 0) : Pr)) := ⟨none, 0, rfl⟩
      clear HS HM HPL HRA HRI HT0 HTN HTS HMB
      generalize ps.length = pl at *
      obtain ⟨s0, s1, s2⟩ := HSH.out wr HX.out
      go_wp2_with fail
      refine (HDEC.out _ wr HX0.out HRM.out).mono ?_
      rintro e w2 ⟨u, rfl, hx2, hu2⟩
      obtain ⟨ua, uc, rfl, -⟩ := hu2.slice
      have HX2 := Lib.hid (Gr.ext_trans HX.out hx2)
      have HU2 := Lib.hid hu2
      clear hx2 hu2 s0 s1 s2 HRM HDEC HX HXW HX0
      by_cases he1 : e1 = 0
      case neg =>
        have hne : ((e1 : Int) == 0) = false := by rw [beq_eq_false_iff_ne]; omega
        have HP := Lib.hid (HE1.out he1)
        have HZZ := Lib.hid (HZ.out.ext HX2.out)
        go_wp2_with (refine wpList_store_rb rfl (.tmp 12) (.tmp 48) rfl (y + 1 + 1) Rc.zero Rc.zero _ (.slice none 0 0) rfl rfl HZZ.out HSL0.out ?_)
        intro w9 ha9 hg9
        obtain ⟨d0, d1, d2, d3, d4, d5, d6, d7, d8, d9⟩ := RCell.ten ha9.range
        simp only [Nat.zero_add, Rc.zero] at d0 d1 d2 d3 d4 d5 d6 d7 d8 d9
        have HX9 : Hid (w.Extends w9) := ext_own (Gr.ext_trans HXB.out HX2.out) hg9 (fun j hj => by have := Option.some.inj hj; have := HYW.out; omega)
        have HPF := Lib.hid (HP.out w9 HX9.out)
        clear ha9 hg9 HP HZZ HX9
        repeat (first | go_step | go_upon)
        refine bodyPost_ret (v := .tuple #[Rc.zero.val (.slice none 0 0), .int .i64 (e1 : Nat)]) (by simp [results, Tryz.results9, go_sem, d0, d1, d2, d3, d4, d5, d6, d7, d8, d9]; try rfl) rfl ?_
        exact HPF.out
      have he1' : ((e1 : Int) == 0) = true := by rw [beq_iff_eq]; omega
      have HNEW2 := Lib.hid (HNEW.out he1)
      obtain ⟨s0, s1, s2⟩ := HSH.out w2 HX2.out
      clear HE1 HNEW
      generalize xs.length = xl at *
      go_wp2_with fail
      clear he1' s0 s1 s2
      refine (HNEW2.out _ w2 (Gr.ext_trans H0.out (Gr.ext_trans HXB.out HX2.out)) HU2.out).mono ?_
      rintro e w3 ⟨hx3, ⟨hn2, rfl⟩ | ⟨hn2, o, rfl, hok⟩⟩
      · have HX3 := Lib.hid (Gr.ext_trans HX2.out hx3)
        have hne : (e2 == 0) = false := by rw [beq_eq_false_iff_ne]; exact hn2
        have HP := Lib.hid (HE2.out he1 hn2)
        clear hx3 HX2 HU2 HNEW2
        have HZZ := Lib.hid (HZ.out.ext HX3.out)
        go_wp2_with (refine wpList_store_rb rfl (.tmp 12) (.tmp 58) rfl (y + 1 + 1) Rc.zero Rc.zero _ (.slice none 0 0) rfl rfl HZZ.out HSL0.out ?_)
        intro w9 ha9 hg9
        obtain ⟨d0, d1, d2, d3, d4, d5, d6, d7, d8, d9⟩ := RCell.ten ha9.range
        simp only [Nat.zero_add, Rc.zero] at d0 d1 d2 d3 d4 d5 d6 d7 d8 d9
        have HX9 : Hid (w.Extends w9) := ext_own (Gr.ext_trans HXB.out HX3.out) hg9 (fun j hj => by have := Option.some.inj hj; have := HYW.out; omega)
        have HPF := Lib.hid (HP.out w9 HX9.out)
        clear ha9 hg9 HP HZZ HX9
        repeat (first | go_step | go_upon)
        refine bodyPost_ret (v := .tuple #[Rc.zero.val (.slice none 0 0), .int .i64 e2]) (by simp [results, Tryz.results9, go_sem, d0, d1, d2, d3, d4, d5, d6, d7, d8, d9]; try rfl) rfl ?_
        exact HPF.out
      have HX3 := Lib.hid (Gr.ext_trans HX2.out hx3)
      have HSYM2 := Lib.hid (HSYM.out he1 hn2 o w3 (Gr.ext_trans H0.out (Gr.ext_trans HXB.out HX3.out)) hok)
      clear hx3 hok HX2 HU2 HNEW2 HE2 HSYM
      go_wp2_with fail
      refine HSYM2.out.mono ?_
      rintro e w4 ⟨u, rfl, hx4, hu4⟩
      obtain ⟨ua4, uc4, rfl, -⟩ := hu4.1.slice
      have HX4 := Lib.hid (Gr.ext_trans HX3.out hx4)
      have HU4 := Lib.hid hu4.1
      clear hx4 hu4 HX3 HSYM2
      by_cases he3 : e3 = 0
      case neg =>
        have hne : (e3 == 0) = false := by rw [beq_eq_false_iff_ne]; exact he3
        have HP := Lib.hid (HE3.out he1 hn2 he3)
        clear HU4
        have HZZ := Lib.hid (HZ.out.ext HX4.out)
        go_wp2_with (refine wpList_store_rb rfl (.tmp 12) (.tmp 69) rfl (y + 1 + 1) Rc.zero Rc.zero _ (.slice none 0 0) rfl rfl HZZ.out HSL0.out ?_)
        intro w9 ha9 hg9
        obtain ⟨d0, d1, d2, d3, d4, d5, d6, d7, d8, d9⟩ := RCell.ten ha9.range
        simp only [Nat.zero_add, Rc.zero] at d0 d1 d2 d3 d4 d5 d6 d7 d8 d9
        have HX9 : Hid (w.Extends w9) := ext_own (Gr.ext_trans HXB.out HX4.out) hg9 (fun j hj => by have := Option.some.inj hj; have := HYW.out; omega)
        have HPF := Lib.hid (HP.out w9 HX9.out)
        clear ha9 hg9 HP HZZ HX9
        repeat (first | go_step | go_upon)
        refine bodyPost_ret (v := .tuple #[Rc.zero.val (.slice none 0 0), .int .i64 e3]) (by simp [results, Tryz.results9, go_sem, d0, d1, d2, d3, d4, d5, d6, d7, d8, d9]; try rfl) rfl ?_
        exact HPF.out
      have hee : (e3 == 0) = true := by rw [beq_iff_eq]; exact he3
      obtain ⟨s0, s1, s2⟩ := HSH.out w4 HX4.out
      obtain ⟨i0, i1⟩ := HIDD.out w4 HX4.out
      have HZ4 := Lib.hid (HZ.out.ext HX4.out)
      have HP := Lib.hid (HE4.out he1 hn2 he3)
      have HSLC : Hid (Slc (((⟨p, n, b, s, m, blk, esi, false, un, d⟩ : Rc), Value.slice ua4 d.length uc4) : Pr)) := ⟨_, _, rfl⟩
      clear HE3 HE4 HZ HSH HIDD
      go_wp2_with (refine wpList_store_rb rfl (.tmp 12) (.tmp 77) rfl (y + 1 + 1) Rc.zero ⟨p, n, b, s, m, blk, esi, false, un, d⟩ _ (.slice ua4 d.length uc4) rfl rfl HZ4.out HSLC.out ?_)
      intro w5 ha5 hg5
      obtain ⟨d0, d1, d2, d3, d4, d5, d6, d7, d8, d9⟩ := RCell.ten ha5.range
      simp only [Nat.zero_add] at d0 d1 d2 d3 d4 d5 d6 d7 d8 d9
      have HX5 : Hid (w.Extends w5) := ext_own (Gr.ext_trans HXB.out HX4.out) hg5 (fun j hj => by have := Option.some.inj hj; have := HYW.out; omega)
      have HU5 : Hid (U8s w5 (.slice ua4 d.length uc4) d) := HU4.out.beside HZ4.out (fun z hz t e => by subst e; simp [Rc.cells] at hz) hg5
      have HPF := Lib.hid (HP.out w5 ua4 uc4 HX5.out HU5.out)
      clear ha5 hg5 s0 s1 s2 i0 i1 hee he3 HP HX5 HU5 HZ4 HSLC HU4 HX4
      generalize d.length = dl at *
      repeat (first | go_step | go_upon)
      refine bodyPost_ret (v := .tuple #[.agg #[.int .i64 p, .int .i64 n, .int .i64 b, .int .i64 s, .int .i64 m, .int .i64 blk, .int .i64 esi, .bool false, .int .i64 un, .slice ua4 dl uc4], .int .i64 0]) (by simp [results, Tryz.results9, go_sem, d0, d1, d2, d3, d4, d5, d6, d7, d8, d9]; try rfl) rfl ?_
      exact HPF.out
end Go.Proofs.YtpfmmfapdcbnkaaGreatDoor
namespace Go.Proofs.YtpfmmfapdcbnkaaGreatDoor
set_option maxRecDepth 20000
open Go.RowKit Go.Deep
set_option linter.unusedVariables false
/-- An id is boxed. -/
structure MI (w w1 : World) (y : Nat) (p n : Int) : Prop where
  x : w.Extends w1
  i : ∀ w', w1.Extends w' → w'.cell? ⟨y, 0, none⟩ = some (.int .i64 p) ∧ w'.cell? ⟨y, 1, none⟩ = some (.int .i64 n)
theorem MI.made (w : World) (p n : Int) : MI w (w.alloc (.cells #[.int .i64 p, .int .i64 n] 23)) w.heap.size p n := by
  refine ⟨ext_alloc _ _, fun w' hx => ?_⟩
  have h : w'.heap[w.heap.size]? = some (.cells #[.int .i64 p, .int .i64 n] 23) := by
    rw [hx.block _ (by simp)]
    exact heap_alloc_new _ _
  exact ⟨by rw [cell_of_row _ _ _ _ _ _ h]; rfl, by rw [cell_of_row _ _ _ _ _ _ h]; rfl⟩
set_option maxHeartbeats 8000000 in
theorem having_any (p n : Int) (v : Value) (l : List Rc) (w : World) (hv : Recs w v l) (hm : l.length ≤ 9000) :
    Calls Tryz.prog 22 #[.agg #[.int .i64 p, .int .i64 n], v] w fun e w' => ∃ u, e = .returned u ∧ w.Extends w' ∧ Recs w' u (mineOf p n l) := by
  obtain ⟨ra, rc, rfl⟩ := hv.slice
  have HRA := Lib.hid hv.at.2
  have hrm := hv.len
  unfold maxLen at hrm
  have HT0 : Hid (mineTo p n l 0 = []) := mineTo_zero p n l
  have HTN : Hid (mineTo p n l l.length = mineOf p n l) := mineTo_full p n l
  have HTS : Hid (∀ k, k < l.length → mineTo p n l (k + 1) = if (l.getD k Rc.zero).p = p ∧ (l.getD k Rc.zero).n = n then mineTo p n l k ++ [l.getD k Rc.zero] else mineTo p n l k) := fun k hk => mineTo_step p n l k hk
  generalize hMT : mineTo p n l = MT at *
  generalize mineOf p n l = MINE at *
  obtain ⟨q, hq⟩ : ∃ q, q = l.length := ⟨_, rfl⟩
  rw [← hq] at HRA HTN HTS hm hrm ⊢
  clear hv hMT hq
  go_enter Tryz.func22, Tryz.ntmps22
  go_upto_region 1 with fail
  obtain ⟨y, hy⟩ : ∃ y, y = w.heap.size := ⟨_, rfl⟩
  have HMB := Lib.hid (MI.made w p n)
  generalize hw1 : World.alloc _ _ = w1 at *
  rw [← hy] at HMB ⊢
  clear hw1 hy
  obtain ⟨B, hB⟩ : ∃ B, B = w1.heap.size := ⟨_, rfl⟩
  have HBW : Hid (B = w1.heap.size) := hB
  clear hB
  go_wp2_with fail
  go_loopw [5, 10] (fun s14 s15 wr => ∃ (k : Nat) (ps : List Pr), k ≤ q ∧ s15 = .int .i64 (k : Nat) ∧ Hid (w1.Extends wr) ∧ Hid (RS wr B s14 ps) ∧ Hid (ps.map Prod.fst = MT k) ∧ Hid (ps.length ≤ k)) (fun _ s15 _ => q - (intOf s15).toNat)
  case atStart => exact ⟨0, [], by omega, by rfl, Gr.ext_refl _, RS.nil _ _, by rw [HT0.out]; rfl, Nat.le_refl _⟩
  case round =>
    obtain ⟨k, ps, hk, rfl, HX, HS, HM, HPL⟩ := hrel
    obtain ⟨a7, c7, rfl⟩ := HS.out.slice
    by_cases h1 : k < q
    · obtain ⟨rb0, ro, rfl, hrb, hrc⟩ := HRA.out (by omega)
      obtain ⟨da, dc, hrr, huu⟩ := hrc k h1
      have HXw := Lib.hid (Gr.ext_trans HMB.out.x HX.out)
      have hrr2 := rangeAt_ext hrr HXw.out
      have HU := Lib.hid (huu.ext HXw.out)
      have HTK := Lib.hid (HTS.out k h1)
      clear hrc hrr huu
      generalize l.getD k Rc.zero = r at *
      obtain ⟨dl, hdl⟩ : ∃ dl, dl = r.d.length := ⟨_, rfl⟩
      rw [← hdl] at hrr2 HU
      have HDL : Hid (r.d.length = dl) := hdl.symm
      obtain ⟨c0, c1, c2, c3, c4, c5, c6, c7', c8, c9⟩ := RCell.ten hrr2
      clear hrr2 hdl
      go_upto_region 5 with fail
      clear c0 c1 c2 c3 c4 c5 c6 c7' c8 c9
      generalize hw : World.alloc wr _ = w3
      have hx : wr.Extends w3 := by subst hw; exact ext_alloc _ _
      have hbx : RB w3 wr.heap.size r (.slice da dl dc) := by subst hw; exact heap_alloc_new _ _
      obtain ⟨bx, hbn⟩ : ∃ b, b = wr.heap.size := ⟨_, rfl⟩
      rw [← hbn] at hbx ⊢
      have HX3 := Lib.hid (Gr.ext_trans HX.out hx)
      have HS3 : Hid (RS w3 B (.slice a7 ps.length c7) ps) := HS.out.ext hx
      have HU3 := Lib.hid (HU.out.ext hx)
      have HSLC : Hid (Slc ((r, Value.slice da dl dc) : Pr)) := ⟨da, dc, by show Value.slice da dl dc = Value.slice da r.d.length dc; rw [HDL.out]⟩
      have HB3 : Hid (B ≤ w3.heap.size) := by show _ ≤ _; rw [HBW.out]; exact HX3.out.size
      obtain ⟨c0, c1, c2, c3, c4, c5, c6, c7', c8, c9⟩ := RCell.ten hbx.range
      simp only [Nat.zero_add] at c0 c1 c2 c3 c4 c5 c6 c7' c8 c9
      have hbl := hbx.lt
      obtain ⟨i0, i1⟩ := HMB.out.i w3 HX3.out
      clear hw hx hbx hbn HS HX HU HXw
      by_cases hm : r.p = p ∧ r.n = n
      · have HTK2 : Hid (MT (k + 1) = MT k ++ [r]) := by show _ = _; rw [HTK.out, if_pos hm]
        have hp : (r.p == p) = true := beq_iff_eq.2 hm.1
        have hn : (r.n == n) = true := beq_iff_eq.2 hm.2
        clear hm HTK
        go_upto_region 6 with fail
        clear hp hn i0 i1
        go_wp2_with (at_builtin; refine wpList_app_rs rfl (.tmp 18) (.tmp 20) rfl B _ ps rfl (HS3.out.ext (ext_alloc _ _)) _ ((r, Value.slice da dl dc) : Pr) rfl (src_rec (r := r) Tryz.underlying26 _ _ rfl rfl) HSLC.out (by show U8s _ (Value.slice da dl dc) r.d; exact HU3.out.ext (ext_alloc _ _)) (by have := HPL.out; omega) (Nat.le_trans HB3.out (ext_alloc _ _).size) ?_)
        intro v9 w10 ho hg10
        have HX10 : Hid (w1.Extends w10) := ext_own (Gr.ext_trans HX3.out (ext_alloc _ _)) hg10 (fun j hj => by have := (HS3.out.own.lt j hj).1; rw [HBW.out] at this; exact this)
        have HS10 := Lib.hid ho
        have HL10 : Hid ((ps ++ [((r, Value.slice da dl dc) : Pr)]).length ≤ k + 1) := by show _ ≤ _; rw [List.length_append]; have := HPL.out; simp; omega
        have HM10 : Hid ((ps ++ [((r, Value.slice da dl dc) : Pr)]).map Prod.fst = MT (k + 1)) := by show _ = _; rw [HTK2.out, List.map_append, HM.out]; rfl
        clear ho hg10 HS3 HX3 HTK2 HM HPL c0 c1 c2 c3 c4 c5 c6 c7' c8 c9 hbl
        go_wp2
        go_roundw
        case rel => exact ⟨k + 1, _, by omega, by go_num, HX10, HS10, HM10, HL10⟩
        case measure => simp [intOf]; omega
      · have HTK2 : Hid (MT (k + 1) = MT k) := by show _ = _; rw [HTK.out, if_neg hm]
        have HM2 : Hid (ps.map Prod.fst = MT (k + 1)) := by show _ = _; rw [HTK2.out]; exact HM.out
        have HPL2 : Hid (ps.length ≤ k + 1) := Nat.le_succ_of_le HPL.out
        clear HTK HTK2 HM HPL HSLC HU3
        by_cases hp1 : r.p = p
        · have hp : (r.p == p) = true := beq_iff_eq.2 hp1
          have hn : (r.n == n) = false := beq_eq_false_iff_ne.2 fun e => hm ⟨hp1, e⟩
          clear hm hp1
          go_wp2
          go_roundw
          case rel => exact ⟨k + 1, ps, by omega, by go_num, HX3, HS3, HM2, HPL2⟩
          case measure => simp [intOf]; omega
        · have hp : (r.p == p) = false := beq_eq_false_iff_ne.2 hp1
          clear hm hp1
          go_wp2
          go_roundw
          case rel => exact ⟨k + 1, ps, by omega, by go_num, HX3, HS3, HM2, HPL2⟩
          case measure => simp [intOf]; omega
    · obtain rfl : k = q := by omega
      have HRM : Hid (Recs wr (.slice a7 ps.length c7) MINE) := by have h := HS.out.recs; rw [HM.out, HTN.out] at h; exact h
      have HXW := Lib.hid (Gr.ext_trans HMB.out.x HX.out)
      clear HS HM HPL HRA HT0 HTN HTS HMB HX
      go_wp2
      go_ret
      exact ⟨_, rfl, HXW.out, HRM.out⟩
end Go.Proofs.YtpfmmfapdcbnkaaGreatDoor
namespace Go.Proofs.YtpfmmfapdcbnkaaGreatDoor
set_option maxRecDepth 20000
open Go.RowKit Go.Deep
set_option linter.unusedVariables false
set_option maxHeartbeats 8000000 in
theorem pfresh_any (p n b s m blk esi un : Int) (v : Value) (l : List Rc) (w0 w : World) (h0 : w0.Extends w) (hT : Tab w0) (hv : Recs w v l) (hm : l.length ≤ 9000)
    (e1 : Nat) (xs : List Nat) (hdec : ∀ v w, w0.Extends w → Recs w v (mineOf p n l) → Calls Tryz.prog 21 #[PV b s m, v] w (JoinOut w e1 xs))
    (e2 : Int) (OK : World → Nat → Prop) (hnew : e1 = 0 → ∀ v w, w0.Extends w → U8s w v xs → Calls Tryz.prog 23 #[PV b s m, v] w (ObjOr w e2 OK))
    (e3 : Int) (d : List Nat) (hsym : e1 = 0 → e2 = 0 → ∀ o w, w0.Extends w → OK w o → Calls Tryz.prog 24 #[.pointer (some ⟨o, 0, none⟩), .int .i64 blk, .int .i64 esi] w (SymOut w d e3)) :
    Calls Tryz.prog 8 #[.agg #[.int .i64 p, .int .i64 n], PV b s m, .int .i64 blk, .int .i64 esi, .int .i64 un, v] w (FreshOut w (freshRec p n b s m blk esi un d (freshErr e1 e2 e3)) (freshErr e1 e2 e3)) := by
  have HRI := Lib.hid hv
  obtain ⟨ra, rc, rfl⟩ := hv.slice
  have HRA := Lib.hid hv.at.2
  have hrm := hv.len
  unfold maxLen at hrm
  have HHV := Lib.hid (fun w' (hx : w.Extends w') => having_any p n _ l w' (hv.ext hx) hm)
  have HDEC := Lib.hid hdec
  have HNEW := Lib.hid hnew
  have HSYM := Lib.hid hsym
  have H0 := Lib.hid h0
  have HE1 : Hid (e1 ≠ 0 → ∀ w', w.Extends w' → FreshOut w (freshRec p n b s m blk esi un d (freshErr e1 e2 e3)) (freshErr e1 e2 e3) (.returned (.tuple #[Rc.zero.val (.slice none 0 0), .int .i64 (e1 : Nat)])) w') := fun h w' hx => by
    have e : freshErr e1 e2 e3 = (e1 : Nat) := by unfold freshErr; rw [if_neg h]
    have e' : freshRec p n b s m blk esi un d (freshErr e1 e2 e3) = Rc.zero := by unfold freshRec; rw [e, if_neg (by omega)]
    rw [e', e]
    exact ⟨none, 0, rfl, hx, nil_u8s _ _ _⟩
  have HE2 : Hid (e1 = 0 → e2 ≠ 0 → ∀ w', w.Extends w' → FreshOut w (freshRec p n b s m blk esi un d (freshErr e1 e2 e3)) (freshErr e1 e2 e3) (.returned (.tuple #[Rc.zero.val (.slice none 0 0), .int .i64 e2])) w') := fun h h2 w' hx => by
    have e : freshErr e1 e2 e3 = e2 := by unfold freshErr; rw [if_pos h, if_neg h2]
    have e' : freshRec p n b s m blk esi un d (freshErr e1 e2 e3) = Rc.zero := by unfold freshRec; rw [e, if_neg h2]
    rw [e', e]
    exact ⟨none, 0, rfl, hx, nil_u8s _ _ _⟩
  have HE3 : Hid (e1 = 0 → e2 = 0 → e3 ≠ 0 → ∀ w', w.Extends w' → FreshOut w (freshRec p n b s m blk esi un d (freshErr e1 e2 e3)) (freshErr e1 e2 e3) (.returned (.tuple #[Rc.zero.val (.slice none 0 0), .int .i64 e3])) w') := fun h h2 h3 w' hx => by
    have e : freshErr e1 e2 e3 = e3 := by unfold freshErr; rw [if_pos h, if_pos h2]
    have e' : freshRec p n b s m blk esi un d (freshErr e1 e2 e3) = Rc.zero := by unfold freshRec; rw [e, if_neg h3]
    rw [e', e]
    exact ⟨none, 0, rfl, hx, nil_u8s _ _ _⟩
  have HE4 : Hid (e1 = 0 → e2 = 0 → e3 = 0 → ∀ w' a c, w.Extends w' → U8s w' (.slice a d.length c) d → FreshOut w (freshRec p n b s m blk esi un d (freshErr e1 e2 e3)) (freshErr e1 e2 e3) (.returned (.tuple #[.agg #[.int .i64 p, .int .i64 n, .int .i64 b, .int .i64 s, .int .i64 m, .int .i64 blk, .int .i64 esi, .bool false, .int .i64 un, .slice a d.length c], .int .i64 0])) w') := fun h h2 h3 w' a c hx hu => by
    have e : freshErr e1 e2 e3 = 0 := by unfold freshErr; rw [if_pos h, if_pos h2]; exact h3
    have e' : freshRec p n b s m blk esi un d (freshErr e1 e2 e3) = ⟨p, n, b, s, m, blk, esi, false, un, d⟩ := by unfold freshRec; rw [e, if_pos rfl]
    rw [e', e]
    exact ⟨a, c, rfl, hx, hu⟩
  generalize FreshOut w (freshRec p n b s m blk esi un d (freshErr e1 e2 e3)) (freshErr e1 e2 e3) = POST at *
  generalize mineOf p n l = MINE at *
  obtain ⟨q, hq⟩ : ∃ q, q = l.length := ⟨_, rfl⟩
  rw [← hq] at HHV hm hrm ⊢
  clear hv hdec hnew hsym h0 hq HRA
  go_enter Tryz.func8, Tryz.ntmps8
  go_upto_region 1 with fail
  obtain ⟨y, hy⟩ : ∃ y, y = w.heap.size := ⟨_, rfl⟩
  have HMB := Lib.hid (MB.made w p n b s m)
  generalize hw1 : World.alloc _ _ = w1 at *
  rw [← hy] at HMB ⊢
  clear hw1
  have HYW : Hid (w.heap.size ≤ y) := Nat.le_of_eq hy.symm
  clear hy
  have HSH : Hid (∀ w', w1.Extends w' → w'.cell? ⟨y + 1, 0, none⟩ = some (.int .i64 b) ∧ w'.cell? ⟨y + 1, 1, none⟩ = some (.int .i64 s) ∧ w'.cell? ⟨y + 1, 2, none⟩ = some (.int .i64 m)) := HMB.out.s
  have HIDD : Hid (∀ w', w1.Extends w' → w'.cell? ⟨y, 0, none⟩ = some (.int .i64 p) ∧ w'.cell? ⟨y, 1, none⟩ = some (.int .i64 n)) := HMB.out.i
  have HZ : Hid (RB w1 (y + 1 + 1) Rc.zero (.slice none 0 0)) := HMB.out.z
  have HXB := Lib.hid HMB.out.x
  have HSL0 : Hid (Slc ((Rc.zero, Value.slice none 0 0) : Pr)) := ⟨none, 0, rfl⟩
  clear HMB
  go_wp2_with fail
  refine Gr.region 9 [(false,0),(false,1),(false,2),(true,3),(true,4),(false,5),(false,6),(false,7),(false,8)] (by kernel_rfl) (by kernel_rfl) (fun d _ _ _ _ h => by cases d <;> exact h) ?_
  simp only [Gr.pick, List.getElem?_cons_zero, List.getElem?_cons_succ, List.drop_succ_cons, List.drop_zero]
  have HXD : Hid (w1.Extends w1.drew) := Gr.ext_drew (Gr.ext_refl _)
  generalize w1.drew = wd at *
  iterate 3
    refine Gr.walk_t ?_ (Or.inl ⟨by rfl, ?_⟩) ?_
    rotate_left
    · intro w' hw'
      obtain ⟨s0, s1, s2⟩ := HSH.out w' (Gr.ext_trans HXD.out hw')
      obtain ⟨i0, i1⟩ := HIDD.out w' (Gr.ext_trans HXD.out hw')
      clear hw'
      go_simp
      try with_reducible rfl
    simp only [Act.put, List.setIfInBounds_toArray, List.set_cons_zero, List.set_cons_succ]
  refine Gr.walk_c (fun K hK => ?_)
  go_simp
  refine (HHV.out wd (Gr.ext_trans HXB.out HXD.out)).mono ?_
  rintro e w8 ⟨u, rfl, hx8, hr8⟩
  obtain ⟨ma, mc, rfl⟩ := hr8.slice
  have HX8 := Lib.hid (Gr.ext_trans HXD.out hx8)
  have HR8 := Lib.hid hr8
  try go_simp
  refine hK.out _ _ (hx8) ?_
  clear hK K
  clear hx8 hr8 HXD HHV
  generalize MINE.length = ml at *
  refine Gr.walk_c (fun K hK => ?_)
  go_simp
  refine (HDEC.out _ w8 (Gr.ext_trans H0.out (Gr.ext_trans HXB.out HX8.out)) HR8.out).mono ?_
  rintro e w2 ⟨u, rfl, hx2, hu2⟩
  obtain ⟨ua, uc, rfl, -⟩ := hu2.slice
  have HX2 := Lib.hid (Gr.ext_trans HX8.out hx2)
  have HU2 := Lib.hid hu2
  try go_simp
  refine hK.out _ _ (hx2) ?_
  clear hK K
  clear hx2 hu2 HX8 HR8 HDEC
  iterate 4
    refine Gr.walk_t ?_ (Or.inl ⟨by rfl, ?_⟩) ?_
    rotate_left
    · intro w' hw'
      clear hw'
      go_simp
      try with_reducible rfl
    simp only [Act.put, List.setIfInBounds_toArray, List.set_cons_zero, List.set_cons_succ]
  refine Gr.walk_nil ?_
  by_cases he1 : e1 = 0
  case neg =>
    have hne : ((e1 : Int) == 0) = false := by rw [beq_eq_false_iff_ne]; omega
    have HP := Lib.hid (HE1.out he1)
    have HZZ := Lib.hid (HZ.out.ext HX2.out)
    go_wp2_with (refine wpList_store_rb rfl (.tmp 12) (.tmp 28) rfl (y + 1 + 1) Rc.zero Rc.zero _ (.slice none 0 0) rfl rfl HZZ.out HSL0.out ?_)
    intro w9 ha9 hg9
    obtain ⟨d0, d1, d2, d3, d4, d5, d6, d7, d8, d9⟩ := RCell.ten ha9.range
    simp only [Nat.zero_add, Rc.zero] at d0 d1 d2 d3 d4 d5 d6 d7 d8 d9
    have HX9 : Hid (w.Extends w9) := ext_own (Gr.ext_trans HXB.out HX2.out) hg9 (fun j hj => by have := Option.some.inj hj; have := HYW.out; omega)
    have HPF := Lib.hid (HP.out w9 HX9.out)
    clear ha9 hg9 HP HZZ HX9
    repeat (first | go_step | go_upon)
    refine bodyPost_ret (v := .tuple #[Rc.zero.val (.slice none 0 0), .int .i64 (e1 : Nat)]) (by simp [results, Tryz.results8, go_sem, d0, d1, d2, d3, d4, d5, d6, d7, d8, d9]; try rfl) rfl ?_
    exact HPF.out
  have he1' : ((e1 : Int) == 0) = true := by rw [beq_iff_eq]; omega
  have HNEW2 := Lib.hid (HNEW.out he1)
  obtain ⟨s0, s1, s2⟩ := HSH.out w2 HX2.out
  clear HE1 HNEW
  generalize xs.length = xl at *
  go_wp2_with fail
  clear he1' s0 s1 s2
  refine (HNEW2.out _ w2 (Gr.ext_trans H0.out (Gr.ext_trans HXB.out HX2.out)) HU2.out).mono ?_
  rintro e w3 ⟨hx3, ⟨hn2, rfl⟩ | ⟨hn2, o, rfl, hok⟩⟩
  · have HX3 := Lib.hid (Gr.ext_trans HX2.out hx3)
    have hne : (e2 == 0) = false := by rw [beq_eq_false_iff_ne]; exact hn2
    have HP := Lib.hid (HE2.out he1 hn2)
    clear hx3 HX2 HU2 HNEW2
    have HZZ := Lib.hid (HZ.out.ext HX3.out)
    go_wp2_with (refine wpList_store_rb rfl (.tmp 12) (.tmp 38) rfl (y + 1 + 1) Rc.zero Rc.zero _ (.slice none 0 0) rfl rfl HZZ.out HSL0.out ?_)
    intro w9 ha9 hg9
    obtain ⟨d0, d1, d2, d3, d4, d5, d6, d7, d8, d9⟩ := RCell.ten ha9.range
    simp only [Nat.zero_add, Rc.zero] at d0 d1 d2 d3 d4 d5 d6 d7 d8 d9
    have HX9 : Hid (w.Extends w9) := ext_own (Gr.ext_trans HXB.out HX3.out) hg9 (fun j hj => by have := Option.some.inj hj; have := HYW.out; omega)
    have HPF := Lib.hid (HP.out w9 HX9.out)
    clear ha9 hg9 HP HZZ HX9
    repeat (first | go_step | go_upon)
    refine bodyPost_ret (v := .tuple #[Rc.zero.val (.slice none 0 0), .int .i64 e2]) (by simp [results, Tryz.results8, go_sem, d0, d1, d2, d3, d4, d5, d6, d7, d8, d9]; try rfl) rfl ?_
    exact HPF.out
  have HX3 := Lib.hid (Gr.ext_trans HX2.out hx3)
  have HSYM2 := Lib.hid (HSYM.out he1 hn2 o w3 (Gr.ext_trans H0.out (Gr.ext_trans HXB.out HX3.out)) hok)
  clear hx3 hok HX2 HU2 HNEW2 HE2 HSYM
  go_wp2_with fail
  refine HSYM2.out.mono ?_
  rintro e w4 ⟨u, rfl, hx4, hu4⟩
  obtain ⟨ua4, uc4, rfl, -⟩ := hu4.1.slice
  have HX4 := Lib.hid (Gr.ext_trans HX3.out hx4)
  have HU4 := Lib.hid hu4.1
  clear hx4 hu4 HX3 HSYM2
  by_cases he3 : e3 = 0
  case neg =>
    have hne : (e3 == 0) = false := by rw [beq_eq_false_iff_ne]; exact he3
    have HP := Lib.hid (HE3.out he1 hn2 he3)
    clear HU4
    have HZZ := Lib.hid (HZ.out.ext HX4.out)
    go_wp2_with (refine wpList_store_rb rfl (.tmp 12) (.tmp 49) rfl (y + 1 + 1) Rc.zero Rc.zero _ (.slice none 0 0) rfl rfl HZZ.out HSL0.out ?_)
    intro w9 ha9 hg9
    obtain ⟨d0, d1, d2, d3, d4, d5, d6, d7, d8, d9⟩ := RCell.ten ha9.range
    simp only [Nat.zero_add, Rc.zero] at d0 d1 d2 d3 d4 d5 d6 d7 d8 d9
    have HX9 : Hid (w.Extends w9) := ext_own (Gr.ext_trans HXB.out HX4.out) hg9 (fun j hj => by have := Option.some.inj hj; have := HYW.out; omega)
    have HPF := Lib.hid (HP.out w9 HX9.out)
    clear ha9 hg9 HP HZZ HX9
    repeat (first | go_step | go_upon)
    refine bodyPost_ret (v := .tuple #[Rc.zero.val (.slice none 0 0), .int .i64 e3]) (by simp [results, Tryz.results8, go_sem, d0, d1, d2, d3, d4, d5, d6, d7, d8, d9]; try rfl) rfl ?_
    exact HPF.out
  have hee : (e3 == 0) = true := by rw [beq_iff_eq]; exact he3
  obtain ⟨s0, s1, s2⟩ := HSH.out w4 HX4.out
  obtain ⟨i0, i1⟩ := HIDD.out w4 HX4.out
  have HZ4 := Lib.hid (HZ.out.ext HX4.out)
  have HP := Lib.hid (HE4.out he1 hn2 he3)
  have HSLC : Hid (Slc (((⟨p, n, b, s, m, blk, esi, false, un, d⟩ : Rc), Value.slice ua4 d.length uc4) : Pr)) := ⟨_, _, rfl⟩
  clear HE3 HE4 HZ HSH HIDD
  go_wp2_with (refine wpList_store_rb rfl (.tmp 12) (.tmp 57) rfl (y + 1 + 1) Rc.zero ⟨p, n, b, s, m, blk, esi, false, un, d⟩ _ (.slice ua4 d.length uc4) rfl rfl HZ4.out HSLC.out ?_)
  intro w5 ha5 hg5
  obtain ⟨d0, d1, d2, d3, d4, d5, d6, d7, d8, d9⟩ := RCell.ten ha5.range
  simp only [Nat.zero_add] at d0 d1 d2 d3 d4 d5 d6 d7 d8 d9
  have HX5 : Hid (w.Extends w5) := ext_own (Gr.ext_trans HXB.out HX4.out) hg5 (fun j hj => by have := Option.some.inj hj; have := HYW.out; omega)
  have HU5 : Hid (U8s w5 (.slice ua4 d.length uc4) d) := HU4.out.beside HZ4.out (fun z hz t e => by subst e; simp [Rc.cells] at hz) hg5
  have HPF := Lib.hid (HP.out w5 ua4 uc4 HX5.out HU5.out)
  clear ha5 hg5 s0 s1 s2 i0 i1 hee he3 HP HX5 HU5 HZ4 HSLC HU4 HX4
  generalize d.length = dl at *
  repeat (first | go_step | go_upon)
  refine bodyPost_ret (v := .tuple #[.agg #[.int .i64 p, .int .i64 n, .int .i64 b, .int .i64 s, .int .i64 m, .int .i64 blk, .int .i64 esi, .bool false, .int .i64 un, .slice ua4 dl uc4], .int .i64 0]) (by simp [results, Tryz.results8, go_sem, d0, d1, d2, d3, d4, d5, d6, d7, d8, d9]; try rfl) rfl ?_
  exact HPF.out
end Go.Proofs.YtpfmmfapdcbnkaaGreatDoor
namespace Go.Proofs.YtpfmmfapdcbnkaaGreatDoor
set_option maxRecDepth 20000
open Go.RowKit
set_option maxHeartbeats 400000 in
theorem rpower_any (n : Int) (w : World) :
    Calls Tryz.prog 77 #[.int .i64 n] w fun e w' => e = .returned (.int .u8 (FM.ex (n % 255).toNat : Nat)) ∧ w = w' := by
  have hk : ((n % 255).toNat : Int) = n % 255 := Int.toNat_of_nonneg (by omega)
  have hl : (n % 255).toNat < 256 := by omega
  generalize (n % 255).toNat = k at *
  by_cases h0 : n.tmod 255 < 0
  · have e := Lib.hid (IntWalk.wrap64_in (n.tmod 255 + 255) (by rw [tmod_neg n h0]; omega))
    have e2 := Lib.hid ((tmod_neg n h0).trans hk.symm)
    clear hk
    go_enter Tryz.func77, Tryz.ntmps77
    go_wp2
    rw [e.out, e2.out]
    go_loop [4, 5] (fun x i => ∃ m : Nat, m ≤ k ∧ i = .int .i64 m ∧ x = .int .u8 (FM.ex m : Nat)) (fun _ i => (k - intOf i).toNat)
    case atStart => exact ⟨0, by omega, rfl, rfl⟩
    case round =>
      obtain ⟨m, hm, rfl, rfl⟩ := hrel
      have hx := FM.ex_lt m
      have hr : Hid (FM.rtm (FM.ex m) 2 = FM.ex (m + 1)) := FM.rtm_eq (FM.ex m) 2 hx (by omega)
      by_cases h0 : m < k
      · go_wp2_with fail
        refine (rtimes_any _ 2 hx (by omega) _).mono ?_
        rintro e w' ⟨rfl, rfl⟩
        go_wp2
        go_round
        case rel => exact ⟨m + 1, by omega, by go_num, by rw [hr.out]⟩
        case measure => simp [intOf]; omega
      · have hF : Hid (m = k) := by show _ = _; omega
        go_wp2
        go_ret
        exact ⟨retu8 (by rw [hF.out]), rfl⟩
  · have e2 := Lib.hid ((tmod_pos n h0).trans hk.symm)
    clear hk
    go_enter Tryz.func77, Tryz.ntmps77
    go_wp2
    rw [e2.out]
    go_loop [4, 5] (fun x i => ∃ m : Nat, m ≤ k ∧ i = .int .i64 m ∧ x = .int .u8 (FM.ex m : Nat)) (fun _ i => (k - intOf i).toNat)
    case atStart => exact ⟨0, by omega, rfl, rfl⟩
    case round =>
      obtain ⟨m, hm, rfl, rfl⟩ := hrel
      have hx := FM.ex_lt m
      have hr : Hid (FM.rtm (FM.ex m) 2 = FM.ex (m + 1)) := FM.rtm_eq (FM.ex m) 2 hx (by omega)
      by_cases h0 : m < k
      · go_wp2_with fail
        refine (rtimes_any _ 2 hx (by omega) _).mono ?_
        rintro e w' ⟨rfl, rfl⟩
        go_wp2
        go_round
        case rel => exact ⟨m + 1, by omega, by go_num, by rw [hr.out]⟩
        case measure => simp [intOf]; omega
      · have hF : Hid (m = k) := by show _ = _; omega
        go_wp2
        go_ret
        exact ⟨retu8 (by rw [hF.out]), rfl⟩
end Go.Proofs.YtpfmmfapdcbnkaaGreatDoor
