/- In one text: TupRef, From, DroDrops, DroLaw, BlkSym, MntRef, MntHave, MntFresh, PreRefLow, PreRefHigh, RefSolve, ObjAt, SeeTells, BlkLaw, ObjNew. -/
import Derived.Handy
import Derived.Lib.Hide
import Derived.Laws.BytesArg
import Derived.Laws.StructEq
import Derived.Deep.DeepCutAuto
import Derived.Deep.WholeRow
import Derived.Lib.SlBytesConst
import Derived.Test.YtpfmmfapdcbnkaaDoorMA1
import Derived.Test.YtpfmmfapdcbnkaaDoorMA2
import Derived.Test.YtpfmmfapdcbnkaaDoorMA3
import Derived.Test.YtpfmmfapdcbnkaaDoorMA4
import Derived.Test.YtpfmmfapdcbnkaaDoorMA5
import Derived.Test.YtpfmmfapdcbnkaaDoorMA7
import Derived.Test.YtpfmmfapdcbnkaaDoorMA9
import Derived.Test.YtpfmmfapdcbnkaaDoorMA10
import Derived.Test.YtpfmmfapdcbnkaaDoorMA11
import Derived.Test.YtpfmmfapdcbnkaaDoorMA12
namespace Go.Proofs.YtpfmmfapdcbnkaaDoor
set_option maxRecDepth 20000
open Go.RowKit Go.Deep
set_option linter.unusedVariables false
/-- Which places the reference has met. -/
def Had (w : World) (b W : Nat) (l : List Nat) : Prop := w.rowIs b 4 W (fun i => .bool (decide (i ∈ l)))
theorem Had.made (w : World) (W : Nat) : Had (w.alloc (.cells (madeCells #[.bool false] W) 4)) w.heap.size W [] :=
  (World.rowIs_made w (.bool false) W 4).congr fun i hi => by simp
theorem Had.ext {w w' : World} {b W : Nat} {l : List Nat} (h : Had w b W l) (hx : w.Extends w') : Had w' b W l := h.of_block (hx.block b h.lt)
theorem Had.grown {w w' : World} {b W : Nat} {l : List Nat} (h : Had w b W l) {r : Option Nat} (hg : w.grownBy w' r) (hr : some b ≠ r) : Had w' b W l := h.of_block (hg.block b h.lt hr)
theorem Had.set {w : World} {b W : Nat} {l : List Nat} (h : Had w b W l) (m : Nat) : Had (w.setCell ⟨b, m, none⟩ (.bool true)) b W (l ++ [m]) :=
  (World.rowIs.set h m (.bool true)).congr fun i hi => by
    by_cases e : i = m
    · subst e; simp
    · simp [e]
end Go.Proofs.YtpfmmfapdcbnkaaDoor
namespace Go.Proofs.YtpfmmfapdcbnkaaDoor
set_option maxRecDepth 20000
open Go.RowKit Go.Deep
set_option linter.unusedVariables false
theorem take_snoc (l : List (List Nat)) (k : Nat) (h : k < l.length) : l.take k ++ [l.getD k []] = l.take (k + 1) := by
  rw [List.take_succ_eq_append_getElem h]; simp [h]
/-- Rows of a call's own: new, and they read so. -/
def MadeList (w : World) (l : List (List Nat)) (e : Ending) (w' : World) : Prop := ∃ v, e = .returned v ∧ w.Extends w' ∧ Rws w' v l
end Go.Proofs.YtpfmmfapdcbnkaaDoor
namespace Go.Proofs.YtpfmmfapdcbnkaaDoor
set_option maxRecDepth 20000
open Go.RowKit Go.Deep
set_option linter.unusedVariables false
/-- The answer reads as xs, in a block of bytes. -/
def RowNew (w : World) (xs : List Nat) (e : Ending) (w' : World) : Prop := ∃ v, e = .returned v ∧ w.Extends w' ∧ RowOk w' 0 v xs
theorem new_made {w w' : World} {xs : List Nat} {e : Ending} (h : MadeRow w xs e w') : RowNew w xs e w' := by
  obtain ⟨g, rfl, hx, _, ho⟩ := h
  exact ⟨_, rfl, hx, RowOk.own ho 0 rfl rfl⟩
theorem new_nil {w w' : World} {e : Ending} (h : e = .returned (.slice none 0 0)) (hx : w.Extends w') : RowNew w [] e w' := ⟨_, h, hx, nil_u8s _ _ _, .inl rfl⟩
set_option maxHeartbeats 1000000 in
theorem drops_any (k s h j size : Int) (vc ve : Value) (es : List Int) (d : Int → List Nat) (w : World) (hl : es.length ≤ 1000000) (hv : Ints w ve es)
    (hd : ∀ e w', w.Extends w' → Calls Tryd.prog 36 #[PV k s h, .int .i64 j, .int .i64 size, vc, .int .i64 e] w' (RowNew w' (d e))) :
    Calls Tryd.prog 31 #[PV k s h, .int .i64 j, .int .i64 size, vc, ve] w (MadeList w (DM.all d es)) := by
  have HDR := Lib.hid hd
  have HYES := Lib.hid (DM.all_yes d es)
  have HNO := Lib.hid (DM.all_no d es)
  have HMS := Lib.hid (DM.map_snoc d es)
  obtain ⟨a, cap, rfl, hcap, hcap2⟩ := hv.slice
  have HCL := Lib.hid hv.cell.2
  clear hv hcap hcap2 hd
  obtain ⟨n, hn⟩ : ∃ n, n = es.length := ⟨_, rfl⟩
  rw [← hn] at HCL hl ⊢
  have HN := Lib.hid hn
  clear hn
  obtain ⟨i1, hi', hz0', hz1', hz2'⟩ := info_parts rowinfo
  have HI' := Lib.hid hi'; clear hi'
  have HZ0' := Lib.hid hz0'; clear hz0'
  have HZ1' := Lib.hid hz1'; clear hz1'
  have HZ2' := Lib.hid hz2'; clear hz2'
  go_enter Tryd.func31, Tryd.ntmps31
  go_wp2_with fail
  generalize hw1 : World.alloc w _ = w1
  have hx1 : w.Extends w1 := by subst hw1; exact prm_ext_alloc _ _
  have hp : PAt w1 w.heap.size k s h := by subst hw1; exact PAt.new w 74 k s h
  generalize w.heap.size = b at hp ⊢
  clear hw1
  have HX1 := Lib.hid hx1
  have HP1 := Lib.hid hp
  clear hx1 hp
  go_wp2_with fail
  go_loopw [11, 17] (fun o i wr => ∃ q : Nat, q ≤ n ∧ i = .int .i64 q ∧ Hid (w1.Extends wr) ∧ Hid (∀ i, i < q → 0 < (d (es.getD i 0)).length) ∧ Hid (Mats wr w1.heap.size 0 67 o q ((es.take q).map d))) (fun _ i _ => (n - intOf i).toNat)
  case atStart => exact ⟨0, by omega, rfl, Lib.hid (Gr.ext_refl _), Lib.hid (fun j hj => absurd hj (Nat.not_lt_zero _)), Lib.hid (Mats.nil _ _ _ _ _)⟩
  case round =>
    obtain ⟨q, hq, rfl, HX, HG, HM⟩ := hrel
    by_cases h5 : q < n
    · have hen : q < es.length := by have := HN.out; omega
      obtain ⟨bp, off, rfl, hbp, hc⟩ := HCL.out (by omega)
      have hc1 := (Gr.ext_trans HX1.out HX.out).cell_of (hc q h5)
      have HS1 := Lib.hid (HMS.out q hen)
      have HNO1 := Lib.hid (HNO.out q hen)
      obtain ⟨p0, p1, p2⟩ := HP1.out.ext HX.out
      clear hc hbp
      have HGS : Hid (0 < (d (es.getD q 0)).length → ∀ i, i < q + 1 → 0 < (d (es.getD i 0)).length) := fun h0 i hi => by
        by_cases hiq : i < q
        · exact HG.out i hiq
        · obtain rfl : i = q := by omega
          exact h0
      have HDQ := Lib.hid (HDR.out (es.getD q 0) wr (Gr.ext_trans HX1.out HX.out))
      generalize es.getD q 0 = x at *
      generalize d x = row at *
      go_wp2_with fail
      refine HDQ.out.mono ?_
      rintro _ wq ⟨v, rfl, hxq, hok⟩
      obtain ⟨ra, rc, rfl, _, _⟩ := hok.1.slice
      have HOK := Lib.hid hok
      have HXQ := Lib.hid (Gr.ext_trans HX.out hxq)
      obtain ⟨vs, hown, hrows⟩ := HM.out.ext hxq
      have HOWN := Lib.hid hown
      have HROWS := Lib.hid hrows
      have HOB : Hid (∀ g, u11.ownBlock = some g → w1.heap.size ≤ g) := fun g hg => (HOWN.out.lt g hg).1
      have hbs := HXQ.out.size
      have HPQ : Hid (q = ((es.take q).map d).length) := by
        show _ = _; rw [List.length_map, List.length_take, ← HN.out]; omega
      clear hown hrows hxq hok HM HDQ p0 p1 p2 hc1
      by_cases h0 : row.length = 0
      · have HP : Hid (MadeList w (DM.all d es) (.returned (.slice none 0 0)) wq) := ⟨_, rfl, Gr.ext_trans HX1.out HXQ.out, by rw [HNO1.out h0]; exact Rws.nil _ _ _⟩
        rw [h0]
        go_wp2
        go_ret
        exact HP.out
      · have hlen0 : ((row.length : Int) == 0) = false := by rw [beq_eq_false_iff_ne]; omega
        have HG2 := Lib.hid (HGS.out (by omega))
        go_wp2_with (at_builtin; refine wpList_append_own_src _ rfl _ _ 54 54 rfl w1.heap.size 67 i1 (.slice none 0 0) 1 24 Tryd.underlying54 HI'.out HZ0'.out HZ1'.out HZ2'.out rfl _ _ _ rfl (HOWN.out.alloc _) _ 1 [.slice ra row.length rc] rfl (src_one Tryd.underlying54 _ _ rfl rfl) (by unfold maxLen; omega) (by omega) (by simp; omega) ?_)
        intro v' w9 ho9 hg9 _
        have HP : Hid (w1.Extends w9 ∧ Mats w9 w1.heap.size 0 67 v' (q + 1) ((es.take (q + 1)).map d)) := by
          refine ⟨Gr.ext_of (((Gr.below_of HXQ.out).alloc hbs _).grown hg9 (by simp; omega) HOB.out), ?_⟩
          rw [← HS1.out]
          exact Mats.snoc (Nat.zero_le _) (by decide) HPQ.out (HOWN.out.alloc _) (fun j hj => by obtain ⟨u, h1, h2⟩ := HROWS.out j hj; exact ⟨u, h1, h2.ext (ext_alloc _ _)⟩) (HOK.out.ext (ext_alloc _ _)) hg9 ho9
        clear ho9 hg9
        go_wp2
        go_roundw
        case rel => exact ⟨q + 1, by omega, by go_num, Lib.hid HP.out.1, HG2, Lib.hid HP.out.2⟩
        case measure => simp [intOf]; omega
    · obtain rfl : q = n := by omega
      have HP : Hid (MadeList w (DM.all d es) (.returned u11) wr) := by
        refine ⟨u11, rfl, Gr.ext_trans HX1.out HX.out, ?_⟩
        rw [HYES.out (fun i hi => HG.out i (by have := HN.out; omega))]
        have h := HM.out.rws (by rw [List.length_map, List.length_take, ← HN.out]; omega)
        rw [HN.out, List.take_length] at h
        exact h
      go_wp2
      go_ret
      exact HP.out
end Go.Proofs.YtpfmmfapdcbnkaaDoor
namespace Go.Proofs.YtpfmmfapdcbnkaaDoor
set_option maxRecDepth 20000
open Go.RowKit Go.Deep
set_option linter.unusedVariables false
theorem not_right_zero8 : ¬ Right 0 0 0 := fun ⟨n, h, h1, _⟩ => by omega
/-- With Params of no block. -/
theorem drop_zero (j size esi : Int) (v : Value) (c : List (List Nat)) (w : World) (hv : Rws w v c) :
    Calls Tryd.prog 36 #[PV 0 0 0, .int .i64 j, .int .i64 size, v, .int .i64 esi] w (RowNew w []) := by
  have hm := hv.len
  obtain ⟨a, cap, rfl, _⟩ := hv.slice
  by_cases h1 : size < 1 ∨ 64 < size
  · exact (drop_size 0 0 0 j size esi _ w h1).mono fun _ _ h => new_nil h.1 h.2
  · by_cases h2 : c.length = 0
    · exact (drop_fit 0 0 0 j size esi a c.length cap w (by omega) (by omega) (by omega) (by omega) hm (fun h => not_right_zero8 h.1)).mono fun _ _ h => new_nil h.1 h.2
    · exact (drop_len 0 0 0 j size esi a c.length cap w (by omega) (by omega) (by omega) (by omega) (by omega)).mono fun _ _ h => new_nil h.1 h.2
/-- Numbers of which a block of k has a symbol. -/
def Has (k : Nat) (j size esi : Int) (n : Nat) : Prop := (0 ≤ j ∧ j ≤ 255 ∧ 1 ≤ size ∧ size ≤ 64 ∧ n = PM.l k) ∧ EsiOk esi
theorem drop_no (k : Nat) (j size esi : Int) (v : Value) (c : List (List Nat)) (w : World) (k1 : 1 ≤ k) (k2 : k ≤ 40) (hv : Rws w v c) (hn : ¬ Has k j size esi c.length) :
    Calls Tryd.prog 36 #[PV k (PM.s k) 2, .int .i64 j, .int .i64 size, v, .int .i64 esi] w (RowNew w []) := by
  have hm := hv.len
  have hs := PM.s_le k k2
  have hlk : (PM.l k : Int) = k + PM.s k + 2 := by unfold PM.l PM.w; omega
  obtain ⟨a, cap, rfl, _⟩ := hv.slice
  by_cases h1 : size < 1 ∨ 64 < size
  · exact (drop_size _ _ _ j size esi _ w h1).mono fun _ _ h => new_nil h.1 h.2
  · by_cases h2 : c.length = PM.l k
    · refine (drop_fit k (PM.s k) 2 j size esi a c.length cap w (by omega) (by omega) (by omega) (by omega) hm (fun h => hn ?_)).mono fun _ _ h => new_nil h.1 h.2
      obtain ⟨_, a1, a2, a3, a4⟩ := h
      exact ⟨⟨a1, a2, by omega, by omega, h2⟩, a3, a4⟩
    · exact (drop_len k (PM.s k) 2 j size esi a c.length cap w (by omega) (by omega) (by omega) (by omega) (by omega)).mono fun _ _ h => new_nil h.1 h.2
end Go.Proofs.YtpfmmfapdcbnkaaDoor
namespace Go.Proofs.YtpfmmfapdcbnkaaDoor
set_option maxRecDepth 20000
open Go.RowKit Go.Deep
set_option linter.unusedVariables false
/-- A symbol and an error. -/
def SymOut (w : World) (row : List Nat) (err : Int) (e : Ending) (w' : World) : Prop := ∃ v, e = .returned (.tuple #[v, .int .i64 err]) ∧ w.Extends w' ∧ RowOk w' 0 v row
/-- The symbol of a number, nothing where there is none; and the error. -/
def symOf (k j size : Nat) (c : List (List Nat)) (esi : Int) : List Nat := if EsiOk esi then DM.drop k j size c esi.toNat else []
/-- The reference's block. -/
def RAt (w : World) (b : Nat) (k j size : Int) (v : Value) : Prop :=
  w.cell? ⟨b, 0, none⟩ = some (.int .i64 k) ∧ w.cell? ⟨b, 1, none⟩ = some (.int .i64 j) ∧ w.cell? ⟨b, 2, none⟩ = some (.int .i64 size) ∧ w.cell? ⟨b, 3, none⟩ = some v
theorem RAt.ext {w w' : World} {b : Nat} {k j size : Int} {v : Value} (hp : RAt w b k j size v) (hx : w.Extends w') : RAt w' b k j size v :=
  ⟨hx.cell_of hp.1, hx.cell_of hp.2.1, hx.cell_of hp.2.2.1, hx.cell_of hp.2.2.2⟩
theorem RAt.new (w : World) (T : TypeId) (k j size : Int) (v : Value) : RAt (w.alloc (.cells #[.int .i64 k, .int .i64 j, .int .i64 size, v] T)) w.heap.size k j size v := by
  have h0 := heap_alloc_new w (.cells #[.int .i64 k, .int .i64 j, .int .i64 size, v] T)
  exact ⟨by rw [cell_of_row _ _ _ _ _ _ h0]; rfl, by rw [cell_of_row _ _ _ _ _ _ h0]; rfl, by rw [cell_of_row _ _ _ _ _ _ h0]; rfl, by rw [cell_of_row _ _ _ _ _ _ h0]; rfl⟩
end Go.Proofs.YtpfmmfapdcbnkaaDoor
namespace Go.Proofs.YtpfmmfapdcbnkaaDoor
set_option maxRecDepth 20000
open Go.RowKit Go.Deep
set_option linter.unusedVariables false
/-- What stands where a call has boxed an id and a shape, and laid a record's variable. -/
structure MB (w w1 : World) (y : Nat) (p n b s m : Int) : Prop where
  x : w.Extends w1
  at_ : y = w.heap.size
  i : ∀ w', w1.Extends w' → w'.cell? ⟨y, 0, none⟩ = some (.int .i64 p) ∧ w'.cell? ⟨y, 1, none⟩ = some (.int .i64 n)
  s : ∀ w', w1.Extends w' → w'.cell? ⟨y + 1, 0, none⟩ = some (.int .i64 b) ∧ w'.cell? ⟨y + 1, 1, none⟩ = some (.int .i64 s) ∧ w'.cell? ⟨y + 1, 2, none⟩ = some (.int .i64 m)
  z : RB w1 (y + 1 + 1) Rc.zero (.slice none 0 0)
  lt : y + 1 < w1.heap.size
theorem MB.made (w : World) (p n b s m : Int) : MB w (((w.alloc (.cells #[.int .i64 p, .int .i64 n] 26)).alloc (.cells #[.int .i64 b, .int .i64 s, .int .i64 m] 28)).alloc (.cells #[.int .i64 0, .int .i64 0, .int .i64 0, .int .i64 0, .int .i64 0, .int .i64 0, .int .i64 0, .bool false, .int .i64 0, .slice none 0 0] 31)) w.heap.size p n b s m := by
  have e : ∀ (w : World) (o : Obj), (w.alloc o).heap.size = w.heap.size + 1 := fun w o => by simp
  refine ⟨Gr.ext_trans (ext_alloc _ _) (Gr.ext_trans (ext_alloc _ _) (ext_alloc _ _)), rfl, fun w' hx => ?_, fun w' hx => ?_, ?_, by simp⟩
  · have h : w'.heap[w.heap.size]? = some (.cells #[.int .i64 p, .int .i64 n] 26) := by
      rw [hx.block _ (by simp; omega), (ext_alloc _ _).block _ (by simp; omega), (ext_alloc _ _).block _ (by simp)]
      exact heap_alloc_new _ _
    exact ⟨by rw [cell_of_row _ _ _ _ _ _ h]; rfl, by rw [cell_of_row _ _ _ _ _ _ h]; rfl⟩
  · have h0 := PAt.new (w.alloc (.cells #[.int .i64 p, .int .i64 n] 26)) 28 b s m
    rw [e] at h0
    exact (h0.ext (ext_alloc _ _)).ext hx
  · have h0 := heap_alloc_new ((w.alloc (.cells #[.int .i64 p, .int .i64 n] 26)).alloc (.cells #[.int .i64 b, .int .i64 s, .int .i64 m] 28)) (.cells #[.int .i64 0, .int .i64 0, .int .i64 0, .int .i64 0, .int .i64 0, .int .i64 0, .int .i64 0, .bool false, .int .i64 0, .slice none 0 0] 31)
    rw [e, e] at h0
    exact h0
end Go.Proofs.YtpfmmfapdcbnkaaDoor
namespace Go.Proofs.YtpfmmfapdcbnkaaDoor
set_option maxRecDepth 20000
open Go.RowKit Go.Deep
set_option linter.unusedVariables false
/-- An id is boxed. -/
structure MI (w w1 : World) (y : Nat) (p n : Int) : Prop where
  x : w.Extends w1
  i : ∀ w', w1.Extends w' → w'.cell? ⟨y, 0, none⟩ = some (.int .i64 p) ∧ w'.cell? ⟨y, 1, none⟩ = some (.int .i64 n)
theorem MI.made (w : World) (p n : Int) : MI w (w.alloc (.cells #[.int .i64 p, .int .i64 n] 26)) w.heap.size p n := by
  refine ⟨ext_alloc _ _, fun w' hx => ?_⟩
  have h : w'.heap[w.heap.size]? = some (.cells #[.int .i64 p, .int .i64 n] 26) := by
    rw [hx.block _ (by simp)]
    exact heap_alloc_new _ _
  exact ⟨by rw [cell_of_row _ _ _ _ _ _ h]; rfl, by rw [cell_of_row _ _ _ _ _ _ h]; rfl⟩
set_option maxHeartbeats 8000000 in
theorem having_any (p n : Int) (v : Value) (l : List Rc) (w : World) (hv : Recs w v l) (hm : l.length ≤ 9000) :
    Calls Tryd.prog 10 #[.agg #[.int .i64 p, .int .i64 n], v] w fun e w' => ∃ u, e = .returned u ∧ w.Extends w' ∧ Recs w' u (mineOf p n l) := by
  obtain ⟨ra, rc, rfl⟩ := hv.slice
  have HRA := Lib.hid hv.at.2
  have hrm := hv.len
  unfold maxLen at hrm
  have HT0 : Hid (mineTo p n l 0 = []) := mineTo_zero p n l
  have HTN : Hid (mineTo p n l l.length = mineOf p n l) := mineTo_full p n l
  have HTS : Hid (∀ k, k < l.length → mineTo p n l (k + 1) = if (l.getD k Rc.zero).p = p ∧ (l.getD k Rc.zero).n = n then mineTo p n l k ++ [l.getD k Rc.zero] else mineTo p n l k) := fun k hk => mineTo_step p n l k hk
  generalize hMT : mineTo p n l = MT at *
  generalize mineOf p n l = MINE at *
  obtain ⟨q, hq⟩ : ∃ q, q = l.length := ⟨_, rfl⟩
  rw [← hq] at HRA HTN HTS hm hrm ⊢
  clear hv hMT hq
  go_enter Tryd.func10, Tryd.ntmps10
  go_upto_region 1 with fail
  obtain ⟨y, hy⟩ : ∃ y, y = w.heap.size := ⟨_, rfl⟩
  have HMB := Lib.hid (MI.made w p n)
  generalize hw1 : World.alloc _ _ = w1 at *
  rw [← hy] at HMB ⊢
  clear hw1 hy
  obtain ⟨B, hB⟩ : ∃ B, B = w1.heap.size := ⟨_, rfl⟩
  have HBW : Hid (B = w1.heap.size) := hB
  clear hB
  go_wp2_with fail
  go_loopw [5, 10] (fun s14 s15 wr => ∃ (k : Nat) (ps : List Pr), k ≤ q ∧ s15 = .int .i64 (k : Nat) ∧ Hid (w1.Extends wr) ∧ Hid (RS wr B s14 ps) ∧ Hid (ps.map Prod.fst = MT k) ∧ Hid (ps.length ≤ k)) (fun _ s15 _ => q - (intOf s15).toNat)
  case atStart => exact ⟨0, [], by omega, by rfl, Gr.ext_refl _, RS.nil _ _, by rw [HT0.out]; rfl, Nat.le_refl _⟩
  case round =>
    obtain ⟨k, ps, hk, rfl, HX, HS, HM, HPL⟩ := hrel
    obtain ⟨a7, c7, rfl⟩ := HS.out.slice
    by_cases h1 : k < q
    · obtain ⟨rb0, ro, rfl, hrb, hrc⟩ := HRA.out (by omega)
      obtain ⟨da, dc, hrr, huu⟩ := hrc k h1
      have HXw := Lib.hid (Gr.ext_trans HMB.out.x HX.out)
      have hrr2 := rangeAt_ext hrr HXw.out
      have HU := Lib.hid (huu.ext HXw.out)
      have HTK := Lib.hid (HTS.out k h1)
      clear hrc hrr huu
      generalize l.getD k Rc.zero = r at *
      obtain ⟨dl, hdl⟩ : ∃ dl, dl = r.d.length := ⟨_, rfl⟩
      rw [← hdl] at hrr2 HU
      have HDL : Hid (r.d.length = dl) := hdl.symm
      obtain ⟨c0, c1, c2, c3, c4, c5, c6, c7', c8, c9⟩ := RCell.ten hrr2
      clear hrr2 hdl
      go_upto_region 5 with fail
      clear c0 c1 c2 c3 c4 c5 c6 c7' c8 c9
      generalize hw : World.alloc wr _ = w3
      have hx : wr.Extends w3 := by subst hw; exact ext_alloc _ _
      have hbx : RB w3 wr.heap.size r (.slice da dl dc) := by subst hw; exact heap_alloc_new _ _
      obtain ⟨bx, hbn⟩ : ∃ b, b = wr.heap.size := ⟨_, rfl⟩
      rw [← hbn] at hbx ⊢
      have HX3 := Lib.hid (Gr.ext_trans HX.out hx)
      have HS3 : Hid (RS w3 B (.slice a7 ps.length c7) ps) := HS.out.ext hx
      have HU3 := Lib.hid (HU.out.ext hx)
      have HSLC : Hid (Slc ((r, Value.slice da dl dc) : Pr)) := ⟨da, dc, by show Value.slice da dl dc = Value.slice da r.d.length dc; rw [HDL.out]⟩
      have HB3 : Hid (B ≤ w3.heap.size) := by show _ ≤ _; rw [HBW.out]; exact HX3.out.size
      obtain ⟨c0, c1, c2, c3, c4, c5, c6, c7', c8, c9⟩ := RCell.ten hbx.range
      simp only [Nat.zero_add] at c0 c1 c2 c3 c4 c5 c6 c7' c8 c9
      have hbl := hbx.lt
      obtain ⟨i0, i1⟩ := HMB.out.i w3 HX3.out
      clear hw hx hbx hbn HS HX HU HXw
      by_cases hm : r.p = p ∧ r.n = n
      · have HTK2 : Hid (MT (k + 1) = MT k ++ [r]) := by show _ = _; rw [HTK.out, if_pos hm]
        have hp : (r.p == p) = true := beq_iff_eq.2 hm.1
        have hn : (r.n == n) = true := beq_iff_eq.2 hm.2
        clear hm HTK
        go_upto_region 6 with fail
        clear hp hn i0 i1
        go_wp2_with (at_builtin; refine wpList_app_rs rfl (.tmp 18) (.tmp 20) rfl B _ ps rfl (HS3.out.ext (ext_alloc _ _)) _ ((r, Value.slice da dl dc) : Pr) rfl (src_rec (r := r) Tryd.underlying38 _ _ rfl rfl) HSLC.out (by show U8s _ (Value.slice da dl dc) r.d; exact HU3.out.ext (ext_alloc _ _)) (by have := HPL.out; omega) (Nat.le_trans HB3.out (ext_alloc _ _).size) ?_)
        intro v9 w10 ho hg10
        have HX10 : Hid (w1.Extends w10) := ext_own (Gr.ext_trans HX3.out (ext_alloc _ _)) hg10 (fun j hj => by have := (HS3.out.own.lt j hj).1; rw [HBW.out] at this; exact this)
        have HS10 := Lib.hid ho
        have HL10 : Hid ((ps ++ [((r, Value.slice da dl dc) : Pr)]).length ≤ k + 1) := by show _ ≤ _; rw [List.length_append]; have := HPL.out; simp; omega
        have HM10 : Hid ((ps ++ [((r, Value.slice da dl dc) : Pr)]).map Prod.fst = MT (k + 1)) := by show _ = _; rw [HTK2.out, List.map_append, HM.out]; rfl
        clear ho hg10 HS3 HX3 HTK2 HM HPL c0 c1 c2 c3 c4 c5 c6 c7' c8 c9 hbl
        go_wp2
        go_roundw
        case rel => exact ⟨k + 1, _, by omega, by go_num, HX10, HS10, HM10, HL10⟩
        case measure => simp [intOf]; omega
      · have HTK2 : Hid (MT (k + 1) = MT k) := by show _ = _; rw [HTK.out, if_neg hm]
        have HM2 : Hid (ps.map Prod.fst = MT (k + 1)) := by show _ = _; rw [HTK2.out]; exact HM.out
        have HPL2 : Hid (ps.length ≤ k + 1) := Nat.le_succ_of_le HPL.out
        clear HTK HTK2 HM HPL HSLC HU3
        by_cases hp1 : r.p = p
        · have hp : (r.p == p) = true := beq_iff_eq.2 hp1
          have hn : (r.n == n) = false := beq_eq_false_iff_ne.2 fun e => hm ⟨hp1, e⟩
          clear hm hp1
          go_wp2
          go_roundw
          case rel => exact ⟨k + 1, ps, by omega, by go_num, HX3, HS3, HM2, HPL2⟩
          case measure => simp [intOf]; omega
        · have hp : (r.p == p) = false := beq_eq_false_iff_ne.2 hp1
          clear hm hp1
          go_wp2
          go_roundw
          case rel => exact ⟨k + 1, ps, by omega, by go_num, HX3, HS3, HM2, HPL2⟩
          case measure => simp [intOf]; omega
    · obtain rfl : k = q := by omega
      have HRM : Hid (Recs wr (.slice a7 ps.length c7) MINE) := by have h := HS.out.recs; rw [HM.out, HTN.out] at h; exact h
      have HXW := Lib.hid (Gr.ext_trans HMB.out.x HX.out)
      clear HS HM HPL HRA HT0 HTN HTS HMB HX
      go_wp2
      go_ret
      exact ⟨_, rfl, HXW.out, HRM.out⟩
end Go.Proofs.YtpfmmfapdcbnkaaDoor
namespace Go.Proofs.YtpfmmfapdcbnkaaDoor
set_option maxRecDepth 20000
open Go.RowKit Go.Deep
set_option linter.unusedVariables false
set_option maxHeartbeats 8000000 in
theorem pfresh_any (p n b s m blk esi un : Int) (v : Value) (l : List Rc) (w0 w : World) (h0 : w0.Extends w) (hT : Tab w0) (hv : Recs w v l) (hm : l.length ≤ 9000)
    (e1 : Nat) (xs : List Nat) (hdec : ∀ v w, w0.Extends w → Recs w v (mineOf p n l) → Calls Tryd.prog 9 #[PV b s m, v] w (JoinOut w e1 xs))
    (e2 : Int) (OK : World → Nat → Prop) (hnew : e1 = 0 → ∀ v w, w0.Extends w → U8s w v xs → Calls Tryd.prog 11 #[PV b s m, v] w (ObjOr w e2 OK))
    (e3 : Int) (d : List Nat) (hsym : e1 = 0 → e2 = 0 → ∀ o w, w0.Extends w → OK w o → Calls Tryd.prog 12 #[.pointer (some ⟨o, 0, none⟩), .int .i64 blk, .int .i64 esi] w (SymOut w d e3)) :
    Calls Tryd.prog 6 #[.agg #[.int .i64 p, .int .i64 n], PV b s m, .int .i64 blk, .int .i64 esi, .int .i64 un, v] w (FreshOut w (freshRec p n b s m blk esi un d (freshErr e1 e2 e3)) (freshErr e1 e2 e3)) := by
  have HRI := Lib.hid hv
  obtain ⟨ra, rc, rfl⟩ := hv.slice
  have HRA := Lib.hid hv.at.2
  have hrm := hv.len
  unfold maxLen at hrm
  have HHV := Lib.hid (fun w' (hx : w.Extends w') => having_any p n _ l w' (hv.ext hx) hm)
  have HDEC := Lib.hid hdec
  have HNEW := Lib.hid hnew
  have HSYM := Lib.hid hsym
  have H0 := Lib.hid h0
  have HE1 : Hid (e1 ≠ 0 → ∀ w', w.Extends w' → FreshOut w (freshRec p n b s m blk esi un d (freshErr e1 e2 e3)) (freshErr e1 e2 e3) (.returned (.tuple #[Rc.zero.val (.slice none 0 0), .int .i64 (e1 : Nat)])) w') := fun h w' hx => by
    have e : freshErr e1 e2 e3 = (e1 : Nat) := by unfold freshErr; rw [if_neg h]
    have e' : freshRec p n b s m blk esi un d (freshErr e1 e2 e3) = Rc.zero := by unfold freshRec; rw [e, if_neg (by omega)]
    rw [e', e]
    exact ⟨none, 0, rfl, hx, nil_u8s _ _ _⟩
  have HE2 : Hid (e1 = 0 → e2 ≠ 0 → ∀ w', w.Extends w' → FreshOut w (freshRec p n b s m blk esi un d (freshErr e1 e2 e3)) (freshErr e1 e2 e3) (.returned (.tuple #[Rc.zero.val (.slice none 0 0), .int .i64 e2])) w') := fun h h2 w' hx => by
    have e : freshErr e1 e2 e3 = e2 := by unfold freshErr; rw [if_pos h, if_neg h2]
    have e' : freshRec p n b s m blk esi un d (freshErr e1 e2 e3) = Rc.zero := by unfold freshRec; rw [e, if_neg h2]
    rw [e', e]
    exact ⟨none, 0, rfl, hx, nil_u8s _ _ _⟩
  have HE3 : Hid (e1 = 0 → e2 = 0 → e3 ≠ 0 → ∀ w', w.Extends w' → FreshOut w (freshRec p n b s m blk esi un d (freshErr e1 e2 e3)) (freshErr e1 e2 e3) (.returned (.tuple #[Rc.zero.val (.slice none 0 0), .int .i64 e3])) w') := fun h h2 h3 w' hx => by
    have e : freshErr e1 e2 e3 = e3 := by unfold freshErr; rw [if_pos h, if_pos h2]
    have e' : freshRec p n b s m blk esi un d (freshErr e1 e2 e3) = Rc.zero := by unfold freshRec; rw [e, if_neg h3]
    rw [e', e]
    exact ⟨none, 0, rfl, hx, nil_u8s _ _ _⟩
  have HE4 : Hid (e1 = 0 → e2 = 0 → e3 = 0 → ∀ w' a c, w.Extends w' → U8s w' (.slice a d.length c) d → FreshOut w (freshRec p n b s m blk esi un d (freshErr e1 e2 e3)) (freshErr e1 e2 e3) (.returned (.tuple #[.agg #[.int .i64 p, .int .i64 n, .int .i64 b, .int .i64 s, .int .i64 m, .int .i64 blk, .int .i64 esi, .bool false, .int .i64 un, .slice a d.length c], .int .i64 0])) w') := fun h h2 h3 w' a c hx hu => by
    have e : freshErr e1 e2 e3 = 0 := by unfold freshErr; rw [if_pos h, if_pos h2]; exact h3
    have e' : freshRec p n b s m blk esi un d (freshErr e1 e2 e3) = ⟨p, n, b, s, m, blk, esi, false, un, d⟩ := by unfold freshRec; rw [e, if_pos rfl]
    rw [e', e]
    exact ⟨a, c, rfl, hx, hu⟩
  generalize FreshOut w (freshRec p n b s m blk esi un d (freshErr e1 e2 e3)) (freshErr e1 e2 e3) = POST at *
  generalize mineOf p n l = MINE at *
  obtain ⟨q, hq⟩ : ∃ q, q = l.length := ⟨_, rfl⟩
  rw [← hq] at HHV hm hrm ⊢
  clear hv hdec hnew hsym h0 hq HRA
  go_enter Tryd.func6, Tryd.ntmps6
  go_upto_region 1 with fail
  obtain ⟨y, hy⟩ : ∃ y, y = w.heap.size := ⟨_, rfl⟩
  have HMB := Lib.hid (MB.made w p n b s m)
  generalize hw1 : World.alloc _ _ = w1 at *
  rw [← hy] at HMB ⊢
  clear hw1
  have HYW : Hid (w.heap.size ≤ y) := Nat.le_of_eq hy.symm
  clear hy
  have HSH : Hid (∀ w', w1.Extends w' → w'.cell? ⟨y + 1, 0, none⟩ = some (.int .i64 b) ∧ w'.cell? ⟨y + 1, 1, none⟩ = some (.int .i64 s) ∧ w'.cell? ⟨y + 1, 2, none⟩ = some (.int .i64 m)) := HMB.out.s
  have HIDD : Hid (∀ w', w1.Extends w' → w'.cell? ⟨y, 0, none⟩ = some (.int .i64 p) ∧ w'.cell? ⟨y, 1, none⟩ = some (.int .i64 n)) := HMB.out.i
  have HZ : Hid (RB w1 (y + 1 + 1) Rc.zero (.slice none 0 0)) := HMB.out.z
  have HXB := Lib.hid HMB.out.x
  have HSL0 : Hid (Slc ((Rc.zero, Value.slice none 0 0) : Pr)) := ⟨none, 0, rfl⟩
  clear HMB
  go_wp2_with fail
  refine Gr.region 9 [(false,0),(false,1),(false,2),(true,3),(true,4),(false,5),(false,6),(false,7),(false,8)] (by kernel_rfl) (by kernel_rfl) (fun d _ _ _ _ h => by cases d <;> exact h) ?_
  simp only [Gr.pick, List.getElem?_cons_zero, List.getElem?_cons_succ, List.drop_succ_cons, List.drop_zero]
  have HXD : Hid (w1.Extends w1.drew) := Gr.ext_drew (Gr.ext_refl _)
  generalize w1.drew = wd at *
  iterate 3
    refine Gr.walk_t ?_ (Or.inl ⟨by rfl, ?_⟩) ?_
    rotate_left
    · intro w' hw'
      obtain ⟨s0, s1, s2⟩ := HSH.out w' (Gr.ext_trans HXD.out hw')
      obtain ⟨i0, i1⟩ := HIDD.out w' (Gr.ext_trans HXD.out hw')
      clear hw'
      go_simp
      try with_reducible rfl
    simp only [Act.put, List.setIfInBounds_toArray, List.set_cons_zero, List.set_cons_succ]
  refine Gr.walk_c (fun K hK => ?_)
  go_simp
  refine (HHV.out wd (Gr.ext_trans HXB.out HXD.out)).mono ?_
  rintro e w8 ⟨u, rfl, hx8, hr8⟩
  obtain ⟨ma, mc, rfl⟩ := hr8.slice
  have HX8 := Lib.hid (Gr.ext_trans HXD.out hx8)
  have HR8 := Lib.hid hr8
  try go_simp
  refine hK.out _ _ (hx8) ?_
  clear hK K
  clear hx8 hr8 HXD HHV
  generalize MINE.length = ml at *
  refine Gr.walk_c (fun K hK => ?_)
  go_simp
  refine (HDEC.out _ w8 (Gr.ext_trans H0.out (Gr.ext_trans HXB.out HX8.out)) HR8.out).mono ?_
  rintro e w2 ⟨u, rfl, hx2, hu2⟩
  obtain ⟨ua, uc, rfl, -⟩ := hu2.slice
  have HX2 := Lib.hid (Gr.ext_trans HX8.out hx2)
  have HU2 := Lib.hid hu2
  try go_simp
  refine hK.out _ _ (hx2) ?_
  clear hK K
  clear hx2 hu2 HX8 HR8 HDEC
  iterate 4
    refine Gr.walk_t ?_ (Or.inl ⟨by rfl, ?_⟩) ?_
    rotate_left
    · intro w' hw'
      clear hw'
      go_simp
      try with_reducible rfl
    simp only [Act.put, List.setIfInBounds_toArray, List.set_cons_zero, List.set_cons_succ]
  refine Gr.walk_nil ?_
  by_cases he1 : e1 = 0
  case neg =>
    have hne : ((e1 : Int) == 0) = false := by rw [beq_eq_false_iff_ne]; omega
    have HP := Lib.hid (HE1.out he1)
    have HZZ := Lib.hid (HZ.out.ext HX2.out)
    go_wp2_with (refine wpList_store_rb rfl (.tmp 12) (.tmp 28) rfl (y + 1 + 1) Rc.zero Rc.zero _ (.slice none 0 0) rfl rfl HZZ.out HSL0.out ?_)
    intro w9 ha9 hg9
    obtain ⟨d0, d1, d2, d3, d4, d5, d6, d7, d8, d9⟩ := RCell.ten ha9.range
    simp only [Nat.zero_add, Rc.zero] at d0 d1 d2 d3 d4 d5 d6 d7 d8 d9
    have HX9 : Hid (w.Extends w9) := ext_own (Gr.ext_trans HXB.out HX2.out) hg9 (fun j hj => by have := Option.some.inj hj; have := HYW.out; omega)
    have HPF := Lib.hid (HP.out w9 HX9.out)
    clear ha9 hg9 HP HZZ HX9
    repeat (first | go_step | go_upon)
    refine bodyPost_ret (v := .tuple #[Rc.zero.val (.slice none 0 0), .int .i64 (e1 : Nat)]) (by simp [results, Tryd.results6, go_sem, d0, d1, d2, d3, d4, d5, d6, d7, d8, d9]; try rfl) rfl ?_
    exact HPF.out
  have he1' : ((e1 : Int) == 0) = true := by rw [beq_iff_eq]; omega
  have HNEW2 := Lib.hid (HNEW.out he1)
  obtain ⟨s0, s1, s2⟩ := HSH.out w2 HX2.out
  clear HE1 HNEW
  generalize xs.length = xl at *
  go_wp2_with fail
  clear he1' s0 s1 s2
  refine (HNEW2.out _ w2 (Gr.ext_trans H0.out (Gr.ext_trans HXB.out HX2.out)) HU2.out).mono ?_
  rintro e w3 ⟨hx3, ⟨hn2, rfl⟩ | ⟨hn2, o, rfl, hok⟩⟩
  · have HX3 := Lib.hid (Gr.ext_trans HX2.out hx3)
    have hne : (e2 == 0) = false := by rw [beq_eq_false_iff_ne]; exact hn2
    have HP := Lib.hid (HE2.out he1 hn2)
    clear hx3 HX2 HU2 HNEW2
    have HZZ := Lib.hid (HZ.out.ext HX3.out)
    go_wp2_with (refine wpList_store_rb rfl (.tmp 12) (.tmp 38) rfl (y + 1 + 1) Rc.zero Rc.zero _ (.slice none 0 0) rfl rfl HZZ.out HSL0.out ?_)
    intro w9 ha9 hg9
    obtain ⟨d0, d1, d2, d3, d4, d5, d6, d7, d8, d9⟩ := RCell.ten ha9.range
    simp only [Nat.zero_add, Rc.zero] at d0 d1 d2 d3 d4 d5 d6 d7 d8 d9
    have HX9 : Hid (w.Extends w9) := ext_own (Gr.ext_trans HXB.out HX3.out) hg9 (fun j hj => by have := Option.some.inj hj; have := HYW.out; omega)
    have HPF := Lib.hid (HP.out w9 HX9.out)
    clear ha9 hg9 HP HZZ HX9
    repeat (first | go_step | go_upon)
    refine bodyPost_ret (v := .tuple #[Rc.zero.val (.slice none 0 0), .int .i64 e2]) (by simp [results, Tryd.results6, go_sem, d0, d1, d2, d3, d4, d5, d6, d7, d8, d9]; try rfl) rfl ?_
    exact HPF.out
  have HX3 := Lib.hid (Gr.ext_trans HX2.out hx3)
  have HSYM2 := Lib.hid (HSYM.out he1 hn2 o w3 (Gr.ext_trans H0.out (Gr.ext_trans HXB.out HX3.out)) hok)
  clear hx3 hok HX2 HU2 HNEW2 HE2 HSYM
  go_wp2_with fail
  refine HSYM2.out.mono ?_
  rintro e w4 ⟨u, rfl, hx4, hu4⟩
  obtain ⟨ua4, uc4, rfl, -⟩ := hu4.1.slice
  have HX4 := Lib.hid (Gr.ext_trans HX3.out hx4)
  have HU4 := Lib.hid hu4.1
  clear hx4 hu4 HX3 HSYM2
  by_cases he3 : e3 = 0
  case neg =>
    have hne : (e3 == 0) = false := by rw [beq_eq_false_iff_ne]; exact he3
    have HP := Lib.hid (HE3.out he1 hn2 he3)
    clear HU4
    have HZZ := Lib.hid (HZ.out.ext HX4.out)
    go_wp2_with (refine wpList_store_rb rfl (.tmp 12) (.tmp 49) rfl (y + 1 + 1) Rc.zero Rc.zero _ (.slice none 0 0) rfl rfl HZZ.out HSL0.out ?_)
    intro w9 ha9 hg9
    obtain ⟨d0, d1, d2, d3, d4, d5, d6, d7, d8, d9⟩ := RCell.ten ha9.range
    simp only [Nat.zero_add, Rc.zero] at d0 d1 d2 d3 d4 d5 d6 d7 d8 d9
    have HX9 : Hid (w.Extends w9) := ext_own (Gr.ext_trans HXB.out HX4.out) hg9 (fun j hj => by have := Option.some.inj hj; have := HYW.out; omega)
    have HPF := Lib.hid (HP.out w9 HX9.out)
    clear ha9 hg9 HP HZZ HX9
    repeat (first | go_step | go_upon)
    refine bodyPost_ret (v := .tuple #[Rc.zero.val (.slice none 0 0), .int .i64 e3]) (by simp [results, Tryd.results6, go_sem, d0, d1, d2, d3, d4, d5, d6, d7, d8, d9]; try rfl) rfl ?_
    exact HPF.out
  have hee : (e3 == 0) = true := by rw [beq_iff_eq]; exact he3
  obtain ⟨s0, s1, s2⟩ := HSH.out w4 HX4.out
  obtain ⟨i0, i1⟩ := HIDD.out w4 HX4.out
  have HZ4 := Lib.hid (HZ.out.ext HX4.out)
  have HP := Lib.hid (HE4.out he1 hn2 he3)
  have HSLC : Hid (Slc (((⟨p, n, b, s, m, blk, esi, false, un, d⟩ : Rc), Value.slice ua4 d.length uc4) : Pr)) := ⟨_, _, rfl⟩
  clear HE3 HE4 HZ HSH HIDD
  go_wp2_with (refine wpList_store_rb rfl (.tmp 12) (.tmp 57) rfl (y + 1 + 1) Rc.zero ⟨p, n, b, s, m, blk, esi, false, un, d⟩ _ (.slice ua4 d.length uc4) rfl rfl HZ4.out HSLC.out ?_)
  intro w5 ha5 hg5
  obtain ⟨d0, d1, d2, d3, d4, d5, d6, d7, d8, d9⟩ := RCell.ten ha5.range
  simp only [Nat.zero_add] at d0 d1 d2 d3 d4 d5 d6 d7 d8 d9
  have HX5 : Hid (w.Extends w5) := ext_own (Gr.ext_trans HXB.out HX4.out) hg5 (fun j hj => by have := Option.some.inj hj; have := HYW.out; omega)
  have HU5 : Hid (U8s w5 (.slice ua4 d.length uc4) d) := HU4.out.beside HZ4.out (fun z hz t e => by subst e; simp [Rc.cells] at hz) hg5
  have HPF := Lib.hid (HP.out w5 ua4 uc4 HX5.out HU5.out)
  clear ha5 hg5 s0 s1 s2 i0 i1 hee he3 HP HX5 HU5 HZ4 HSLC HU4 HX4
  generalize d.length = dl at *
  repeat (first | go_step | go_upon)
  refine bodyPost_ret (v := .tuple #[.agg #[.int .i64 p, .int .i64 n, .int .i64 b, .int .i64 s, .int .i64 m, .int .i64 blk, .int .i64 esi, .bool false, .int .i64 un, .slice ua4 dl uc4], .int .i64 0]) (by simp [results, Tryd.results6, go_sem, d0, d1, d2, d3, d4, d5, d6, d7, d8, d9]; try rfl) rfl ?_
  exact HPF.out
end Go.Proofs.YtpfmmfapdcbnkaaDoor
namespace Go.Proofs.YtpfmmfapdcbnkaaDoor
set_option maxRecDepth 20000
open Go.RowKit Go.Deep
set_option linter.unusedVariables false
theorem Own.tab {w : World} {b : Nat} {T : TypeId} {L : Nat} {f f' : Nat → Nat} (h : Own w b T (QM.tab L f)) (c v : Nat) (hc : c < L) (hv : v < 256) (e : ∀ x, (if x = c then v else f x) = f' x) : Own (w.setCell ⟨b, c, none⟩ (.int .u8 (v : Nat))) b T (QM.tab L f') := by
  have := h.set c v (by rw [QM.tab_length]; exact hc) hv
  rw [QM.tab_set] at this
  rwa [QM.tab_congr (fun x _ => e x)] at this
end Go.Proofs.YtpfmmfapdcbnkaaDoor
namespace Go.Proofs.YtpfmmfapdcbnkaaDoor
set_option maxRecDepth 20000
open Go.RowKit Go.Deep
set_option linter.unusedVariables false
/-- The first c elements of a high row. -/
def QM.hrow (h c x : Nat) : Nat := if x < c then QM.hv h x else 0
end Go.Proofs.YtpfmmfapdcbnkaaDoor
namespace Go.Proofs.YtpfmmfapdcbnkaaDoor
set_option maxRecDepth 20000
open Go.RowKit Go.Deep
set_option linter.unusedVariables false
theorem drop_getD (xs : List Nat) (W k : Nat) : (xs.drop W).getD k 0 = xs.getD (W + k) 0 := by simp [List.getD_eq_getElem?_getD]
theorem U8s.drop {w : World} {b off n c : Nat} {xs : List Nat} (h : U8s w (.slice (some ⟨b, off, none⟩) n c) xs) (W : Nat) (hW : W < n) : U8s w (.slice (some ⟨b, off + W, none⟩) (n - W) (c - W)) (xs.drop W) := by
  have hm := h.len
  have hlt := h.lt
  obtain ⟨hn, hc⟩ := h.cell
  obtain ⟨a', c', hv, hcap, hm2⟩ := h.slice
  cases hv
  obtain ⟨b', o', hb', hbl, hcs⟩ := hc (by omega)
  cases hb'
  refine .inr ⟨b, off + W, c - W, by rw [List.length_drop], by rw [List.length_drop]; omega, by omega, hbl, fun k hk => ?_, fun x hx => hlt x (List.mem_of_mem_drop hx)⟩
  rw [List.length_drop] at hk
  have := hcs (W + k) (by omega)
  rw [Nat.add_assoc, this, drop_getD]
end Go.Proofs.YtpfmmfapdcbnkaaDoor
namespace Go.Proofs.YtpfmmfapdcbnkaaDoor
set_option maxRecDepth 20000
open Go.RowKit Go.Deep
set_option linter.unusedVariables false
/-- A block: how many source symbols it has, its seed's number, its parts. -/
structure Bk where
  k : Nat
  j : Nat
  c : List (List Nat)
def Bk.zero : Bk := ⟨0, 0, []⟩
/-- How a block at p with its parts at u looks. -/
abbrev Look := World → Nat → Bk → Value → Prop
structure Looks (A : Look) : Prop where
  int0 : ∀ {w : World} {p : Nat} {x : Bk} {u : Value}, A w p x u → ∃ n : Int, w.cell? ⟨p, 0, none⟩ = some (.int .i64 n)
  three : ∀ {w : World} {p : Nat} {x : Bk} {u : Value}, A w p x u → (∃ n : Int, w.cell? ⟨p, 3, none⟩ = some (.int .i64 n)) ∨ w.cell? ⟨p, 3, none⟩ = some u
  keep : ∀ {w w' : World} {p : Nat} {x : Bk} {u : Value}, A w p x u → (∀ i v, w.cell? ⟨p, i, none⟩ = some v → w'.cell? ⟨p, i, none⟩ = some v) → A w' p x u
theorem Looks.ext {A : Look} (hA : Looks A) {w w' : World} {p : Nat} {x : Bk} {u : Value} (h : A w p x u) (hx : w.Extends w') : A w' p x u := hA.keep h fun i v hv => hx.cell_of hv
def BLook (sz : Nat) : Look := fun w p x u => BAt w p x.k (PM.s x.k) 2 x.j sz u
def RLook (sz : Nat) : Look := fun w p x u => RAt w p x.k x.j sz u
def ofn (b s m : Int) (v : Value) : Nat → Value
  | 0 => .int .i64 b
  | 1 => .int .i64 s
  | 2 => .int .i64 m
  | _ => v
def IsPtr (y : Value) : Prop := ∃ a, y = .pointer a
/-- No rows lie in block g. -/
def NoRows (w : World) (g : Nat) : Prop := (∀ x n, w.cell? ⟨g, x, none⟩ ≠ some (.int .u8 n)) ∧ ∀ x a n c a' n' c', w.cell? ⟨g, x, none⟩ = some (.slice a n c) → w.cell? ⟨g, x + 1, none⟩ ≠ some (.slice a' n' c')
theorem cell_mem {w : World} {g x : Nat} {y : Value} (h : w.cell? ⟨g, x, none⟩ = some y) : ∃ cs T f, w.heap[g]? = some (.cells cs T f) ∧ cs[x]? = some y := by
  unfold World.cell? at h
  split at h
  · rename_i c T f e
    exact ⟨c, T, f, e, h⟩
  · cases h
theorem clean_cell {C : Value → Prop} {w : World} {v : Value} {g x : Nat} {y : Value} (h : CleanBlk C w v) (hg : v.ownBlock = some g) (hc : w.cell? ⟨g, x, none⟩ = some y) : C y := by
  obtain ⟨cs, T, f, e, hm⟩ := cell_mem hc
  exact h g cs T f hg e y (Array.mem_toList_iff.2 (Array.mem_of_getElem? hm))
theorem noRows_clean {w : World} {v : Value} {g : Nat} (h : CleanBlk IsPtr w v) (hg : v.ownBlock = some g) : NoRows w g := by
  refine ⟨fun x n hc => ?_, fun x a n c a' n' c' hc => ?_⟩
  · obtain ⟨a, e⟩ := clean_cell h hg hc; cases e
  · obtain ⟨a, e⟩ := clean_cell h hg hc; cases e
theorem ocell {w : World} {o x : Nat} {T : TypeId} {b s m : Int} {v y : Value} (h : w.rowIs o T 4 (ofn b s m v)) (hc : w.cell? ⟨o, x, none⟩ = some y) : x < 4 ∧ y = ofn b s m v x := by
  obtain ⟨cs, T', f, e, hm⟩ := cell_mem hc
  obtain ⟨c, e2, hs, hi⟩ := h
  rw [e] at e2
  simp only [Option.some.injEq, Obj.cells.injEq] at e2
  rw [e2.1] at hm
  have hx : x < 4 := by
    rcases Nat.lt_or_ge x 4 with h | h
    · exact h
    · rw [Array.getElem?_eq_none (by omega)] at hm; cases hm
  exact ⟨hx, Option.some.inj (hm.symm.trans (hi x hx))⟩
theorem noRows_obj {w : World} {o : Nat} {T : TypeId} {b s m : Int} {v : Value} (h : w.rowIs o T 4 (ofn b s m v)) (hv : ∃ a n c, v = .slice a n c) : NoRows w o := by
  obtain ⟨va, vn, vc, rfl⟩ := hv
  refine ⟨fun x n hc => ?_, fun x a n c a' n' c' hc hc' => ?_⟩
  · obtain ⟨hx, e⟩ := ocell h hc
    match x, hx, e with
    | 0, _, e => simp [ofn] at e
    | 1, _, e => simp [ofn] at e
    | 2, _, e => simp [ofn] at e
    | 3, _, e => simp [ofn] at e
  · obtain ⟨hx, e⟩ := ocell h hc
    obtain ⟨hx', e'⟩ := ocell h hc'
    match x, hx, e with
    | 0, _, e => simp [ofn] at e
    | 1, _, e => simp [ofn] at e
    | 2, _, e => simp [ofn] at e
    | 3, _, e => omega
theorem U8s.off {w w' : World} {v : Value} {xs : List Nat} {g : Nat} (h : U8s w v xs) (hg : w.grownBy w' (some g)) (hn : NoRows w g) : U8s w' v xs := by
  refine h.grown hg ?_
  by_cases hx : xs = []
  · exact .inl hx
  · refine .inr fun e => ?_
    rcases h with h | ⟨b, off, cap, rfl, h1, h2, h3, h4, h5⟩
    · exact hx h.1
    · simp only [Value.ownBlock, Option.some.injEq] at e
      subst e
      exact hn.1 _ _ (h4 0 (List.length_pos_iff.2 hx))
theorem Rws.off {w w' : World} {v : Value} {l : List (List Nat)} {g : Nat} (h : Rws w v l) (hl : 2 ≤ l.length) (hg : w.grownBy w' (some g)) (hn : NoRows w g) : Rws w' v l := by
  rcases h with ⟨rfl, _⟩ | ⟨b, off, cap, rfl, h1, h2, h3, h4⟩
  · simp at hl
  · have hne : some b ≠ some g := fun e => by
      cases e
      obtain ⟨u0, c0, r0⟩ := h4 0 (by omega)
      obtain ⟨u1, c1, r1⟩ := h4 1 (by omega)
      obtain ⟨_, _, rfl, _⟩ := r0.slice
      obtain ⟨_, _, rfl, _⟩ := r1.slice
      exact hn.2 _ _ _ _ _ _ _ c0 c1
    exact .inr ⟨b, off, cap, rfl, h1, h2, Nat.lt_of_lt_of_le h3 hg.size, fun k hk => by
      obtain ⟨u, hu, hr⟩ := h4 k hk
      exact ⟨u, hg.cell hu hne, hr.off hg hn⟩⟩
/-- A block that a pointer points to. -/
def Pte (A : Look) (w : World) (y : Value) (x : Bk) : Prop := ∃ p u, y = .pointer (some ⟨p, 0, none⟩) ∧ A w p x u ∧ Rws w u x.c
theorem Pte.ext {A : Look} (hA : Looks A) {w w' : World} {y : Value} {x : Bk} (h : Pte A w y x) (hx : w.Extends w') : Pte A w' y x := by
  obtain ⟨p, u, e, h1, h2⟩ := h
  exact ⟨p, u, e, hA.ext h1 hx, h2.ext hx⟩
theorem Pte.off {A : Look} (hA : Looks A) {w w' : World} {p g : Nat} {u : Value} {x : Bk} (h1 : A w p x u) (h2 : Rws w u x.c) (hl : 2 ≤ x.c.length) (hp : p ≠ g) (hg : w.grownBy w' (some g)) (hn : NoRows w g) : A w' p x u ∧ Rws w' u x.c :=
  ⟨hA.keep h1 fun i v hv => hg.cell hv (by simp; exact hp), h2.off hl hg hn⟩
/-- An object that a call lays at o: its blocks so far. -/
def OB (A : Look) (TO TP : TypeId) (w : World) (o : Nat) (b s m : Int) (v : Value) (bs : List Bk) : Prop :=
  w.rowIs o TO 4 (ofn b s m v) ∧ CleanBlk IsPtr w v ∧ ∃ vs, w.ownsRow (o + 1) TP 1 v bs.length vs ∧ ∀ i, i < bs.length → ∃ y, vs[i]? = some y ∧ Pte A w y (bs.getD i Bk.zero) ∧ 2 ≤ (bs.getD i Bk.zero).c.length
theorem OB.ext {A : Look} (hA : Looks A) {TO TP : TypeId} {w w' : World} {o : Nat} {b s m : Int} {v : Value} {bs : List Bk} (h : OB A TO TP w o b s m v bs) (hx : w.Extends w') : OB A TO TP w' o b s m v bs := by
  obtain ⟨h1, h2, vs, h3, h4⟩ := h
  refine ⟨h1.of_block (hx.block o h1.lt), h2.kept fun g hg => hx.block g (h3.lt g hg).2, vs, owns_ext h3 hx, fun i hi => ?_⟩
  obtain ⟨y, e, hp, hl⟩ := h4 i hi
  exact ⟨y, e, hp.ext hA hx, hl⟩
theorem OB.new (A : Look) (TO TP : TypeId) (w : World) (b s m : Int) : OB A TO TP (w.alloc (.cells #[.int .i64 b, .int .i64 s, .int .i64 m, .slice none 0 0] TO)) w.heap.size b s m (.slice none 0 0) [] := by
  refine ⟨?_, CleanBlk.nil _ _, [], World.ownsRow_nil _ _ _ _, fun i hi => absurd hi (Nat.not_lt_zero _)⟩
  exact World.rowIs_alloc w _ TO _ fun i hi => by
    have hi : i < 4 := hi
    match i, hi with
    | 0, _ => rfl
    | 1, _ => rfl
    | 2, _ => rfl
    | 3, _ => rfl
theorem OB.slice {A : Look} {TO TP : TypeId} {w : World} {o : Nat} {b s m : Int} {v : Value} {bs : List Bk} (h : OB A TO TP w o b s m v bs) : ∃ a cap, v = .slice a bs.length cap := by
  obtain ⟨_, _, vs, h3, _⟩ := h
  exact owns_slice h3
/-- A block's cells are no pointers, and not the object's. -/
theorem OB.apart {A : Look} (hA : Looks A) {TO TP : TypeId} {w : World} {o p : Nat} {b s m : Int} {v u : Value} {x : Bk} {bs : List Bk} (h : OB A TO TP w o b s m v bs) (h1 : A w p x u) (h2 : Rws w u x.c) (hl : 2 ≤ x.c.length) : p ≠ o ∧ ∀ g, v.ownBlock = some g → p ≠ g := by
  obtain ⟨hr, hcl, vs, ho, _⟩ := h
  refine ⟨fun e => ?_, fun g hg e => ?_⟩
  · subst e
    rcases hA.three h1 with ⟨n, hc⟩ | hc
    · obtain ⟨_, e⟩ := ocell hr hc
      obtain ⟨a, c, rfl⟩ := owns_slice ho
      simp [ofn] at e
    · obtain ⟨_, e⟩ := ocell hr hc
      have e : u = v := e
      subst e
      rcases h2 with ⟨h0, _⟩ | ⟨g, off, cap, rfl, _, _, _, h4⟩
      · rw [h0] at hl; simp at hl
      · obtain ⟨y, hy, hu⟩ := h4 0 (by omega)
        obtain ⟨_, _, rfl, _⟩ := hu.slice
        obtain ⟨a, e⟩ := clean_cell hcl rfl hy
        cases e
  · subst e
    obtain ⟨n, hc⟩ := hA.int0 h1
    obtain ⟨a, e⟩ := clean_cell hcl hg hc
    cases e
/-- One block more. -/
theorem OB.snoc {A : Look} (hA : Looks A) {TO TP : TypeId} {w w' : World} {o p : Nat} {b s m : Int} {v v' u : Value} {x : Bk} {bs : List Bk} {vs : List Value} (hr : w.rowIs o TO 4 (ofn b s m v)) (hcl : CleanBlk IsPtr w v) (ho : w.ownsRow (o + 1) TP 1 v bs.length vs)
    (hp : ∀ i, i < bs.length → ∃ y, vs[i]? = some y ∧ Pte A w y (bs.getD i Bk.zero) ∧ 2 ≤ (bs.getD i Bk.zero).c.length) (h1 : A w p x u) (h2 : Rws w u x.c) (hl : 2 ≤ x.c.length)
    (hg : w.grownBy w' v.ownBlock) (ho' : w'.ownsRow (o + 1) TP 1 v' (bs.length + 1) (vs ++ [.pointer (some ⟨p, 0, none⟩)])) (hcl' : CleanBlk IsPtr w' v') : OB A TO TP (w'.setCell ⟨o, 3, none⟩ v') o b s m v' (bs ++ [x]) := by
  have hob : OB A TO TP w o b s m v bs := ⟨hr, hcl, vs, ho, hp⟩
  have hvo : ∀ g, v.ownBlock = some g → o < g := fun g hg => (ho.lt g hg).1
  have hvo' : ∀ g, v'.ownBlock = some g → o < g := fun g hg => (ho'.lt g hg).1
  have hr' : w'.rowIs o TO 4 (ofn b s m v) := hr.of_block (hg.block o hr.lt fun e => by have := hvo o e.symm; omega)
  have keep : ∀ {q : Nat} {z : Value} {y : Bk}, A w q y z → Rws w z y.c → 2 ≤ y.c.length → Pte A (w'.setCell ⟨o, 3, none⟩ v') (.pointer (some ⟨q, 0, none⟩)) y := fun {q z y} a1 a2 a3 => by
    obtain ⟨n1, n2⟩ := hob.apart hA a1 a2 a3
    have k1 : A w' q y z ∧ Rws w' z y.c := by
      cases hv : v.ownBlock with
      | none =>
        rw [hv] at hg
        have hx : w.Extends w' := ext_below ⟨hg.os, hg.tape, hg.output, hg.size, fun i hi => hg.block i hi (by simp)⟩ rfl
        exact ⟨hA.ext a1 hx, a2.ext hx⟩
      | some g =>
        rw [hv] at hg
        exact Pte.off hA a1 a2 a3 (n2 g hv) hg (noRows_clean hcl hv)
    obtain ⟨k2, k3⟩ := Pte.off hA k1.1 k1.2 a3 n1 (grown_setCell (grown_refl w' (some o)) 3 v') (noRows_obj hr' (by obtain ⟨a, c, e⟩ := owns_slice ho; exact ⟨_, _, _, e⟩))
    exact ⟨q, z, rfl, k2, k3⟩
  have hgs : w'.grownBy (w'.setCell ⟨o, 3, none⟩ v') (some o) := grown_setCell (grown_refl _ _) 3 v'
  have hlen : vs.length = bs.length := by have := ho.1; omega
  refine ⟨(hr'.set 3 v').congr fun i hi => ?_, hcl'.kept fun g hg => hgs.block g (ho'.lt g hg).2 (by have := hvo' g hg; simp; omega), vs ++ [.pointer (some ⟨p, 0, none⟩)], ?_, fun i hi => ?_⟩
  · match i, hi with
    | 0, _ => rfl
    | 1, _ => rfl
    | 2, _ => rfl
    | 3, _ => rfl
  · rw [List.length_append]
    refine ho'.kept hgs ?_
    cases hv : v'.ownBlock with
    | none => exact .inl rfl
    | some g => exact .inr (by have := hvo' g hv; simp; omega)
  · rw [List.length_append] at hi
    have hi : i < bs.length + 1 := hi
    by_cases hib : i < bs.length
    · obtain ⟨y, e, ⟨q, z, rfl, a1, a2⟩, a3⟩ := hp i hib
      rw [show (bs ++ [x]).getD i Bk.zero = bs.getD i Bk.zero by simp [List.getD_eq_getElem?_getD, List.getElem?_append_left hib]]
      exact ⟨_, by rw [List.getElem?_append_left (by omega)]; exact e, keep a1 a2 a3, a3⟩
    · obtain rfl : i = bs.length := by omega
      rw [show (bs ++ [x]).getD bs.length Bk.zero = x by simp]
      exact ⟨_, by rw [List.getElem?_append_right (by omega), hlen]; simp, keep h1 h2 hl, hl⟩
/-- An object at o, as it reads. -/
def OV (A : Look) (w : World) (o : Nat) (b s m : Int) (bs : List Bk) : Prop :=
  o < w.heap.size ∧ w.cell? ⟨o, 0, none⟩ = some (.int .i64 b) ∧ w.cell? ⟨o, 1, none⟩ = some (.int .i64 s) ∧ w.cell? ⟨o, 2, none⟩ = some (.int .i64 m) ∧
  ∃ a cap, w.cell? ⟨o, 3, none⟩ = some (.slice a bs.length cap) ∧ (0 < bs.length → ∃ g off, a = some ⟨g, off, none⟩ ∧ g < w.heap.size ∧ ∀ i, i < bs.length → ∃ p u, w.cell? ⟨g, off + i, none⟩ = some (.pointer (some ⟨p, 0, none⟩)) ∧ A w p (bs.getD i Bk.zero) u ∧ Rws w u (bs.getD i Bk.zero).c)
theorem OV.ext {A : Look} (hA : Looks A) {w w' : World} {o : Nat} {b s m : Int} {bs : List Bk} (h : OV A w o b s m bs) (hx : w.Extends w') : OV A w' o b s m bs := by
  obtain ⟨h0, h1, h2, h3, a, cap, h4, h5⟩ := h
  refine ⟨Nat.lt_of_lt_of_le h0 hx.size, hx.cell_of h1, hx.cell_of h2, hx.cell_of h3, a, cap, hx.cell_of h4, fun hn => ?_⟩
  obtain ⟨g, off, e, hg, hi⟩ := h5 hn
  refine ⟨g, off, e, Nat.lt_of_lt_of_le hg hx.size, fun i hib => ?_⟩
  obtain ⟨p, u, c, a1, a2⟩ := hi i hib
  exact ⟨p, u, hx.cell_of c, hA.ext a1 hx, a2.ext hx⟩
end Go.Proofs.YtpfmmfapdcbnkaaDoor
namespace Go.Proofs.YtpfmmfapdcbnkaaDoor
set_option maxRecDepth 20000
open Go.RowKit Go.Deep
set_option linter.unusedVariables false
theorem seed_exists (n : Nat) : ∃ r er, SM.SeedIs n r er := by
  by_cases h : ∃ r, r < 256 ∧ SM.Good n r ∧ ∀ i, i < r → ¬ SM.Good n i
  · obtain ⟨r, h1, h2, h3⟩ := h
    exact ⟨r, 0, .inl ⟨rfl, h1, h2, h3⟩⟩
  · refine ⟨0, 5, .inr ⟨rfl, rfl, fun i => ?_⟩⟩
    induction i using Nat.strongRecOn with
    | ind i ih => exact fun hi hg => h ⟨i, hi, hg, fun m hm => ih m hm (by omega)⟩
end Go.Proofs.YtpfmmfapdcbnkaaDoor
namespace Go.Proofs.YtpfmmfapdcbnkaaDoor
set_option maxRecDepth 20000
open Go.RowKit Go.Deep
set_option linter.unusedVariables false
/-- A block there is. -/
structure B10 (size : Int) (src : List (List Nat)) (k j sz : Nat) (c : List (List Nat)) : Prop where
  hs : size = (sz : Int)
  s1 : 1 ≤ sz
  s2 : sz ≤ 64
  hk : src.length = k
  k1 : 1 ≤ k
  k2 : k ≤ 40
  all : AllB size src
  seed : SM.SeedIs k j 0
  parts : BM.PartsIs k j sz src c
theorem B10.j {size : Int} {src c : List (List Nat)} {k j sz : Nat} (h : B10 size src k j sz c) : j ≤ 255 := by have := h.seed.lt; omega
theorem B10.len {size : Int} {src c : List (List Nat)} {k j sz : Nat} (h : B10 size src k j sz c) : c.length = PM.l k := h.parts.len
theorem B10.new {size : Int} {src c : List (List Nat)} {k j sz : Nat} (h : B10 size src k j sz c) (v : Value) (w : World) (hv : Rws w v src) (hT : Tab w) :
    Calls Tryd.prog 21 #[.int .i64 size, v] w (BNew w k j sz c) := by
  rw [h.hs]; exact new_some sz v src k w h.s1 h.s2 h.hk h.k1 h.k2 hv (h.hs ▸ h.all) hT j h.seed c h.parts
end Go.Proofs.YtpfmmfapdcbnkaaDoor
namespace Go.Proofs.YtpfmmfapdcbnkaaDoor
set_option maxRecDepth 20000
open Go.RowKit Go.Deep
set_option linter.unusedVariables false
/-- The first blocks can be, and the next one cannot. -/
structure Bks (s : Int) (sz : Nat) (L : List (List (List Nat))) (bs : List Bk) (err : Int) : Prop where
  le : bs.length ≤ L.length
  yes : ∀ i, i < bs.length → B10 s (L.getD i []) (bs.getD i Bk.zero).k (bs.getD i Bk.zero).j sz (bs.getD i Bk.zero).c
  no : bs.length < L.length → ∀ v w, Rws w v (L.getD bs.length []) → Tab w → Calls Tryd.prog 21 #[.int .i64 s, v] w (NoBlock w err)
  ne : err ≠ 0
/-- Rows of one size, and not too many: a block, or none for the seed. -/
theorem blk_fit (sz : Nat) (src : List (List Nat)) (hlt : ∀ r ∈ src, ∀ x ∈ r, x < 256) (s1 : 1 ≤ sz) (s2 : sz ≤ 64) (k1 : 1 ≤ src.length) (k2 : src.length ≤ 40) (ha : AllB sz src) :
    (SM.SeedIs src.length 0 5 ∧ ∀ v w, Rws w v src → Tab w → Calls Tryd.prog 21 #[.int .i64 (sz : Nat), v] w (NoBlock w 5)) ∨ ∃ j c, B10 sz src src.length j sz c := by
  obtain ⟨r, er, hr⟩ := seed_exists src.length
  rcases seed5 hr with rfl | rfl
  · have hg : SM.Good src.length r := by
      rcases hr with ⟨_, _, h, _⟩ | ⟨h, _⟩
      · exact h
      · cases h
    obtain ⟨c, hc⟩ := BM.parts_exist sz hg hlt
    exact .inr ⟨r, c, ⟨rfl, s1, s2, rfl, k1, k2, ha, hr, hc⟩⟩
  · obtain rfl : r = 0 := by
      rcases hr with ⟨h, _⟩ | ⟨_, h, _⟩
      · cases h
      · exact h
    exact .inl ⟨hr, fun v w hv hT => new_none sz v src _ w (by omega) (by omega) rfl k1 k2 hv ha hT 0 hr⟩
theorem B10.two {size : Int} {src c : List (List Nat)} {k j sz : Nat} (h : B10 size src k j sz c) : 2 ≤ c.length := by
  rw [h.len]; unfold PM.l PM.w; omega
end Go.Proofs.YtpfmmfapdcbnkaaDoor
