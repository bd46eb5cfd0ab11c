/- In one text: ObjOf, ObjOff, DecFault, DecFirsts. -/
import Derived.Handy
import Derived.Lib.Hide
import Derived.Maps.OwnSet
import Derived.Maps.AppendAt
import Derived.WalkKit
import Derived.Test.YtpfmmfapdcbnkaaGreatDoorMB3
import Derived.Test.YtpfmmfapdcbnkaaGreatDoorMB12
import Derived.Test.YtpfmmfapdcbnkaaGreatDoorMB13
import Derived.Test.YtpfmmfapdcbnkaaGreatDoorMB20
import Derived.Test.YtpfmmfapdcbnkaaGreatDoorMB21
namespace Go.Proofs.YtpfmmfapdcbnkaaGreatDoor
set_option maxRecDepth 20000
open Go.RowKit Go.Deep
set_option linter.unusedVariables false
namespace OM
/-- Does a record count, of a shape and a block? -/
def counts (b s m : Int) (c : Nat) (r : Rc) : Bool := !r.g && (r.b == b && (r.s == s && (r.m == m && r.k == (c : Int))))
/-- The symbols of a block. -/
def pick (b s m : Int) (c : Nat) (l : List Rc) : List DC.Dp := (l.filter (counts b s m c)).map fun r => (r.e, r.d)
theorem pick_yes {b s m : Int} {c : Nat} {l : List Rc} {r : Rc} (h : counts b s m c r = true) : pick b s m c (l ++ [r]) = pick b s m c l ++ [(r.e, r.d)] := by simp [pick, List.filter_append, h]
theorem pick_no {b s m : Int} {c : Nat} {l : List Rc} {r : Rc} (h : counts b s m c r = false) : pick b s m c (l ++ [r]) = pick b s m c l := by simp [pick, List.filter_append, h]
theorem pick_length (b s m : Int) (c : Nat) (l : List Rc) : (pick b s m c l).length ≤ l.length := by
  unfold pick; rw [List.length_map]; exact List.length_filter_le _ _
theorem take_rc (l : List Rc) (q : Nat) (h : q < l.length) : l.take q ++ [l.getD q Rc.zero] = l.take (q + 1) := by
  rw [List.take_succ_eq_append_getElem h]; simp [h]
theorem counts_other {b s m : Int} {c c' : Nat} {r : Rc} (hk : r.k = (c : Int)) (h : c' ≠ c) : counts b s m c' r = false := by
  unfold counts
  have : (r.k == (c' : Int)) = false := by rw [hk, beq_eq_false_iff_ne]; omega
  simp [this]
end OM
theorem dropsinfo : (Tryz.prog.info? 86).map (fun i => (i.zero, i.size, i.bytes)) = some (some (.slice none 0 0), 1, 24) := by kernel_rfl
theorem mkDropLists (k : Nat) (hk : k ≤ 10000) (w : World) : (Instr.makeSlice 84 (.int .i64 (k : Int)) (.int .i64 (k : Int))).run Tryz.prog w = .ok (.slice (some ⟨w.heap.size, 0, none⟩) k k) (w.alloc (.cells (madeCells #[.slice none 0 0] k) 86)) :=
  run_make_row' (P := Tryz.prog) 84 86 (.slice none 0 0) 24 Tryz.underlying84 dropsinfo rfl .i64 .i64 k (by omega) (by omega) w
theorem RowOk.by_any {w w' : World} {R B' n s : Nat} {T' : TypeId} {u x : Value} {xs : List Nat} {ys : List Value} (h : RowOk w R x xs) (ho : w.ownsRow B' T' s u n ys) (hT : T' ≠ 5) (hR : R ≤ B') (hg : w.grownBy w' u.ownBlock) : RowOk w' R x xs := by
  by_cases hn : u.ownBlock = none
  · rw [hn] at hg
    exact h.ext (ext_below ⟨hg.os, hg.tape, hg.output, hg.size, fun i hi => hg.block i hi (by simp)⟩ rfl)
  · refine h.grown hg ?_
    rcases (h.mono hR).2 with h0 | h0
    · exact .inl h0
    · refine .inr fun e => ?_
      cases hv : u.ownBlock with
      | none => exact hn hv
      | some g =>
        rw [hv] at e
        obtain ⟨_, h1⟩ := h0 g e
        have hb := (ho.lt g hv).1
        rcases h1 with h1 | ⟨cs, hcs⟩
        · omega
        · rcases ho.2 with ⟨rfl, _⟩ | ⟨g', cap, cur, rfl, hbg, hg', _⟩
          · cases hv
          · simp only [Value.ownBlock, Option.some.injEq] at hv
            subst hv
            rw [hg'] at hcs
            simp only [Option.some.injEq, Obj.cells.injEq] at hcs
            exact hT hcs.2.1
theorem RowOk.butRowR {w w' : World} {u : Value} {xs : List Nat} {g n R : Nat} {T : TypeId} {f : Nat → Value} (h : RowOk w R u xs) (hR : R ≤ g) (hr : w.rowIs g T n f) (hT : T ≠ 5) (hg : w.grownBy w' (some g)) : RowOk w' R u xs := by
  refine h.grown hg ?_
  rcases h.2 with h0 | h0
  · exact .inl h0
  · refine .inr fun e => ?_
    obtain ⟨_, h1 | ⟨cs, h1⟩⟩ := h0 g e
    · omega
    · obtain ⟨cs', hc, _⟩ := hr
      rw [h1] at hc
      simp only [Option.some.injEq, Obj.cells.injEq] at hc
      exact hT hc.2.1.symm
/-- Symbols stay where another slice of symbols grows, and where the row of slices is written. -/
theorem DMats.beside {w w' : World} {B R k n : Nat} {u v : Value} {l : List DC.Dp} {vs : List Value} (h : DMats w B R u k l) (hv : w.ownsRow B 116 2 v n vs) (hR : R ≤ B) (ha : Ap u v) (hg : w.grownBy w' v.ownBlock) : DMats w' B R u k l := by
  obtain ⟨us, ho, hr⟩ := h
  refine ⟨us, ho.kept hg ha.or, fun j hj => ?_⟩
  obtain ⟨h0, x, h1, h2⟩ := hr j hj
  exact ⟨h0, x, h1, h2.by_any hv (by decide) hR hg⟩
theorem DMats.butRow {w w' : World} {B R k g n : Nat} {T : TypeId} {v : Value} {l : List DC.Dp} {f : Nat → Value} (h : DMats w B R v k l) (hgB : g < B) (hR : R ≤ g) (hr : w.rowIs g T n f) (hT : T ≠ 5) (hg : w.grownBy w' (some g)) : DMats w' B R v k l := by
  obtain ⟨vs, ho, hv⟩ := h
  refine ⟨vs, ho.kept hg ?_, fun j hj => ?_⟩
  · cases hb : v.ownBlock with
    | none => exact .inl rfl
    | some x => exact .inr (by have := (ho.lt x hb).1; simp; omega)
  · obtain ⟨h0, u, h1, h2⟩ := hv j hj
    exact ⟨h0, u, h1, h2.butRowR hR hr hT hg⟩
/-- The lists of symbols so far: cells of block g. -/
def OfTo (w : World) (g n R : Nat) (vals : Nat → Value) (P : Nat → List DC.Dp) : Prop :=
  w.rowIs g 86 n vals ∧ (∀ c, c < n → DMats w (g + 1) R (vals c) (P c).length (P c)) ∧ ∀ c c', c < n → c' < n → c ≠ c' → Ap (vals c) (vals c')
theorem OfTo.made (w : World) (n R : Nat) : OfTo (w.alloc (.cells (madeCells #[.slice none 0 0] n) 86)) w.heap.size n R (fun _ => .slice none 0 0) (fun _ => []) :=
  ⟨World.rowIs_made w (.slice none 0 0) n 86, fun c hc => DMats.nil _ _ _ _, fun c c' _ _ _ g h => by cases h⟩
theorem OfTo.ext {w w' : World} {g n R : Nat} {vals : Nat → Value} {P : Nat → List DC.Dp} (h : OfTo w g n R vals P) (hx : w.Extends w') : OfTo w' g n R vals P :=
  ⟨h.1.of_block (hx.block g h.1.lt), fun c hc => (h.2.1 c hc).ext hx, h.2.2⟩
theorem OfTo.congr {w : World} {g n R : Nat} {vals : Nat → Value} {P P' : Nat → List DC.Dp} (h : OfTo w g n R vals P) (e : ∀ c, c < n → P' c = P c) : OfTo w g n R vals P' :=
  ⟨h.1, fun c hc => by rw [e c hc]; exact h.2.1 c hc, h.2.2⟩
/-- One symbol more, of block c. -/
theorem OfTo.step {w w' : World} {g n R c : Nat} {vals : Nat → Value} {P : Nat → List DC.Dp} {p : DC.Dp} {u v' : Value} {vs : List Value} (h : OfTo w g n R vals P) (hR : R ≤ g) (hc : c < n) (hown : w.ownsRow (g + 1) 116 2 (vals c) (P c).length vs)
    (hr : ∀ j, j < (P c).length → vs[j * 2]? = some (.int .i64 ((P c).getD j (0, [])).1) ∧ ∃ u, vs[j * 2 + 1]? = some u ∧ RowOk w R u ((P c).getD j (0, [])).2) (hu : RowOk w R u p.2)
    (hg : w.grownBy w' (vals c).ownBlock) (ho : w'.ownsRow (g + 1) 116 2 v' ((P c).length + 1) (vs ++ [.int .i64 p.1, u])) (hn : v'.ownBlock = (vals c).ownBlock ∨ ∃ x, v'.ownBlock = some x ∧ w.heap.size ≤ x) :
    OfTo (w'.setCell ⟨g, c, none⟩ v') g n R (fun j => if j = c then v' else vals j) (fun j => if j = c then P c ++ [p] else P j) := by
  obtain ⟨h1, h2, h3⟩ := h
  have hgr : w'.heap[g]? = w.heap[g]? := hg.block g h1.lt fun e => by have := (hown.lt g e.symm).1; omega
  have hr' : w'.rowIs g 86 n vals := h1.of_block hgr
  have hset : w'.grownBy (w'.setCell ⟨g, c, none⟩ v') (some g) := grown_setCell (grown_refl _ _) c v'
  refine ⟨hr'.set c v', fun j hj => ?_, fun j j' hj hj' hne => ?_⟩
  · by_cases e : j = c
    · subst e
      simp only [if_true]
      have := DMats.snoc (p := p) (B := g + 1) (R := R) (l := P j) (Nat.le_succ_of_le hR) rfl hown hr hu hg ho
      rw [List.length_append]
      exact this.butRow (Nat.lt_succ_self _) hR hr' (by decide) hset
    · simp only [if_neg e]
      exact ((h2 j hj).beside hown (Nat.le_succ_of_le hR) (h3 j c hj hc e) hg).butRow (Nat.lt_succ_self _) hR hr' (by decide) hset
  · have nxt : ∀ i, i < n → i ≠ c → Ap (vals i) v' := fun i hi hic => by
      obtain ⟨vs', ho', _⟩ := h2 i hi
      exact (h3 i c hi hc hic).next ho' (Nat.le_refl _) hn
    by_cases e : j = c
    · by_cases e' : j' = c
      · omega
      · simp only [if_pos e, if_neg e']
        exact (nxt j' hj' e').symm
    · by_cases e' : j' = c
      · simp only [if_neg e, if_pos e']
        exact nxt j hj e
      · simp only [if_neg e, if_neg e']
        exact h3 j j' hj hj' hne
/-- The lists of the symbols of all blocks. -/
def OfOut (w : World) (n : Nat) (P : Nat → List DC.Dp) (e : Ending) (w' : World) : Prop := ∃ g, e = .returned (.slice (some ⟨g, 0, none⟩) n n) ∧ w.Extends w' ∧ w.heap.size ≤ g ∧ ∀ c, c < n → ∃ u, w'.cell? ⟨g, c, none⟩ = some u ∧ Drps w' u (P c)
set_option maxHeartbeats 2000000 in
set_option maxRecDepth 100000 in
theorem symbolsOf_any (b s m : Int) (v : Value) (l : List Rc) (n : Nat) (w : World) (hn : n ≤ 4000) (hl : l.length ≤ 1000000) (hv : Recs w v l) (hb : ∀ w, Calls Tryz.prog 38 #[PV b s m] w fun e w' => e = .returned (.int .i64 (n : Nat)) ∧ w.Extends w') :
    Calls Tryz.prog 39 #[PV b s m, v] w (OfOut w n (fun c => OM.pick b s m c l)) := by
  have HB := Lib.hid hb
  have HV := Lib.hid hv
  have HTS := Lib.hid (OM.take_rc l)
  have HT0 : Hid (l.take 0 = []) := List.take_zero
  have HTA : Hid (l.take l.length = l) := List.take_length
  have HTLN : Hid (∀ q, (l.take q).length ≤ 1000000) := fun q => by rw [List.length_take]; omega
  have hmk := fun w => mkDropLists n (by omega) w
  have HMK := Lib.hid hmk
  clear hmk
  obtain ⟨va, vc, rfl⟩ := hv.slice
  have HC := Lib.hid hv.at.2
  obtain ⟨i2, hi', hz0', hz1', hz2'⟩ := info_parts dropinfo
  have HI' := Lib.hid hi'; clear hi'
  have HZ0' := Lib.hid hz0'; clear hz0'
  have HZ1' := Lib.hid hz1'; clear hz1'
  have HZ2' := Lib.hid hz2'; clear hz2'
  clear hv hb
  obtain ⟨ln, hln⟩ : ∃ ln, ln = l.length := ⟨_, rfl⟩
  rw [← hln] at HC HTS HTA hl ⊢
  clear hln
  go_enter Tryz.func39, Tryz.ntmps39
  go_wp2_with fail
  generalize hw1 : World.alloc w _ = w1
  have hx1 : w.Extends w1 := by subst hw1; exact prm_ext_alloc _ _
  have hp : PAt w1 w.heap.size b s m := by subst hw1; exact PAt.new w 25 b s m
  have hbw : w.heap.size < w1.heap.size := hp.lt
  obtain ⟨R, hR⟩ : ∃ R, R = w.heap.size := ⟨_, rfl⟩
  rw [← hR] at hp hbw ⊢
  have HRW := Lib.hid hR
  clear hw1 hR
  have HX1 := Lib.hid hx1
  have HP1 := Lib.hid hp
  clear hx1 hp
  refine (HB.out w1).mono ?_
  rintro e w2 ⟨rfl, hx⟩
  have HX2 := Lib.hid (Gr.ext_trans HX1.out hx)
  have HP2 := Lib.hid (HP1.out.ext hx)
  have hs2 := hx.size
  clear hx
  have hmk := HMK.out
  go_upto_region 2 with fail
  clear hmk
  have HM3 := Lib.hid (OfTo.made w2 n R)
  generalize hw3 : World.alloc w2 _ = w3 at *
  have HX3 : Hid (w2.Extends w3) := by subst hw3; exact ext_alloc _ _
  have HP3 := Lib.hid (HP2.out.ext HX3.out)
  have hgx : R < w2.heap.size := by omega
  obtain ⟨g, hg⟩ : ∃ g, g = w2.heap.size := ⟨_, rfl⟩
  rw [← hg] at HM3 hgx ⊢
  have HG := Lib.hid hg
  clear hw3 hg
  go_wp2_with fail
  go_loopw [13] (fun i wr => ∃ (q : Nat) (vals : Nat → Value), q ≤ ln ∧ i = .int .i64 q ∧ Hid (w2.Extends wr) ∧ Hid (OfTo wr g n R vals (fun c => OM.pick b s m c (l.take q)))) (fun i _ => (ln - intOf i).toNat)
  case atStart => exact ⟨0, _, by omega, rfl, HX3, by rw [HT0.out]; exact HM3⟩
  case round =>
    obtain ⟨q, vals, hq, rfl, HX, HM⟩ := hrel
    by_cases h7 : q < ln
    · obtain ⟨b1, o1, rfl, hb1, hc1⟩ := HC.out (by omega)
      obtain ⟨da, dc, hcr, hur⟩ := hc1 q h7
      have HXr := Lib.hid (Gr.ext_trans HX2.out HX.out)
      have hrr := rangeAt_ext hcr HXr.out
      have HOKR : Hid (RowOk wr R (.slice da (l.getD q Rc.zero).d.length dc) (l.getD q Rc.zero).d) := (RowOk.old hur (Nat.le_of_eq HRW.out.symm)).ext HXr.out
      have HTSQ := Lib.hid (HTS.out q h7)
      have HTLQ := Lib.hid (HTLN.out q)
      clear hc1 hcr hur
      generalize l.getD q Rc.zero = r at *
      obtain ⟨rp, rn, rb, rs, rm, rk, re, rg, ru, rd⟩ := r
      obtain ⟨t0, t1, t2, t3, t4, t5, t6, t7, t8, t9⟩ := RCell.ten hrr
      have HPr := Lib.hid (HP2.out.ext HX.out)
      have hNO : (∀ c, c < n → OM.counts b s m c ⟨rp, rn, rb, rs, rm, rk, re, rg, ru, rd⟩ = false) → Hid (OfTo wr g n R vals (fun c => OM.pick b s m c (l.take (q + 1)))) := fun h => HM.out.congr fun c hc => by
        rw [← HTSQ.out, OM.pick_no (h c hc)]
      have hcase : rg = true ∨ (rg = false ∧ (rb == b) = false) ∨ (rg = false ∧ rb = b ∧ (rs == s) = false) ∨ (rg = false ∧ rb = b ∧ rs = s ∧ (rm == m) = false) ∨ (rg = false ∧ rb = b ∧ rs = s ∧ rm = m ∧ rk < 0) ∨ (rg = false ∧ rb = b ∧ rs = s ∧ rm = m ∧ ¬ rk < 0 ∧ (n : Int) ≤ rk) ∨ ∃ c : Nat, rg = false ∧ rb = b ∧ rs = s ∧ rm = m ∧ rk = c ∧ c < n := by
        cases rg with
        | true => exact .inl rfl
        | false =>
          refine .inr ?_
          by_cases e1 : rb = b
          · by_cases e2 : rs = s
            · by_cases e3 : rm = m
              · by_cases e4 : rk < 0
                · exact .inr (.inr (.inr (.inl ⟨rfl, e1, e2, e3, e4⟩)))
                · by_cases e5 : (n : Int) ≤ rk
                  · exact .inr (.inr (.inr (.inr (.inl ⟨rfl, e1, e2, e3, e4, e5⟩))))
                  · exact .inr (.inr (.inr (.inr (.inr ⟨rk.toNat, rfl, e1, e2, e3, by omega, by omega⟩))))
              · exact .inr (.inr (.inl ⟨rfl, e1, e2, by simpa using e3⟩))
            · exact .inr (.inl ⟨rfl, e1, by simpa using e2⟩)
          · exact .inl ⟨rfl, by simpa using e1⟩
      have hwr := HPr.out.lt
      obtain ⟨p0, p1, p2⟩ := HPr.out
      rcases hcase with rfl | ⟨rfl, e1⟩ | ⟨rfl, rfl, e1⟩ | ⟨rfl, rfl, rfl, e1⟩ | ⟨rfl, rfl, rfl, rfl, e1⟩ | ⟨rfl, rfl, rfl, rfl, e0, e1⟩ | ⟨c, rfl, rfl, rfl, rfl, rfl, hcn⟩
      · have HN := hNO (fun c hc => by simp [OM.counts])
        go_wp2
        go_roundw
        case rel => exact ⟨q + 1, vals, by omega, by go_num, Lib.hid (Gr.ext_trans HX.out (ext_alloc _ _)), Lib.hid (HN.out.ext (ext_alloc _ _))⟩
        case measure => simp [intOf]; omega
      · have HN := hNO (fun c hc => by simp [OM.counts, e1])
        go_wp2
        go_roundw
        case rel => exact ⟨q + 1, vals, by omega, by go_num, Lib.hid (Gr.ext_trans HX.out (ext_alloc _ _)), Lib.hid (HN.out.ext (ext_alloc _ _))⟩
        case measure => simp [intOf]; omega
      · have HN := hNO (fun c hc => by simp [OM.counts, e1])
        go_wp2
        go_roundw
        case rel => exact ⟨q + 1, vals, by omega, by go_num, Lib.hid (Gr.ext_trans HX.out (ext_alloc _ _)), Lib.hid (HN.out.ext (ext_alloc _ _))⟩
        case measure => simp [intOf]; omega
      · have HN := hNO (fun c hc => by simp [OM.counts, e1])
        go_wp2
        go_roundw
        case rel => exact ⟨q + 1, vals, by omega, by go_num, Lib.hid (Gr.ext_trans HX.out (ext_alloc _ _)), Lib.hid (HN.out.ext (ext_alloc _ _))⟩
        case measure => simp [intOf]; omega
      · have HN := hNO (fun c hc => by 
          have : (rk == (c : Int)) = false := by rw [beq_eq_false_iff_ne]; omega
          simp [OM.counts, this])
        go_wp2
        go_roundw
        case rel => exact ⟨q + 1, vals, by omega, by go_num, Lib.hid (Gr.ext_trans HX.out (ext_alloc _ _)), Lib.hid (HN.out.ext (ext_alloc _ _))⟩
        case measure => simp [intOf]; omega
      · have HN := hNO (fun c hc => by 
          have : (rk == (c : Int)) = false := by rw [beq_eq_false_iff_ne]; omega
          simp [OM.counts, this])
        go_wp2
        go_roundw
        case rel => exact ⟨q + 1, vals, by omega, by go_num, Lib.hid (Gr.ext_trans HX.out (ext_alloc _ _)), Lib.hid (HN.out.ext (ext_alloc _ _))⟩
        case measure => simp [intOf]; omega
      · have hpl := OM.pick_length rb rs rm c (l.take q)
        obtain ⟨P, hP⟩ : ∃ P : Nat → List DC.Dp, P = fun j => OM.pick rb rs rm j (l.take q) := ⟨_, rfl⟩
        have HS : Hid (∀ j, j < n → OM.pick rb rs rm j (l.take (q + 1)) = if j = c then P c ++ [((re, rd) : DC.Dp)] else P j) := fun j hj => by
          rw [← HTSQ.out, hP]
          by_cases e : j = c
          · subst e; rw [if_pos rfl]; exact OM.pick_yes (by simp [OM.counts])
          · rw [if_neg e]; exact OM.pick_no (OM.counts_other rfl e)
        rw [← hP] at HM
        have hpl2 : (P c).length ≤ 1000000 := by subst hP; exact Nat.le_trans hpl HTLQ.out
        clear hP hpl hNO
        go_upto_region 5 with fail
        generalize hwa : World.alloc wr _ = wa
        have hxa : wr.Extends wa := by subst hwa; exact ext_alloc _ _
        have hbx : wa.rangeAt wr.heap.size 0 (Rc.cells ⟨rp, rn, rb, rs, rm, c, re, false, ru, rd⟩ (.slice da rd.length dc)) := by subst hwa; exact box_rec wr 32 ⟨rp, rn, rb, rs, rm, c, re, false, ru, rd⟩ _
        have hbl : wr.heap.size < wa.heap.size := by subst hwa; simp
        obtain ⟨bq, hbq⟩ : ∃ bq, bq = wr.heap.size := ⟨_, rfl⟩
        rw [← hbq] at hbx hbl ⊢
        have HBQ := Lib.hid hbq
        clear hwa hbq t0 t1 t2 t3 t4 t5 t6 t7 t8 t9 p0 p1 p2
        have c2 : wa.cell? ⟨bq, 2, none⟩ = some (.int .i64 rb) := hbx 2 _ rfl
        have c3 : wa.cell? ⟨bq, 3, none⟩ = some (.int .i64 rs) := hbx 3 _ rfl
        have c4 : wa.cell? ⟨bq, 4, none⟩ = some (.int .i64 rm) := hbx 4 _ rfl
        have c5 : wa.cell? ⟨bq, 5, none⟩ = some (.int .i64 c) := hbx 5 _ rfl
        have c6 : wa.cell? ⟨bq, 6, none⟩ = some (.int .i64 re) := hbx 6 _ rfl
        have c7 : wa.cell? ⟨bq, 7, none⟩ = some (.bool false) := hbx 7 _ rfl
        have c9 : wa.cell? ⟨bq, 9, none⟩ = some (.slice da rd.length dc) := hbx 9 _ rfl
        obtain ⟨p0, p1, p2⟩ := HPr.out.ext hxa
        have hRl : R < wa.heap.size := Nat.lt_of_lt_of_le hwr hxa.size
        have HXa := Lib.hid (Gr.ext_trans HX.out hxa)
        have HMa := Lib.hid (HM.out.ext hxa)
        have HOKa : Hid (RowOk wa R (.slice da rd.length dc) rd) := RowOk.ext HOKR.out hxa
        obtain ⟨vs, hown0, hrs0⟩ := HM.out.2.1 c hcn
        obtain ⟨ga, gc, hvc⟩ := owns_slice hown0
        have hcell : wa.cell? ⟨g, c, none⟩ = some (vals c) := HMa.out.1.cell hcn
        rw [hvc] at hcell
        obtain ⟨RR, hRR⟩ : ∃ RR, RR = (Value.slice ga (P c).length gc).ownBlock := ⟨_, rfl⟩
        have hlt0 : ∀ x, RR = some x → g + 1 ≤ x ∧ x < bq := fun x hx => by
          have := hown0.lt x (by rw [hvc, ← hRR]; exact hx)
          have e := HBQ.out
          omega
        have e1 : some bq ≠ RR := fun e => by have := (hlt0 bq e.symm).2; omega
        have e2 : some g ≠ RR := fun e => by have := (hlt0 g e.symm).1; omega
        have HLT0 := Lib.hid hlt0
        have HOWN0 := Lib.hid (owns_ext hown0 hxa)
        have HRS0 : Hid (∀ j, j < (P c).length → vs[j * 2]? = some (.int .i64 ((P c).getD j (0, [])).1) ∧ ∃ u, vs[j * 2 + 1]? = some u ∧ RowOk wa R u ((P c).getD j (0, [])).2) := fun j hj => by
          obtain ⟨a1, u, a2, a3⟩ := hrs0 j hj
          exact ⟨a1, u, a2, a3.ext hxa⟩
        have HVC := Lib.hid hvc
        clear hown0 hrs0 hvc hlt0 HM HX HPr HOKR hbx hxa
        obtain ⟨pl, hpl⟩ : ∃ pl, pl = (P c).length := ⟨_, rfl⟩
        rw [← hpl] at HVC hcell hRR hpl2 HRS0
        have HPL := Lib.hid hpl
        have HRRE := Lib.hid hRR
        have HOWN : Hid (wa.ownsRow (g + 1) 116 2 (.slice ga pl gc) pl vs) := by
          have := HOWN0.out
          rw [HVC.out, ← hpl] at this
          exact this
        clear hpl hRR HOWN0
        have HCF : Hid (∀ w', wa.drew.grownBy w' RR → w'.cell? ⟨bq, 5, none⟩ = some (.int .i64 c) ∧ w'.cell? ⟨bq, 6, none⟩ = some (.int .i64 re) ∧ w'.cell? ⟨bq, 9, none⟩ = some (.slice da rd.length dc) ∧ w'.cell? ⟨g, c, none⟩ = some (.slice ga pl gc)) := fun w' hg =>
          ⟨hg.cell (World.Extends.cell_of (Gr.ext_drew (Gr.ext_refl wa)) c5) e1, hg.cell (World.Extends.cell_of (Gr.ext_drew (Gr.ext_refl wa)) c6) e1, hg.cell (World.Extends.cell_of (Gr.ext_drew (Gr.ext_refl wa)) c9) e1, hg.cell (World.Extends.cell_of (Gr.ext_drew (Gr.ext_refl wa)) hcell) e2⟩
        go_wp2_with fail
        have HX5 := Lib.hid (Gr.ext_drew HXa.out)
        have HM5 := Lib.hid (HMa.out.ext (Gr.ext_drew (Gr.ext_refl wa)))
        have HOK5 : Hid (RowOk wa.drew R (.slice da rd.length dc) rd) := HOKa.out.ext (Gr.ext_drew (Gr.ext_refl wa))
        have HOW5 := Lib.hid (owns_ext HOWN.out (Gr.ext_drew (Gr.ext_refl wa)))
        have HRS5 : Hid (∀ j, j < pl → vs[j * 2]? = some (.int .i64 ((P c).getD j (0, [])).1) ∧ ∃ u, vs[j * 2 + 1]? = some u ∧ RowOk wa.drew R u ((P c).getD j (0, [])).2) := fun j hj => by
          obtain ⟨a1, u, a2, a3⟩ := HRS0.out j hj
          exact ⟨a1, u, a2, a3.ext (Gr.ext_drew (Gr.ext_refl wa))⟩
        have hdl : wa.drew.heap.size = wa.heap.size := rfl
        clear c2 c3 c4 c5 c6 c7 c9 p0 p1 p2 hcell HXa HMa HOKa HOWN HRS0
        refine GrR.region RR 15 [(false,0),(false,1),(false,2),(false,3),(false,4),(false,5),(false,6),(false,7),(false,8),(false,9),(false,10),(false,11),(false,12),(true,13),(true,14)] (by kernel_rfl) (by kernel_rfl) (fun d _ _ _ _ h => by cases d <;> exact h) ?_
        simp only [Gr.pick, List.getElem?_cons_zero, List.getElem?_cons_succ, List.drop_succ_cons, List.drop_zero]
        generalize wa.drew = w5 at *
        iterate 13
          refine GrR.walk_t ?_ (Or.inl ⟨by rfl, ?_⟩) ?_
          rotate_left
          · intro w' hw'
            obtain ⟨q0, q1, q2, q3⟩ := HCF.out w' hw'
            clear hw'
            go_simp
            try with_reducible rfl
          simp only [Act.put, List.setIfInBounds_toArray, List.set_cons_zero, List.set_cons_succ]
        clear HCF
        refine GrR.walk_c (fun K hK => ?_)
        go_simp
        generalize hw : World.alloc _ _ = w6
        have hx6 : w5.Extends w6 := by subst hw; exact ext_alloc _ _
        have HSRC : Hid (Src Tryz.prog 2 86 (.slice (some ⟨wa.heap.size, 0, none⟩) 1 1) 1 [.int .i64 re, .slice da rd.length dc] w6) := by subst hw; exact src_two Tryz.underlying86 _ _ hdl.symm rfl rfl
        have HX6 := Lib.hid (Gr.ext_trans HX5.out hx6)
        have HM6 := Lib.hid (HM5.out.ext hx6)
        have HOK6 : Hid (RowOk w6 R (.slice da rd.length dc) rd) := HOK5.out.ext hx6
        have HOW6 := Lib.hid (owns_ext HOW5.out hx6)
        have HRS6 : Hid (∀ j, j < pl → vs[j * 2]? = some (.int .i64 ((P c).getD j (0, [])).1) ∧ ∃ u, vs[j * 2 + 1]? = some u ∧ RowOk w6 R u ((P c).getD j (0, [])).2) := fun j hj => by
          obtain ⟨a1, u, a2, a3⟩ := HRS5.out j hj
          exact ⟨a1, u, a2, a3.ext hx6⟩
        refine hK.out _ _ ⟨hx6.os, hx6.tape, hx6.output, hx6.size, fun i hi _ => hx6.block i hi⟩ ?_
        have hgs6 : g + 1 ≤ w6.heap.size := HM6.out.1.lt
        clear hK K hx6 hw HX5 HM5 HOK5 HOW5 HRS5
        refine GrR.walk_c (fun K hK => ?_)
        rw [if_pos (by rfl)]
        refine wp_append_own_src2 w6 (.tmp 44) (.tmp 50) 86 86 rfl (g + 1) 116 i2 (.agg #[.int .i64 0, .slice none 0 0]) 2 32 Tryz.underlying86 HI'.out HZ0'.out HZ1'.out HZ2'.out rfl (.slice ga pl gc) pl vs rfl HOW6.out _ 1 [.int .i64 re, .slice da rd.length dc] rfl HSRC.out (by unfold maxLen; omega) (by omega) hgs6 ?_
        intro v' w7 ho7 hg7 hn7
        have HP : Hid (w2.Extends (w7.setCell ⟨g, c, none⟩ v') ∧ OfTo (w7.setCell ⟨g, c, none⟩ v') g n R (fun j => if j = c then v' else vals j) (fun c => OM.pick rb rs rm c (l.take (q + 1)))) := by
          refine ⟨?_, ?_⟩
          · have hx7 : w2.Extends w7 := ext_own HX6.out hg7 fun x hx => by have := (HLT0.out x (by rw [HRRE.out]; exact hx)).1; have := HG.out; omega
            exact ext_own hx7 (grown_setCell (grown_refl w7 (some g)) c v') fun x hx => by cases hx; exact Nat.le_of_eq HG.out.symm
          · have h := OfTo.step (p := ((re, rd) : DC.Dp)) (u := .slice da rd.length dc) (v' := v') (vs := vs) HM6.out (Nat.le_of_lt hgx) hcn (by rw [HVC.out, ← HPL.out]; exact HOW6.out) (by rw [← HPL.out]; exact HRS6.out) HOK6.out (by rw [HVC.out]; exact hg7) (by rw [← HPL.out]; exact ho7) (by rw [HVC.out]; exact hn7)
            exact h.congr fun j hj => HS.out j hj
        have hr7 := HM6.out.1.of_block (hg7.block g HM6.out.1.lt (by rw [← HRRE.out]; exact e2))
        have hcell7 : w7.cell? ⟨g, c, none⟩ = some (.slice ga pl gc) := by have := hr7.cell hcn; rwa [HVC.out] at this
        have hfz7 := hr7.frozen c
        simp only [Act.put, List.setIfInBounds_toArray, List.set_cons_zero, List.set_cons_succ]
        refine hK.out _ _ (by rw [HRRE.out]; exact hg7) ?_
        obtain ⟨xa, xc, rfl⟩ := owns_slice ho7
        clear hK K ho7 hg7 hn7 hr7 HM6 HOK6 HOW6 HRS6 HX6 HSRC
        refine GrR.walk_nil ?_
        go_wp2
        go_roundw
        case rel => exact ⟨q + 1, _, by omega, by go_num, Lib.hid HP.out.1, Lib.hid HP.out.2⟩
        case measure => simp [intOf]; omega
    · obtain rfl : q = ln := by omega
      have HP : Hid (OfOut w n (fun c => OM.pick b s m c l) (.returned (.slice (some ⟨g, 0, none⟩) n n)) wr) := ⟨g, rfl, Gr.ext_trans HX2.out HX.out, by have := HRW.out; omega, fun c hc => by
        have h := HM.out
        rw [HTA.out] at h
        exact ⟨_, h.1.cell hc, (h.2.1 c hc).drps rfl⟩⟩
      go_wp2
      go_returns
      exact HP.out
end Go.Proofs.YtpfmmfapdcbnkaaGreatDoor
namespace Go.Proofs.YtpfmmfapdcbnkaaGreatDoor
set_option maxRecDepth 20000
open Go.RowKit Go.Deep
set_option linter.unusedVariables false
/-- Some rows, none of them empty. -/
def Dense (X : List (List Nat)) : Prop := 1 ≤ X.length ∧ ∀ j, j < X.length → X.getD j [] ≠ []
/-- Block g holds slices of such rows, and nil ones. -/
def SlBlk (w : World) (g : Nat) : Prop := ∀ x y, w.cell? ⟨g, x, none⟩ = some y → y = .slice none 0 0 ∨ ∃ Y, Rws w y Y ∧ Dense Y
theorem Rws.head {w : World} {y : Value} {Y : List (List Nat)} (h : Rws w y Y) (hY : Dense Y) : ∃ b off n c a' n' c', y = .slice (some ⟨b, off, none⟩) n c ∧ w.cell? ⟨b, off, none⟩ = some (.slice a' n' c') := by
  rcases h with ⟨rfl, _⟩ | ⟨b, off, cap, rfl, h1, h2, h3, h4⟩
  · have := hY.1; simp at this
  · obtain ⟨u, hc, hu⟩ := h4 0 hY.1
    obtain ⟨a, c, rfl, _⟩ := hu.slice
    exact ⟨b, off, _, _, a, _, c, rfl, hc⟩
theorem U8s.head {w : World} {y : Value} {xs : List Nat} (h : U8s w y xs) (hx : xs ≠ []) : ∃ b off n c k, y = .slice (some ⟨b, off, none⟩) n c ∧ w.cell? ⟨b, off, none⟩ = some (.int .u8 k) := by
  rcases h with h | ⟨b, off, cap, rfl, h1, h2, h3, h4, h5⟩
  · exact absurd h.1 hx
  · exact ⟨b, off, _, _, _, rfl, h4 0 (List.length_pos_iff.2 hx)⟩
theorem Rws.offS {w w' : World} {u : Value} {Y : List (List Nat)} {g : Nat} (h : Rws w u Y) (hY : Dense Y) (hg : w.grownBy w' (some g)) (hs : SlBlk w g) : Rws w' u Y := by
  rcases h with h | ⟨b, off, cap, rfl, h1, h2, h3, h4⟩
  · exact .inl h
  · have hne : some b ≠ some g := fun e => by
      cases e
      obtain ⟨u0, c0, r0⟩ := h4 0 hY.1
      have hy0 := hY.2 0 hY.1
      obtain ⟨b1, o1, n1, c1, k1, e1, d1⟩ := r0.head hy0
      rcases hs _ _ c0 with e2 | ⟨Z, hz, hZ⟩
      · rw [e1] at e2; cases e2
      · obtain ⟨b2, o2, n2, c2, a', n', c', e2, d2⟩ := hz.head hZ
        rw [e1] at e2
        cases e2
        rw [d1] at d2
        cases d2
    refine .inr ⟨b, off, cap, rfl, h1, h2, Nat.lt_of_lt_of_le h3 hg.size, fun k hk => ?_⟩
    obtain ⟨u, hu, hr⟩ := h4 k hk
    refine ⟨u, hg.cell hu hne, hr.grown hg (.inr fun e => ?_)⟩
    obtain ⟨b1, o1, n1, c1, k1, e1, d1⟩ := hr.head (hY.2 k hk)
    subst e1
    simp only [Value.ownBlock, Option.some.injEq] at e
    subst e
    rcases hs _ _ d1 with e2 | ⟨Z, hz, hZ⟩
    · cases e2
    · obtain ⟨b2, o2, n2, c2, a', n', c', e2, d2⟩ := hz.head hZ
      cases e2
theorem row_cell {w : World} {g n x : Nat} {T : TypeId} {f : Nat → Value} {y : Value} (h : w.rowIs g T n f) (hc : w.cell? ⟨g, x, none⟩ = some y) : x < n ∧ y = f x := by
  obtain ⟨cs, T', fz, e, hm⟩ := cell_mem hc
  obtain ⟨c, e2, hs, hi⟩ := h
  rw [e] at e2
  simp only [Option.some.injEq, Obj.cells.injEq] at e2
  rw [e2.1] at hm
  have hx : x < n := by
    rcases Nat.lt_or_ge x n with h | h
    · exact h
    · rw [Array.getElem?_eq_none (by omega)] at hm; cases hm
  exact ⟨hx, Option.some.inj (hm.symm.trans (hi x hx))⟩
/-- The row of slices of rows so far. -/
def RlTo (w : World) (g n q : Nat) (T : TypeId) (vals : Nat → Value) (X : Nat → List (List Nat)) : Prop :=
  w.rowIs g T n vals ∧ (∀ c, c < q → Rws w (vals c) (X c) ∧ Dense (X c)) ∧ ∀ c, q ≤ c → vals c = .slice none 0 0
theorem RlTo.made (w : World) (n : Nat) (T : TypeId) (X : Nat → List (List Nat)) : RlTo (w.alloc (.cells (madeCells #[.slice none 0 0] n) T)) w.heap.size n 0 T (fun _ => .slice none 0 0) X :=
  ⟨World.rowIs_made w (.slice none 0 0) n T, fun c hc => absurd hc (Nat.not_lt_zero _), fun _ _ => rfl⟩
theorem RlTo.ext {w w' : World} {g n q : Nat} {T : TypeId} {vals : Nat → Value} {X : Nat → List (List Nat)} (h : RlTo w g n q T vals X) (hx : w.Extends w') : RlTo w' g n q T vals X :=
  ⟨h.1.of_block (hx.block g h.1.lt), fun c hc => ⟨(h.2.1 c hc).1.ext hx, (h.2.1 c hc).2⟩, h.2.2⟩
theorem RlTo.sl {w : World} {g n q : Nat} {T : TypeId} {vals : Nat → Value} {X : Nat → List (List Nat)} (h : RlTo w g n q T vals X) : SlBlk w g := fun x y hc => by
  obtain ⟨hx, rfl⟩ := row_cell h.1 hc
  by_cases hq : x < q
  · exact .inr ⟨_, h.2.1 x hq⟩
  · exact .inl (h.2.2 x (by omega))
theorem RlTo.next {w : World} {g n q : Nat} {T : TypeId} {vals : Nat → Value} {X : Nat → List (List Nat)} {u : Value} (h : RlTo w g n q T vals X) (hu : Rws w u (X q)) (hd : Dense (X q)) : RlTo (w.setCell ⟨g, q, none⟩ u) g n (q + 1) T (fun c => if c = q then u else vals c) X := by
  have hg : w.grownBy (w.setCell ⟨g, q, none⟩ u) (some g) := grown_setCell (grown_refl _ _) q u
  refine ⟨h.1.set q u, fun c hc => ?_, fun c hc => ?_⟩
  · by_cases e : c = q
    · subst e; simp only [if_true]; exact ⟨hu.offS hd hg h.sl, hd⟩
    · simp only [if_neg e]
      obtain ⟨h1, h2⟩ := h.2.1 c (by omega)
      exact ⟨h1.offS h2 hg h.sl, h2⟩
  · simp only [if_neg (show ¬ c = q by omega)]
    exact h.2.2 c (by omega)
theorem RlTo.rwsl {w : World} {g n : Nat} {T : TypeId} {vals : Nat → Value} {X : Nat → List (List Nat)} (h : RlTo w g n n T vals X) (hm : n ≤ maxLen) : RwsL w (.slice (some ⟨g, 0, none⟩) n n) ((List.range n).map X) :=
  RwsL.row h.1 hm (by simp) fun k hk => by
    have : ((List.range n).map X).getD k [] = X k := by simp [hk]
    rw [this]; exact (h.2.1 k hk).1
/-- .. and such a slice that a call has appended together. -/
def RlAp (w : World) (B : Nat) (T : TypeId) (v : Value) (q : Nat) (X : Nat → List (List Nat)) : Prop :=
  ∃ vs, w.ownsRow B T 1 v q vs ∧ CleanBlk (fun y => y = .slice none 0 0 ∨ y ∈ vs) w v ∧ ∀ j, j < q → ∃ u, vs[j]? = some u ∧ Rws w u (X j) ∧ Dense (X j)
theorem RlAp.nil (w : World) (B : Nat) (T : TypeId) (X : Nat → List (List Nat)) : RlAp w B T (.slice none 0 0) 0 X := ⟨[], World.ownsRow_nil _ _ _ _, CleanBlk.nil _ _, fun j hj => absurd hj (Nat.not_lt_zero _)⟩
theorem RlAp.ext {w w' : World} {B q : Nat} {T : TypeId} {v : Value} {X : Nat → List (List Nat)} (h : RlAp w B T v q X) (hx : w.Extends w') : RlAp w' B T v q X := by
  obtain ⟨vs, h1, h2, h3⟩ := h
  exact ⟨vs, owns_ext h1 hx, h2.kept fun g hg => hx.block g (h1.lt g hg).2, fun j hj => by
    obtain ⟨u, e, hu, hd⟩ := h3 j hj
    exact ⟨u, e, hu.ext hx, hd⟩⟩
theorem RlAp.slice {w : World} {B q : Nat} {T : TypeId} {v : Value} {X : Nat → List (List Nat)} (h : RlAp w B T v q X) : ∃ a cap, v = .slice a q cap := by
  obtain ⟨vs, h1, _⟩ := h; exact owns_slice h1
theorem RlAp.snoc {w w' : World} {B q : Nat} {T : TypeId} {v v' u : Value} {X : Nat → List (List Nat)} {vs : List Value} (ho : w.ownsRow B T 1 v q vs) (hc : CleanBlk (fun y => y = .slice none 0 0 ∨ y ∈ vs) w v) (hr : ∀ j, j < q → ∃ u, vs[j]? = some u ∧ Rws w u (X j) ∧ Dense (X j)) (hu : Rws w u (X q)) (hd : Dense (X q))
    (hg : w.grownBy w' v.ownBlock) (ho' : w'.ownsRow B T 1 v' (q + 1) (vs ++ [u])) (hc' : CleanBlk (fun y => y = .slice none 0 0 ∨ y ∈ vs ++ [u]) w' v') : RlAp w' B T v' (q + 1) X := by
  have hl : vs.length = q := by have := ho.1; omega
  have keep : ∀ {z : Value} {Y : List (List Nat)}, Rws w z Y → Dense Y → Rws w' z Y := fun {z Y} h1 h2 => by
    cases hv : v.ownBlock with
    | none =>
      rw [hv] at hg
      exact h1.ext (ext_below ⟨hg.os, hg.tape, hg.output, hg.size, fun i hi => hg.block i hi (by simp)⟩ rfl)
    | some g =>
      rw [hv] at hg
      refine h1.offS h2 hg fun x y hxy => ?_
      rcases clean_cell hc hv hxy with e | hm
      · exact .inl e
      · obtain ⟨j, hj, rfl⟩ := List.mem_iff_getElem.1 hm
        obtain ⟨u', e, hu', hd'⟩ := hr j (by omega)
        rw [List.getElem?_eq_getElem hj] at e
        rw [Option.some.inj e]
        exact .inr ⟨_, hu', hd'⟩
  refine ⟨_, ho', hc', fun j hj => ?_⟩
  by_cases hjq : j < q
  · obtain ⟨u', e, h1, h2⟩ := hr j hjq
    exact ⟨u', by rw [List.getElem?_append_left (by omega)]; exact e, keep h1 h2, h2⟩
  · obtain rfl : j = q := by omega
    exact ⟨u, by rw [List.getElem?_append_right (by omega), hl]; simp, keep hu hd, hd⟩
theorem RlAp.rwsl {w : World} {B q : Nat} {T : TypeId} {v : Value} {X : Nat → List (List Nat)} (h : RlAp w B T v q X) : RwsL w v ((List.range q).map X) := by
  obtain ⟨vs, hown, _, hrow⟩ := h
  have hlen : ((List.range q).map X).length = q := by simp
  rcases hown.2 with ⟨rfl, rfl⟩ | ⟨g, cap, cur, rfl, hbg, hg, hnc, hcm, hcs, htake⟩
  · exact .inl ⟨rfl, none, 0, rfl⟩
  · refine .inr ⟨g, 0, cap, by rw [hlen], by rw [hlen]; exact hnc, hcm, (Array.getElem?_eq_some_iff.1 hg).1, fun j hj => ?_⟩
    rw [hlen] at hj
    obtain ⟨u, hu, ho, _⟩ := hrow j hj
    refine ⟨u, ?_, by rw [show ((List.range q).map X).getD j [] = X j by simp [hj]]; exact ho⟩
    have := hown.cells (g := g) rfl j u hu
    rw [Addr.add_mid] at this
    exact this
end Go.Proofs.YtpfmmfapdcbnkaaGreatDoor
namespace Go.Proofs.YtpfmmfapdcbnkaaGreatDoor
set_option maxRecDepth 20000
open Go.RowKit Go.Deep
set_option linter.unusedVariables false
set_option maxHeartbeats 1000000 in
theorem fault_any (size : Int) (v : Value) (l : List DC.Dp) (w : World) (hv : Drps w v l) :
    Calls Tryz.prog 64 #[.int .i64 size, v] w fun e w' => e = .returned (.int .i64 (DC.fault size l)) ∧ w.Extends w' := by
  have hm := hv.len
  obtain ⟨a, cap, rfl⟩ := hv.slice
  have HV := Lib.hid hv.at.2
  have H1 : Hid (∀ k, k < l.length → ¬ EsiOk (l.getD k (0, [])).1 → DC.fault size l = 1) := fun k hk h => DC.fault_esi fun ha => h (ha _ (DC.at_mem l k hk))
  have H2 : Hid ((∀ i, i < l.length → EsiOk (l.getD i (0, [])).1) → ∀ k, k < l.length → ((l.getD k (0, [])).2.length : Int) ≠ size → DC.fault size l = 10) := fun h0 k hk h =>
    DC.fault_size ((DC.allOk_iff l).1 fun i hi => by rw [DC.esis_at]; rw [DC.esis_length] at hi; exact h0 i hi) fun ha => h (ha _ (DC.at_mem l k hk))
  have H3 : Hid ((∀ i, i < l.length → EsiOk (l.getD i (0, [])).1) → (∀ i, i < l.length → ((l.getD i (0, [])).2.length : Int) = size) → DC.fault size l = 0) := fun h0 h =>
    DC.fault_ok ((DC.allOk_iff l).1 fun i hi => by rw [DC.esis_at]; rw [DC.esis_length] at hi; exact h0 i hi) fun p hp => by
      obtain ⟨i, hi, rfl⟩ := List.mem_iff_getElem.1 hp
      have := h i hi
      rwa [List.getD_eq_getElem?_getD, List.getElem?_eq_getElem hi] at this
  clear hv
  generalize DC.fault size l = ft at *
  obtain ⟨n, hn⟩ : ∃ n, n = l.length := ⟨_, rfl⟩
  rw [← hn] at HV hm H1 H2 H3 ⊢
  have HN := Lib.hid hn; clear hn
  unfold maxLen at hm
  go_enter Tryz.func64, Tryz.ntmps64
  go_wp2_with fail
  go_loopw [11] (fun i wr => ∃ k : Nat, k ≤ n ∧ i = .int .i64 k ∧ Hid (w.Extends wr) ∧ Hid (∀ i, i < k → EsiOk (l.getD i (0, [])).1)) (fun i _ => (n - intOf i).toNat)
  case atStart => exact ⟨0, by omega, rfl, Lib.hid (Gr.ext_refl _), Lib.hid (fun i hi => absurd hi (Nat.not_lt_zero _))⟩
  case round =>
    obtain ⟨k, hk, rfl, HX, HK⟩ := hrel
    by_cases h1 : k < n
    · obtain ⟨b1, o1, rfl, hb1, hc1⟩ := HV.out (by omega)
      obtain ⟨ra, rc, hr0, hr1, hu⟩ := (hc1 k h1).ext HX.out
      have HK2 : Hid (EsiOk (l.getD k (0, [])).1 → ∀ i, i < k + 1 → EsiOk (l.getD i (0, [])).1) := fun h2 i hi => by
        by_cases e : i = k
        · subst e; exact h2
        · exact HK.out i (by omega)
      have HB := Lib.hid (H1.out k h1)
      clear hc1 hu
      generalize (l.getD k (0, [])).2.length = q at *
      generalize (l.getD k (0, [])).1 = x at *
      have HX1 : Hid (w.Extends (wr.alloc (.cells #[.int .i64 x, .slice ra q rc] 116))) := Gr.ext_trans HX.out (ext_alloc _ _)
      by_cases hx : EsiOk x
      · have HK3 := Lib.hid (HK2.out hx)
        obtain ⟨h2, h3⟩ := hx
        clear HK2 HB HK
        go_wp2
        go_roundw
        case rel => exact ⟨k + 1, by omega, by go_num, HX1, HK3⟩
        case measure => simp [intOf]; omega
      · have hft := HB.out hx
        subst hft
        have hx' : x < 0 ∨ 16777216 ≤ x := by unfold EsiOk at hx; omega
        clear hx HK2 HB HK H1 H2 H3
        rcases hx' with h2 | h2
        all_goals
          go_wp2
          go_ret
          exact ⟨rfl, HX1.out⟩
    · obtain rfl : k = n := by omega
      have HS2 := Lib.hid (H2.out HK.out)
      have HS3 := Lib.hid (H3.out HK.out)
      clear H1 H2 H3 HK
      have HX0 := HX
      clear HX
      go_wp2_with fail
      go_loopw [26] (fun i wq => ∃ m : Nat, m ≤ k ∧ i = .int .i64 m ∧ Hid (w.Extends wq) ∧ Hid (∀ i, i < m → ((l.getD i (0, [])).2.length : Int) = size)) (fun i _ => (k - intOf i).toNat)
      case atStart => exact ⟨0, by omega, rfl, HX0, Lib.hid (fun i hi => absurd hi (Nat.not_lt_zero _))⟩
      case round =>
        obtain ⟨m, hmk, rfl, HX, HK⟩ := hrel
        by_cases h1 : m < k
        · obtain ⟨b1, o1, rfl, hb1, hc1⟩ := HV.out (by omega)
          obtain ⟨ra, rc, hr0, hr1, hu⟩ := (hc1 m h1).ext HX.out
          have HK2 : Hid (((l.getD m (0, [])).2.length : Int) = size → ∀ i, i < m + 1 → ((l.getD i (0, [])).2.length : Int) = size) := fun h2 i hi => by
            by_cases e : i = m
            · subst e; exact h2
            · exact HK.out i (by omega)
          have HB := Lib.hid (HS2.out m h1)
          clear hc1 hu
          generalize (l.getD m (0, [])).2.length = q at *
          generalize (l.getD m (0, [])).1 = x at *
          have HX1 : Hid (w.Extends (wr.alloc (.cells #[.int .i64 x, .slice ra q rc] 116))) := Gr.ext_trans HX.out (ext_alloc _ _)
          by_cases hx : (q : Int) = size
          · have HK3 := Lib.hid (HK2.out hx)
            have hne : ((q : Int) != size) = false := by simpa using hx
            clear HK2 HB HK hx
            go_wp2
            go_roundw
            case rel => exact ⟨m + 1, by omega, by go_num, HX1, HK3⟩
            case measure => simp [intOf]; omega
          · have hft := HB.out hx
            subst hft
            have hne : ((q : Int) != size) = true := by simpa using hx
            clear hx HK2 HB HK HS2 HS3
            go_wp2
            go_ret
            exact ⟨rfl, HX1.out⟩
        · obtain rfl : m = k := by omega
          have hft := HS3.out HK.out
          subst hft
          clear HS2 HS3 HK
          go_wp2
          go_ret
          exact ⟨rfl, HX.out⟩
end Go.Proofs.YtpfmmfapdcbnkaaGreatDoor
namespace Go.Proofs.YtpfmmfapdcbnkaaGreatDoor
set_option maxRecDepth 20000
open Go.RowKit Go.Deep Go.Maps
set_option linter.unusedVariables false
/-- The set of the numbers of these symbols. -/
def met (l : List DC.Dp) : DataW Unit := setOf (.agg []) ((DC.esis l).map (Lit.int .i64))
theorem any_int64 (x : Int) : ∀ l : List Int, l.any ((fun y : Lit => y.sameKey (.int .i64 x)) ∘ Lit.int .i64) = decide (x ∈ l)
  | [] => by simp
  | a :: r => by
    rw [List.any_cons, any_int64 x r]
    show (decide (IntKind.i64 = IntKind.i64 ∧ a = x) || decide (x ∈ r)) = decide (x ∈ a :: r)
    by_cases e : a = x
    · subst e; simp
    · have e' : ¬ x = a := fun h => e h.symm
      simp [e, e']
theorem has_met (l : List DC.Dp) (x : Int) : Maps.has (met l) (.int .i64 x) = decide (x ∈ DC.esis l) := by
  unfold met
  rw [has_setOf _ _ _ (fun y hy => by obtain ⟨_, _, rfl⟩ := List.mem_map.1 hy; trivial), List.any_map]
  exact any_int64 x _
theorem met_new (l : List DC.Dp) (p : DC.Dp) : (met l).put (.int .i64 p.1) (.agg []) = met (l ++ [p]) := by
  unfold met
  rw [DC.esis_snoc, List.map_append, List.map_singleton, setOf_snoc]
theorem key_law : Keyed Tryz.prog 3 := int_keyed Tryz.underlying3
theorem zero_unit (w : World) : (zeroValue 147).run Tryz.prog w = .ok (.agg #[]) w := by kernel_rfl
theorem row_ne {w : World} {base : Nat} {e : TypeId} {size : Nat} {v : Value} {n : Nat} {xs : List Value} (h : w.ownsRow base e size v n xs) {b : Nat} (hb : b < base) : some b ≠ v.ownBlock := fun e1 => by
  have := (h.lt b e1.symm).1
  omega
theorem RowOk.map_kept {w w' : World} {R g n : Nat} {D : DataW Unit} {u : Value} {xs : List Nat} (h : RowOk w R u xs) (hm : w.ownsMap Tryz.prog 3 unitElem g n D) (hR : R ≤ g) (hg : w.grownBy w' (some g)) : RowOk w' R u xs := by
  refine h.grown hg ?_
  rcases h.2 with h0 | h0
  · exact .inl h0
  · refine .inr fun e => ?_
    obtain ⟨_, h1⟩ := h0 g e
    rcases h1 with h1 | ⟨cs, hcs⟩
    · omega
    · obtain ⟨es, cl, hb, _⟩ := hm
      rw [hcs] at hb
      cases hb
theorem esi_wf {x : Int} (h : EsiOk x) : (Lit.int .i64 x).wf = true := by
  obtain ⟨h1, h2⟩ := h
  have e1 : IntKind.i64.min = -9223372036854775808 := by decide
  have e2 : IntKind.i64.max = 9223372036854775807 := by decide
  show (decide (IntKind.i64.min ≤ x) && decide (x ≤ IntKind.i64.max)) = true
  rw [e1, e2, Bool.and_eq_true, decide_eq_true_eq, decide_eq_true_eq]
  omega
/-- The answer reads as these symbols. -/
def DNew (w : World) (l : List DC.Dp) (e : Ending) (w' : World) : Prop := ∃ v, e = .returned v ∧ w.Extends w' ∧ Drps w' v l
theorem met_step {wa w1 : World} {g k n : Nat} {v : Value} {A : List DC.Dp} {D' : DataW Unit} (hm : wa.ownsMap Tryz.prog 3 unitElem g n D') (hd : DMats wa (g + 1) g v k A) (hg : wa.grownBy w1 (some g)) : DMats w1 (g + 1) g v k A := by
  obtain ⟨vs, ho, hr⟩ := hd
  refine ⟨vs, ho.kept hg (Or.inr (row_ne ho (Nat.lt_succ_self _)).symm), fun j hj => ?_⟩
  obtain ⟨h0, u, h1, h2⟩ := hr j hj
  exact ⟨h0, u, h1, h2.map_kept hm (Nat.le_refl _) hg⟩
set_option maxHeartbeats 1000000 in
set_option maxRecDepth 100000 in
theorem firsts_any (v : Value) (l : List DC.Dp) (w : World) (hv : Drps w v l) (hl : l.length ≤ 1000) (hok : ∀ p ∈ l, EsiOk p.1) :
    Calls Tryz.prog 67 #[v] w (DNew w (DC.first l)) := by
  have hmm := @run_makeMap Tryz.prog
  obtain ⟨i0, hi, hz0, hz1, hz2⟩ := info_parts dropinfo
  have HI := Lib.hid hi; clear hi
  have HZ0 := Lib.hid hz0; clear hz0
  have HZ1 := Lib.hid hz1; clear hz1
  have HZ2 := Lib.hid hz2; clear hz2
  obtain ⟨a, cap, rfl⟩ := hv.slice
  have HV := Lib.hid hv.at.2
  have HWF : Hid (∀ k, k < l.length → keyOf Tryz.prog 3 (.int .i64 (l.getD k (0, [])).1) = some (.int .i64 (l.getD k (0, [])).1)) := fun k hk => keyOf_int_mk Tryz.underlying3 (esi_wf (hok _ (DC.at_mem l k hk)))
  have HOLD := Lib.hid (DC.first_old l)
  have HNEW := Lib.hid (DC.first_new l)
  have HLE : Hid (∀ k, (DC.first (l.take k)).length ≤ k) := fun k => Nat.le_trans (DC.first_length _) (by rw [List.length_take]; exact Nat.min_le_left _ _)
  have HALL : Hid (DC.first (l.take l.length) = DC.first l) := by show _ = _; rw [List.take_length]
  clear hv hok
  obtain ⟨n, hn⟩ : ∃ n, n = l.length := ⟨_, rfl⟩
  rw [← hn] at HV hl HWF HOLD HNEW HALL ⊢
  clear hn
  go_enter Tryz.func67, Tryz.ntmps67
  go_wp2_with fail
  generalize hg0 : w.heap.size = g0 at *
  go_loopw [4, 12] (fun o i wr => ∃ k : Nat, k ≤ n ∧ i = .int .i64 k ∧ Hid (w.Extends wr) ∧ g0 < wr.heap.size ∧ Hid (wr.ownsMap Tryz.prog 3 unitElem g0 k (met (DC.first (l.take k)))) ∧ Hid (DMats wr (g0 + 1) g0 o (DC.first (l.take k)).length (DC.first (l.take k)))) (fun _ i _ => (n - intOf i).toNat)
  case atStart => exact ⟨0, by omega, rfl, Lib.hid (ext_alloc _ _), by simp; omega, Lib.hid (by rw [← hg0]; exact World.ownsMap_made _ _ _ _), Lib.hid (DMats.nil _ _ _ _)⟩
  case round =>
    obtain ⟨k, hk, rfl, HX, hgs, HMP, HDM⟩ := hrel
    by_cases h1 : k < n
    · obtain ⟨b1, o1, rfl, hb1, hc1⟩ := HV.out (by omega)
      have hkey := HWF.out k h1
      obtain ⟨ra, rc, hr0', hr1', hu⟩ := hc1 k h1
      have hr0 := HX.out.cell_of hr0'
      have hr1 := HX.out.cell_of hr1'
      have HU : Hid (RowOk wr g0 (.slice ra (l.getD k (0, [])).2.length rc) (l.getD k (0, [])).2) := (RowOk.old hu (by omega)).ext HX.out
      have HO := Lib.hid (HOLD.out k h1)
      have HN := Lib.hid (HNEW.out k h1)
      have hle := HLE.out k
      clear hc1 hr0' hr1' hu
      generalize DC.first (l.take k) = A at *
      generalize hA' : DC.first (l.take (k + 1)) = A' at *
      have HA' := Lib.hid hA'
      clear hA'
      have hbs := HX.out.size
      have hhas := has_met A (l.getD k (0, [])).1
      have HPUT := Lib.hid (met_new A (l.getD k (0, [])))
      generalize hp : l.getD k (0, []) = p at *
      clear hp
      obtain ⟨x, row⟩ := p
      simp only at hkey hr0 hr1 HU HO HN hhas HPUT
      generalize hD : met A = D at *
      obtain ⟨q, hq⟩ : ∃ q, q = row.length := ⟨_, rfl⟩
      rw [← hq] at hr1 HU
      have HQ := Lib.hid hq
      clear hq
      have hown := HMP.out
      by_cases hx : x ∈ DC.esis A
      · rw [decide_eq_true hx] at hhas
        obtain rfl := HO.out hx
        have HMP2 : Hid (((wr.alloc (.cells #[.int .i64 x, .slice ra q rc] 116)).alloc (.cells #[] 147)).ownsMap Tryz.prog 3 unitElem g0 (k + 1) (met A')) := by
          rw [hD]; exact ((hown.alloc _).alloc _).mono (Nat.le_succ _)
        have HX2 : Hid (w.Extends ((wr.alloc (.cells #[.int .i64 x, .slice ra q rc] 116)).alloc (.cells #[] 147))) := Gr.ext_trans HX.out (Gr.ext_trans (ext_alloc _ _) (ext_alloc _ _))
        have HDM2 : Hid (DMats ((wr.alloc (.cells #[.int .i64 x, .slice ra q rc] 116)).alloc (.cells #[] 147)) (g0 + 1) g0 u4 A'.length A') := HDM.out.ext (Gr.ext_trans (ext_alloc _ _) (ext_alloc _ _))
        clear HPUT HO HN hD
        go_wp2_with (at_lookup; refine wpList_lookup_own_unit _ rfl _ _ 146 rfl 3 147 key_law Tryz.underlying146 (zero_unit _) g0 k _ rfl (hown.alloc _) _ _ rfl hkey ?_)
        go_roundw
        case rel => exact ⟨k + 1, by omega, by go_num, HX2, by simp; omega, by rw [HA'.out]; exact HMP2, by rw [HA'.out]; exact HDM2⟩
        case measure => simp [intOf]; omega
      · rw [decide_eq_false hx] at hhas
        have hA2 := HN.out hx
        have hbw : wr.heap.size < ((wr.alloc (.cells #[.int .i64 x, .slice ra q rc] 116)).alloc (.cells #[] 147)).heap.size := by simp; omega
        have HBX : Hid (wr.Extends ((wr.alloc (.cells #[.int .i64 x, .slice ra q rc] 116)).alloc (.cells #[] 147))) := Gr.ext_trans (ext_alloc _ _) (ext_alloc _ _)
        have HC0 : Hid (((wr.alloc (.cells #[.int .i64 x, .slice ra q rc] 116)).alloc (.cells #[] 147)).cell? ⟨wr.heap.size, 0, none⟩ = some (.int .i64 x)) := (ext_alloc _ _).cell_of (box_two wr _ _ _).1
        have HC1 : Hid (((wr.alloc (.cells #[.int .i64 x, .slice ra q rc] 116)).alloc (.cells #[] 147)).cell? ⟨wr.heap.size, 1, none⟩ = some (.slice ra q rc)) := (ext_alloc _ _).cell_of (box_two wr _ _ _).2
        have HMB : Hid (((wr.alloc (.cells #[.int .i64 x, .slice ra q rc] 116)).alloc (.cells #[] 147)).ownsMap Tryz.prog 3 unitElem g0 k D) := (hown.alloc _).alloc _
        go_wp2_with (first | (at_lookup; refine wpList_lookup_own_unit _ rfl _ _ 146 rfl 3 147 key_law Tryz.underlying146 (zero_unit _) g0 k _ rfl (hown.alloc _) _ _ rfl hkey ?_) | (at_mapUpdate; refine wpList_mapUpdate_own _ rfl _ _ _ 146 rfl 3 147 key_law Tryz.underlying146 (unitElem (H := Unit)) g0 k _ rfl ((hown.alloc _).alloc _) (by unfold maxLen; omega) _ _ _ rfl rfl hkey _ [] unitElem_mk ?_))
        generalize hwb : World.alloc (World.alloc wr _) _ = wb at *
        intro w1 hown1 hgrow1
        have hs1 := hgrow1.size
        have hbs2 := HBX.out.size
        have hc0 : w1.cell? ⟨wr.heap.size, 0, none⟩ = some (.int .i64 x) := (World.cell?_of_block (hgrow1.block wr.heap.size hbw (by intro h; simp at h; omega))).trans HC0.out
        have hc1 : w1.cell? ⟨wr.heap.size, 1, none⟩ = some (.slice ra q rc) := (World.cell?_of_block (hgrow1.block wr.heap.size hbw (by intro h; simp at h; omega))).trans HC1.out
        have HX1 : Hid (w.Extends w1) := Gr.ext_of ((Gr.below_of (Gr.ext_trans HX.out HBX.out)).grown hgrow1 (by omega) (fun j hj => by cases hj; omega))
        have HDM1 := Lib.hid (met_step HMB.out (HDM.out.ext HBX.out) hgrow1)
        have HU1 := Lib.hid ((HU.out.ext HBX.out).map_kept HMB.out (Nat.le_refl _) hgrow1)
        have HMP1 : Hid (w1.ownsMap Tryz.prog 3 unitElem g0 (k + 1) (met A')) := by rw [hA2, ← HPUT.out]; exact hown1
        obtain ⟨vs, hown2, hrows⟩ := HDM1.out
        have HOWN := Lib.hid hown2
        have HROWS := Lib.hid hrows
        have HOB : Hid (∀ g, u4.ownBlock = some g → w.heap.size ≤ g) := fun g hg => by have := (HOWN.out.lt g hg).1; omega
        clear hwb hown1 hgrow1 HBX HC0 HC1 HMB hown2 hrows HDM1 HDM HMP HX HU hown HO HN hhas hr0 hr1
        go_wp2_with (at_builtin; refine wpList_append_own_src _ rfl _ _ 86 86 rfl (g0 + 1) 116 i0 (.agg #[.int .i64 0, .slice none 0 0]) 2 32 Tryz.underlying86 HI.out HZ0.out HZ1.out HZ2.out rfl _ _ _ rfl (HOWN.out.alloc _) _ 1 [.int .i64 x, .slice ra q rc] rfl (src_two Tryz.underlying86 _ _ rfl rfl rfl) (by unfold maxLen; omega) (by omega) (by simp; omega) ?_)
        intro v' w3 ho3 hg3 _
        have HP : Hid (w.Extends w3 ∧ w3.ownsMap Tryz.prog 3 unitElem g0 (k + 1) (met A') ∧ DMats w3 (g0 + 1) g0 v' A'.length A') := by
          refine ⟨Gr.ext_of (((Gr.below_of HX1.out).alloc HX1.out.size _).grown hg3 (by simp; omega) HOB.out), (HMP1.out.alloc _).kept hg3 (row_ne HOWN.out (Nat.lt_succ_self _)), ?_⟩
          rw [hA2, List.length_append]
          exact DMats.snoc (p := (x, row)) (Nat.le_succ _) rfl (HOWN.out.alloc _) (fun j hj => by obtain ⟨h0, u, h1, h2⟩ := HROWS.out j hj; exact ⟨h0, u, h1, h2.ext (ext_alloc _ _)⟩) (HU1.out.ext (ext_alloc _ _)) hg3 ho3
        have hs3 := hg3.size
        clear ho3 hg3
        go_wp2
        go_roundw
        case rel => exact ⟨k + 1, by omega, by go_num, Lib.hid HP.out.1, by simp at hs3; omega, by rw [HA'.out]; exact Lib.hid HP.out.2.1, by rw [HA'.out]; exact Lib.hid HP.out.2.2⟩
        case measure => simp [intOf]; omega
    · obtain rfl : k = n := by omega
      have HP : Hid (DNew w (DC.first l) (.returned u4) wr) := ⟨u4, rfl, HX.out, by have := HDM.out.drps rfl; rwa [HALL.out] at this⟩
      go_wp2
      go_ret
      exact HP.out
end Go.Proofs.YtpfmmfapdcbnkaaGreatDoor
