/- In one text: StoTomb, GrowR. -/
import Derived.Test.YtdbdnfjgmdkneaaMC1
import Derived.Test.YtdbdnfjgmdkneaaMC4
import Derived.Test.YtdbdnfjgmdkneaaMC7
namespace Go.Proofs.Ytdbdnfjgmdkneaa
set_option maxRecDepth 20000
open Go.RowKit Go.Deep Go.Maps
set_option linter.unusedVariables false
theorem SAtX.still_own {w w2 : World} {t : Nat} {D : Nat → Prop} {st : Sto} {v : Value} {mp : Option Nat} {ps : List Pr} (h : SAtX w t D st v mp ps) (hg : w.grownBy w2 v.ownBlock) {T : TypeId} (hT : T ≠ 28) : Still T w w2 := fun i cs f hi => hg.block i (Array.getElem?_eq_some_iff.1 hi).1 (fun e => by
  obtain ⟨_, cs', hc'⟩ := h.apart.1 i e.symm
  rw [hi] at hc'
  simp only [Option.some.injEq, Obj.cells.injEq] at hc'
  exact hT hc'.2.1)
/-- A map, new, where there was none. -/
theorem SAtX.new_map {w w2 w3 : World} {t : Nat} {D : Nat → Prop} {st : Sto} {v : Value} {ps : List Pr} (h : SAtX w t D st v none ps) (hw2 : w2 = w.setCell ⟨t, 4, none⟩ (.map (some w.heap.size))) (hw : w3 = w2.alloc (.map #[] 0)) : SAtX w3 t (Nx D w w3) st v (some w.heap.size) ps ∧ PFr D w w3 := by
  obtain ⟨hl2, hg2⟩ := h.log.rest (i := 2) (.map (some w.heap.size)) hw2
  have hx : w2.Extends w3 := by subst hw; exact ext_alloc _ _
  have hsz2 : w2.heap.size = w.heap.size := by subst hw2; simp
  have hsz : w3.heap.size = w.heap.size + 1 := by subst hw; simp [hsz2]
  obtain ⟨p, hb, _⟩ := h.cells
  have hst : ∀ T, T ≠ 60 → Still T w w2 := fun T hT => Still.grown hg2 hb (Ne.symm hT)
  have hv't : v.ownBlock ≠ some t := fun e => (h.apart.1 t e).1 rfl
  have ht0 : st.t = [] := by
    rcases h.tombs with ⟨_, e⟩ | ⟨b, E, e, _⟩
    · exact e
    · cases e
  refine ⟨⟨hl2.ext hx, .inl h.here, (h.own.kept hg2 (.inr hv't)).ext hx, h.recs, fun g hg => .inl (h.inD g hg), ((Reads.mono h.data fun i hi => .inl hi).still hg2.size (hst _ (by decide))).still hx.size (Still.ext hx), ?_⟩, (Fr.grown (D := D) hg2 (fun g hg => by have := Option.some.inj hg; subst this; exact h.here)).trans (Fr.ext (D := D) hx) fun _ _ h => h, (hst _ (by decide)).trans (Still.ext hx), (hst _ (by decide)).trans (Still.ext hx)⟩
  refine .inr ⟨w.heap.size, .map [], rfl, .inr ⟨Nat.le_refl _, by omega⟩, ?_, by rw [ht0]; exact Ties.nil⟩
  have := (World.ownsMap_made (H := Unit) w2 Try.prog 23 (plainElem Try.prog 3))
  rw [← hw, hsz2] at this
  rw [ht0]
  exact this
/-- The map, written. -/
theorem SAtX.upd_map {w w2 : World} {t b : Nat} {D : Nat → Prop} {st : Sto} {v : Value} {ps : List Pr} {n : Nat} {E' : DataW Unit} {t' : List Rc} (h : SAtX w t D st v (some b) ps) (hg : w.grownBy w2 (some b)) (ho : w2.ownsMap Try.prog 23 (plainElem Try.prog 3) b n E') (hE : Ties E' t') : SAtX w2 t D { st with t := t' } v (some b) ps ∧ PFr D w w2 := by
  obtain ⟨ha, hb⟩ := h.apart
  obtain ⟨hbt, hbv⟩ := hb b rfl
  obtain ⟨hDb, es, c, hh⟩ := h.tombs.block
  have hst : ∀ T, Still T w w2 := fun T => Still.map hg hh
  have hf : Fr D w w2 := Fr.grown hg (fun g e => by have := Option.some.inj e; subst this; exact hDb)
  refine ⟨⟨h.log.keep (fun k cs hk => hst _ k cs _ hk) (hg.block t h.lt (by simpa using fun e => hbt e.symm)), h.here, h.own.kept hg ?_, h.recs, h.inD, h.data.still hg.size (hst _), .inr ⟨b, E', rfl, hDb, by rw [← hE.size]; exact tight ho, hE⟩⟩, hf, hst _, hst _⟩
  cases hv : v.ownBlock with
  | none => exact .inl rfl
  | some g => exact .inr (by rw [← hv]; exact hbv)
theorem del_all (F c : Nat) (hen : Enters F) (q : Rc → Bool) (v : Value) (ps : List Pr) (w : World) (hv : OwnR w v ps) (hl : ps.length ≤ 1000) (hF : Tells F c q w) (hc : c < w.heap.size) (hcg : v.ownBlock ≠ some c) :
    Calls Try.prog 71 #[v, .func (.func F) #[] #[.pointer (some ⟨c, 0, none⟩)]] w (DelOut w v (ps.filter (fun p => !q p.1))) := by
  rcases hv.kinds with ⟨rfl, rfl⟩ | ⟨g, cap, rfl⟩
  · exact del_nil F c hen q w hF hc
  · exact del_any F c hen q g cap ps.length ps w hv hl hF hc (fun e => hcg (by rw [e]; rfl))
theorem recs_filter (ps : List Pr) (q : Rc → Bool) : recs (ps.filter (fun p => q p.1)) = (recs ps).filter q := by
  unfold recs
  rw [List.filter_map]; rfl
theorem eql_map_nil (m : Option Nat) (w : World) : (binOp .eql 58 (.map m) (.map none)).run Try.prog w = .ok (.bool m.isNone) w := by
  have h : ∀ d, (Op.equalIn (d + 1) 58 (.map m) (.map none)).run Try.prog w = .ok m.isNone w := fun d => by
    cases m <;> simp [Op.equalIn, run_underlying Try.underlying58]
  simp only [binOp]
  simp [Op.equal, Op.maxDepth, h 9999]
theorem enters_tomb : Enters 103 := enters_of Try.func103 (by kernel_rfl) (by kernel_rfl)
def isOf (r : Rc) (x : Rc) : Bool := decide (SM.Of x r)
theorem tells_tomb (y : Nat) (r : Rc) (u : Value) (w : World) (h : w.rangeAt y 0 (r.cells u)) (hy : y < w.heap.size) : Tells 103 y (isOf r) w := fun p w' hs hb => by
  have h0 : w'.cell? ⟨y, 0, none⟩ = some (.int .i64 r.p) := by rw [World.cell?_of_block (w := w) (w' := w') (a := ⟨y, 0, none⟩) hb]; exact h 0 _ rfl
  have h1 : w'.cell? ⟨y, 1, none⟩ = some (.int .i64 r.n) := by rw [World.cell?_of_block (w := w) (w' := w') (a := ⟨y, 1, none⟩) hb]; exact h 1 _ rfl
  have hy' : y < w'.heap.size := World.block_lt_of_cell? w' _ h0
  have HQ : Hid (isOf r p.1 = decide (p.1.p = r.p ∧ p.1.n = r.n)) := rfl
  obtain ⟨⟨xp, xn, xb, xs, xm, xk, xe, xg, xu, xd⟩, v⟩ := p
  obtain ⟨ua, uc, hu⟩ := hs
  simp only at hu
  subst hu
  generalize isOf r (⟨xp, xn, xb, xs, xm, xk, xe, xg, xu, xd⟩, Value.slice ua xd.length uc).1 = b at *
  generalize r.p = rp at *
  generalize r.n = rn at *
  clear hb h hy
  show Calls Try.prog 103 #[.agg #[.int .i64 xp, .int .i64 xn, .int .i64 xb, .int .i64 xs, .int .i64 xm, .int .i64 xk, .int .i64 xe, .bool xg, .int .i64 xu, .slice ua xd.length uc], _] w' _
  go_enter Try.func103, Try.ntmps103
  go_upto_region 1 with fail
  generalize hw1 : World.alloc w' _ = w1
  have hx1 : w'.Extends w1 := by subst hw1; exact ext_alloc _ _
  have hb1 : w1.rangeAt w'.heap.size 0 (Rc.cells ⟨xp, xn, xb, xs, xm, xk, xe, xg, xu, xd⟩ (.slice ua xd.length uc)) := by subst hw1; exact box_rec w' 28 ⟨xp, xn, xb, xs, xm, xk, xe, xg, xu, xd⟩ _
  have d0 : w1.cell? ⟨w'.heap.size, 0, none⟩ = some (.int .i64 xp) := hb1 0 _ rfl
  have d1 : w1.cell? ⟨w'.heap.size, 1, none⟩ = some (.int .i64 xn) := hb1 1 _ rfl
  have e0 := hx1.cell_of h0
  have e1 := hx1.cell_of h1
  have HX := Lib.hid hx1
  clear hw1 hx1 hb1 h0 h1
  generalize w'.heap.size = z at *
  by_cases h1 : xp = rp
  · subst h1
    by_cases h2 : xn = rn
    · subst h2
      have hbt : b = true := by rw [HQ.out]; simp
      go_wp2
      go_ret
      exact ⟨rfl, HX.out⟩
    · have hbt : b = false := by rw [HQ.out]; simp [h2]
      go_wp2
      go_ret
      exact ⟨rfl, HX.out⟩
  · have hbt : b = false := by rw [HQ.out]; simp [h1]
    go_wp2
    go_ret
    exact ⟨rfl, HX.out⟩
theorem kept_of {r : Rc} {l t : List Rc} (hal : ∀ x ∈ l, ¬ SM.Has t x) (hh : SM.Has t r) : l.filter (fun x => !isOf r x) = l := by
  refine List.filter_eq_self.2 fun x hx => ?_
  have : ¬ SM.Of x r := fun ho => hal x hx ((SM.has_iff t x).2 (by
    obtain ⟨y, hy, h⟩ := (SM.has_iff t r).1 hh
    exact ⟨y, hy, h.1.trans ho.1.symm, h.2.trans ho.2.symm⟩))
  simp [isOf, this]
set_option maxHeartbeats 2000000 in
theorem tomb_late (t : Nat) (D : Nat → Prop) (st : Sto) (r : Rc) (ua : Option Addr) (uc : Nat) (w : World) (v : Value) (mp : Option Nat) (ps : List Pr) (h : SAtX w t D st v mp ps) (hl : st.l.length ≤ 1000) (htl : st.t.length ≤ 1000000) (hr : KM.Right r) (hal : ∀ x ∈ st.l, ¬ SM.Has st.t x) (hh : SM.Has st.t r) (hu : ¬ (st.t.getD (SM.tat r st.t) Rc.zero).u < r.u) :
    Calls Try.prog 89 #[.pointer (some ⟨t, 0, none⟩), r.val (.slice ua r.d.length uc)] w fun e w' => e = .returned (.bool false) ∧ Left w t D (SM.buryOf st r).1 w' := by
  have hid : IdOk r := ⟨by have := hr.1; omega, by have := hr.2.1; omega⟩
  have hru : -9223372036854775808 ≤ r.u ∧ r.u ≤ 9223372036854775807 := by have := hr.2.2.1; omega
  have HL : Hid (∀ w', w.Extends w' → (Instr.lookup 58 (.map mp) (.agg #[.int .i64 r.p, .int .i64 r.n]) true).run Try.prog w' = .ok (.tuple #[.int .i64 (goneU st.t r), .bool (decide (SM.Has st.t r))]) w') := fun w' hx => (h.ext hx).tombs.look r hid
  obtain ⟨p, hb, c2, c3, c4, f3, f4⟩ := h.cells
  have HC : Hid (∀ w', w.Extends w' → w'.cell? ⟨t, 3, none⟩ = some v ∧ w'.cell? ⟨t, 4, none⟩ = some (.map mp) ∧ w'.frozen? ⟨t, 3, none⟩ = false) := fun w' hx => ⟨hx.cell_of c3, hx.cell_of c4, (hx.frozen ⟨t, 3, none⟩ h.lt).trans f3⟩
  have HBOX : Hid (∀ w1, w.alloc (.cells (r.cells (.slice ua r.d.length uc)).toArray 28) = w1 → w1.rangeAt w.heap.size 0 (r.cells (.slice ua r.d.length uc)) ∧ w.heap.size < w1.heap.size) := fun w1 e => by subst e; exact ⟨box_rec w _ r _, by simp⟩
  have HP : Hid (∀ w', w.Extends w' → Left w t D (SM.buryOf st r).1 w') := fun w' hx => by
    unfold SM.buryOf
    rw [if_pos hh, if_neg hu]
    exact Left.ext ⟨v, mp, ps, h⟩ hx
  have hgu : goneU st.t r = (st.t.getD (SM.tat r st.t) Rc.zero).u := by unfold goneU; rw [if_pos hh]
  rw [← hgu] at hu
  rw [decide_eq_true hh] at HL
  have hdu : decide (r.u ≤ goneU st.t r) = true := decide_eq_true (by omega)
  have hge : r.u ≤ goneU st.t r := by omega
  clear h hb c2 c3 c4 f3 f4 hh hgu hal hid
  obtain ⟨rp, rn, rb, rs, rm, rk, re, rg, ru, rd⟩ := r
  show Calls Try.prog 89 #[_, .agg #[.int .i64 rp, .int .i64 rn, .int .i64 rb, .int .i64 rs, .int .i64 rm, .int .i64 rk, .int .i64 re, .bool rg, .int .i64 ru, .slice ua rd.length uc]] w _
  simp only at HL hu hdu hge
  generalize (SM.buryOf st ⟨rp, rn, rb, rs, rm, rk, re, rg, ru, rd⟩).1 = st' at *
  generalize goneU st.t ⟨rp, rn, rb, rs, rm, rk, re, rg, ru, rd⟩ = tu at *
  go_enter Try.func89, Try.ntmps89
  go_wp2_with fail
  generalize hw1 : World.alloc w _ = w1
  have hx1 : w.Extends w1 := by subst hw1; exact ext_alloc _ _
  obtain ⟨hb1, hy1⟩ := HBOX.out w1 hw1
  have HX1 := Lib.hid hx1
  have HB1 : Hid (w1.drew.rangeAt w.heap.size 0 (Rc.cells ⟨rp, rn, rb, rs, rm, rk, re, rg, ru, rd⟩ (.slice ua rd.length uc))) := hb1
  have hy1d : w.heap.size < w1.drew.heap.size := hy1
  have HXD := Lib.hid (Gr.ext_drew hx1)
  clear hw1 hx1 hb1 hy1 HBOX
  obtain ⟨y, hy⟩ : ∃ y, y = w.heap.size := ⟨_, rfl⟩
  rw [← hy] at HB1 hy1d ⊢
  have HYW := Lib.hid hy
  clear hy
  refine Gr.region 11 [(false,0),(false,1),(false,2),(false,3),(false,4),(false,5),(false,6),(false,7),(false,8),(false,9),(false,10)] (by kernel_rfl) (by kernel_rfl) (fun d _ _ _ _ h => by cases d <;> exact h) ?_
  simp only [Gr.pick, List.getElem?_cons_zero, List.getElem?_cons_succ, List.drop_succ_cons, List.drop_zero]
  generalize w1.drew = wd at *
  iterate 6
    refine Gr.walk_t ?_ (Or.inl ⟨by rfl, ?_⟩) ?_
    rotate_left
    · intro w' hw'
      obtain ⟨e0, e1, e2⟩ := HC.out w' (Gr.ext_trans HXD.out hw')
      obtain ⟨d0, d1, d2, d3, d4, d5, d6, d7, d8, d9⟩ := RCell.ten (rangeAt_ext HB1.out hw')
      simp only [Nat.zero_add] at d0 d1 d2 d3 d4 d5 d6 d7 d8 d9
      clear hw'
      go_simp
      try with_reducible rfl
    simp only [Act.put, List.setIfInBounds_toArray, List.set_cons_zero, List.set_cons_succ]
  refine Gr.walk_t ?_ (Or.inl ⟨by rfl, ?_⟩) ?_
  rotate_left
  · intro w' hw'
    have hlk := HL.out w' (Gr.ext_trans HXD.out hw')
    clear hw'
    go_simp
    try with_reducible rfl
  simp only [Act.put, List.setIfInBounds_toArray, List.set_cons_zero, List.set_cons_succ]
  iterate 4
    refine Gr.walk_t ?_ (Or.inl ⟨by rfl, ?_⟩) ?_
    rotate_left
    · intro w' hw'
      clear hw'
      go_simp
      try with_reducible rfl
    simp only [Act.put, List.setIfInBounds_toArray, List.set_cons_zero, List.set_cons_succ]
  refine Gr.walk_nil ?_
  obtain ⟨d0, d1, d2, d3, d4, d5, d6, d7, d8, d9⟩ := RCell.ten HB1.out
  simp only [Nat.zero_add] at d0 d1 d2 d3 d4 d5 d6 d7 d8 d9
  go_wp2
  go_ret
  exact ⟨rfl, HP.out wd HXD.out⟩
set_option maxHeartbeats 2000000 in
theorem tomb_old (t : Nat) (D : Nat → Prop) (st : Sto) (r : Rc) (ua : Option Addr) (uc : Nat) (w : World) (v : Value) (b : Nat) (ps : List Pr) (h : SAtX w t D st v (some b) ps) (hl : st.l.length ≤ 1000) (htl : st.t.length ≤ 1000000) (hr : KM.Right r) (hal : ∀ x ∈ st.l, ¬ SM.Has st.t x) (hh : SM.Has st.t r) (hu : (st.t.getD (SM.tat r st.t) Rc.zero).u < r.u) :
    Calls Try.prog 89 #[.pointer (some ⟨t, 0, none⟩), r.val (.slice ua r.d.length uc)] w fun e w' => e = .returned (.bool true) ∧ Left w t D (SM.buryOf st r).1 w' := by
  have hid : IdOk r := ⟨by have := hr.1; omega, by have := hr.2.1; omega⟩
  have hru : -9223372036854775808 ≤ r.u ∧ r.u ≤ 9223372036854775807 := by have := hr.2.2.1; omega
  have HL : Hid (∀ w', w.Extends w' → (Instr.lookup 58 (.map (some b)) (.agg #[.int .i64 r.p, .int .i64 r.n]) true).run Try.prog w' = .ok (.tuple #[.int .i64 (goneU st.t r), .bool (decide (SM.Has st.t r))]) w') := fun w' hx => (h.ext hx).tombs.look r hid
  obtain ⟨p, hb, c2, c3, c4, f3, f4⟩ := h.cells
  have HC : Hid (∀ w', w.Extends w' → w'.cell? ⟨t, 3, none⟩ = some v ∧ w'.cell? ⟨t, 4, none⟩ = some (.map (some b)) ∧ w'.frozen? ⟨t, 3, none⟩ = false) := fun w' hx => ⟨hx.cell_of c3, hx.cell_of c4, (hx.frozen ⟨t, 3, none⟩ h.lt).trans f3⟩
  have HBOX : Hid (∀ w1, w.alloc (.cells (r.cells (.slice ua r.d.length uc)).toArray 28) = w1 → w1.rangeAt w.heap.size 0 (r.cells (.slice ua r.d.length uc)) ∧ w.heap.size < w1.heap.size) := fun w1 e => by subst e; exact ⟨box_rec w _ r _, by simp⟩
  have hgu : goneU st.t r = (st.t.getD (SM.tat r st.t) Rc.zero).u := by unfold goneU; rw [if_pos hh]
  rw [decide_eq_true hh] at HL
  have hge : ¬ r.u ≤ goneU st.t r := by omega
  have HFIN : Hid (∀ w3 w4 E' n v' qs, SAtX w3 t (Nx D w w3) { st with l := st.l.filter (fun x => !isOf r x) } v' (some b) qs → PFr D w w3 → w3.grownBy w4 (some b) → w4.ownsMap Try.prog 23 (plainElem Try.prog 3) b n E' → Ties E' (st.t.set (SM.tat r st.t) r) → Left w t D (SM.buryOf st r).1 w4) := fun w3 w4 E' n v' qs hs hf hg ho hE => by
    obtain ⟨h1, h2⟩ := hs.upd_map hg ho hE
    unfold SM.buryOf
    rw [if_pos hh, if_pos hu]
    rw [kept_of hal hh] at h1
    refine ⟨⟨_, _, _, h1.mono fun i hi => ?_⟩, hf.next h2⟩
    rcases hi with hi | hi
    · exact .inl hi
    · have := hg.size; exact .inr (by omega)
  have HTIE : Hid (∀ E, Ties E st.t → Ties (E.put (idLit r) (.lit (.int .i64 r.u))) (st.t.set (SM.tat r st.t) r)) := fun E hE => hE.put_old hid hh
  have HSX := Lib.hid (rfl : (1 : Nat) = 1)
  have hln : ps.length ≤ 1000 := by rw [h.len]; exact hl
  have HDEL : Hid (∀ (y : Nat) (w1 : World), w.Extends w1 → y = w.heap.size → w1.rangeAt y 0 (r.cells (.slice ua r.d.length uc)) → Calls Try.prog 71 #[v, .func (.func 103) #[] #[.pointer (some ⟨y, 0, none⟩)]] w1 (DelOut w1 v (ps.filter (fun p => !isOf r p.1)))) := fun y w1 hx hy hbx => by
    have hyl : y < w1.heap.size := World.block_lt_of_cell? w1 _ (hbx 0 _ rfl)
    refine del_all _ y enters_tomb (isOf r) v ps w1 (h.own.ext hx) hln (tells_tomb y r _ w1 hbx hyl) hyl (fun e => ?_)
    have := (h.own.1.lt y e).2
    omega
  have HPUT : Hid (∀ w1 w2 w3 a' c', w.Extends w1 → OwnR w2 (.slice a' (ps.filter (fun p => !isOf r p.1)).length c') (ps.filter (fun p => !isOf r p.1)) → w1.grownBy w2 v.ownBlock → (Value.slice a' (ps.filter (fun p => !isOf r p.1)).length c').ownBlock = v.ownBlock → w3 = w2.setCell ⟨t, 3, none⟩ (.slice a' (ps.filter (fun p => !isOf r p.1)).length c') →
      SAtX w3 t (Nx D w w3) { st with l := st.l.filter (fun x => !isOf r x) } (.slice a' (ps.filter (fun p => !isOf r p.1)).length c') (some b) (ps.filter (fun p => !isOf r p.1)) ∧ PFr D w w3) := fun w1 w2 w3 a' c' hx1 ho hg hn hw3 => by
    have h1 := h.ext hx1
    have hst8 : Still 5 w1 w2 := h1.still_own hg (by decide)
    have := h1.put_slice hg ho (.inl hn) (Reads.still (Reads.mono (D := D) (fun p hp => h1.data p (List.mem_filter.1 hp).1) fun i hi => .inl hi) hg.size hst8) hw3
    rw [recs_filter ps (fun x => !isOf r x), h1.recs] at this
    refine ⟨this.1.mono fun i hi => ?_, (PFr.ext hx1).trans this.2⟩
    rcases hi with hi | hi
    · exact .inl hi
    · have := hx1.size; exact .inr (by omega)
  have HST : Hid (∀ w1 w2 : World, w.Extends w1 → w1.grownBy w2 v.ownBlock → w2.frozen? ⟨t, 3, none⟩ = false ∧ w2.cell? ⟨t, 3, none⟩ = some v ∧ w2.cell? ⟨t, 4, none⟩ = some (.map (some b)) ∧ w2.frozen? ⟨t, 4, none⟩ = false) := fun w1 w2 hx hg => by
    have h1 := h.ext hx
    have e : w2.heap[t]? = w1.heap[t]? := hg.block t h1.lt (fun e => (h1.apart.1 t e.symm).1 rfl)
    obtain ⟨e0, e1, e2⟩ := HC.out w1 hx
    exact ⟨by rw [World.frozen?_of_block (w := w1) (w' := w2) (a := ⟨t, 3, none⟩) e]; exact e2, by rw [World.cell?_of_block (w := w1) (w' := w2) (a := ⟨t, 3, none⟩) e]; exact e0, by rw [World.cell?_of_block (w := w1) (w' := w2) (a := ⟨t, 4, none⟩) e]; exact e1, by rw [World.frozen?_of_block (w := w1) (w' := w2) (a := ⟨t, 4, none⟩) e]; exact (hx.frozen ⟨t, 4, none⟩ h.lt).trans f4⟩
  have HYK : Hid (∀ (y : Nat) (w1 w2 w3 : World) (x : Value), w.Extends w1 → y = w.heap.size → w1.rangeAt y 0 (r.cells (.slice ua r.d.length uc)) → w1.grownBy w2 v.ownBlock → w3 = w2.setCell ⟨t, 3, none⟩ x → w3.rangeAt y 0 (r.cells (.slice ua r.d.length uc)) ∧ y < w3.heap.size) := fun y w1 w2 w3 x hx hy hbx hg hw3 => by
    have hyl : y < w1.heap.size := World.block_lt_of_cell? w1 _ (hbx 0 _ rfl)
    have htl := h.lt
    have e : w3.heap[y]? = w1.heap[y]? := by
      subst hw3
      refine ((grown_set w2 t 3 x).block y (Nat.lt_of_lt_of_le hyl hg.size) (by simp; omega)).trans (hg.block y hyl (fun e => ?_))
      have := (h.own.1.lt y e.symm).2
      omega
    refine ⟨fun j c hj => ?_, ?_⟩
    · rw [World.cell?_of_block (w := w1) (w' := w3) (a := ⟨y, 0 + j, none⟩) e]; exact hbx j c hj
    · subst hw3; simp; exact Nat.lt_of_lt_of_le hyl hg.size
  obtain ⟨va, vc, hv⟩ := h.own.slice
  have HKEY := Lib.hid (key_of hid.1 hid.2)
  try clear hgu
  try clear hu
  try clear hg0
  subst hv
  have HVL : Hid (∀ x n c, x = Value.slice (some ⟨t, 0, none⟩) n c → True) := fun _ _ _ _ => trivial
  clear h hb c2 c3 c4 f3 f4 hh hal hid hl HVL
  obtain ⟨rp, rn, rb, rs, rm, rk, re, rg, ru, rd⟩ := r
  show Calls Try.prog 89 #[_, .agg #[.int .i64 rp, .int .i64 rn, .int .i64 rb, .int .i64 rs, .int .i64 rm, .int .i64 rk, .int .i64 re, .bool rg, .int .i64 ru, .slice ua rd.length uc]] w _
  try simp only at hge
  simp only at HL hru HKEY
  have HRW : Hid (plainElem (H := Unit) Try.prog 3 (.int .i64 ru) = some (.lit (.int .i64 ru), [])) := plainElem_int Try.underlying3 (wf_i64 hru)
  unfold DelOut at HDEL
  generalize (ps.filter (fun p => !isOf (⟨rp, rn, rb, rs, rm, rk, re, rg, ru, rd⟩ : Rc) p.1)) = qs at *
  generalize hql : qs.length = qn at *
  clear hql
  have HT1 : Hid (({ st with l := st.l.filter (fun x => !isOf (⟨rp, rn, rb, rs, rm, rk, re, rg, ru, rd⟩ : Rc) x) } : Sto).t = st.t) := rfl
  generalize { st with l := st.l.filter (fun x => !isOf (⟨rp, rn, rb, rs, rm, rk, re, rg, ru, rd⟩ : Rc) x) } = st1 at *
  generalize (SM.buryOf st ⟨rp, rn, rb, rs, rm, rk, re, rg, ru, rd⟩).1 = st' at *
  generalize goneU st.t (⟨rp, rn, rb, rs, rm, rk, re, rg, ru, rd⟩ : Rc) = tu at *
  go_enter Try.func89, Try.ntmps89
  go_wp2_with fail
  generalize hw1 : World.alloc w _ = w1
  have hx1 : w.Extends w1 := by subst hw1; exact ext_alloc _ _
  obtain ⟨hb1, hy1⟩ := HBOX.out w1 hw1
  have HX1 := Lib.hid hx1
  have HB1 : Hid (w1.drew.rangeAt w.heap.size 0 (Rc.cells ⟨rp, rn, rb, rs, rm, rk, re, rg, ru, rd⟩ (.slice ua rd.length uc))) := hb1
  have hy1d : w.heap.size < w1.drew.heap.size := hy1
  have HXD := Lib.hid (Gr.ext_drew hx1)
  clear hw1 hx1 hb1 hy1 HBOX
  obtain ⟨y, hy⟩ : ∃ y, y = w.heap.size := ⟨_, rfl⟩
  rw [← hy] at HB1 hy1d ⊢
  have HYW := Lib.hid hy
  clear hy
  refine Gr.region 11 [(false,0),(false,1),(false,2),(false,3),(false,4),(false,5),(false,6),(false,7),(false,8),(false,9),(false,10)] (by kernel_rfl) (by kernel_rfl) (fun d _ _ _ _ h => by cases d <;> exact h) ?_
  simp only [Gr.pick, List.getElem?_cons_zero, List.getElem?_cons_succ, List.drop_succ_cons, List.drop_zero]
  generalize w1.drew = wd at *
  iterate 6
    refine Gr.walk_t ?_ (Or.inl ⟨by rfl, ?_⟩) ?_
    rotate_left
    · intro w' hw'
      obtain ⟨e0, e1, e2⟩ := HC.out w' (Gr.ext_trans HXD.out hw')
      obtain ⟨d0, d1, d2, d3, d4, d5, d6, d7, d8, d9⟩ := RCell.ten (rangeAt_ext HB1.out hw')
      simp only [Nat.zero_add] at d0 d1 d2 d3 d4 d5 d6 d7 d8 d9
      clear hw'
      go_simp
      try with_reducible rfl
    simp only [Act.put, List.setIfInBounds_toArray, List.set_cons_zero, List.set_cons_succ]
  refine Gr.walk_t ?_ (Or.inl ⟨by rfl, ?_⟩) ?_
  rotate_left
  · intro w' hw'
    have hlk := HL.out w' (Gr.ext_trans HXD.out hw')
    clear hw'
    go_simp
    try with_reducible rfl
  simp only [Act.put, List.setIfInBounds_toArray, List.set_cons_zero, List.set_cons_succ]
  iterate 4
    refine Gr.walk_t ?_ (Or.inl ⟨by rfl, ?_⟩) ?_
    rotate_left
    · intro w' hw'
      clear hw'
      go_simp
      try with_reducible rfl
    simp only [Act.put, List.setIfInBounds_toArray, List.set_cons_zero, List.set_cons_succ]
  refine Gr.walk_nil ?_
  obtain ⟨d0, d1, d2, d3, d4, d5, d6, d7, d8, d9⟩ := RCell.ten HB1.out
  simp only [Nat.zero_add] at d0 d1 d2 d3 d4 d5 d6 d7 d8 d9
  obtain ⟨e0, e1, e2⟩ := HC.out wd HXD.out
  have hnil := fun w => (eql_map_nil (some b) w).trans (by rw [show (some b).isNone = false from rfl])
  go_wp2_with fail
  refine (HDEL.out y wd HXD.out HYW.out HB1.out).mono ?_
  rintro e w2 ⟨a', c', rfl, ho, hg, hn⟩
  obtain ⟨f3', g3', g4', f4'⟩ := HST.out wd w2 HXD.out hg
  have HP3 := Lib.hid (fun w3 hw3 => HPUT.out wd w2 w3 a' c' HXD.out ho hg hn hw3)
  have HY3 := Lib.hid (fun w3 x hw3 => HYK.out y wd w2 w3 x HXD.out HYW.out HB1.out hg hw3)
  clear ho hg hn HDEL HPUT HST HYK d0 d1 d2 d3 d4 d5 d6 d7 d8 d9 e0 e1 e2 HB1 HL HC
  go_wp2_with fail
  generalize hw3 : World.setCell w2 _ _ = w3
  obtain ⟨hs3, hf3⟩ := HP3.out w3 hw3.symm
  obtain ⟨hr3, hy3⟩ := HY3.out w3 _ hw3.symm
  obtain ⟨E, hown, hE⟩ : ∃ E, w3.ownsMap Try.prog 23 (plainElem Try.prog 3) b st.t.length E ∧ Ties E st.t := by
    rcases hs3.tombs with ⟨e, _⟩ | ⟨b', E, e, _, h5, h6⟩
    · cases e
    · cases e; exact ⟨E, HT1.out ▸ h5, HT1.out ▸ h6⟩
  obtain ⟨p3, _, _, _, c34, _, _⟩ := hs3.cells
  clear hw3 HP3 HY3 f3' g3' g4' f4'
  have HC3 : Hid (∀ w', w3.drew.Extends w' → w'.cell? ⟨t, 4, none⟩ = some (.map (some b)) ∧ w'.rangeAt y 0 (Rc.cells ⟨rp, rn, rb, rs, rm, rk, re, rg, ru, rd⟩ (.slice ua rd.length uc))) := fun w' hw' => ⟨(Gr.of_drew hw').cell_of c34, rangeAt_ext hr3 (Gr.of_drew hw')⟩
  have HOWN : Hid (w3.drew.ownsMap Try.prog 23 (plainElem Try.prog 3) b st.t.length E) := hown
  have HP4 : Hid (∀ w4, w3.drew.grownBy w4 (some b) → w4.ownsMap Try.prog 23 (plainElem Try.prog 3) b (st.t.length + 1) (E.put (idKey rp rn) (.lit (.int .i64 ru))) → Left w t D st' w4) := fun w4 hg ho => HFIN.out w3 w4 _ _ _ _ hs3 hf3 ⟨hg.os, hg.tape, hg.output, hg.size, hg.block⟩ ho (HTIE.out E hE)
  clear hr3 hy3 hown hs3 hf3 c34 hE HFIN HTIE
  generalize st.t.length = tn at *
  refine Gr.region 8 [(false,0),(false,1),(false,2),(false,3),(false,4),(false,5),(false,6),(false,7)] (by kernel_rfl) (by kernel_rfl) (fun d _ _ _ _ h => by cases d <;> exact h) ?_
  simp only [Gr.pick, List.getElem?_cons_zero, List.getElem?_cons_succ, List.drop_succ_cons, List.drop_zero]
  generalize w3.drew = wd3 at *
  iterate 8
    refine Gr.walk_t ?_ (Or.inl ⟨by rfl, ?_⟩) ?_
    rotate_left
    · intro w' hw'
      obtain ⟨e1, hr⟩ := HC3.out w' hw'
      obtain ⟨d0, d1, d2, d3, d4, d5, d6, d7, d8, d9⟩ := RCell.ten hr
      simp only [Nat.zero_add] at d0 d1 d2 d3 d4 d5 d6 d7 d8 d9
      clear hw'
      go_simp
      try with_reducible rfl
    simp only [Act.put, List.setIfInBounds_toArray, List.set_cons_zero, List.set_cons_succ]
  refine Gr.walk_nil ?_
  go_wp2_with (at_mapUpdate; refine wpList_mapUpdate_own _ rfl _ _ _ 58 rfl 23 3 idKeyed Try.underlying58 (plainElem (H := Unit) Try.prog 3) b tn E rfl HOWN.out (by unfold maxLen; omega) _ _ (idKey rp rn) rfl rfl HKEY.out _ [] HRW.out ?_)
  intro w4 ho4 hg4
  have HP := Lib.hid (HP4.out w4 hg4 ho4)
  clear ho4 hg4 HP4 HOWN HC3
  go_wp2
  go_ret
  exact ⟨rfl, HP.out⟩
set_option maxHeartbeats 2000000 in
theorem tomb_new (t : Nat) (D : Nat → Prop) (st : Sto) (r : Rc) (ua : Option Addr) (uc : Nat) (w : World) (v : Value) (b : Nat) (ps : List Pr) (h : SAtX w t D st v (some b) ps) (hl : st.l.length ≤ 1000) (htl : st.t.length ≤ 1000000) (hr : KM.Right r) (hal : ∀ x ∈ st.l, ¬ SM.Has st.t x) (hh : ¬ SM.Has st.t r) :
    Calls Try.prog 89 #[.pointer (some ⟨t, 0, none⟩), r.val (.slice ua r.d.length uc)] w fun e w' => e = .returned (.bool true) ∧ Left w t D (SM.buryOf st r).1 w' := by
  have hid : IdOk r := ⟨by have := hr.1; omega, by have := hr.2.1; omega⟩
  have hru : -9223372036854775808 ≤ r.u ∧ r.u ≤ 9223372036854775807 := by have := hr.2.2.1; omega
  have HL : Hid (∀ w', w.Extends w' → (Instr.lookup 58 (.map (some b)) (.agg #[.int .i64 r.p, .int .i64 r.n]) true).run Try.prog w' = .ok (.tuple #[.int .i64 (goneU st.t r), .bool (decide (SM.Has st.t r))]) w') := fun w' hx => (h.ext hx).tombs.look r hid
  obtain ⟨p, hb, c2, c3, c4, f3, f4⟩ := h.cells
  have HC : Hid (∀ w', w.Extends w' → w'.cell? ⟨t, 3, none⟩ = some v ∧ w'.cell? ⟨t, 4, none⟩ = some (.map (some b)) ∧ w'.frozen? ⟨t, 3, none⟩ = false) := fun w' hx => ⟨hx.cell_of c3, hx.cell_of c4, (hx.frozen ⟨t, 3, none⟩ h.lt).trans f3⟩
  have HBOX : Hid (∀ w1, w.alloc (.cells (r.cells (.slice ua r.d.length uc)).toArray 28) = w1 → w1.rangeAt w.heap.size 0 (r.cells (.slice ua r.d.length uc)) ∧ w.heap.size < w1.heap.size) := fun w1 e => by subst e; exact ⟨box_rec w _ r _, by simp⟩
  have hg0 : goneU st.t r = 0 := by unfold goneU; rw [if_neg hh]
  rw [decide_eq_false hh] at HL
  have HFIN : Hid (∀ w3 w4 E' n v' qs, SAtX w3 t (Nx D w w3) { st with l := st.l.filter (fun x => !isOf r x) } v' (some b) qs → PFr D w w3 → w3.grownBy w4 (some b) → w4.ownsMap Try.prog 23 (plainElem Try.prog 3) b n E' → Ties E' (st.t ++ [r]) → Left w t D (SM.buryOf st r).1 w4) := fun w3 w4 E' n v' qs hs hf hg ho hE => by
    obtain ⟨h1, h2⟩ := hs.upd_map hg ho hE
    unfold SM.buryOf
    rw [if_neg hh]
    have e : (fun x => !isOf r x) = (fun x => decide (¬ SM.Of x r)) := by funext x; unfold isOf; by_cases hx : SM.Of x r <;> simp [hx]
    rw [e] at h1
    refine ⟨⟨_, _, _, h1.mono fun i hi => ?_⟩, hf.next h2⟩
    rcases hi with hi | hi
    · exact .inl hi
    · have := hg.size; exact .inr (by omega)
  have HTIE : Hid (∀ E, Ties E st.t → Ties (E.put (idLit r) (.lit (.int .i64 r.u))) (st.t ++ [r])) := fun E hE => hE.put_new hid hh
  have HSX := Lib.hid (rfl : (1 : Nat) = 1)
  have hln : ps.length ≤ 1000 := by rw [h.len]; exact hl
  have HDEL : Hid (∀ (y : Nat) (w1 : World), w.Extends w1 → y = w.heap.size → w1.rangeAt y 0 (r.cells (.slice ua r.d.length uc)) → Calls Try.prog 71 #[v, .func (.func 103) #[] #[.pointer (some ⟨y, 0, none⟩)]] w1 (DelOut w1 v (ps.filter (fun p => !isOf r p.1)))) := fun y w1 hx hy hbx => by
    have hyl : y < w1.heap.size := World.block_lt_of_cell? w1 _ (hbx 0 _ rfl)
    refine del_all _ y enters_tomb (isOf r) v ps w1 (h.own.ext hx) hln (tells_tomb y r _ w1 hbx hyl) hyl (fun e => ?_)
    have := (h.own.1.lt y e).2
    omega
  have HPUT : Hid (∀ w1 w2 w3 a' c', w.Extends w1 → OwnR w2 (.slice a' (ps.filter (fun p => !isOf r p.1)).length c') (ps.filter (fun p => !isOf r p.1)) → w1.grownBy w2 v.ownBlock → (Value.slice a' (ps.filter (fun p => !isOf r p.1)).length c').ownBlock = v.ownBlock → w3 = w2.setCell ⟨t, 3, none⟩ (.slice a' (ps.filter (fun p => !isOf r p.1)).length c') →
      SAtX w3 t (Nx D w w3) { st with l := st.l.filter (fun x => !isOf r x) } (.slice a' (ps.filter (fun p => !isOf r p.1)).length c') (some b) (ps.filter (fun p => !isOf r p.1)) ∧ PFr D w w3) := fun w1 w2 w3 a' c' hx1 ho hg hn hw3 => by
    have h1 := h.ext hx1
    have hst8 : Still 5 w1 w2 := h1.still_own hg (by decide)
    have := h1.put_slice hg ho (.inl hn) (Reads.still (Reads.mono (D := D) (fun p hp => h1.data p (List.mem_filter.1 hp).1) fun i hi => .inl hi) hg.size hst8) hw3
    rw [recs_filter ps (fun x => !isOf r x), h1.recs] at this
    refine ⟨this.1.mono fun i hi => ?_, (PFr.ext hx1).trans this.2⟩
    rcases hi with hi | hi
    · exact .inl hi
    · have := hx1.size; exact .inr (by omega)
  have HST : Hid (∀ w1 w2 : World, w.Extends w1 → w1.grownBy w2 v.ownBlock → w2.frozen? ⟨t, 3, none⟩ = false ∧ w2.cell? ⟨t, 3, none⟩ = some v ∧ w2.cell? ⟨t, 4, none⟩ = some (.map (some b)) ∧ w2.frozen? ⟨t, 4, none⟩ = false) := fun w1 w2 hx hg => by
    have h1 := h.ext hx
    have e : w2.heap[t]? = w1.heap[t]? := hg.block t h1.lt (fun e => (h1.apart.1 t e.symm).1 rfl)
    obtain ⟨e0, e1, e2⟩ := HC.out w1 hx
    exact ⟨by rw [World.frozen?_of_block (w := w1) (w' := w2) (a := ⟨t, 3, none⟩) e]; exact e2, by rw [World.cell?_of_block (w := w1) (w' := w2) (a := ⟨t, 3, none⟩) e]; exact e0, by rw [World.cell?_of_block (w := w1) (w' := w2) (a := ⟨t, 4, none⟩) e]; exact e1, by rw [World.frozen?_of_block (w := w1) (w' := w2) (a := ⟨t, 4, none⟩) e]; exact (hx.frozen ⟨t, 4, none⟩ h.lt).trans f4⟩
  have HYK : Hid (∀ (y : Nat) (w1 w2 w3 : World) (x : Value), w.Extends w1 → y = w.heap.size → w1.rangeAt y 0 (r.cells (.slice ua r.d.length uc)) → w1.grownBy w2 v.ownBlock → w3 = w2.setCell ⟨t, 3, none⟩ x → w3.rangeAt y 0 (r.cells (.slice ua r.d.length uc)) ∧ y < w3.heap.size) := fun y w1 w2 w3 x hx hy hbx hg hw3 => by
    have hyl : y < w1.heap.size := World.block_lt_of_cell? w1 _ (hbx 0 _ rfl)
    have htl := h.lt
    have e : w3.heap[y]? = w1.heap[y]? := by
      subst hw3
      refine ((grown_set w2 t 3 x).block y (Nat.lt_of_lt_of_le hyl hg.size) (by simp; omega)).trans (hg.block y hyl (fun e => ?_))
      have := (h.own.1.lt y e.symm).2
      omega
    refine ⟨fun j c hj => ?_, ?_⟩
    · rw [World.cell?_of_block (w := w1) (w' := w3) (a := ⟨y, 0 + j, none⟩) e]; exact hbx j c hj
    · subst hw3; simp; exact Nat.lt_of_lt_of_le hyl hg.size
  obtain ⟨va, vc, hv⟩ := h.own.slice
  have HKEY := Lib.hid (key_of hid.1 hid.2)
  try clear hgu
  try clear hu
  try clear hg0
  subst hv
  have HVL : Hid (∀ x n c, x = Value.slice (some ⟨t, 0, none⟩) n c → True) := fun _ _ _ _ => trivial
  clear h hb c2 c3 c4 f3 f4 hh hal hid hl HVL
  obtain ⟨rp, rn, rb, rs, rm, rk, re, rg, ru, rd⟩ := r
  show Calls Try.prog 89 #[_, .agg #[.int .i64 rp, .int .i64 rn, .int .i64 rb, .int .i64 rs, .int .i64 rm, .int .i64 rk, .int .i64 re, .bool rg, .int .i64 ru, .slice ua rd.length uc]] w _
  try simp only at hge
  simp only at HL hru HKEY
  have HRW : Hid (plainElem (H := Unit) Try.prog 3 (.int .i64 ru) = some (.lit (.int .i64 ru), [])) := plainElem_int Try.underlying3 (wf_i64 hru)
  unfold DelOut at HDEL
  generalize (ps.filter (fun p => !isOf (⟨rp, rn, rb, rs, rm, rk, re, rg, ru, rd⟩ : Rc) p.1)) = qs at *
  generalize hql : qs.length = qn at *
  clear hql
  have HT1 : Hid (({ st with l := st.l.filter (fun x => !isOf (⟨rp, rn, rb, rs, rm, rk, re, rg, ru, rd⟩ : Rc) x) } : Sto).t = st.t) := rfl
  generalize { st with l := st.l.filter (fun x => !isOf (⟨rp, rn, rb, rs, rm, rk, re, rg, ru, rd⟩ : Rc) x) } = st1 at *
  generalize (SM.buryOf st ⟨rp, rn, rb, rs, rm, rk, re, rg, ru, rd⟩).1 = st' at *
  generalize goneU st.t (⟨rp, rn, rb, rs, rm, rk, re, rg, ru, rd⟩ : Rc) = tu at *
  go_enter Try.func89, Try.ntmps89
  go_wp2_with fail
  generalize hw1 : World.alloc w _ = w1
  have hx1 : w.Extends w1 := by subst hw1; exact ext_alloc _ _
  obtain ⟨hb1, hy1⟩ := HBOX.out w1 hw1
  have HX1 := Lib.hid hx1
  have HB1 : Hid (w1.drew.rangeAt w.heap.size 0 (Rc.cells ⟨rp, rn, rb, rs, rm, rk, re, rg, ru, rd⟩ (.slice ua rd.length uc))) := hb1
  have hy1d : w.heap.size < w1.drew.heap.size := hy1
  have HXD := Lib.hid (Gr.ext_drew hx1)
  clear hw1 hx1 hb1 hy1 HBOX
  obtain ⟨y, hy⟩ : ∃ y, y = w.heap.size := ⟨_, rfl⟩
  rw [← hy] at HB1 hy1d ⊢
  have HYW := Lib.hid hy
  clear hy
  refine Gr.region 11 [(false,0),(false,1),(false,2),(false,3),(false,4),(false,5),(false,6),(false,7),(false,8),(false,9),(false,10)] (by kernel_rfl) (by kernel_rfl) (fun d _ _ _ _ h => by cases d <;> exact h) ?_
  simp only [Gr.pick, List.getElem?_cons_zero, List.getElem?_cons_succ, List.drop_succ_cons, List.drop_zero]
  generalize w1.drew = wd at *
  iterate 6
    refine Gr.walk_t ?_ (Or.inl ⟨by rfl, ?_⟩) ?_
    rotate_left
    · intro w' hw'
      obtain ⟨e0, e1, e2⟩ := HC.out w' (Gr.ext_trans HXD.out hw')
      obtain ⟨d0, d1, d2, d3, d4, d5, d6, d7, d8, d9⟩ := RCell.ten (rangeAt_ext HB1.out hw')
      simp only [Nat.zero_add] at d0 d1 d2 d3 d4 d5 d6 d7 d8 d9
      clear hw'
      go_simp
      try with_reducible rfl
    simp only [Act.put, List.setIfInBounds_toArray, List.set_cons_zero, List.set_cons_succ]
  refine Gr.walk_t ?_ (Or.inl ⟨by rfl, ?_⟩) ?_
  rotate_left
  · intro w' hw'
    have hlk := HL.out w' (Gr.ext_trans HXD.out hw')
    clear hw'
    go_simp
    try with_reducible rfl
  simp only [Act.put, List.setIfInBounds_toArray, List.set_cons_zero, List.set_cons_succ]
  iterate 4
    refine Gr.walk_t ?_ (Or.inl ⟨by rfl, ?_⟩) ?_
    rotate_left
    · intro w' hw'
      clear hw'
      go_simp
      try with_reducible rfl
    simp only [Act.put, List.setIfInBounds_toArray, List.set_cons_zero, List.set_cons_succ]
  refine Gr.walk_nil ?_
  obtain ⟨d0, d1, d2, d3, d4, d5, d6, d7, d8, d9⟩ := RCell.ten HB1.out
  simp only [Nat.zero_add] at d0 d1 d2 d3 d4 d5 d6 d7 d8 d9
  obtain ⟨e0, e1, e2⟩ := HC.out wd HXD.out
  have hnil := fun w => (eql_map_nil (some b) w).trans (by rw [show (some b).isNone = false from rfl])
  go_wp2_with fail
  refine (HDEL.out y wd HXD.out HYW.out HB1.out).mono ?_
  rintro e w2 ⟨a', c', rfl, ho, hg, hn⟩
  obtain ⟨f3', g3', g4', f4'⟩ := HST.out wd w2 HXD.out hg
  have HP3 := Lib.hid (fun w3 hw3 => HPUT.out wd w2 w3 a' c' HXD.out ho hg hn hw3)
  have HY3 := Lib.hid (fun w3 x hw3 => HYK.out y wd w2 w3 x HXD.out HYW.out HB1.out hg hw3)
  clear ho hg hn HDEL HPUT HST HYK d0 d1 d2 d3 d4 d5 d6 d7 d8 d9 e0 e1 e2 HB1 HL HC
  go_wp2_with fail
  generalize hw3 : World.setCell w2 _ _ = w3
  obtain ⟨hs3, hf3⟩ := HP3.out w3 hw3.symm
  obtain ⟨hr3, hy3⟩ := HY3.out w3 _ hw3.symm
  obtain ⟨E, hown, hE⟩ : ∃ E, w3.ownsMap Try.prog 23 (plainElem Try.prog 3) b st.t.length E ∧ Ties E st.t := by
    rcases hs3.tombs with ⟨e, _⟩ | ⟨b', E, e, _, h5, h6⟩
    · cases e
    · cases e; exact ⟨E, HT1.out ▸ h5, HT1.out ▸ h6⟩
  obtain ⟨p3, _, _, _, c34, _, _⟩ := hs3.cells
  clear hw3 HP3 HY3 f3' g3' g4' f4'
  have HC3 : Hid (∀ w', w3.drew.Extends w' → w'.cell? ⟨t, 4, none⟩ = some (.map (some b)) ∧ w'.rangeAt y 0 (Rc.cells ⟨rp, rn, rb, rs, rm, rk, re, rg, ru, rd⟩ (.slice ua rd.length uc))) := fun w' hw' => ⟨(Gr.of_drew hw').cell_of c34, rangeAt_ext hr3 (Gr.of_drew hw')⟩
  have HOWN : Hid (w3.drew.ownsMap Try.prog 23 (plainElem Try.prog 3) b st.t.length E) := hown
  have HP4 : Hid (∀ w4, w3.drew.grownBy w4 (some b) → w4.ownsMap Try.prog 23 (plainElem Try.prog 3) b (st.t.length + 1) (E.put (idKey rp rn) (.lit (.int .i64 ru))) → Left w t D st' w4) := fun w4 hg ho => HFIN.out w3 w4 _ _ _ _ hs3 hf3 ⟨hg.os, hg.tape, hg.output, hg.size, hg.block⟩ ho (HTIE.out E hE)
  clear hr3 hy3 hown hs3 hf3 c34 hE HFIN HTIE
  generalize st.t.length = tn at *
  refine Gr.region 8 [(false,0),(false,1),(false,2),(false,3),(false,4),(false,5),(false,6),(false,7)] (by kernel_rfl) (by kernel_rfl) (fun d _ _ _ _ h => by cases d <;> exact h) ?_
  simp only [Gr.pick, List.getElem?_cons_zero, List.getElem?_cons_succ, List.drop_succ_cons, List.drop_zero]
  generalize w3.drew = wd3 at *
  iterate 8
    refine Gr.walk_t ?_ (Or.inl ⟨by rfl, ?_⟩) ?_
    rotate_left
    · intro w' hw'
      obtain ⟨e1, hr⟩ := HC3.out w' hw'
      obtain ⟨d0, d1, d2, d3, d4, d5, d6, d7, d8, d9⟩ := RCell.ten hr
      simp only [Nat.zero_add] at d0 d1 d2 d3 d4 d5 d6 d7 d8 d9
      clear hw'
      go_simp
      try with_reducible rfl
    simp only [Act.put, List.setIfInBounds_toArray, List.set_cons_zero, List.set_cons_succ]
  refine Gr.walk_nil ?_
  go_wp2_with (at_mapUpdate; refine wpList_mapUpdate_own _ rfl _ _ _ 58 rfl 23 3 idKeyed Try.underlying58 (plainElem (H := Unit) Try.prog 3) b tn E rfl HOWN.out (by unfold maxLen; omega) _ _ (idKey rp rn) rfl rfl HKEY.out _ [] HRW.out ?_)
  intro w4 ho4 hg4
  have HP := Lib.hid (HP4.out w4 hg4 ho4)
  clear ho4 hg4 HP4 HOWN HC3
  go_wp2
  go_ret
  exact ⟨rfl, HP.out⟩
set_option maxHeartbeats 2000000 in
theorem tomb_none (t : Nat) (D : Nat → Prop) (st : Sto) (r : Rc) (ua : Option Addr) (uc : Nat) (w : World) (v : Value) (ps : List Pr) (h : SAtX w t D st v none ps) (hl : st.l.length ≤ 1000) (htl : st.t.length ≤ 1000000) (hr : KM.Right r) (hal : ∀ x ∈ st.l, ¬ SM.Has st.t x) (hh : ¬ SM.Has st.t r) :
    Calls Try.prog 89 #[.pointer (some ⟨t, 0, none⟩), r.val (.slice ua r.d.length uc)] w fun e w' => e = .returned (.bool true) ∧ Left w t D (SM.buryOf st r).1 w' := by
  have hid : IdOk r := ⟨by have := hr.1; omega, by have := hr.2.1; omega⟩
  have hru : -9223372036854775808 ≤ r.u ∧ r.u ≤ 9223372036854775807 := by have := hr.2.2.1; omega
  have HL : Hid (∀ w', w.Extends w' → (Instr.lookup 58 (.map none) (.agg #[.int .i64 r.p, .int .i64 r.n]) true).run Try.prog w' = .ok (.tuple #[.int .i64 (goneU st.t r), .bool (decide (SM.Has st.t r))]) w') := fun w' hx => (h.ext hx).tombs.look r hid
  obtain ⟨p, hb, c2, c3, c4, f3, f4⟩ := h.cells
  have HC : Hid (∀ w', w.Extends w' → w'.cell? ⟨t, 3, none⟩ = some v ∧ w'.cell? ⟨t, 4, none⟩ = some (.map none) ∧ w'.frozen? ⟨t, 3, none⟩ = false) := fun w' hx => ⟨hx.cell_of c3, hx.cell_of c4, (hx.frozen ⟨t, 3, none⟩ h.lt).trans f3⟩
  have HBOX : Hid (∀ w1, w.alloc (.cells (r.cells (.slice ua r.d.length uc)).toArray 28) = w1 → w1.rangeAt w.heap.size 0 (r.cells (.slice ua r.d.length uc)) ∧ w.heap.size < w1.heap.size) := fun w1 e => by subst e; exact ⟨box_rec w _ r _, by simp⟩
  have hg0 : goneU st.t r = 0 := by unfold goneU; rw [if_neg hh]
  rw [decide_eq_false hh] at HL
  have ht0 : st.t = [] := by
    rcases h.tombs with ⟨_, e⟩ | ⟨b, E, e, _⟩
    · exact e
    · cases e
  have HFIN : Hid (∀ w3 w4 w5 w6 E' n v' qs, SAtX w3 t (Nx D w w3) { st with l := st.l.filter (fun x => !isOf r x) } v' none qs → PFr D w w3 → w4 = w3.setCell ⟨t, 4, none⟩ (.map (some w3.heap.size)) → w5 = w4.alloc (.map #[] 0) → w5.grownBy w6 (some w3.heap.size) → w6.ownsMap Try.prog 23 (plainElem Try.prog 3) w3.heap.size n E' → Ties E' (st.t ++ [r]) → Left w t D (SM.buryOf st r).1 w6) := fun w3 w4 w5 w6 E' n v' qs hs hf hw4 hw5 hg ho hE => by
    obtain ⟨h1, h2⟩ := hs.new_map hw4 hw5
    obtain ⟨h3, h4⟩ := h1.upd_map hg ho hE
    unfold SM.buryOf
    rw [if_neg hh]
    have e : (fun x => !isOf r x) = (fun x => decide (¬ SM.Of x r)) := by funext x; unfold isOf; by_cases hx : SM.Of x r <;> simp [hx]
    rw [e] at h3
    refine ⟨⟨_, _, _, h3.mono fun i hi => ?_⟩, hf.next (h2.next h4)⟩
    have h36 := h2.fr.size
    have h56 := hg.size
    have h03 := hf.fr.size
    rcases hi with (hi | hi) | hi
    · exact .inl hi
    · exact .inr (by omega)
    · exact .inr (by omega)
  have HTIE : Hid (Ties ((DataW.map [] : DataW Unit).put (idLit r) (.lit (.int .i64 r.u))) (st.t ++ [r])) := by
    have := (Ties.nil).put_new hid (by simp [SM.Has] : ¬ SM.Has [] r)
    rw [ht0]; exact this
  have HSX := Lib.hid (rfl : (1 : Nat) = 1)
  have hln : ps.length ≤ 1000 := by rw [h.len]; exact hl
  have HDEL : Hid (∀ (y : Nat) (w1 : World), w.Extends w1 → y = w.heap.size → w1.rangeAt y 0 (r.cells (.slice ua r.d.length uc)) → Calls Try.prog 71 #[v, .func (.func 103) #[] #[.pointer (some ⟨y, 0, none⟩)]] w1 (DelOut w1 v (ps.filter (fun p => !isOf r p.1)))) := fun y w1 hx hy hbx => by
    have hyl : y < w1.heap.size := World.block_lt_of_cell? w1 _ (hbx 0 _ rfl)
    refine del_all _ y enters_tomb (isOf r) v ps w1 (h.own.ext hx) hln (tells_tomb y r _ w1 hbx hyl) hyl (fun e => ?_)
    have := (h.own.1.lt y e).2
    omega
  have HPUT : Hid (∀ w1 w2 w3 a' c', w.Extends w1 → OwnR w2 (.slice a' (ps.filter (fun p => !isOf r p.1)).length c') (ps.filter (fun p => !isOf r p.1)) → w1.grownBy w2 v.ownBlock → (Value.slice a' (ps.filter (fun p => !isOf r p.1)).length c').ownBlock = v.ownBlock → w3 = w2.setCell ⟨t, 3, none⟩ (.slice a' (ps.filter (fun p => !isOf r p.1)).length c') →
      SAtX w3 t (Nx D w w3) { st with l := st.l.filter (fun x => !isOf r x) } (.slice a' (ps.filter (fun p => !isOf r p.1)).length c') none (ps.filter (fun p => !isOf r p.1)) ∧ PFr D w w3) := fun w1 w2 w3 a' c' hx1 ho hg hn hw3 => by
    have h1 := h.ext hx1
    have hst8 : Still 5 w1 w2 := h1.still_own hg (by decide)
    have := h1.put_slice hg ho (.inl hn) (Reads.still (Reads.mono (D := D) (fun p hp => h1.data p (List.mem_filter.1 hp).1) fun i hi => .inl hi) hg.size hst8) hw3
    rw [recs_filter ps (fun x => !isOf r x), h1.recs] at this
    refine ⟨this.1.mono fun i hi => ?_, (PFr.ext hx1).trans this.2⟩
    rcases hi with hi | hi
    · exact .inl hi
    · have := hx1.size; exact .inr (by omega)
  have HST : Hid (∀ w1 w2 : World, w.Extends w1 → w1.grownBy w2 v.ownBlock → w2.frozen? ⟨t, 3, none⟩ = false ∧ w2.cell? ⟨t, 3, none⟩ = some v ∧ w2.cell? ⟨t, 4, none⟩ = some (.map none) ∧ w2.frozen? ⟨t, 4, none⟩ = false) := fun w1 w2 hx hg => by
    have h1 := h.ext hx
    have e : w2.heap[t]? = w1.heap[t]? := hg.block t h1.lt (fun e => (h1.apart.1 t e.symm).1 rfl)
    obtain ⟨e0, e1, e2⟩ := HC.out w1 hx
    exact ⟨by rw [World.frozen?_of_block (w := w1) (w' := w2) (a := ⟨t, 3, none⟩) e]; exact e2, by rw [World.cell?_of_block (w := w1) (w' := w2) (a := ⟨t, 3, none⟩) e]; exact e0, by rw [World.cell?_of_block (w := w1) (w' := w2) (a := ⟨t, 4, none⟩) e]; exact e1, by rw [World.frozen?_of_block (w := w1) (w' := w2) (a := ⟨t, 4, none⟩) e]; exact (hx.frozen ⟨t, 4, none⟩ h.lt).trans f4⟩
  have HYK : Hid (∀ (y : Nat) (w1 w2 w3 : World) (x : Value), w.Extends w1 → y = w.heap.size → w1.rangeAt y 0 (r.cells (.slice ua r.d.length uc)) → w1.grownBy w2 v.ownBlock → w3 = w2.setCell ⟨t, 3, none⟩ x → w3.rangeAt y 0 (r.cells (.slice ua r.d.length uc)) ∧ y < w3.heap.size) := fun y w1 w2 w3 x hx hy hbx hg hw3 => by
    have hyl : y < w1.heap.size := World.block_lt_of_cell? w1 _ (hbx 0 _ rfl)
    have htl := h.lt
    have e : w3.heap[y]? = w1.heap[y]? := by
      subst hw3
      refine ((grown_set w2 t 3 x).block y (Nat.lt_of_lt_of_le hyl hg.size) (by simp; omega)).trans (hg.block y hyl (fun e => ?_))
      have := (h.own.1.lt y e.symm).2
      omega
    refine ⟨fun j c hj => ?_, ?_⟩
    · rw [World.cell?_of_block (w := w1) (w' := w3) (a := ⟨y, 0 + j, none⟩) e]; exact hbx j c hj
    · subst hw3; simp; exact Nat.lt_of_lt_of_le hyl hg.size
  obtain ⟨va, vc, hv⟩ := h.own.slice
  have HTW : Hid (t < w.heap.size) := h.lt
  clear ht0
  have HKEY := Lib.hid (key_of hid.1 hid.2)
  try clear hgu
  try clear hu
  try clear hg0
  subst hv
  have HVL : Hid (∀ x n c, x = Value.slice (some ⟨t, 0, none⟩) n c → True) := fun _ _ _ _ => trivial
  clear h hb c2 c3 c4 f3 f4 hh hal hid hl HVL
  obtain ⟨rp, rn, rb, rs, rm, rk, re, rg, ru, rd⟩ := r
  show Calls Try.prog 89 #[_, .agg #[.int .i64 rp, .int .i64 rn, .int .i64 rb, .int .i64 rs, .int .i64 rm, .int .i64 rk, .int .i64 re, .bool rg, .int .i64 ru, .slice ua rd.length uc]] w _
  try simp only at hge
  simp only at HL hru HKEY
  have HRW : Hid (plainElem (H := Unit) Try.prog 3 (.int .i64 ru) = some (.lit (.int .i64 ru), [])) := plainElem_int Try.underlying3 (wf_i64 hru)
  unfold DelOut at HDEL
  generalize (ps.filter (fun p => !isOf (⟨rp, rn, rb, rs, rm, rk, re, rg, ru, rd⟩ : Rc) p.1)) = qs at *
  generalize hql : qs.length = qn at *
  clear hql
  have HT1 : Hid (({ st with l := st.l.filter (fun x => !isOf (⟨rp, rn, rb, rs, rm, rk, re, rg, ru, rd⟩ : Rc) x) } : Sto).t = st.t) := rfl
  generalize { st with l := st.l.filter (fun x => !isOf (⟨rp, rn, rb, rs, rm, rk, re, rg, ru, rd⟩ : Rc) x) } = st1 at *
  generalize (SM.buryOf st ⟨rp, rn, rb, rs, rm, rk, re, rg, ru, rd⟩).1 = st' at *
  generalize goneU st.t (⟨rp, rn, rb, rs, rm, rk, re, rg, ru, rd⟩ : Rc) = tu at *
  go_enter Try.func89, Try.ntmps89
  go_wp2_with fail
  generalize hw1 : World.alloc w _ = w1
  have hx1 : w.Extends w1 := by subst hw1; exact ext_alloc _ _
  obtain ⟨hb1, hy1⟩ := HBOX.out w1 hw1
  have HX1 := Lib.hid hx1
  have HB1 : Hid (w1.drew.rangeAt w.heap.size 0 (Rc.cells ⟨rp, rn, rb, rs, rm, rk, re, rg, ru, rd⟩ (.slice ua rd.length uc))) := hb1
  have hy1d : w.heap.size < w1.drew.heap.size := hy1
  have HXD := Lib.hid (Gr.ext_drew hx1)
  clear hw1 hx1 hb1 hy1 HBOX
  obtain ⟨y, hy⟩ : ∃ y, y = w.heap.size := ⟨_, rfl⟩
  rw [← hy] at HB1 hy1d ⊢
  have HYW := Lib.hid hy
  clear hy
  refine Gr.region 11 [(false,0),(false,1),(false,2),(false,3),(false,4),(false,5),(false,6),(false,7),(false,8),(false,9),(false,10)] (by kernel_rfl) (by kernel_rfl) (fun d _ _ _ _ h => by cases d <;> exact h) ?_
  simp only [Gr.pick, List.getElem?_cons_zero, List.getElem?_cons_succ, List.drop_succ_cons, List.drop_zero]
  generalize w1.drew = wd at *
  iterate 6
    refine Gr.walk_t ?_ (Or.inl ⟨by rfl, ?_⟩) ?_
    rotate_left
    · intro w' hw'
      obtain ⟨e0, e1, e2⟩ := HC.out w' (Gr.ext_trans HXD.out hw')
      obtain ⟨d0, d1, d2, d3, d4, d5, d6, d7, d8, d9⟩ := RCell.ten (rangeAt_ext HB1.out hw')
      simp only [Nat.zero_add] at d0 d1 d2 d3 d4 d5 d6 d7 d8 d9
      clear hw'
      go_simp
      try with_reducible rfl
    simp only [Act.put, List.setIfInBounds_toArray, List.set_cons_zero, List.set_cons_succ]
  refine Gr.walk_t ?_ (Or.inl ⟨by rfl, ?_⟩) ?_
  rotate_left
  · intro w' hw'
    have hlk := HL.out w' (Gr.ext_trans HXD.out hw')
    clear hw'
    go_simp
    try with_reducible rfl
  simp only [Act.put, List.setIfInBounds_toArray, List.set_cons_zero, List.set_cons_succ]
  iterate 4
    refine Gr.walk_t ?_ (Or.inl ⟨by rfl, ?_⟩) ?_
    rotate_left
    · intro w' hw'
      clear hw'
      go_simp
      try with_reducible rfl
    simp only [Act.put, List.setIfInBounds_toArray, List.set_cons_zero, List.set_cons_succ]
  refine Gr.walk_nil ?_
  obtain ⟨d0, d1, d2, d3, d4, d5, d6, d7, d8, d9⟩ := RCell.ten HB1.out
  simp only [Nat.zero_add] at d0 d1 d2 d3 d4 d5 d6 d7 d8 d9
  obtain ⟨e0, e1, e2⟩ := HC.out wd HXD.out
  have hnil := fun w => (eql_map_nil none w).trans (by rw [show (none : Option Nat).isNone = true from rfl])
  have hmm := @run_makeMap Try.prog
  go_wp2_with fail
  refine (HDEL.out y wd HXD.out HYW.out HB1.out).mono ?_
  rintro e w2 ⟨a', c', rfl, ho, hg, hn⟩
  obtain ⟨f3', g3', g4', f4'⟩ := HST.out wd w2 HXD.out hg
  have HP3 := Lib.hid (fun w3 hw3 => HPUT.out wd w2 w3 a' c' HXD.out ho hg hn hw3)
  have HY3 := Lib.hid (fun w3 x hw3 => HYK.out y wd w2 w3 x HXD.out HYW.out HB1.out hg hw3)
  have htl2 : t < w2.heap.size := World.block_lt_of_cell? w2 _ g4'
  clear ho hg hn HDEL HPUT HST HYK d0 d1 d2 d3 d4 d5 d6 d7 d8 d9 e0 e1 e2 HB1 HL HC
  go_wp2_with fail
  generalize hw3 : World.setCell w2 _ _ = w3
  obtain ⟨hs3, hf3⟩ := HP3.out w3 hw3.symm
  obtain ⟨hr3, hy3⟩ := HY3.out w3 _ hw3.symm
  have hsz : w2.heap.size = w3.heap.size := by subst hw3; simp
  try rw [hsz]
  generalize hw4 : World.setCell w3 _ _ = w4
  have hsz4 : w4.heap.size = w3.heap.size := by subst hw4; simp
  generalize hw5 : World.alloc w4 _ = w5
  obtain ⟨h1, h2⟩ := hs3.new_map hw4.symm hw5.symm
  have hown : w5.ownsMap Try.prog 23 (plainElem (H := Unit) Try.prog 3) w3.heap.size 0 (.map []) := by
    have ho := World.ownsMap_made (H := Unit) w4 Try.prog 23 (plainElem Try.prog 3)
    rw [hw5, hsz4] at ho
    exact ho
  obtain ⟨p3, _, _, _, c34, _, _⟩ := h1.cells
  have hr5 : w5.rangeAt y 0 (Rc.cells ⟨rp, rn, rb, rs, rm, rk, re, rg, ru, rd⟩ (.slice ua rd.length uc)) := fun j c hj => by
    have hty : t ≠ y := by have := HYW.out; have := HTW.out; omega
    have e : w5.heap[y]? = w3.heap[y]? := by
      have hx5 : w4.Extends w5 := by subst hw5; exact ext_alloc _ _
      refine (hx5.block y (by omega)).trans ?_
      subst hw4
      exact (grown_set w3 t 4 _).block y hy3 (by simpa using fun e => hty e.symm)
    rw [World.cell?_of_block (w := w3) (w' := w5) (a := ⟨y, 0 + j, none⟩) e]
    exact hr3 j c hj
  clear HP3 HY3 f3' g3' g4' f4' htl2
  have HC3 : Hid (∀ w', w5.drew.Extends w' → w'.cell? ⟨t, 4, none⟩ = some (.map (some w3.heap.size)) ∧ w'.rangeAt y 0 (Rc.cells ⟨rp, rn, rb, rs, rm, rk, re, rg, ru, rd⟩ (.slice ua rd.length uc))) := fun w' hw' => ⟨(Gr.of_drew hw').cell_of c34, rangeAt_ext hr5 (Gr.of_drew hw')⟩
  have HOWN : Hid (w5.drew.ownsMap Try.prog 23 (plainElem (H := Unit) Try.prog 3) w3.heap.size 0 (.map [])) := hown
  have HP4 : Hid (∀ w6, w5.drew.grownBy w6 (some w3.heap.size) → w6.ownsMap Try.prog 23 (plainElem (H := Unit) Try.prog 3) w3.heap.size (0 + 1) ((DataW.map [] : DataW Unit).put (idKey rp rn) (.lit (.int .i64 ru))) → Left w t D st' w6) := fun w6 hg ho => HFIN.out w3 w4 w5 w6 _ _ _ _ hs3 hf3 hw4.symm hw5.symm ⟨hg.os, hg.tape, hg.output, hg.size, hg.block⟩ ho HTIE.out
  clear hw3 hw4 hw5 hsz4 h1 h2 hr3 hr5 hy3 hown hs3 hf3 c34 HFIN HTIE hsz
  generalize w3.heap.size = b at *
  refine Gr.region 8 [(false,0),(false,1),(false,2),(false,3),(false,4),(false,5),(false,6),(false,7)] (by kernel_rfl) (by kernel_rfl) (fun d _ _ _ _ h => by cases d <;> exact h) ?_
  simp only [Gr.pick, List.getElem?_cons_zero, List.getElem?_cons_succ, List.drop_succ_cons, List.drop_zero]
  generalize w5.drew = wd3 at *
  iterate 8
    refine Gr.walk_t ?_ (Or.inl ⟨by rfl, ?_⟩) ?_
    rotate_left
    · intro w' hw'
      obtain ⟨e1, hr⟩ := HC3.out w' hw'
      obtain ⟨d0, d1, d2, d3, d4, d5, d6, d7, d8, d9⟩ := RCell.ten (rangeAt_ext hr (Gr.ext_refl _))
      simp only [Nat.zero_add] at d0 d1 d2 d3 d4 d5 d6 d7 d8 d9
      clear hw'
      go_simp
      try with_reducible rfl
    simp only [Act.put, List.setIfInBounds_toArray, List.set_cons_zero, List.set_cons_succ]
  refine Gr.walk_nil ?_
  go_wp2_with (at_mapUpdate; refine wpList_mapUpdate_own _ rfl _ _ _ 58 rfl 23 3 idKeyed Try.underlying58 (plainElem (H := Unit) Try.prog 3) b 0 (.map []) rfl HOWN.out (by unfold maxLen; omega) _ _ (idKey rp rn) rfl rfl HKEY.out _ [] HRW.out ?_)
  intro w4 ho4 hg4
  have HP := Lib.hid (HP4.out w4 hg4 ho4)
  clear ho4 hg4 HP4 HOWN HC3
  go_wp2
  go_ret
  exact ⟨rfl, HP.out⟩
/-- A tombstone: whether something turned, and what is left. -/
theorem tomb_any (t : Nat) (D : Nat → Prop) (st : Sto) (r : Rc) (ua : Option Addr) (uc : Nat) (w : World) (h : SAt w t D st) (hl : st.l.length ≤ 1000) (htl : st.t.length ≤ 1000000) (hr : KM.Right r) (hal : ∀ x ∈ st.l, ¬ SM.Has st.t x) :
    Calls Try.prog 89 #[.pointer (some ⟨t, 0, none⟩), r.val (.slice ua r.d.length uc)] w fun e w' => e = .returned (.bool (SM.buryOf st r).2.1.isSome) ∧ Left w t D (SM.buryOf st r).1 w' := by
  obtain ⟨v, mp, ps, h⟩ := h
  by_cases hh : SM.Has st.t r
  · by_cases hu : (st.t.getD (SM.tat r st.t) Rc.zero).u < r.u
    · cases mp with
      | none =>
        rcases h.tombs with ⟨_, e⟩ | ⟨b, E, e, _⟩
        · rw [e] at hh; simp [SM.Has] at hh
        · cases e
      | some b =>
        have e : (SM.buryOf st r).2.1.isSome = true := by unfold SM.buryOf; rw [if_pos hh, if_pos hu]; rfl
        rw [e]
        exact tomb_old t D st r ua uc w v b ps h hl htl hr hal hh hu
    · have e : (SM.buryOf st r).2.1.isSome = false := by unfold SM.buryOf; rw [if_pos hh, if_neg hu]; rfl
      rw [e]
      exact tomb_late t D st r ua uc w v mp ps h hl htl hr hal hh hu
  · have e : (SM.buryOf st r).2.1.isSome = true := by unfold SM.buryOf; rw [if_neg hh]; rfl
    rw [e]
    cases mp with
    | none => exact tomb_none t D st r ua uc w v ps h hl htl hr hal hh
    | some b => exact tomb_new t D st r ua uc w v b ps h hl htl hr hal hh
end Go.Proofs.Ytdbdnfjgmdkneaa
namespace Go.Proofs.Ytdbdnfjgmdkneaa
set_option maxRecDepth 20000
open Go.RowKit
namespace GrR
open Gr (AnyE check growB pick)
section
variable {P : Program} {ops : Array Oper} {Q : Exit → Act → World → Prop} {md : Region.Mode} {S : World → Prop}
def walk (B : Option Nat) (P : Program) (ops : Array Oper) (Q : Exit → Act → World → Prop) (tail : List Oper) : List (Bool × Oper) → Act → World → Prop
  | [], a, w => wpList P ops Q tail a w
  | (true, o) :: rest, a, w => if Region.wanted o (yielded ops a.tmps) = true then o.wp P a w (fun a' w' => w.grownBy w' B ∧ walk B P ops Q tail rest a' w') Q else walk B P ops Q tail rest (a.put o.dst undef) w
  | (false, o) :: rest, a, w => ∃ v, YieldsIf P ops (fun w' => w.grownBy w' B) o v a ∧ walk B P ops Q tail rest (a.put o.dst v) w
theorem walk_nil {B : Option Nat} {tail : List Oper} {a : Act} {w : World} (h : wpList P ops Q tail a w) : walk B P ops Q tail [] a w := h
/-- An operation that is taken. -/
theorem walk_t {B : Option Nat} {tail : List Oper} {rest : List (Bool × Oper)} {o : Oper} {a : Act} {w : World} (v : Value) (hy : YieldsIf P ops (fun w' => w.grownBy w' B) o v a) (h : walk B P ops Q tail rest (a.put o.dst v) w) :
    walk B P ops Q tail ((false, o) :: rest) a w := ⟨v, hy, h⟩
/-- An operation that is carried out. -/
theorem walk_c {B : Option Nat} {tail : List Oper} {rest : List (Bool × Oper)} {o : Oper} {a : Act} {w : World}
    (h : ∀ K : Act → World → Prop, Shut (∀ a' w', w.grownBy w' B → walk B P ops Q tail rest a' w' → K a' w') → if Region.wanted o (yielded ops a.tmps) = true then o.wp P a w K Q else K (a.put o.dst undef) w) :
    walk B P ops Q tail ((true, o) :: rest) a w := by
  have h0 := h (fun a' w' => w.grownBy w' B ∧ walk B P ops Q tail rest a' w') (fun _ _ h1 h2 => ⟨h1, h2⟩)
  unfold walk
  split
  · rename_i hw; rw [if_pos hw] at h0; exact h0
  · rename_i hw; rw [if_neg hw] at h0; exact h0.2

theorem walk_sound (B : Option Nat) {l : List Oper} {n : Nat} (hsel : Region.noSelect l.toArray = true) (hs : Region.sinkB md l.toArray n = true) (hc : Region.chainB md l.toArray n = true) (hn : n < l.toArray.size)
    (hQ : ∀ d v c a w, Q (.panic c) (Act.put a d v) w → Q (.panic c) a w) :
    ∀ (ord : List (Bool × Nat)) (listed : Array Bool) (a : Act) (w : World), HeadInv md l.toArray n listed → check md l.toArray n (l.toArray.size - n) ord listed = true →
      walk B P l.toArray Q (l.drop n) (pick l ord) a w →
      AnyE P md l.toArray Q n (fun listed' a' w' => Region.seqB md l.toArray (l.toArray.size - n) n listed' = true ∧ wpList P l.toArray Q (l.drop n) a' w') (fun w' => w.grownBy w' B) ord.length listed a w
  | [], listed, a, w, _, hB, h => ⟨hB, h⟩
  | (c, i) :: rest, listed, a, w, inv, hB, h => by
    simp only [check, Bool.and_eq_true, decide_eq_true_eq] at hB
    obtain ⟨⟨hin, hr⟩, hB'⟩ := hB
    have hil : i < l.length := by have : l.toArray.size = l.length := by simp
                                  omega
    have ho : l[i]? = some l[i] := List.getElem?_eq_getElem hil
    have hoa : l.toArray[i]? = some l[i] := by simp
    simp only [pick, ho] at h
    cases c with
    | true =>
      simp only [decide_eq_true_eq] at hr
      refine ⟨(by rw [hr]; simp), fun j hj => ?_⟩
      rw [hr] at hj
      obtain rfl : j = i := by simpa using hj
      refine ⟨hin, ?_⟩
      have hrm : j ∈ Region.ready md l.toArray listed := by rw [hr]; simp
      unfold walk at h
      unfold wpOp
      simp only [hoa]
      split
      · rename_i hw
        rw [if_pos hw] at h
        exact .inl (Oper.wp_mono (fun a' w' hk => ⟨hk.1, AnyE.weaken (fun u hu => grown_trans hk.1 hu) _ _ _ _ (walk_sound B hsel hs hc hn hQ rest _ a' w' (inv.set hrm hin) hB' hk.2)⟩) h)
      · rename_i hw
        rw [if_neg hw] at h
        exact ⟨grown_refl w B, walk_sound B hsel hs hc hn hQ rest _ _ w (inv.set hrm hin) hB' h⟩
    | false =>
      simp only [Bool.and_eq_true] at hr
      unfold walk at h
      obtain ⟨v, hy, hK⟩ := h
      have hrm : i ∈ Region.ready md l.toArray listed := by simpa using hr.1
      exact AnyE.first hoa (Region.noSelect_spec hsel) hs hc hn hin (fun c a w => hQ _ v c a w) (fun listed' a' w' hL => seqB_ready hL.1) rest.length listed a w inv (Region.free_spec hoa hr.2) hrm hy (grown_refl w B)
        (walk_sound B hsel hs hc hn hQ rest _ _ w (inv.set hrm hin) hB' hK)

theorem region (B : Option Nat) {id : Nat} {a : Act} {w : World} {l : List Oper} (n : Nat) (ord : List (Bool × Nat)) (hm : P.follows .mixedOrders = true) (hB : growB .any l.toArray n ord = true)
    (hQ : ∀ d v c a w, Q (.panic c) (Act.put a d v) w → Q (.panic c) a w)
    (h : walk B P l.toArray Q (l.drop n) (pick l ord) a w.drew) : (Code.region id l.toArray true).wp P Q a w := by
  simp only [growB, Bool.and_eq_true, decide_eq_true_eq] at hB
  obtain ⟨⟨⟨⟨⟨hsel, hn⟩, hs⟩, hc⟩, hlen⟩, hck⟩ := hB
  have hdl : (l.drop n).length = l.toArray.size - n := by simp
  have inv0 : HeadInv .any l.toArray n (Array.replicate l.toArray.size false) :=
    ⟨by simp, fun j oj _ hl => (by rw [getD_replicate_false] at hl; cases hl), fun t _ ht => getD_in (by simpa using ht) (getD_replicate_false _ _)⟩
  have H := walk_sound B (md := .any) hsel hs hc hn hQ ord _ a w.drew inv0 hck h
  refine wp_region_any hm ?_
  have := AnyE.any (Q := Q) (g := l.toArray.size - n) (fun listed a' w' hL => by
    have := wpAny_of_seq (md := .any) (Q' := Q) (l.drop n) n listed a' w' (fun j => by simp [List.getElem?_drop]) (by rw [hdl]; exact hL.1) hL.2
    rwa [hdl] at this) _ _ _ _ H
  rw [hlen] at this
  exact this
end
end GrR
end Go.Proofs.Ytdbdnfjgmdkneaa
