/- In one text: StoSym, GrowF, Prm, PrmAt. -/
import Derived.Test.YtdbdnfjgmdkneaaRows
import Derived.WalkKit
import Derived.Handy
import Derived.Lib.Hide
import Derived.IntWalk
import Derived.Test.YtdbdnfjgmdkneaaMA1
import Derived.Test.YtdbdnfjgmdkneaaMA5
import Derived.Test.YtdbdnfjgmdkneaaMA6
import Derived.Test.YtdbdnfjgmdkneaaMA7
namespace Go.Proofs.Ytdbdnfjgmdkneaa
set_option maxRecDepth 20000
open Go.RowKit Go.Deep Go.Maps
set_option linter.unusedVariables false
theorem till_getD {ps : List Pr} {k : Nat} {u : Int} (h : k < ps.length) : recs (ps.set k (SM.till (ps.getD k zp).1 u, (ps.getD k zp).2)) = (recs ps).set k (SM.till ((recs ps).getD k Rc.zero) u) := by
  rw [recs_at]
  unfold recs
  rw [List.map_set]
theorem SAtX.put_until {w w2 : World} {t g cap n : Nat} {D : Nat → Prop} {st : Sto} {mp : Option Nat} {ps : List Pr} (h : SAtX w t D st (.slice (some ⟨g, 0, none⟩) n cap) mp ps) {k : Nat} (hk : k < ps.length) (u : Int) (hw : w2 = w.setCell ⟨g, k * 10 + 8, none⟩ (.int .i64 u)) :
    SAtX w2 t D { st with l := st.l.set k (SM.till (st.l.getD k Rc.zero) u) } (.slice (some ⟨g, 0, none⟩) n cap) mp (ps.set k (SM.till (ps.getD k zp).1 u, (ps.getD k zp).2)) ∧ PFr D w w2 := by
  obtain ⟨harr, hn⟩ := h.own.arr
  obtain ⟨ha2, hg2⟩ := harr.till (by omega) u hw
  obtain ⟨hap, hbp⟩ := h.apart
  obtain ⟨hgt, cs, hcs⟩ := hap g rfl
  have hst : ∀ T, T ≠ 28 → Still T w w2 := fun T hT => Still.grown hg2 hcs (Ne.symm hT)
  have hslc : ∀ q ∈ ps.set k (SM.till (ps.getD k zp).1 u, (ps.getD k zp).2), Slc q := fun q hq => by
    rcases List.mem_or_eq_of_mem_set hq with hq | rfl
    · exact h.own.2 q hq
    · exact (h.own.2 (ps.getD k zp) (getD_mem hk) : Slc (ps.getD k zp))
  have hdat : Reads w2 D (ps.set k (SM.till (ps.getD k zp).1 u, (ps.getD k zp).2)) := fun q hq => by
    rcases List.mem_or_eq_of_mem_set hq with hq | rfl
    · exact (h.data q hq).still hg2.size (hst _ (by decide))
    · exact (h.data (ps.getD k zp) (getD_mem hk)).still hg2.size (hst _ (by decide))
  refine ⟨⟨h.log.keep (fun q cs hq => hst _ (by decide) q cs _ hq) (hg2.block t h.lt (by simpa using fun e => hgt e.symm)), h.here, ?_, ?_, h.inD, hdat, h.tombs.same fun b e => ?_⟩, Fr.grown hg2 (fun g' e => by have := Option.some.inj e; subst this; exact h.inD _ rfl), hst _ (by decide), hst _ (by decide)⟩
  · refine ha2.own (Nat.le_refl _) (by rw [List.length_set]; exact hn.symm) (fun j hj => ?_) hslc
    refine Eq.trans ?_ List.getD_eq_getElem?_getD.symm
    unfold upd
    rw [List.getElem?_set]
    by_cases hjk : j = k
    · subst hjk
      rw [if_pos rfl, if_pos rfl, if_pos hk]; rfl
    · rw [if_neg hjk, if_neg (fun e => hjk e.symm)]; exact List.getD_eq_getElem?_getD
  · rw [till_getD hk, h.recs]
  · subst e
    obtain ⟨_, es, c, hh⟩ := h.tombs.block
    exact hg2.block b (Array.getElem?_eq_some_iff.1 hh).1 (by
      intro e
      have e' := Option.some.inj e
      subst e'
      exact (hbp b rfl).2 rfl)
/-- A block of records that is none of the store's, written. -/
theorem SAtX.box {w w2 : World} {t z : Nat} {D : Nat → Prop} {st : Sto} {v : Value} {mp : Option Nat} {ps : List Pr} (h : SAtX w t D st v mp ps) (hg : w.grownBy w2 (some z)) (hz : ¬ D z) (hzt : ∃ cs f, w.heap[z]? = some (.cells cs 28 f)) : SAtX w2 t D st v mp ps := by
  obtain ⟨cs, f, hc⟩ := hzt
  exact h.away (D' := fun i => i = z) (Fr.grown hg (fun g e => (Option.some.inj e).symm)) (fun i hi e => hz (e ▸ hi)) (Still.grown hg hc (by decide))
theorem PFr.box {w w1 w2 : World} {z : Nat} {D : Nat → Prop} (h : PFr D w w1) (hg : w1.grownBy w2 (some z)) (hz : w.heap.size ≤ z) (hzt : ∃ cs f, w1.heap[z]? = some (.cells cs 28 f)) : PFr D w w2 := by
  obtain ⟨cs, f, hc⟩ := hzt
  exact ⟨h.fr.trans (Fr.grown (D := fun i => i = z) hg (fun g e => (Option.some.inj e).symm)) (fun i hi e => by omega), h.piece.trans (Still.grown hg hc (by decide)), h.bytes.trans (Still.grown hg hc (by decide))⟩
/-- What keepSymbol answers, and leaves. -/
def SymOut (w : World) (t : Nat) (D : Nat → Prop) (st : Sto) (r : Rc) (e : Ending) (w' : World) : Prop := ∃ (kr : Rc) (a : Option Addr) (c : Nat), e = .returned (.tuple #[kr.val (.slice a kr.d.length c), .bool (SM.addOf st r).2.1.isSome, .int .i64 (((SM.addOf st r).2.2 : Nat) : Int)]) ∧ Left w t D (SM.addOf st r).1 w' ∧ ∀ k, (SM.addOf st r).2.1 = some k → kr = k ∧ U8s w' (.slice a kr.d.length c) kr.d
theorem range_till {w : World} {g o : Nat} {r : Rc} {v : Value} (h : w.rangeAt g o (r.cells v)) (u : Int) : (w.setCell ⟨g, o + 8, none⟩ (.int .i64 u)).rangeAt g o ({ r with u := u }.cells v) := fun j c hj => by
  have hj10 := Rc.cells_lt _ _ hj
  by_cases e : j = 8
  · subst e
    rw [World.cell?_setCell_same _ _ _ (h 8 _ rfl)]
    exact hj
  · rw [World.cell?_setCell_other _ _ _ _ (by first | (simp; omega) | simp)]
    refine h j c ?_
    obtain rfl | rfl | rfl | rfl | rfl | rfl | rfl | rfl | rfl : j = 0 ∨ j = 1 ∨ j = 2 ∨ j = 3 ∨ j = 4 ∨ j = 5 ∨ j = 6 ∨ j = 7 ∨ j = 9 := by omega
    all_goals exact hj
set_option maxHeartbeats 2000000 in
theorem sym_taken (t : Nat) (D : Nat → Prop) (st : Sto) (r : Rc) (ua : Option Addr) (uc : Nat) (w : World) (v : Value) (mp : Option Nat) (ps : List Pr) (h : SAtX w t D st v mp ps) (hD : ∀ i, D i → i < w.heap.size) (hl : st.l.length ≤ 1000) (hm : st.m ≤ 1000) (hso : SM.Sorted st.l) (hu : U8s w (.slice ua r.d.length uc) r.d) (hne : r.d ≠ []) (hrl : r.d.length ≤ 1000) (hh : ¬ SM.Has st.t r) (hT : SM.Taken r st.l) :
    Calls Try.prog 90 #[.pointer (some ⟨t, 0, none⟩), r.val (.slice ua r.d.length uc)] w (SymOut w t D st r) := by
  have hln : ps.length ≤ 1000 := by rw [h.len]; exact hl
  have hsp : SM.Sorted (recs ps) := by rw [h.recs]; exact hso
  have HFIND : Hid (∀ w', w.Extends w' → Calls Try.prog 104 #[.pointer (some ⟨t, 0, none⟩), r.val (.slice ua r.d.length uc)] w' (FindOut w' r st.l)) := fun w' hx => by
    have := find_any t v ps r ua r.d.length uc w' (by obtain ⟨_, _, _, c3, _⟩ := (h.ext hx).cells; exact c3) (h.ext hx).own hln hsp
    rw [h.recs] at this; exact this
  obtain ⟨k, hk⟩ : ∃ k, k = SM.pos r st.l := ⟨_, rfl⟩
  have hkl : k < st.l.length := by rw [hk]; exact hT.1
  have hkp : k < ps.length := by rw [h.len]; exact hkl
  obtain ⟨g, ⟨cap, e⟩, hr⟩ := h.range k hkp
  subst e
  have hadd : SM.addOf st r = if (st.l.getD k Rc.zero).u < r.u then ({ st with l := st.l.set k (SM.till (st.l.getD k Rc.zero) r.u) }, some (SM.till (st.l.getD k Rc.zero) r.u), 0) else (st, none, 0) := by
    unfold SM.addOf
    rw [if_neg hh, ← hk, if_pos (by rw [hk]; exact (SM.taken_iff r st.l).1 hT)]
  have HFO : Hid (∀ w' e w2, FindOut w' r st.l e w2 → e = .returned (.tuple #[.int .i64 ((k : Nat) : Int), .bool true]) ∧ w'.Extends w2) := fun w' e w2 ⟨h1, h2⟩ => ⟨by rw [h1, hk, decide_eq_true hT], h2⟩
  have hlk : st.l.getD k Rc.zero = (ps.getD k zp).1 := by rw [← h.recs, recs_at]
  have hdl := h.data _ (getD_mem hkp)
  obtain ⟨ka, kc, hks⟩ := h.own.2 _ (getD_mem hkp)
  have HC : Hid (∀ w', w.Extends w' → w'.cell? ⟨t, 3, none⟩ = some (.slice (some ⟨g, 0, none⟩) ps.length cap) ∧ w'.rangeAt g (k * 10) ((ps.getD k zp).1.cells (ps.getD k zp).2) ∧ w'.frozen? ⟨g, k * 10 + 8, none⟩ = false ∧ g < w.heap.size) := fun w' hx => by
    obtain ⟨_, _, _, c3, _⟩ := (h.ext hx).cells
    exact ⟨c3, rangeAt_ext hr hx, (h.own.arr.1.ext hx).frozen _, h.own.arr.1.lt⟩
  have hset : st.l.set k (SM.till (st.l.getD k Rc.zero) (st.l.getD k Rc.zero).u) = st.l := by
    apply List.ext_getElem?
    intro j
    rw [List.getElem?_set]
    split
    · rename_i e; subst e
      rw [List.getD_eq_getElem?_getD, List.getElem?_eq_getElem hkl]
      first | rfl | (rw [if_pos hkl]; rfl)
    · rfl
  have HFIN : Hid (∀ (w1 w2 w3 : World) (u : Int) (z : Nat), w.Extends w1 → w2 = w1.setCell ⟨g, k * 10 + 8, none⟩ (.int .i64 u) → u = max (st.l.getD k Rc.zero).u r.u → w2.grownBy w3 (some z) → w.heap.size ≤ z → (∃ cs f, w2.heap[z]? = some (.cells cs 28 f)) → SymOut w t D st r (.returned (.tuple #[(SM.till (ps.getD k zp).1 u).val (ps.getD k zp).2, .bool (decide ((st.l.getD k Rc.zero).u < r.u)), .int .i64 0])) w3) := fun w1 w2 w3 u z hx hw2 hum hg3 hz hzt => by
    obtain ⟨h1, h2⟩ := (h.ext hx).put_until hkp u hw2
    have hz1 : ¬ D z := fun hd => by have := hD z hd; omega
    have h3 := h1.box hg3 hz1 hzt
    have hL : ∀ st', st' = { st with l := st.l.set k (SM.till (st.l.getD k Rc.zero) u) } → Left w t D st' w3 := fun st' e => by
      subst e
      exact ⟨⟨_, _, _, h3.mono fun i hi => .inl hi⟩, ((PFr.ext hx).trans h2).box hg3 hz hzt⟩
    have hdat : U8s w3 (.slice ka (ps.getD k zp).1.d.length kc) (ps.getD k zp).1.d := by
      have := (h3.data (SM.till (ps.getD k zp).1 u, (ps.getD k zp).2) (List.mem_iff_getElem.2 ⟨k, by rw [List.length_set]; exact hkp, by simp⟩)).1
      rw [hks] at this
      exact this
    unfold SymOut
    rw [hadd]
    by_cases hlt : (st.l.getD k Rc.zero).u < r.u
    · have hur : u = r.u := by omega
      subst hur
      rw [if_pos hlt, decide_eq_true hlt]
      refine ⟨SM.till (ps.getD k zp).1 r.u, ka, kc, by rw [hks]; rfl, hL _ rfl, fun k' hk' => ?_⟩
      simp only [Option.some.injEq] at hk'
      subst hk'
      exact ⟨by rw [hlk], hdat⟩
    · have hur : u = (st.l.getD k Rc.zero).u := by omega
      rw [if_neg hlt, decide_eq_false hlt]
      refine ⟨SM.till (ps.getD k zp).1 u, ka, kc, by rw [hks]; rfl, hL _ ?_, fun k' hk' => nomatch hk'⟩
      rw [hur, hset]
  have HKS : Hid (Slc (ps.getD k zp)) := ⟨ka, kc, hks⟩
  have HTG : Hid (t = g → False) := fun e => (h.apart.1 g rfl).1 e.symm
  clear h hD hl hm hso hu hne hrl hh hT hln hsp hk hkl hr hadd hdl hset hks
  rw [hlk] at HFIN
  clear hlk
  generalize ps.getD k zp = p at *
  obtain ⟨⟨xp, xn, xb, xs, xm, xk, xe, xg, xu, xd⟩, xv⟩ := p
  obtain ⟨va, vc, hxv⟩ := HKS.out
  simp only at hxv
  subst hxv
  generalize ps.length = n at *
  obtain ⟨rp, rn, rb, rs, rm, rk, re, rg, ru, rd⟩ := r
  simp only at HFIN
  unfold SymOut at HFIN
  show Calls Try.prog 90 #[_, .agg #[.int .i64 rp, .int .i64 rn, .int .i64 rb, .int .i64 rs, .int .i64 rm, .int .i64 rk, .int .i64 re, .bool rg, .int .i64 ru, .slice ua rd.length uc]] w _
  have HFI : Hid (∀ (w1 w2 w3 : World) (u : Int) (z : Nat) (b : Bool), w.Extends w1 → w2 = w1.setCell ⟨g, k * 10 + 8, none⟩ (.int .i64 u) → u = max xu ru → b = decide (xu < ru) → w2.grownBy w3 (some z) → w.heap.size ≤ z → (∃ cs f, w2.heap[z]? = some (.cells cs 28 f)) → SymOut w t D st ⟨rp, rn, rb, rs, rm, rk, re, rg, ru, rd⟩ (.returned (.tuple #[(⟨xp, xn, xb, xs, xm, xk, xe, xg, u, xd⟩ : Rc).val (.slice va xd.length vc), .bool b, .int .i64 0])) w3) := fun w1 w2 w3 u z b hx hw2 hu hb hg3 hz hzt => by
    subst hb
    exact HFIN.out w1 w2 w3 u z hx hw2 hu hg3 hz hzt
  clear HFIN
  generalize SymOut w t D st ⟨rp, rn, rb, rs, rm, rk, re, rg, ru, rd⟩ = Q at *
  go_enter Try.func90, Try.ntmps90
  go_upto_region 1 with fail
  generalize hw1 : World.alloc w _ = w1
  generalize hw2 : World.alloc w1 _ = w2
  have hs1 : w1.heap.size = w.heap.size + 1 := by subst hw1; simp
  have hx1 : w.Extends w1 := by subst hw1; exact ext_alloc _ _
  have hx2 : w1.Extends w2 := by subst hw2; exact ext_alloc _ _
  have ha1 : Arr w1 w.heap.size 1 1 (fun _ => (⟨rp, rn, rb, rs, rm, rk, re, rg, ru, rd⟩, .slice ua rd.length uc)) := by subst hw1; exact Arr.box w ⟨rp, rn, rb, rs, rm, rk, re, rg, ru, rd⟩ _
  have ha2 : Arr w2 w1.heap.size 1 1 (fun _ => (Rc.zero, .slice none 0 0)) := by subst hw2; exact Arr.box w1 Rc.zero _
  rw [hs1] at ha2
  have ha1 := ha1.ext hx2
  have HX2 := Lib.hid (Gr.ext_trans hx1 hx2)
  obtain ⟨y, hy⟩ : ∃ y, y = w.heap.size := ⟨_, rfl⟩
  rw [← hy] at ha1 ha2 ⊢
  have HYW := Lib.hid hy
  have HA1 := Lib.hid ha1
  have HA2 := Lib.hid ha2
  obtain ⟨c0, c1, c2, c3, c4, c5, c6, c7, c8, c9⟩ := RCell.ten (ha1.one rfl)
  simp only [Nat.zero_add] at c0 c1 c2 c3 c4 c5 c6 c7 c8 c9
  clear hw1 hw2 hs1 hx1 hx2 hy ha1 ha2
  go_wp2_with fail
  refine (HFIND.out w2 HX2.out).mono ?_
  rintro e w3 hfo
  obtain ⟨rfl, hx3⟩ := HFO.out w2 e w3 hfo
  clear hfo
  have HX3 := Lib.hid (Gr.ext_trans HX2.out hx3)
  have HA13 := Lib.hid (HA1.out.ext hx3)
  have HA23 := Lib.hid (HA2.out.ext hx3)
  clear hx3 HA1 HA2 HX2 c0 c1 c2 c3 c4 c5 c6 c7 c8 c9
  have HB : Hid (∀ w', w3.Extends w' → (w'.cell? ⟨t, 3, none⟩ = some (.slice (some ⟨g, 0, none⟩) n cap) ∧ w'.frozen? ⟨g, k * 10 + 8, none⟩ = false) ∧ w'.cell? ⟨y, 8, none⟩ = some (.int .i64 ru) ∧ w'.rangeAt g (k * 10) (Rc.cells ⟨xp, xn, xb, xs, xm, xk, xe, xg, xu, xd⟩ (.slice va xd.length vc))) := fun w' hw' => by
    obtain ⟨e1, e2, e3, e4⟩ := HC.out w' (Gr.ext_trans HX3.out hw')
    exact ⟨⟨e1, e3⟩, by simpa using (rangeAt_ext (HA13.out.one rfl) hw') 8 _ rfl, e2⟩
  have hgl := (HC.out w (Gr.ext_refl w)).2.2.2
  clear HFIND HFO HC HA13
  go_wp2_with fail
  refine Gr.region 11 [(false,0),(false,1),(false,2),(false,3),(false,4),(false,5),(false,6),(false,7),(false,8),(false,9),(false,10)] (by kernel_rfl) (by kernel_rfl) (fun d _ _ _ _ h => by cases d <;> exact h) ?_
  simp only [Gr.pick, List.getElem?_cons_zero, List.getElem?_cons_succ, List.drop_succ_cons, List.drop_zero]
  have hxd : w3.Extends w3.drew := Gr.ext_drew (Gr.ext_refl w3)
  have HXD := Lib.hid hxd
  have HAD : Hid (Arr w3.drew (y + 1) 1 1 (fun _ => (Rc.zero, .slice none 0 0))) := HA23.out.ext hxd
  generalize w3.drew = wd at *
  clear hxd HA23
  iterate 11
    refine Gr.walk_t ?_ (Or.inl ⟨by rfl, ?_⟩) ?_
    rotate_left
    · intro w' hw'
      obtain ⟨⟨e0, e1⟩, e2, e3⟩ := HB.out w' (Gr.ext_trans HXD.out hw')
      obtain ⟨d0, d1, d2, d3, d4, d5, d6, d7, d8, d9⟩ := RCell.ten e3
      clear hw'
      go_simp
      try with_reducible rfl
    simp only [Act.put, List.setIfInBounds_toArray, List.set_cons_zero, List.set_cons_succ]
  refine Gr.walk_nil ?_
  go_wp2_with fail
  refine Gr.region 18 [(false,0),(false,1),(false,2),(false,3),(false,4),(false,5),(false,6),(false,7),(false,8),(false,9),(false,10),(false,11),(false,12),(false,13),(false,14),(false,15),(false,16),(false,17)] (by kernel_rfl) (by kernel_rfl) (fun d _ _ _ _ h => by cases d <;> exact h) ?_
  simp only [Gr.pick, List.getElem?_cons_zero, List.getElem?_cons_succ, List.drop_succ_cons, List.drop_zero]
  have hxd : wd.Extends wd.drew := Gr.ext_drew (Gr.ext_refl wd)
  have HXE := Lib.hid (Gr.ext_trans HXD.out hxd)
  have HAE : Hid (Arr wd.drew (y + 1) 1 1 (fun _ => (Rc.zero, .slice none 0 0))) := HAD.out.ext hxd
  generalize wd.drew = we at *
  clear hxd HAD HXD
  iterate 18
    refine Gr.walk_t ?_ (Or.inl ⟨by rfl, ?_⟩) ?_
    rotate_left
    · intro w' hw'
      obtain ⟨⟨e0, e1⟩, e2, e3⟩ := HB.out w' (Gr.ext_trans HXE.out hw')
      obtain ⟨d0, d1, d2, d3, d4, d5, d6, d7, d8, d9⟩ := RCell.ten e3
      clear hw'
      go_simp
      try with_reducible rfl
    simp only [Act.put, List.setIfInBounds_toArray, List.set_cons_zero, List.set_cons_succ]
  refine Gr.walk_nil ?_
  obtain ⟨⟨e0, e1⟩, e2, e3⟩ := HB.out we HXE.out
  obtain ⟨d0, d1, d2, d3, d4, d5, d6, d7, d8, d9⟩ := RCell.ten e3
  rcases Int.lt_or_le xu ru with hxr | hxr
  · have hmx : max xu ru = ru := by omega
    have HMU : Hid (ru = max xu ru) := by rw [hmx]; rfl
    have HBB : Hid (true = decide (xu < ru)) := by rw [decide_eq_true hxr]; rfl
    have HE3 := Lib.hid e3
    clear e3
    go_upto_region 5 with fail
    generalize hwf : World.setCell we _ _ = wf
    have hra : wf.rangeAt g (k * 10) (Rc.cells ⟨xp, xn, xb, xs, xm, xk, xe, xg, ru, xd⟩ (.slice va xd.length vc)) := by subst hwf; exact range_till (r := ⟨xp, xn, xb, xs, xm, xk, xe, xg, xu, xd⟩) HE3.out _
    have hgf : we.grownBy wf (some g) := by subst hwf; exact grown_set _ _ _ _
    have hzg : y + 1 ≠ g := by have := HYW.out; omega
    have HAZ : Hid (Arr wf (y + 1) 1 1 (fun _ => (Rc.zero, .slice none 0 0))) := HAE.out.kept (hgf.block (y + 1) HAE.out.lt (by simpa using hzg))
    have hty : t ≠ g := by
      intro e
      subst e
      exact HTG.out rfl
    have e0' : wf.cell? ⟨t, 3, none⟩ = some (.slice (some ⟨g, 0, none⟩) n cap) := by
      rw [World.cell?_of_block (w := we) (w' := wf) (a := ⟨t, 3, none⟩) (hgf.block t (World.block_lt_of_cell? we _ e0) (by simpa using hty))]; exact e0
    have HFW := Lib.hid (fun w3 b => HFI.out we wf w3 ru (y + 1) b (Gr.ext_trans HX3.out HXE.out) hwf.symm HMU.out)
    clear hwf hgf hzg hty HFI HB HAE HE3 HXE HX3 d0 d1 d2 d3 d4 d5 d6 d7 d8 d9 e0 e1 e2
    obtain ⟨d0, d1, d2, d3, d4, d5, d6, d7, d8, d9⟩ := RCell.ten hra
    simp only at d0 d1 d2 d3 d4 d5 d6 d7 d8 d9
    clear hra
    have HSLC : Hid (Slc ((⟨xp, xn, xb, xs, xm, xk, xe, xg, ru, xd⟩, .slice va xd.length vc) : Pr)) := ⟨va, vc, rfl⟩
    have HZT : Hid (∃ cs f, wf.heap[y + 1]? = some (.cells cs 28 f)) := by
      obtain ⟨cur, hc, _⟩ := HAZ.out
      exact ⟨_, _, hc⟩
    go_wp2_with (refine wpList_store_rec rfl 28 recsize _ _ rfl (y + 1) 0 0 1 1 _ (⟨xp, xn, xb, xs, xm, xk, xe, xg, ru, xd⟩, .slice va xd.length vc) rfl rfl rfl HAZ.out (by omega) HSLC.out ?_)
    intro w5 ha5 hg5
    have HP := Lib.hid (fun b hb => HFW.out w5 b hb hg5 (by have := HYW.out; omega) HZT.out)
    clear d0 d1 d2 d3 d4 d5 d6 d7 d8 d9
    obtain ⟨d0, d1, d2, d3, d4, d5, d6, d7, d8, d9⟩ := RCell.ten (ha5.one (p := (⟨xp, xn, xb, xs, xm, xk, xe, xg, ru, xd⟩, .slice va xd.length vc)) rfl)
    simp only [Nat.zero_add] at d0 d1 d2 d3 d4 d5 d6 d7 d8 d9
    clear ha5 hg5 HFW HAZ HSLC HZT
    go_wp2
    refine bodyPost_ret (v := .tuple #[(⟨xp, xn, xb, xs, xm, xk, xe, xg, ru, xd⟩ : Rc).val (.slice va xd.length vc), .bool true, .int .i64 0]) (by simp [results, Try.results90, go_sem, d0, d1, d2, d3, d4, d5, d6, d7, d8, d9]; try rfl) rfl ?_
    exact HP.out _ HBB.out
  · have hmx : max xu ru = xu := by omega
    have HMU : Hid (xu = max xu ru) := by rw [hmx]; rfl
    have HBB : Hid (false = decide (xu < ru)) := by rw [decide_eq_false (by omega)]; rfl
    have HE3 := Lib.hid e3
    clear e3
    go_upto_region 5 with fail
    generalize hwf : World.setCell we _ _ = wf
    have hra : wf.rangeAt g (k * 10) (Rc.cells ⟨xp, xn, xb, xs, xm, xk, xe, xg, xu, xd⟩ (.slice va xd.length vc)) := by subst hwf; exact range_till (r := ⟨xp, xn, xb, xs, xm, xk, xe, xg, xu, xd⟩) HE3.out _
    have hgf : we.grownBy wf (some g) := by subst hwf; exact grown_set _ _ _ _
    have hzg : y + 1 ≠ g := by have := HYW.out; omega
    have HAZ : Hid (Arr wf (y + 1) 1 1 (fun _ => (Rc.zero, .slice none 0 0))) := HAE.out.kept (hgf.block (y + 1) HAE.out.lt (by simpa using hzg))
    have hty : t ≠ g := by
      intro e
      subst e
      exact HTG.out rfl
    have e0' : wf.cell? ⟨t, 3, none⟩ = some (.slice (some ⟨g, 0, none⟩) n cap) := by
      rw [World.cell?_of_block (w := we) (w' := wf) (a := ⟨t, 3, none⟩) (hgf.block t (World.block_lt_of_cell? we _ e0) (by simpa using hty))]; exact e0
    have HFW := Lib.hid (fun w3 b => HFI.out we wf w3 xu (y + 1) b (Gr.ext_trans HX3.out HXE.out) hwf.symm HMU.out)
    clear hwf hgf hzg hty HFI HB HAE HE3 HXE HX3 d0 d1 d2 d3 d4 d5 d6 d7 d8 d9 e0 e1 e2
    obtain ⟨d0, d1, d2, d3, d4, d5, d6, d7, d8, d9⟩ := RCell.ten hra
    simp only at d0 d1 d2 d3 d4 d5 d6 d7 d8 d9
    clear hra
    have HSLC : Hid (Slc ((⟨xp, xn, xb, xs, xm, xk, xe, xg, xu, xd⟩, .slice va xd.length vc) : Pr)) := ⟨va, vc, rfl⟩
    have HZT : Hid (∃ cs f, wf.heap[y + 1]? = some (.cells cs 28 f)) := by
      obtain ⟨cur, hc, _⟩ := HAZ.out
      exact ⟨_, _, hc⟩
    go_wp2_with (refine wpList_store_rec rfl 28 recsize _ _ rfl (y + 1) 0 0 1 1 _ (⟨xp, xn, xb, xs, xm, xk, xe, xg, xu, xd⟩, .slice va xd.length vc) rfl rfl rfl HAZ.out (by omega) HSLC.out ?_)
    intro w5 ha5 hg5
    have HP := Lib.hid (fun b hb => HFW.out w5 b hb hg5 (by have := HYW.out; omega) HZT.out)
    clear d0 d1 d2 d3 d4 d5 d6 d7 d8 d9
    obtain ⟨d0, d1, d2, d3, d4, d5, d6, d7, d8, d9⟩ := RCell.ten (ha5.one (p := (⟨xp, xn, xb, xs, xm, xk, xe, xg, xu, xd⟩, .slice va xd.length vc)) rfl)
    simp only [Nat.zero_add] at d0 d1 d2 d3 d4 d5 d6 d7 d8 d9
    clear ha5 hg5 HFW HAZ HSLC HZT
    go_wp2
    refine bodyPost_ret (v := .tuple #[(⟨xp, xn, xb, xs, xm, xk, xe, xg, xu, xd⟩ : Rc).val (.slice va xd.length vc), .bool false, .int .i64 0]) (by simp [results, Try.results90, go_sem, d0, d1, d2, d3, d4, d5, d6, d7, d8, d9]; try rfl) rfl ?_
    exact HP.out _ HBB.out
theorem addOf_room {st : Sto} {r : Rc} (hh : ¬ SM.Has st.t r) (hT : ¬ SM.Taken r st.l) : SM.addOf st r = if (SM.roomOf st r.u).2 = true then ({ (SM.roomOf st r.u).1 with l := SM.ins r (SM.roomOf st r.u).1.l }, some r, 0) else ((SM.roomOf st r.u).1, none, 6) := by
  unfold SM.addOf SM.roomOf
  rw [if_neg hh, if_neg (fun h => hT ((SM.taken_iff r st.l).2 h))]
  by_cases h1 : st.l.length < st.m
  · rw [if_pos h1, if_pos h1]; rfl
  · rw [if_neg h1, if_neg h1]
    split <;> rfl
theorem roomOf_facts (st : Sto) (u : Int) (hl : st.l.length ≤ 1000) (hso : SM.Sorted st.l) : (SM.roomOf st u).1.l.length ≤ 1000 ∧ SM.Sorted (SM.roomOf st u).1.l := by
  unfold SM.roomOf
  split
  · exact ⟨hl, hso⟩
  · split
    · exact ⟨hl, hso⟩
    · refine ⟨?_, hso.erase _⟩
      show (st.l.eraseIdx _).length ≤ 1000
      rw [List.length_eraseIdx]
      split <;> omega
/-- A box of the call's own, written behind it all. -/
theorem Left.close {w w1 w2 w3 : World} {t z : Nat} {D : Nat → Prop} {st : Sto} (hx : w.Extends w1) (h : Left w1 t D st w2) (hg : w2.grownBy w3 (some z)) (hz : w.heap.size ≤ z) (hz1 : z < w1.heap.size) (hD : ∀ i, D i → i < w.heap.size) (hzt : ∃ cs f, w2.heap[z]? = some (.cells cs 28 f)) : Left w t D st w3 := by
  obtain ⟨⟨v, mp, ps, h1⟩, h2⟩ := h
  have hn : ¬ Nx D w1 w2 z := fun hd => by
    rcases hd with hd | hd
    · have := hD z hd; omega
    · omega
  refine ⟨⟨v, mp, ps, (h1.box hg hn hzt).mono fun i hi => ?_⟩, ((PFr.ext hx).trans h2).box hg hz hzt⟩
  have e1 := hx.size
  have e2 := h2.fr.size
  have e3 := hg.size
  rcases hi with hi | hi
  · exact .inl hi
  · exact .inr (by omega)
theorem Arr.left {w1 w2 : World} {t z : Nat} {D : Nat → Prop} {st : Sto} {f : Nat → Pr} (h : Left w1 t D st w2) (ha : Arr w1 z 1 1 f) (hz : ¬ D z) : Arr w2 z 1 1 f := ha.kept (h.2.fr.away z ha.lt hz)
set_option maxHeartbeats 2000000 in
theorem sym_full (t : Nat) (D : Nat → Prop) (st : Sto) (r : Rc) (ua : Option Addr) (uc : Nat) (w : World) (v : Value) (mp : Option Nat) (ps : List Pr) (h : SAtX w t D st v mp ps) (hD : ∀ i, D i → i < w.heap.size) (hl : st.l.length ≤ 1000) (hm : st.m ≤ 1000) (hso : SM.Sorted st.l) (hu : U8s w (.slice ua r.d.length uc) r.d) (hne : r.d ≠ []) (hrl : r.d.length ≤ 1000) (hh : ¬ SM.Has st.t r) (hT : ¬ SM.Taken r st.l) (hF : (SM.roomOf st r.u).2 = false) :
    Calls Try.prog 90 #[.pointer (some ⟨t, 0, none⟩), r.val (.slice ua r.d.length uc)] w (SymOut w t D st r) := by
  have hln : ps.length ≤ 1000 := by rw [h.len]; exact hl
  have hsp : SM.Sorted (recs ps) := by rw [h.recs]; exact hso
  have HFIND : Hid (∀ w', w.Extends w' → Calls Try.prog 104 #[.pointer (some ⟨t, 0, none⟩), r.val (.slice ua r.d.length uc)] w' (FindOut w' r st.l)) := fun w' hx => by
    have := find_any t v ps r ua r.d.length uc w' (by obtain ⟨_, _, _, c3, _⟩ := (h.ext hx).cells; exact c3) (h.ext hx).own hln hsp
    rw [h.recs] at this; exact this
  have hadd : SM.addOf st r = ((SM.roomOf st r.u).1, none, 6) := by rw [addOf_room hh hT, hF]; rfl
  have HFO : Hid (∀ w' e w2, FindOut w' r st.l e w2 → e = .returned (.tuple #[.int .i64 ((SM.pos r st.l : Nat) : Int), .bool false]) ∧ w'.Extends w2) := fun w' e w2 ⟨h1, h2⟩ => ⟨by rw [h1, decide_eq_false hT], h2⟩
  have HROOM : Hid (∀ w', w.Extends w' → Calls Try.prog 105 #[.pointer (some ⟨t, 0, none⟩), .int .i64 r.u] w' fun e w2 => e = .returned (.bool false) ∧ Left w' t D (SM.roomOf st r.u).1 w2) := fun w' hx => by
    have := room_any t D st r.u w' (SAt.ext (st := st) (D := D) (t := t) (w := w) ⟨v, mp, ps, h⟩ hx) hl hm
    rw [hF] at this; exact this
  have HD := Lib.hid hD
  have HFIN : Hid (∀ w1 w2 w3 z, w.Extends w1 → Left w1 t D (SM.roomOf st r.u).1 w2 → w2.grownBy w3 (some z) → w.heap.size ≤ z → z < w1.heap.size → (∃ cs f, w2.heap[z]? = some (.cells cs 28 f)) → SymOut w t D st r (.returned (.tuple #[Rc.zero.val (.slice none 0 0), .bool false, .int .i64 6])) w3) := fun w1 w2 w3 z hx hL hg hz hz1 hzt => by
    unfold SymOut
    rw [hadd]
    exact ⟨Rc.zero, none, 0, rfl, Left.close hx hL hg hz hz1 hD hzt, fun k hk => nomatch hk⟩
  clear h hD hl hm hso hu hne hrl hh hT hln hsp hF hadd
  generalize SM.pos r st.l = q at *
  generalize (SM.roomOf st r.u).1 = st1 at *
  obtain ⟨rp, rn, rb, rs, rm, rk, re, rg, ru, rd⟩ := r
  show Calls Try.prog 90 #[_, .agg #[.int .i64 rp, .int .i64 rn, .int .i64 rb, .int .i64 rs, .int .i64 rm, .int .i64 rk, .int .i64 re, .bool rg, .int .i64 ru, .slice ua rd.length uc]] w _
  generalize SymOut w t D st ⟨rp, rn, rb, rs, rm, rk, re, rg, ru, rd⟩ = Q at *
  go_enter Try.func90, Try.ntmps90
  go_upto_region 1 with fail
  generalize hw1 : World.alloc w _ = w1
  generalize hw2 : World.alloc w1 _ = w2
  have hs1 : w1.heap.size = w.heap.size + 1 := by subst hw1; simp
  have hx1 : w.Extends w1 := by subst hw1; exact ext_alloc _ _
  have hx2 : w1.Extends w2 := by subst hw2; exact ext_alloc _ _
  have ha1 : Arr w1 w.heap.size 1 1 (fun _ => (⟨rp, rn, rb, rs, rm, rk, re, rg, ru, rd⟩, .slice ua rd.length uc)) := by subst hw1; exact Arr.box w ⟨rp, rn, rb, rs, rm, rk, re, rg, ru, rd⟩ _
  have ha2 : Arr w2 w1.heap.size 1 1 (fun _ => (Rc.zero, .slice none 0 0)) := by subst hw2; exact Arr.box w1 Rc.zero _
  rw [hs1] at ha2
  have ha1 := ha1.ext hx2
  have HX2 := Lib.hid (Gr.ext_trans hx1 hx2)
  obtain ⟨y, hy⟩ : ∃ y, y = w.heap.size := ⟨_, rfl⟩
  rw [← hy] at ha1 ha2 ⊢
  have HYW := Lib.hid hy
  have HA1 := Lib.hid ha1
  have HA2 := Lib.hid ha2
  obtain ⟨c0, c1, c2, c3, c4, c5, c6, c7, c8, c9⟩ := RCell.ten (ha1.one rfl)
  simp only [Nat.zero_add] at c0 c1 c2 c3 c4 c5 c6 c7 c8 c9
  clear hw1 hw2 hs1 hx1 hx2 hy ha1 ha2
  go_wp2_with fail
  refine (HFIND.out w2 HX2.out).mono ?_
  rintro e w3 hfo
  obtain ⟨rfl, hx3⟩ := HFO.out w2 e w3 hfo
  clear hfo
  have HX3 := Lib.hid (Gr.ext_trans HX2.out hx3)
  have HA13 := Lib.hid (HA1.out.ext hx3)
  have HA23 := Lib.hid (HA2.out.ext hx3)
  clear hx3 HA1 HA2 HX2 c0 c1 c2 c3 c4 c5 c6 c7 c8 c9
  obtain ⟨c0, c1, c2, c3, c4, c5, c6, c7, c8, c9⟩ := RCell.ten (HA13.out.one rfl)
  simp only [Nat.zero_add] at c0 c1 c2 c3 c4 c5 c6 c7 c8 c9
  go_wp2_with fail
  refine (HROOM.out w3 HX3.out).mono ?_
  rintro e w4 ⟨rfl, hL⟩
  have hnz : ¬ D (y + 1) := fun hd => by have := HD.out _ hd; have := HYW.out; omega
  have HZ : Hid (Arr w4 (y + 1) 1 1 (fun _ => (Rc.zero, .slice none 0 0))) := Arr.left hL HA23.out hnz
  have HZ1 : Hid (y + 1 < w3.heap.size) := HA23.out.lt
  have HL := Lib.hid hL
  clear hL hnz HROOM HFIND HFO HA13 HA23 c0 c1 c2 c3 c4 c5 c6 c7 c8 c9
  have HSLC : Hid (Slc ((Rc.zero, .slice none 0 0) : Pr)) := ⟨none, 0, rfl⟩
  go_wp2_with (refine wpList_store_rec rfl 28 recsize _ _ rfl (y + 1) 0 0 1 1 _ (Rc.zero, .slice none 0 0) rfl rfl rfl HZ.out (by omega) HSLC.out ?_)
  intro w5 ha5 hg5
  have HP := Lib.hid (HFIN.out w3 w4 w5 (y + 1) HX3.out HL.out hg5 (by have := HYW.out; omega) HZ1.out (by obtain ⟨cur, hc, _⟩ := HZ.out; exact ⟨_, _, hc⟩))
  obtain ⟨d0, d1, d2, d3, d4, d5, d6, d7, d8, d9⟩ := RCell.ten (ha5.one (p := (Rc.zero, .slice none 0 0)) rfl)
  simp only [Nat.zero_add, Rc.zero] at d0 d1 d2 d3 d4 d5 d6 d7 d8 d9
  clear ha5 hg5 HFIN HZ HSLC HZ1 HL
  go_wp2
  refine bodyPost_ret (v := .tuple #[Rc.zero.val (.slice none 0 0), .bool false, .int .i64 6]) (by simp [results, Try.results90, go_sem, d0, d1, d2, d3, d4, d5, d6, d7, d8, d9]; try rfl) rfl ?_
  exact HP.out
theorem PFr.mono {D D' : Nat → Prop} {w w' : World} (h : PFr D w w') (hD : ∀ i, D i → D' i) : PFr D' w w' := ⟨⟨h.fr.os, h.fr.tape, h.fr.output, h.fr.size, fun i hi hn => h.fr.away i hi (fun hd => hn (hD i hd))⟩, h.piece, h.bytes⟩
theorem recs_ins (ps : List Pr) (r : Rc) (u : Value) : recs (insAt ps (SM.pos r (recs ps)) (r, u)) = SM.ins r (recs ps) := by
  unfold insAt SM.ins recs
  rw [List.map_append, List.map_cons, List.map_take, List.map_drop]
/-- What is left where a symbol was inserted. -/
theorem sym_fin {w w3 w4 w6 w7 wb w9 w10 w11 : World} {t y : Nat} {D : Nat → Prop} {st1 : Sto} {v1 : Value} {mp1 : Option Nat} {ps1 : List Pr} {r : Rc} {i : Nat} {a a' : Option Addr} {c c' : Nat}
    (hD : ∀ i, D i → i < w.heap.size) (hyw : y = w.heap.size) (hx3 : w.Extends w3) (hy3 : y + 1 < w3.heap.size)
    (h1 : SAtX w4 t (Nx D w3 w4) st1 v1 mp1 ps1) (hf1 : PFr D w3 w4) (hx6 : w4.Extends w6) (hu6 : U8s w6 (.slice a r.d.length c) r.d)
    (hb6 : ∀ g, (Value.slice a r.d.length c).ownBlock = some g → (w4.heap.size ≤ g ∧ g < w6.heap.size) ∧ ∃ cs f, w6.heap[g]? = some (.cells cs 5 f))
    (hg7 : w6.grownBy w7 (some y)) (hy6 : ∃ cs f, w6.heap[y]? = some (.cells cs 28 f)) (hxb : w7.Extends wb)
    (ho : OwnR w9 (.slice a' (insAt ps1 i (r, .slice a r.d.length c)).length c') (insAt ps1 i (r, .slice a r.d.length c))) (hg9 : wb.grownBy w9 v1.ownBlock)
    (hn : (Value.slice a' (insAt ps1 i (r, .slice a r.d.length c)).length c').ownBlock = v1.ownBlock ∨ ∃ g, (Value.slice a' (insAt ps1 i (r, .slice a r.d.length c)).length c').ownBlock = some g ∧ wb.heap.size ≤ g)
    (hw10 : w10 = w9.setCell ⟨t, 3, none⟩ (.slice a' (insAt ps1 i (r, .slice a r.d.length c)).length c')) (hi : i = SM.pos r (recs ps1))
    (hg11 : w10.grownBy w11 (some (y + 1))) (hz10 : ∃ cs f, w10.heap[y + 1]? = some (.cells cs 28 f)) :
    Left w t D { st1 with l := SM.ins r st1.l } w11 ∧ U8s w11 (.slice a r.d.length c) r.d := by
  have s3 := hx3.size
  have s4 := hf1.fr.size
  have s6 := hx6.size
  have s7 := hg7.size
  have sb := hxb.size
  have s9 := hg9.size
  have s10 : w9.heap.size = w10.heap.size := by subst hw10; simp
  have s11 := hg11.size
  have hny : ∀ k, w.heap.size ≤ k → k < w3.heap.size → ¬ Nx D w3 w4 k := fun k hk1 hk2 hd => by
    rcases hd with hd | hd
    · have := hD k hd; omega
    · omega
  have h7 : SAtX w7 t (Nx D w3 w4) st1 v1 mp1 ps1 := (h1.ext hx6).box hg7 (hny y (by omega) (by omega)) hy6
  have hB : SAtX wb t (Nx D w3 wb) st1 v1 mp1 ps1 := (h7.ext hxb).mono fun k hk => by
    rcases hk with hk | hk
    · exact .inl hk
    · exact .inr (by omega)
  have st67 : Still 5 w6 wb := by
    obtain ⟨cs, f, hc⟩ := hy6
    exact (Still.grown hg7 hc (by decide)).trans (Still.ext hxb)
  have st69 : Still 5 w6 w9 := st67.trans (hB.still_own hg9 (by decide))
  have hdat6 : RowIn w6 (Nx D w3 wb) (.slice a r.d.length c) r.d := ⟨hu6, .inr fun g hg => by
    obtain ⟨⟨g1, g2⟩, cs, f, hc⟩ := hb6 g hg
    exact ⟨.inr (by omega), cs, f, hc⟩⟩
  have hr9 : Reads w9 (Nx (Nx D w3 wb) wb w9) (insAt ps1 i (r, .slice a r.d.length c)) := fun q hq => by
    unfold insAt at hq
    rw [List.mem_append, List.mem_cons] at hq
    have hold : q ∈ ps1 → RowIn w9 (Nx (Nx D w3 wb) wb w9) q.2 q.1.d := fun hq => ((hB.data q hq).still hg9.size (hB.still_own hg9 (by decide))).mono fun k hk => .inl hk
    rcases hq with hq | rfl | hq
    · exact hold (List.mem_of_mem_take hq)
    · exact (hdat6.still (by omega) st69).mono fun k hk => .inl hk
    · exact hold (List.mem_of_mem_drop hq)
  obtain ⟨h10, f10⟩ := hB.put_slice hg9 ho hn hr9 hw10
  rw [hi, recs_ins, h1.recs] at h10
  have hnz : ¬ Nx (Nx D w3 wb) wb w10 (y + 1) := fun hd => by
    rcases hd with (hd | hd) | hd
    · have := hD _ hd; omega
    · omega
    · omega
  have h11 := h10.box hg11 hnz hz10
  have p4 : PFr D w w4 := (PFr.ext hx3).trans hf1
  have p6 : PFr D w w6 := p4.trans (PFr.ext hx6)
  have p7 : PFr D w w7 := p6.box hg7 (by omega) hy6
  have pb : PFr D w wb := p7.trans (PFr.ext hxb)
  have p10 : PFr D w w10 := pb.next (f10.mono fun k hk => by
    rcases hk with hk | hk
    · exact .inl hk
    · exact .inr (by omega))
  have p11 : PFr D w w11 := p10.box hg11 (by omega) hz10
  refine ⟨⟨⟨_, _, _, h11.mono fun k hk => ?_⟩, p11⟩, ?_⟩
  · rcases hk with (hk | hk) | hk
    · exact .inl hk
    · exact .inr (by omega)
    · exact .inr (by omega)
  · obtain ⟨cs, f, hc⟩ := hz10
    have st : Still 5 w6 w11 := (st67.trans f10.bytes).trans (Still.grown hg11 hc (by decide))
    exact (hdat6.still (by omega) st).1
set_option maxHeartbeats 2000000 in
theorem sym_new (t : Nat) (D : Nat → Prop) (st : Sto) (r : Rc) (ua : Option Addr) (uc : Nat) (w : World) (v : Value) (mp : Option Nat) (ps : List Pr) (h : SAtX w t D st v mp ps) (hD : ∀ i, D i → i < w.heap.size) (hl : st.l.length ≤ 1000) (hm : st.m ≤ 1000) (hso : SM.Sorted st.l) (hu : U8s w (.slice ua r.d.length uc) r.d) (hne : r.d ≠ []) (hrl : r.d.length ≤ 1000) (hh : ¬ SM.Has st.t r) (hT : ¬ SM.Taken r st.l) (hF : (SM.roomOf st r.u).2 = true) (hsep : ∀ g, (Value.slice ua r.d.length uc).ownBlock = some g → ¬ D g) :
    Calls Try.prog 90 #[.pointer (some ⟨t, 0, none⟩), r.val (.slice ua r.d.length uc)] w (SymOut w t D st r) := by
  have hln : ps.length ≤ 1000 := by rw [h.len]; exact hl
  have hsp : SM.Sorted (recs ps) := by rw [h.recs]; exact hso
  have HFIND : Hid (∀ w', w.Extends w' → Calls Try.prog 104 #[.pointer (some ⟨t, 0, none⟩), r.val (.slice ua r.d.length uc)] w' (FindOut w' r st.l)) := fun w' hx => by
    have := find_any t v ps r ua r.d.length uc w' (by obtain ⟨_, _, _, c3, _⟩ := (h.ext hx).cells; exact c3) (h.ext hx).own hln hsp
    rw [h.recs] at this; exact this
  have hadd : SM.addOf st r = ({ (SM.roomOf st r.u).1 with l := SM.ins r (SM.roomOf st r.u).1.l }, some r, 0) := by rw [addOf_room hh hT, hF]; rfl
  have HFO : Hid (∀ w' e w2, FindOut w' r st.l e w2 → e = .returned (.tuple #[.int .i64 ((SM.pos r st.l : Nat) : Int), .bool false]) ∧ w'.Extends w2) := fun w' e w2 ⟨h1, h2⟩ => ⟨by rw [h1, decide_eq_false hT], h2⟩
  have HROOM : Hid (∀ w', w.Extends w' → Calls Try.prog 105 #[.pointer (some ⟨t, 0, none⟩), .int .i64 r.u] w' fun e w2 => e = .returned (.bool true) ∧ Left w' t D (SM.roomOf st r.u).1 w2) := fun w' hx => by
    have := room_any t D st r.u w' (SAt.ext (st := st) (D := D) (t := t) (w := w) ⟨v, mp, ps, h⟩ hx) hl hm
    rw [hF] at this; exact this
  have HD := Lib.hid hD
  obtain ⟨hl1, hso1⟩ := roomOf_facts st r.u hl hso
  have HL1 := Lib.hid hl1
  have HSO1 := Lib.hid hso1
  have HRL := Lib.hid hrl
  have HU4 : Hid (∀ w1 w2 : World, w.Extends w1 → PFr D w1 w2 → U8s w2 (.slice ua r.d.length uc) r.d) := fun w1 w2 hx hf => by
    have hu1 := hu.ext hx
    refine hu1.same hf.fr.size (.inr fun g hg => hf.fr.away g ?_ (hsep g hg))
    rcases hu1 with ⟨e, _⟩ | ⟨b, off, cap, e, _, _, h3, _⟩
    · exact absurd e hne
    · cases e; simp only [Value.ownBlock, Option.some.injEq] at hg; subst hg; exact h3
  have HNE := Lib.hid hne
  have HOUT : Hid (∀ w' a c, Left w t D { (SM.roomOf st r.u).1 with l := SM.ins r (SM.roomOf st r.u).1.l } w' ∧ U8s w' (.slice a r.d.length c) r.d → SymOut w t D st r (.returned (.tuple #[r.val (.slice a r.d.length c), .bool true, .int .i64 0])) w') := fun w' a c ⟨h1, h2⟩ => by
    unfold SymOut
    rw [hadd]
    refine ⟨r, a, c, rfl, h1, fun k hk => ?_⟩
    simp only [Option.some.injEq] at hk
    exact ⟨hk, h2⟩
  clear h hD hl hm hso hu hne hrl hh hT hln hsp hF hadd hsep hl1 hso1
  generalize SM.pos r st.l = q at *
  generalize (SM.roomOf st r.u).1 = st1 at *
  obtain ⟨rp, rn, rb, rs, rm, rk, re, rg, ru, rd⟩ := r
  show Calls Try.prog 90 #[_, .agg #[.int .i64 rp, .int .i64 rn, .int .i64 rb, .int .i64 rs, .int .i64 rm, .int .i64 rk, .int .i64 re, .bool rg, .int .i64 ru, .slice ua rd.length uc]] w _
  generalize SymOut w t D st ⟨rp, rn, rb, rs, rm, rk, re, rg, ru, rd⟩ = Q at *
  go_enter Try.func90, Try.ntmps90
  go_upto_region 1 with fail
  generalize hw1 : World.alloc w _ = w1
  generalize hw2 : World.alloc w1 _ = w2
  have hs1 : w1.heap.size = w.heap.size + 1 := by subst hw1; simp
  have hx1 : w.Extends w1 := by subst hw1; exact ext_alloc _ _
  have hx2 : w1.Extends w2 := by subst hw2; exact ext_alloc _ _
  have ha1 : Arr w1 w.heap.size 1 1 (fun _ => (⟨rp, rn, rb, rs, rm, rk, re, rg, ru, rd⟩, .slice ua rd.length uc)) := by subst hw1; exact Arr.box w ⟨rp, rn, rb, rs, rm, rk, re, rg, ru, rd⟩ _
  have ha2 : Arr w2 w1.heap.size 1 1 (fun _ => (Rc.zero, .slice none 0 0)) := by subst hw2; exact Arr.box w1 Rc.zero _
  rw [hs1] at ha2
  have ha1 := ha1.ext hx2
  have HX2 := Lib.hid (Gr.ext_trans hx1 hx2)
  obtain ⟨y, hy⟩ : ∃ y, y = w.heap.size := ⟨_, rfl⟩
  rw [← hy] at ha1 ha2 ⊢
  have HYW := Lib.hid hy
  have HA1 := Lib.hid ha1
  have HA2 := Lib.hid ha2
  obtain ⟨c0, c1, c2, c3, c4, c5, c6, c7, c8, c9⟩ := RCell.ten (ha1.one rfl)
  simp only [Nat.zero_add] at c0 c1 c2 c3 c4 c5 c6 c7 c8 c9
  clear hw1 hw2 hs1 hx1 hx2 hy ha1 ha2
  go_wp2_with fail
  refine (HFIND.out w2 HX2.out).mono ?_
  rintro e w3 hfo
  obtain ⟨rfl, hx3⟩ := HFO.out w2 e w3 hfo
  clear hfo
  have HX3 := Lib.hid (Gr.ext_trans HX2.out hx3)
  have HA13 := Lib.hid (HA1.out.ext hx3)
  have HA23 := Lib.hid (HA2.out.ext hx3)
  clear hx3 HA1 HA2 HX2 c0 c1 c2 c3 c4 c5 c6 c7 c8 c9
  obtain ⟨c0, c1, c2, c3, c4, c5, c6, c7, c8, c9⟩ := RCell.ten (HA13.out.one rfl)
  simp only [Nat.zero_add] at c0 c1 c2 c3 c4 c5 c6 c7 c8 c9
  go_wp2_with fail
  refine (HROOM.out w3 HX3.out).mono ?_
  rintro e w4 ⟨rfl, hL⟩
  have hny : ¬ D y := fun hd => by have := HD.out _ hd; have := HYW.out; omega
  have hnz : ¬ D (y + 1) := fun hd => by have := HD.out _ hd; have := HYW.out; omega
  have HY4 : Hid (Arr w4 y 1 1 (fun _ => (⟨rp, rn, rb, rs, rm, rk, re, rg, ru, rd⟩, .slice ua rd.length uc))) := Arr.left hL HA13.out hny
  have HZ4 : Hid (Arr w4 (y + 1) 1 1 (fun _ => (Rc.zero, .slice none 0 0))) := Arr.left hL HA23.out hnz
  have HZ1 : Hid (y + 1 < w3.heap.size) := HA23.out.lt
  have HU := Lib.hid (HU4.out w3 w4 HX3.out hL.2)
  obtain ⟨⟨v1, mp1, ps1, h1⟩, hf1⟩ := hL
  have hlen1 : ps1.length ≤ 1000 := by rw [h1.len]; exact HL1.out
  have hsp1 : SM.Sorted (recs ps1) := by rw [h1.recs]; exact HSO1.out
  obtain ⟨_, _, _, e3, _, _, _⟩ := h1.cells
  have HF2 := Lib.hid (find_any t v1 ps1 ⟨rp, rn, rb, rs, rm, rk, re, rg, ru, rd⟩ ua rd.length uc w4 e3 h1.own hlen1 hsp1)
  have HH1 := Lib.hid h1
  have HF1 := Lib.hid hf1
  clear hny hnz HROOM HFIND HFO HA13 HA23 c0 c1 c2 c3 c4 c5 c6 c7 c8 c9 h1 hf1 HU4 e3 hsp1
  obtain ⟨c0, c1, c2, c3, c4, c5, c6, c7, c8, c9⟩ := RCell.ten (HY4.out.one rfl)
  simp only [Nat.zero_add] at c0 c1 c2 c3 c4 c5 c6 c7 c8 c9
  go_wp2_with fail
  refine HF2.out.mono ?_
  rintro e w5 ⟨rfl, hx5⟩
  have HX5 := Lib.hid hx5
  have HPL : Hid (SM.pos ⟨rp, rn, rb, rs, rm, rk, re, rg, ru, rd⟩ (recs ps1) ≤ ps1.length) := by show _ ≤ _; rw [← recs_length]; exact SM.pos_le _ _
  obtain ⟨i, hi⟩ : ∃ i, i = SM.pos ⟨rp, rn, rb, rs, rm, rk, re, rg, ru, rd⟩ (recs ps1) := ⟨_, rfl⟩
  generalize decide (SM.Taken ⟨rp, rn, rb, rs, rm, rk, re, rg, ru, rd⟩ (recs ps1)) = tk at *
  rw [← hi] at HPL ⊢
  have HI := Lib.hid hi
  have HY5 := Lib.hid (HY4.out.ext hx5)
  have HCL := Lib.hid (clone_any (.slice ua rd.length uc) rd w5 (HU.out.ext hx5) HNE.out (Nat.le_trans HRL.out (by decide)))
  clear hx5 hi HF2 HY4 HU c0 c1 c2 c3 c4 c5 c6 c7 c8 c9
  obtain ⟨c0, c1, c2, c3, c4, c5, c6, c7, c8, c9⟩ := RCell.ten (HY5.out.one rfl)
  simp only [Nat.zero_add] at c0 c1 c2 c3 c4 c5 c6 c7 c8 c9
  go_wp2_with fail
  refine HCL.out.mono ?_
  rintro e w6 ⟨a, c, rfl, hx6, hu6, hb6⟩
  have HX6 := Lib.hid (Gr.ext_trans HX5.out hx6)
  have HU6 := Lib.hid hu6
  have HB6 : Hid (∀ g, (Value.slice a rd.length c).ownBlock = some g → (w4.heap.size ≤ g ∧ g < w6.heap.size) ∧ ∃ cs f, w6.heap[g]? = some (.cells cs 5 f)) := fun g hg => by
    obtain ⟨⟨g1, g2⟩, cs, g3⟩ := hb6 g hg
    have := HX5.out.size
    exact ⟨⟨by omega, g2⟩, cs, _, g3⟩
  have HY6 := Lib.hid (HY5.out.ext hx6)
  have f9 := HY6.out.frozen 9
  clear hx6 hu6 hb6 HCL HY5 HX5 c0 c1 c2 c3 c4 c5 c6 c7 c8 c9
  obtain ⟨c0, c1, c2, c3, c4, c5, c6, c7, c8, c9⟩ := RCell.ten (HY6.out.one rfl)
  simp only [Nat.zero_add] at c0 c1 c2 c3 c4 c5 c6 c7 c8 c9
  go_upto_region 10 with fail
  generalize hw7 : World.setCell w6 _ _ = w7
  obtain ⟨ha7, hg7⟩ := HY6.out.datum (i := 0) (w' := w7) (by omega) (.slice a rd.length c) hw7.symm
  have HG7 := Lib.hid hg7
  have HY7 := Lib.hid ha7
  have hnyx : ∀ k, w.heap.size ≤ k → k < w3.heap.size → ¬ Nx D w3 w4 k := fun k hk1 hk2 hd => by
    rcases hd with hd | hd
    · have := HD.out k hd; omega
    · omega
  have hyb : ∃ cs f, w6.heap[y]? = some (.cells cs 28 f) := by obtain ⟨cur, hc, _⟩ := HY6.out; exact ⟨_, _, hc⟩
  have hyw := HYW.out
  have hz1 := HZ1.out
  have h7 : SAtX w7 t (Nx D w3 w4) st1 v1 mp1 ps1 := (HH1.out.ext HX6.out).box hg7 (hnyx y (by omega) (by omega)) hyb
  have HZ7 : Hid (Arr w7 (y + 1) 1 1 (fun _ => (Rc.zero, .slice none 0 0))) := (HZ4.out.ext HX6.out).kept (hg7.block (y + 1) (HZ4.out.ext HX6.out).lt (by simp))
  have HYB := Lib.hid hyb
  have hxd : w7.Extends w7.drew := Gr.ext_drew (Gr.ext_refl w7)
  have hd7 := h7.ext hxd
  have HYR : Hid (∀ k, y ≤ k → k ≤ y + 1 → v1.ownBlock ≠ some k) := fun k hk1 hk2 e => hnyx k (by omega) (by omega) (h7.inD k e)
  have HYT : Hid (y ≠ t ∧ y + 1 ≠ t) := ⟨fun e => hnyx y (by omega) (by omega) (e ▸ h7.here), fun e => hnyx (y + 1) (by omega) (by omega) (e ▸ h7.here)⟩
  obtain ⟨va, vc, rfl⟩ := h7.own.slice
  have HTR : Hid ((Value.slice va ps1.length vc).ownBlock ≠ some t) := fun e => (h7.apart.1 t e).1 rfl
  obtain ⟨_, _, _, e3, _, fr3, _⟩ := hd7.cells
  have HCT : Hid (w7.drew.cell? ⟨t, 3, none⟩ = some (.slice va ps1.length vc) ∧ w7.drew.frozen? ⟨t, 3, none⟩ = false ∧ t < w7.drew.heap.size) := ⟨e3, fr3, hd7.lt⟩
  have HYD : Hid (Arr w7.drew y 1 1 (fun _ => (⟨rp, rn, rb, rs, rm, rk, re, rg, ru, rd⟩, .slice a rd.length c))) := (ha7.ext hxd).congr fun k hk => by
    obtain rfl : k = 0 := by omega
    rfl
  have HZD := Lib.hid (HZ7.out.ext hxd)
  have HOD := Lib.hid hd7.own
  have HXD7 := Lib.hid hxd
  clear hw7 ha7 hg7 h7 hd7 hyb hxd hyw hz1 hnyx e3 fr3 c0 c1 c2 c3 c4 c5 c6 c7 c8 c9 f9 HY6 HY7 HZ7 HZ4
  generalize hnn : ps1.length = n1 at *
  have HNN := Lib.hid hnn
  clear hnn
  obtain ⟨Rb, hRb⟩ : ∃ Rb, Rb = (Value.slice va n1 vc).ownBlock := ⟨_, rfl⟩
  rw [← hRb] at HYR HTR
  have HRB := Lib.hid hRb
  clear hRb
  refine GrR.region Rb 9 [(false,0),(false,1),(false,2),(false,3),(false,4),(false,5),(false,6),(true,7),(true,8)] (by kernel_rfl) (by kernel_rfl) (fun d _ _ _ _ h => by cases d <;> exact h) ?_
  simp only [Gr.pick, List.getElem?_cons_zero, List.getElem?_cons_succ, List.drop_succ_cons, List.drop_zero]
  generalize w7.drew = wd at *
  have HT : Hid (∀ w' : World, wd.grownBy w' Rb → w'.cell? ⟨t, 3, none⟩ = some (.slice va n1 vc) ∧ w'.frozen? ⟨t, 3, none⟩ = false ∧ w'.rangeAt y 0 (Rc.cells ⟨rp, rn, rb, rs, rm, rk, re, rg, ru, rd⟩ (.slice a rd.length c))) := fun w' hw' => by
    obtain ⟨q1, q2, q3⟩ := HCT.out
    have et : w'.heap[t]? = wd.heap[t]? := hw'.block t q3 (fun e => HTR.out e.symm)
    have ey : w'.heap[y]? = wd.heap[y]? := hw'.block y HYD.out.lt (fun e => HYR.out y (Nat.le_refl _) (Nat.le_succ _) e.symm)
    exact ⟨by rw [World.cell?_of_block (w := wd) (w' := w') (a := ⟨t, 3, none⟩) et]; exact q1, by rw [World.frozen?_of_block (w := wd) (w' := w') (a := ⟨t, 3, none⟩) et]; exact q2, (HYD.out.kept ey).one rfl⟩
  iterate 7
    refine GrR.walk_t ?_ (Or.inl ⟨by rfl, ?_⟩) ?_
    rotate_left
    · intro w' hw'
      obtain ⟨e0, _, e1⟩ := HT.out w' hw'
      obtain ⟨d0, d1, d2, d3, d4, d5, d6, d7, d8, d9⟩ := RCell.ten e1
      simp only [Nat.zero_add] at d0 d1 d2 d3 d4 d5 d6 d7 d8 d9
      clear hw'
      go_simp
      try with_reducible rfl
    simp only [Act.put, List.setIfInBounds_toArray, List.set_cons_zero, List.set_cons_succ]
  refine GrR.walk_c (fun K hK => ?_)
  go_simp
  generalize hwb : World.alloc _ _ = wb
  have HBB : Hid (wb.heap[wd.heap.size]? = some (.cells (Rc.cells ⟨rp, rn, rb, rs, rm, rk, re, rg, ru, rd⟩ (.slice a rd.length c)).toArray 28 (0, 0))) := by subst hwb; exact heap_alloc_new wd _
  have hxb : wd.Extends wb := by subst hwb; exact ext_alloc _ _
  have HXB := Lib.hid hxb
  have HGB : Hid (wd.grownBy wb Rb) := by subst hwb; exact World.grownBy_alloc wd _ _
  refine hK.out _ _ HGB.out ?_
  clear hK K hwb
  have HOB := Lib.hid (HOD.out.ext hxb)
  have hbR : Rb ≠ some wd.heap.size := fun e => by
    rw [HRB.out] at e
    have := (HOD.out.1.lt _ e).2
    omega
  have HINS := Lib.hid (ins_any (.slice va n1 vc) ps1 i wd.heap.size (⟨rp, rn, rb, rs, rm, rk, re, rg, ru, rd⟩, .slice a rd.length c) _ wb HOB.out (by rw [HNN.out]; exact hlen1) (by rw [HNN.out]; exact HPL.out) HBB.out (by rw [← HRB.out]; exact hbR) ⟨a, c, rfl⟩)
  clear hxb HOD HBB hbR
  generalize wd.heap.size = bb at *
  unfold InsOut at HINS
  rw [← HRB.out] at HINS
  generalize hqs : insAt ps1 i (⟨rp, rn, rb, rs, rm, rk, re, rg, ru, rd⟩, .slice a rd.length c) = qs at *
  have HQS := Lib.hid hqs
  clear hqs
  refine GrR.walk_c (fun K hK => ?_)
  go_simp
  refine (HINS.out).mono ?_
  rintro e w9 ⟨a', c', rfl, ho, hg, hn⟩
  have HG9 := Lib.hid hg
  have HO9 := Lib.hid ho
  have HN9 := Lib.hid hn
  try go_simp
  refine hK.out _ _ (hg) ?_
  clear hK K
  clear hg ho hn HINS
  have HGD : Hid (wd.grownBy w9 Rb) := grown_trans HGB.out HG9.out
  obtain ⟨e0, f0, e1⟩ := HT.out w9 HGD.out
  refine GrR.walk_nil ?_
  go_upto_region 11 with fail
  generalize hw10 : World.setCell w9 _ _ = w10
  have hg10 : w9.grownBy w10 (some t) := by subst hw10; exact grown_set _ _ _ _
  obtain ⟨hyt, hzt⟩ := HYT.out
  have HZ9 : Hid (Arr w9 (y + 1) 1 1 (fun _ => (Rc.zero, .slice none 0 0))) := HZD.out.kept (HGD.out.block (y + 1) HZD.out.lt (fun e => HYR.out (y + 1) (Nat.le_succ _) (Nat.le_refl _) e.symm))
  have HZ10 : Hid (Arr w10 (y + 1) 1 1 (fun _ => (Rc.zero, .slice none 0 0))) := HZ9.out.kept (hg10.block (y + 1) HZ9.out.lt (by simpa using hzt))
  have HY9 : Hid (Arr w9 y 1 1 (fun _ => (⟨rp, rn, rb, rs, rm, rk, re, rg, ru, rd⟩, .slice a rd.length c))) := HYD.out.kept (HGD.out.block y HYD.out.lt (fun e => HYR.out y (Nat.le_refl _) (Nat.le_succ _) e.symm))
  have HY10 : Hid (Arr w10 y 1 1 (fun _ => (⟨rp, rn, rb, rs, rm, rk, re, rg, ru, rd⟩, .slice a rd.length c))) := HY9.out.kept (hg10.block y HY9.out.lt (by simpa using hyt))
  have HEND : Hid (∀ w11, w10.grownBy w11 (some (y + 1)) → Q (.returned (.tuple #[.agg #[.int .i64 rp, .int .i64 rn, .int .i64 rb, .int .i64 rs, .int .i64 rm, .int .i64 rk, .int .i64 re, .bool rg, .int .i64 ru, .slice a rd.length c], .bool true, .int .i64 0])) w11) := fun w11 hg11 => by
    refine HOUT.out w11 a c (sym_fin (r := ⟨rp, rn, rb, rs, rm, rk, re, rg, ru, rd⟩) (w9 := w9) (a' := a') (c' := c') HD.out HYW.out HX3.out HZ1.out HH1.out HF1.out HX6.out HU6.out HB6.out HG7.out HYB.out (Gr.ext_trans HXD7.out HXB.out) ?_ ?_ ?_ ?_ HI.out hg11 (by obtain ⟨cur, hc, _⟩ := HZ10.out; exact ⟨_, _, hc⟩))
    · rw [HQS.out]; exact HO9.out
    · rw [← HRB.out]; exact HG9.out
    · rw [HQS.out, ← HRB.out]; exact HN9.out
    · rw [HQS.out]; exact hw10.symm
  clear hw10 hg10 hyt hzt e0 f0 e1 HOUT HH1 HF1 HX6 HU6 HB6 HG7 HYB HXD7 HXB HO9 HN9 HG9 HGD HGB HT HCT HYD HZD HZ9 HY9 HYR HYT HTR HQS HOB
  obtain ⟨d0, d1, d2, d3, d4, d5, d6, d7, d8, d9⟩ := RCell.ten (HY10.out.one rfl)
  simp only [Nat.zero_add] at d0 d1 d2 d3 d4 d5 d6 d7 d8 d9
  have HSLC : Hid (Slc ((⟨rp, rn, rb, rs, rm, rk, re, rg, ru, rd⟩, .slice a rd.length c) : Pr)) := ⟨a, c, rfl⟩
  go_wp2_with (refine wpList_store_rec rfl 28 recsize _ _ rfl (y + 1) 0 0 1 1 _ (⟨rp, rn, rb, rs, rm, rk, re, rg, ru, rd⟩, .slice a rd.length c) rfl rfl rfl HZ10.out (by omega) HSLC.out ?_)
  intro w11 ha11 hg11
  have HP := Lib.hid (HEND.out w11 hg11)
  clear d0 d1 d2 d3 d4 d5 d6 d7 d8 d9
  obtain ⟨d0, d1, d2, d3, d4, d5, d6, d7, d8, d9⟩ := RCell.ten (ha11.one (p := (⟨rp, rn, rb, rs, rm, rk, re, rg, ru, rd⟩, .slice a rd.length c)) rfl)
  simp only [Nat.zero_add] at d0 d1 d2 d3 d4 d5 d6 d7 d8 d9
  clear ha11 hg11 HEND HZ10 HY10 HSLC
  go_wp2
  refine bodyPost_ret (v := .tuple #[.agg #[.int .i64 rp, .int .i64 rn, .int .i64 rb, .int .i64 rs, .int .i64 rm, .int .i64 rk, .int .i64 re, .bool rg, .int .i64 ru, .slice a rd.length c], .bool true, .int .i64 0]) (by simp [results, Try.results90, go_sem, d0, d1, d2, d3, d4, d5, d6, d7, d8, d9]; try rfl) rfl ?_
  exact HP.out
/-- A symbol of an object that is not gone. -/
theorem sym_any (t : Nat) (D : Nat → Prop) (st : Sto) (r : Rc) (ua : Option Addr) (uc : Nat) (w : World) (h : SAt w t D st) (hD : ∀ i, D i → i < w.heap.size) (hl : st.l.length ≤ 1000) (hm : st.m ≤ 1000) (hso : SM.Sorted st.l) (hu : U8s w (.slice ua r.d.length uc) r.d) (hne : r.d ≠ []) (hrl : r.d.length ≤ 1000) (hh : ¬ SM.Has st.t r) (hsep : ∀ g, (Value.slice ua r.d.length uc).ownBlock = some g → ¬ D g) :
    Calls Try.prog 90 #[.pointer (some ⟨t, 0, none⟩), r.val (.slice ua r.d.length uc)] w (SymOut w t D st r) := by
  obtain ⟨v, mp, ps, h⟩ := h
  by_cases hT : SM.Taken r st.l
  · exact sym_taken t D st r ua uc w v mp ps h hD hl hm hso hu hne hrl hh hT
  · cases hF : (SM.roomOf st r.u).2 with
    | true => exact sym_new t D st r ua uc w v mp ps h hD hl hm hso hu hne hrl hh hT hF hsep
    | false => exact sym_full t D st r ua uc w v mp ps h hD hl hm hso hu hne hrl hh hT hF
end Go.Proofs.Ytdbdnfjgmdkneaa
namespace Go.Proofs.Ytdbdnfjgmdkneaa
set_option maxRecDepth 20000
open Go.RowKit
namespace GrF
open Gr (AnyE check growB pick)
section
variable {P : Program} {ops : Array Oper} {Q : Exit → Act → World → Prop} {md : Region.Mode} {S : World → Prop}
def walk (B : (Nat → Prop)) (P : Program) (ops : Array Oper) (Q : Exit → Act → World → Prop) (tail : List Oper) : List (Bool × Oper) → Act → World → Prop
  | [], a, w => wpList P ops Q tail a w
  | (true, o) :: rest, a, w => if Region.wanted o (yielded ops a.tmps) = true then o.wp P a w (fun a' w' => Fr B w w' ∧ walk B P ops Q tail rest a' w') Q else walk B P ops Q tail rest (a.put o.dst undef) w
  | (false, o) :: rest, a, w => ∃ v, YieldsIf P ops (fun w' => Fr B w w') o v a ∧ walk B P ops Q tail rest (a.put o.dst v) w
theorem walk_nil {B : (Nat → Prop)} {tail : List Oper} {a : Act} {w : World} (h : wpList P ops Q tail a w) : walk B P ops Q tail [] a w := h
/-- An operation that is taken. -/
theorem walk_t {B : (Nat → Prop)} {tail : List Oper} {rest : List (Bool × Oper)} {o : Oper} {a : Act} {w : World} (v : Value) (hy : YieldsIf P ops (fun w' => Fr B w w') o v a) (h : walk B P ops Q tail rest (a.put o.dst v) w) :
    walk B P ops Q tail ((false, o) :: rest) a w := ⟨v, hy, h⟩
/-- An operation that is carried out. -/
theorem walk_c {B : (Nat → Prop)} {tail : List Oper} {rest : List (Bool × Oper)} {o : Oper} {a : Act} {w : World}
    (h : ∀ K : Act → World → Prop, Shut (∀ a' w', Fr B w w' → walk B P ops Q tail rest a' w' → K a' w') → if Region.wanted o (yielded ops a.tmps) = true then o.wp P a w K Q else K (a.put o.dst undef) w) :
    walk B P ops Q tail ((true, o) :: rest) a w := by
  have h0 := h (fun a' w' => Fr B w w' ∧ walk B P ops Q tail rest a' w') (fun _ _ h1 h2 => ⟨h1, h2⟩)
  unfold walk
  split
  · rename_i hw; rw [if_pos hw] at h0; exact h0
  · rename_i hw; rw [if_neg hw] at h0; exact h0.2

theorem walk_sound (B : (Nat → Prop)) {l : List Oper} {n : Nat} (hsel : Region.noSelect l.toArray = true) (hs : Region.sinkB md l.toArray n = true) (hc : Region.chainB md l.toArray n = true) (hn : n < l.toArray.size)
    (hQ : ∀ d v c a w, Q (.panic c) (Act.put a d v) w → Q (.panic c) a w) :
    ∀ (ord : List (Bool × Nat)) (listed : Array Bool) (a : Act) (w : World), HeadInv md l.toArray n listed → check md l.toArray n (l.toArray.size - n) ord listed = true →
      walk B P l.toArray Q (l.drop n) (pick l ord) a w →
      AnyE P md l.toArray Q n (fun listed' a' w' => Region.seqB md l.toArray (l.toArray.size - n) n listed' = true ∧ wpList P l.toArray Q (l.drop n) a' w') (fun w' => Fr B w w') ord.length listed a w
  | [], listed, a, w, _, hB, h => ⟨hB, h⟩
  | (c, i) :: rest, listed, a, w, inv, hB, h => by
    simp only [check, Bool.and_eq_true, decide_eq_true_eq] at hB
    obtain ⟨⟨hin, hr⟩, hB'⟩ := hB
    have hil : i < l.length := by have : l.toArray.size = l.length := by simp
                                  omega
    have ho : l[i]? = some l[i] := List.getElem?_eq_getElem hil
    have hoa : l.toArray[i]? = some l[i] := by simp
    simp only [pick, ho] at h
    cases c with
    | true =>
      simp only [decide_eq_true_eq] at hr
      refine ⟨(by rw [hr]; simp), fun j hj => ?_⟩
      rw [hr] at hj
      obtain rfl : j = i := by simpa using hj
      refine ⟨hin, ?_⟩
      have hrm : j ∈ Region.ready md l.toArray listed := by rw [hr]; simp
      unfold walk at h
      unfold wpOp
      simp only [hoa]
      split
      · rename_i hw
        rw [if_pos hw] at h
        exact .inl (Oper.wp_mono (fun a' w' hk => ⟨hk.1, AnyE.weaken (fun u hu => hk.1.trans hu fun _ _ h => h) _ _ _ _ (walk_sound B hsel hs hc hn hQ rest _ a' w' (inv.set hrm hin) hB' hk.2)⟩) h)
      · rename_i hw
        rw [if_neg hw] at h
        exact ⟨Fr.refl B w, walk_sound B hsel hs hc hn hQ rest _ _ w (inv.set hrm hin) hB' h⟩
    | false =>
      simp only [Bool.and_eq_true] at hr
      unfold walk at h
      obtain ⟨v, hy, hK⟩ := h
      have hrm : i ∈ Region.ready md l.toArray listed := by simpa using hr.1
      exact AnyE.first hoa (Region.noSelect_spec hsel) hs hc hn hin (fun c a w => hQ _ v c a w) (fun listed' a' w' hL => seqB_ready hL.1) rest.length listed a w inv (Region.free_spec hoa hr.2) hrm hy (Fr.refl B w)
        (walk_sound B hsel hs hc hn hQ rest _ _ w (inv.set hrm hin) hB' hK)

theorem region (B : (Nat → Prop)) {id : Nat} {a : Act} {w : World} {l : List Oper} (n : Nat) (ord : List (Bool × Nat)) (hm : P.follows .mixedOrders = true) (hB : growB .any l.toArray n ord = true)
    (hQ : ∀ d v c a w, Q (.panic c) (Act.put a d v) w → Q (.panic c) a w)
    (h : walk B P l.toArray Q (l.drop n) (pick l ord) a w.drew) : (Code.region id l.toArray true).wp P Q a w := by
  simp only [growB, Bool.and_eq_true, decide_eq_true_eq] at hB
  obtain ⟨⟨⟨⟨⟨hsel, hn⟩, hs⟩, hc⟩, hlen⟩, hck⟩ := hB
  have hdl : (l.drop n).length = l.toArray.size - n := by simp
  have inv0 : HeadInv .any l.toArray n (Array.replicate l.toArray.size false) :=
    ⟨by simp, fun j oj _ hl => (by rw [getD_replicate_false] at hl; cases hl), fun t _ ht => getD_in (by simpa using ht) (getD_replicate_false _ _)⟩
  have H := walk_sound B (md := .any) hsel hs hc hn hQ ord _ a w.drew inv0 hck h
  refine wp_region_any hm ?_
  have := AnyE.any (Q := Q) (g := l.toArray.size - n) (fun listed a' w' hL => by
    have := wpAny_of_seq (md := .any) (Q' := Q) (l.drop n) n listed a' w' (fun j => by simp [List.getElem?_drop]) (by rw [hdl]; exact hL.1) hL.2
    rwa [hdl] at this) _ _ _ _ H
  rw [hlen] at this
  exact this
end
end GrF
end Go.Proofs.Ytdbdnfjgmdkneaa
namespace Go.Proofs.Ytdbdnfjgmdkneaa
set_option maxRecDepth 20000
open Go.RowKit
namespace PM
/-- How many low rows a block of k source symbols has. -/
def s (k : Nat) : Nat := 2 + k / 8
def w (k : Nat) : Nat := k + s k
def l (k : Nat) : Nat := w k + 2
end PM
/-- Params as a value. -/
abbrev PV (k s h : Int) : Value := .agg #[.int .i64 k, .int .i64 s, .int .i64 h]
theorem pret64 {a b : Int} (h : a = b) : Ending.returned (.int .i64 a) = .returned (.int .i64 b) := by rw [h]
theorem prm_ext_alloc (w : World) (o : Obj) : w.Extends (w.alloc o) := Gr.ext_of ((Below.refl _ _).alloc (Nat.le_refl _) _)
theorem prm_cells (w : World) (T : TypeId) (k s h : Int) : (w.alloc (.cells #[.int .i64 k, .int .i64 s, .int .i64 h] T)).cell? ⟨w.heap.size, 0, none⟩ = some (.int .i64 k) ∧
    (w.alloc (.cells #[.int .i64 k, .int .i64 s, .int .i64 h] T)).cell? ⟨w.heap.size, 1, none⟩ = some (.int .i64 s) ∧ (w.alloc (.cells #[.int .i64 k, .int .i64 s, .int .i64 h] T)).cell? ⟨w.heap.size, 2, none⟩ = some (.int .i64 h) := by
  have h0 := heap_alloc_new w (.cells #[.int .i64 k, .int .i64 s, .int .i64 h] T)
  exact ⟨by rw [cell_of_row _ _ _ _ _ _ h0]; rfl, by rw [cell_of_row _ _ _ _ _ _ h0]; rfl, by rw [cell_of_row _ _ _ _ _ _ h0]; rfl⟩
end Go.Proofs.Ytdbdnfjgmdkneaa
namespace Go.Proofs.Ytdbdnfjgmdkneaa
set_option maxRecDepth 20000
open Go.RowKit
/-- Params laid at block b. -/
def PAt (w : World) (b : Nat) (k s h : Int) : Prop := w.cell? ⟨b, 0, none⟩ = some (.int .i64 k) ∧ w.cell? ⟨b, 1, none⟩ = some (.int .i64 s) ∧ w.cell? ⟨b, 2, none⟩ = some (.int .i64 h)
theorem PAt.ext {w w' : World} {b : Nat} {k s h : Int} (hp : PAt w b k s h) (hx : w.Extends w') : PAt w' b k s h := ⟨hx.cell_of hp.1, hx.cell_of hp.2.1, hx.cell_of hp.2.2⟩
theorem PAt.lt {w : World} {b : Nat} {k s h : Int} (hp : PAt w b k s h) : b < w.heap.size := World.block_lt_of_cell? w _ hp.1
theorem PAt.new (w : World) (T : TypeId) (k s h : Int) : PAt (w.alloc (.cells #[.int .i64 k, .int .i64 s, .int .i64 h] T)) w.heap.size k s h := prm_cells w T k s h
end Go.Proofs.Ytdbdnfjgmdkneaa
