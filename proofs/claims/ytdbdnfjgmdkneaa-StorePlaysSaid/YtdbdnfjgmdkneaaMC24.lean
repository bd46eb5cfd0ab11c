/- In one text: RefBury, RefOne. -/
import Derived.Deep.DeepCutAuto
import Derived.Test.YtdbdnfjgmdkneaaMC12
import Derived.Test.YtdbdnfjgmdkneaaMC19
import Derived.Test.YtdbdnfjgmdkneaaMC21
import Derived.Test.YtdbdnfjgmdkneaaMC23
namespace Go.Proofs.Ytdbdnfjgmdkneaa
set_option maxRecDepth 20000
open Go.RowKit Go.Deep Go.Maps
set_option linter.unusedVariables false
/-- What bury answers, and leaves. -/
def RBuryOut (w : World) (t : Nat) (D : Nat → Prop) (st : Sto) (r : Rc) (e : Ending) (w' : World) : Prop := ∃ (a : Option Addr) (c : Nat) (kr : Rc), e = .returned (.tuple #[kr.val (.slice a 0 c), .bool (SM.buryOf st r).2.1.isSome]) ∧ RLeft w t D (SM.buryOf st r).1 w' ∧ (∀ k, (SM.buryOf st r).2.1 = some k → kr = k) ∧ kr.d = []
theorem right_stone {r : Rc} (h : KM.Right r) (hg : r.g = true) : r = ⟨r.p, r.n, 0, 0, 0, 0, 0, true, r.u, []⟩ := by
  obtain ⟨p, n, b, s, m, k, e, g, u, d⟩ := r
  obtain ⟨⟨⟨h1, h2, h3⟩, h4⟩, h5, h6⟩ := h.2.2.2.1 hg
  simp only at h1 h2 h3 h4 h5 h6 hg
  subst h1 h2 h3 h4 h5 h6 hg
  rfl
theorem stone_till {x r : Rc} (hx : KM.Right x) (hxg : x.g = true) (hr : KM.Right r) (hrg : r.g = true) (ho : SM.Of x r) : SM.till x r.u = r := by
  rw [right_stone hx hxg, right_stone hr hrg]
  obtain ⟨h1, h2⟩ := ho
  unfold SM.till
  simp [h1, h2]
theorem filter_not_of (r : Rc) (l : List Rc) : l.filter (fun x => decide (¬ SM.Of x r)) = l.filter (fun x => !isOf r x) := by
  congr 1
  funext x
  unfold isOf
  simp
set_option maxHeartbeats 4000000 in
theorem rbury_any (t : Nat) (D : Nat → Prop) (st : Sto) (r : Rc) (ua : Option Addr) (uc : Nat) (w : World) (h : RSt w t D st) (hD : ∀ i, D i → i < w.heap.size) (hi : SM.Inv st) (htl : st.t.length ≤ 1000000) (hr : KM.Right r) (hg : r.g = true) :
    Calls Try.prog 91 #[.pointer (some ⟨t, 0, none⟩), r.val (.slice ua r.d.length uc)] w (RBuryOut w t D st r) := by
  obtain ⟨DB, v1, v2, ps, qs, h⟩ := h
  have hl : st.l.length ≤ 1000 := Nat.le_trans hi.room hi.most
  have HD := Lib.hid hD
  have HH := Lib.hid h
  have HAT1 := Lib.hid h.own1.at_
  have HAT2 := Lib.hid h.own2.at_
  have HSL1 : Hid (∀ k, k < ps.length → Slc (ps.getD k zp)) := fun k hk => h.own1.2 _ (getD_mem hk)
  have HSL2 : Hid (∀ k, k < qs.length → Slc (qs.getD k zp)) := fun k hk => h.own2.2 _ (getD_mem hk)
  have HFS1 : Hid (∀ k, ∀ p ∈ fl (isOf r) ps k, Slc p) := fun k p hp => h.own1.2 p (List.mem_of_mem_take (List.mem_filter.1 hp).1)
  obtain ⟨sa, sc, hb, c0, c1, c2, c3, f1, f2⟩ := h.cells
  have HC1 := Lib.hid c1
  have HC2 := Lib.hid c2
  have HF1 := Lib.hid f1
  have HY1 : Hid (∀ k, k < ps.length → ((ps.getD k zp).1.p = r.p ∧ (ps.getD k zp).1.n = r.n) → fl (isOf r) ps (k + 1) = fl (isOf r) ps k) := fun k hk hq => fl_yes hk (decide_eq_true hq)
  have HN1 : Hid (∀ k, k < ps.length → ¬ ((ps.getD k zp).1.p = r.p ∧ (ps.getD k zp).1.n = r.n) → fl (isOf r) ps (k + 1) = fl (isOf r) ps k ++ [ps.getD k zp]) := fun k hk hq => fl_no hk (decide_eq_false hq)
  have HL1 := Lib.hid (fl_le (isOf r) ps)
  have HZ1 : Hid (fl (isOf r) ps 0 = []) := rfl
  have hfr : recs (fl (isOf r) ps ps.length) = st.l.filter (fun x => !isOf r x) := by
    rw [fl_all, recs_filter ps (fun x => !isOf r x), h.recs1]
  have hfm : ∀ p ∈ fl (isOf r) ps ps.length, p ∈ ps := fun p hp => by rw [fl_all] at hp; exact fl_mem p hp
  -- the first one of r's id among the tombstones
  obtain ⟨P, hP⟩ : ∃ P, P = SM.tat r st.t := ⟨_, rfl⟩
  have hPle : P ≤ qs.length := by rw [h.len2, hP]; exact SM.tat_le r st.t
  have hqr : ∀ k, (qs.getD k zp).1 = st.t.getD k Rc.zero := fun k => by rw [← recs_at, h.recs2]
  have HPN : Hid (∀ k, k < P → ¬ ((qs.getD k zp).1.p = r.p ∧ (qs.getD k zp).1.n = r.n)) := fun k hk => by
    rw [hqr]; exact SM.tat_lt r st.t k (by omega)
  have HPY : Hid (P < qs.length → ((qs.getD P zp).1.p = r.p ∧ (qs.getD P zp).1.n = r.n)) := fun hk => by
    rw [hqr, hP]; exact SM.tat_at r st.t (by rw [← hP, ← h.len2]; exact hk)
  have hhas : SM.Has st.t r ↔ P < qs.length := by unfold SM.Has; rw [h.len2, hP]
  have HEQ : Hid (P < qs.length → (fl (isOf r) ps ps.length).length = ps.length) := fun hk => by
    have e := kept_of hi.alive (hhas.2 hk)
    rw [← recs_length (fl _ _ _), hfr, e, h.len1]
  have HSTT : Hid (P < qs.length → SM.till (qs.getD P zp).1 r.u = r ∧ (qs.getD P zp).1.d = []) := fun hk => by
    have hm : (qs.getD P zp).1 ∈ st.t := by rw [← h.recs2]; exact List.mem_map.2 ⟨_, getD_mem hk, rfl⟩
    obtain ⟨k1, k2⟩ := hi.tomb _ hm
    exact ⟨stone_till k1 k2 hr hg (HPY.out hk), ((k1.2.2.2.1 k2).2.2)⟩
  -- what the three ways make
  have HB1 : Hid (P < qs.length → (qs.getD P zp).1.u < r.u → SM.buryOf st r = ({ st with t := st.t.set P r }, some r, 0)) := fun hk hu => by
    unfold SM.buryOf
    rw [if_pos (hhas.2 hk), ← hP, ← hqr, if_pos hu]
  have HB2 : Hid (P < qs.length → ¬ (qs.getD P zp).1.u < r.u → SM.buryOf st r = (st, none, 0)) := fun hk hu => by
    unfold SM.buryOf
    rw [if_pos (hhas.2 hk), ← hP, ← hqr, if_neg hu]
  have HB3 : Hid (¬ P < qs.length → SM.buryOf st r = ({ st with l := st.l.filter (fun x => !isOf r x), t := st.t ++ [r] }, some r, 0)) := fun hk => by
    unfold SM.buryOf
    rw [if_neg (fun hh => hk (hhas.1 hh)), filter_not_of]
  have HPUT : Hid (∀ w0 wr w5 u1, w.Extends w0 → w0.Extends wr → OwnB wr w0.heap.size u1 (fl (isOf r) ps ps.length) → w5 = wr.setCell ⟨t, 1, none⟩ u1 → RSX w5 t (Nx D w0 w5) DB { st with l := st.l.filter (fun x => !isOf r x) } u1 v2 (fl (isOf r) ps ps.length) qs ∧ Fr D w0 w5) := fun w0 wr w5 u1 hx0 hx ho e => by
    have := (h.ext hx0).putL hx ho.own (fun g hg => (ho.1.lt g hg).1) (fun p hp => .inl (hfm p hp)) e
    rw [hfr] at this
    exact this
  have HKEEP : Hid (P < qs.length → st.l.filter (fun x => !isOf r x) = st.l) := fun hk => kept_of hi.alive (hhas.2 hk)
  have HR2 : Hid (recs qs = st.t) := h.recs2
  have HTL := Lib.hid h.lt
  rw [← h.len1] at hl
  rw [← h.len2] at htl
  obtain ⟨a1, cap1, rfl⟩ := h.own1.slice
  obtain ⟨a2, cap2, rfl⟩ := h.own2.slice
  obtain ⟨i2, hi', hz0', hz1', hz2'⟩ := info_parts recinfo
  have HI' := Lib.hid hi'; clear hi'
  have HZ0' := Lib.hid hz0'; clear hz0'
  have HZ1' := Lib.hid hz1'; clear hz1'
  have HZ2' := Lib.hid hz2'; clear hz2'
  have hrs := right_stone hr hg
  clear h hb c0 c1 c2 c3 f1 f2 hD hi hr hg hfr hfm hP hqr hhas
  generalize hn1 : ps.length = n1 at *
  have HNN1 := Lib.hid hn1
  clear hn1
  generalize hn2 : qs.length = n2 at *
  have HNN2 := Lib.hid hn2
  clear hn2
  generalize st.l.filter (fun x => !isOf r x) = lf at *
  generalize hG : fl (isOf r) ps = G1 at *
  clear hG
  obtain ⟨rp, rn, rb, rs, rm, rk, re, rg, ru, rd⟩ := r
  simp only [Rc.mk.injEq, true_and] at hrs
  obtain ⟨rfl, rfl, rfl, rfl, rfl, rfl, rfl⟩ := hrs
  simp only at HY1 HN1 HPN HPY HB1 HB2
  show Calls Try.prog 91 #[_, .agg #[.int .i64 rp, .int .i64 rn, .int .i64 0, .int .i64 0, .int .i64 0, .int .i64 0, .int .i64 0, .bool true, .int .i64 ru, .slice ua 0 uc]] w _
  have HOUT : Hid (∀ a c (kr : Rc) w', RLeft w t D (SM.buryOf st ⟨rp, rn, 0, 0, 0, 0, 0, true, ru, []⟩).1 w' → (∀ k, (SM.buryOf st ⟨rp, rn, 0, 0, 0, 0, 0, true, ru, []⟩).2.1 = some k → kr = k) → kr.d = [] → RBuryOut w t D st ⟨rp, rn, 0, 0, 0, 0, 0, true, ru, []⟩ (.returned (.tuple #[kr.val (.slice a 0 c), .bool (SM.buryOf st ⟨rp, rn, 0, 0, 0, 0, 0, true, ru, []⟩).2.1.isSome])) w') := fun a c kr w' h1 h2 h3 => ⟨a, c, kr, rfl, h1, h2, h3⟩
  generalize SM.buryOf st ⟨rp, rn, 0, 0, 0, 0, 0, true, ru, []⟩ = BO at *
  generalize RBuryOut w t D st ⟨rp, rn, 0, 0, 0, 0, 0, true, ru, []⟩ = Q at *
  go_enter Try.func91, Try.ntmps91
  go_upto_region 1 with fail
  generalize hw1 : World.alloc w _ = w1
  generalize hw2 : World.alloc w1 _ = w2
  have hs1 : w1.heap.size = w.heap.size + 1 := by subst hw1; simp
  have hx1 : w.Extends w1 := by subst hw1; exact ext_alloc _ _
  have hx2 : w1.Extends w2 := by subst hw2; exact ext_alloc _ _
  have ha1 : Arr w1 w.heap.size 1 1 (fun _ => ((⟨rp, rn, 0, 0, 0, 0, 0, true, ru, []⟩ : Rc), .slice ua 0 uc)) := by subst hw1; exact Arr.box w (⟨rp, rn, 0, 0, 0, 0, 0, true, ru, []⟩ : Rc) _
  have ha2 : Arr w2 w1.heap.size 1 1 (fun _ => (Rc.zero, .slice none 0 0)) := by subst hw2; exact Arr.box w1 Rc.zero _
  rw [hs1] at ha2
  have ha1 := ha1.ext hx2
  have HX2 := Lib.hid (Gr.ext_trans hx1 hx2)
  obtain ⟨y, hy⟩ : ∃ y, y = w.heap.size := ⟨_, rfl⟩
  rw [← hy] at ha1 ha2 ⊢
  have HYW := Lib.hid hy
  have HA1 := Lib.hid ha1
  have HA2 := Lib.hid ha2
  have HH2 := Lib.hid (HH.out.ext HX2.out)
  clear hw1 hw2 hs1 hx1 hx2 hy ha1 ha2
  go_wp2_with fail
  have HY2 : Hid (y < w2.heap.size ∧ y + 1 < w2.heap.size) := ⟨HA1.out.lt, HA2.out.lt⟩
  go_loopw [6, 7] (fun s6 s7 wr => ∃ k : Nat, k ≤ n1 ∧ s7 = .int .i64 k ∧ Hid (w2.Extends wr) ∧ Hid (OwnB wr w2.heap.size s6 (G1 k))) (fun _ s7 _ => n1 - (intOf s7).toNat)
  case atStart => exact ⟨0, by omega, by rfl, Lib.hid (Gr.ext_refl _), Lib.hid (by rw [HZ1.out]; exact OwnB.nil _ _)⟩
  case round =>
    obtain ⟨k, hk, rfl, HX, HM⟩ := hrel
    have e1 := (Gr.ext_trans HX2.out HX.out).cell_of HC1.out
    by_cases h1 : k < n1
    · obtain ⟨g, ⟨cap', e⟩, hr⟩ := HAT1.out k h1
      cases e
      have HRG : Hid (∀ w', wr.Extends w' → w'.rangeAt g (k * 10) ((ps.getD k zp).1.cells (ps.getD k zp).2) ∧ w'.cell? ⟨t, 1, none⟩ = some (.slice (some ⟨g, 0, none⟩) n1 cap1) ∧ w'.rangeAt y 0 (Rc.cells ⟨rp, rn, 0, 0, 0, 0, 0, true, ru, []⟩ (.slice ua 0 uc))) := fun w' hx => by
        have h2 := Gr.ext_trans HX.out hx
        exact ⟨rangeAt_ext hr (Gr.ext_trans HX2.out h2), (Gr.ext_trans HX2.out h2).cell_of HC1.out, (HA1.out.ext h2).one rfl⟩
      have HSK := Lib.hid (HSL1.out k h1)
      have HYK := Lib.hid (HY1.out k h1)
      have HNK := Lib.hid (HN1.out k h1)
      have HLK := Lib.hid (HL1.out k)
      have HXD := Lib.hid (Gr.ext_drew (Gr.ext_refl wr))
      clear hr
      generalize ps.getD k zp = p at *
      obtain ⟨⟨xp, xn, xb, xs, xm, xk, xe, xg, xu, xd⟩, u⟩ := p
      obtain ⟨sua, suc, hu⟩ := id HSK.out
      simp only at hu
      subst hu
      simp only at HYK HNK
      obtain ⟨va, vc, rfl⟩ := HM.out.slice
      go_wp2_with fail
      refine Gr.region 10 [(false,0),(false,1),(false,2),(false,3),(false,4),(false,5),(false,6),(false,7),(false,8),(false,9)] (by kernel_rfl) (by kernel_rfl) (fun d _ _ _ _ h => by cases d <;> exact h) ?_
      simp only [Gr.pick, List.getElem?_cons_zero, List.getElem?_cons_succ, List.drop_succ_cons, List.drop_zero]
      have HMD : Hid (OwnB wr.drew w2.heap.size (.slice va (G1 k).length vc) (G1 k)) := HM.out.ext HXD.out
      have HXF : Hid (w2.Extends wr.drew) := Gr.ext_trans HX.out HXD.out
      generalize wr.drew = wd at *
      iterate 10
        refine Gr.walk_t ?_ (Or.inl ⟨by rfl, ?_⟩) ?_
        rotate_left
        · intro w' hw'
          obtain ⟨hr, b0, hy⟩ := HRG.out w' (Gr.ext_trans HXD.out hw')
          obtain ⟨c0, c1, -, -, -, -, -, -, -, -⟩ := RCell.ten hr
          obtain ⟨d0, d1, -, -, -, -, -, -, -, -⟩ := RCell.ten hy
          simp only [Nat.zero_add] at d0 d1
          clear hr hy
          clear hw'
          go_simp
          try with_reducible rfl
        simp only [Act.put, List.setIfInBounds_toArray, List.set_cons_zero, List.set_cons_succ]
      refine Gr.walk_nil ?_
      by_cases hid : xp = rp ∧ xn = rn
      · have HGK : Hid (OwnB wd w2.heap.size (.slice va (G1 k).length vc) (G1 (k + 1))) := by rw [HYK.out hid]; exact HMD.out
        obtain ⟨rfl, rfl⟩ := hid
        clear HYK HNK HMD HM HRG HSK
        go_wp2
        go_roundw
        case rel => exact ⟨k + 1, by omega, by go_num, HXF, HGK⟩
        case measure => simp [intOf]; omega
      · have HGK := Lib.hid (HNK.out hid)
        obtain ⟨hr, b0, _⟩ := HRG.out wd HXD.out
        obtain ⟨c0, c1, c2, c3, c4, c5, c6, c7, c8, c9⟩ := RCell.ten hr
        simp only at c0 c1 c2 c3 c4 c5 c6 c7 c8 c9
        have hx8 : wd.Extends (wd.alloc (.cells (Rc.cells ⟨xp, xn, xb, xs, xm, xk, xe, xg, xu, xd⟩ (.slice sua xd.length suc)).toArray 28)) := ext_alloc _ _
        have HSRC : Hid (Src Try.prog 10 47 (.slice (some ⟨wd.heap.size, 0, none⟩) 1 1) 1 (Rc.cells ⟨xp, xn, xb, xs, xm, xk, xe, xg, xu, xd⟩ (.slice sua xd.length suc)) (wd.alloc (.cells (Rc.cells ⟨xp, xn, xb, xs, xm, xk, xe, xg, xu, xd⟩ (.slice sua xd.length suc)).toArray 28))) := src_rec (r := ⟨xp, xn, xb, xs, xm, xk, xe, xg, xu, xd⟩) Try.underlying47 _ _ rfl rfl
        have HOWN := Lib.hid (HMD.out.ext hx8).1
        have HX8 := Lib.hid (Gr.ext_trans HXF.out hx8)
        have HOB : Hid (∀ g, (Value.slice va (G1 k).length vc).ownBlock = some g → w2.heap.size ≤ g) := fun g hg => (HOWN.out.lt g hg).1
        have hbs := HX8.out.size
        have hgk := HLK.out
        clear hx8 hr HRG HYK HNK HMD HM HX HXF e1
        generalize hgl : (G1 k).length = gl at *
        have HGL := Lib.hid hgl
        clear hgl
        have HSTEP : Hid (∀ v' w9, World.ownsRow w9 w2.heap.size 28 10 v' (gl + 1) (flat (G1 k) ++ Rc.cells ⟨xp, xn, xb, xs, xm, xk, xe, xg, xu, xd⟩ (.slice sua xd.length suc)) → (wd.alloc (.cells (Rc.cells ⟨xp, xn, xb, xs, xm, xk, xe, xg, xu, xd⟩ (.slice sua xd.length suc)).toArray 28)).grownBy w9 (Value.slice va gl vc).ownBlock → w2.Extends w9 ∧ OwnB w9 w2.heap.size v' (G1 (k + 1))) := fun v' w9 ho9 hg9 => by
          refine ⟨HX8.out.grown hg9 HOB.out, ?_⟩
          rw [HGK.out]
          exact OwnB.snoc (HFS1.out k) HSK.out (by rw [HGL.out]; exact ho9)
        have hmax : gl + 1 ≤ maxLen := by unfold maxLen; omega
        by_cases hp : xp = rp
        · have hn : ¬ xn = rn := fun e => hid ⟨hp, e⟩
          subst hp
          clear hid
          go_wp2_with (at_builtin; refine wpList_append_own_src _ rfl _ _ 47 47 rfl w2.heap.size 28 i2 (Rc.zero.val (.slice none 0 0)) 10 96 Try.underlying47 HI'.out HZ0'.out HZ1'.out HZ2'.out rfl _ _ _ rfl HOWN.out _ 1 (Rc.cells ⟨xp, xn, xb, xs, xm, xk, xe, xg, xu, xd⟩ (.slice sua xd.length suc)) rfl HSRC.out hmax (by omega) hbs ?_)
          intro v' w9 ho9 hg9 _
          have HP := Lib.hid (HSTEP.out v' w9 ho9 hg9)
          clear ho9 hg9 c0 c1 c2 c3 c4 c5 c6 c7 c8 c9 HSRC HOWN HOB HX8 HSTEP HGK b0
          go_wp2
          go_roundw
          case rel => exact ⟨k + 1, by omega, by go_num, Lib.hid HP.out.1, Lib.hid HP.out.2⟩
          case measure => simp [intOf]; omega
        · clear hid
          go_wp2_with (at_builtin; refine wpList_append_own_src _ rfl _ _ 47 47 rfl w2.heap.size 28 i2 (Rc.zero.val (.slice none 0 0)) 10 96 Try.underlying47 HI'.out HZ0'.out HZ1'.out HZ2'.out rfl _ _ _ rfl HOWN.out _ 1 (Rc.cells ⟨xp, xn, xb, xs, xm, xk, xe, xg, xu, xd⟩ (.slice sua xd.length suc)) rfl HSRC.out hmax (by omega) hbs ?_)
          intro v' w9 ho9 hg9 _
          have HP := Lib.hid (HSTEP.out v' w9 ho9 hg9)
          clear ho9 hg9 c0 c1 c2 c3 c4 c5 c6 c7 c8 c9 HSRC HOWN HOB HX8 HSTEP HGK b0
          go_wp2
          go_roundw
          case rel => exact ⟨k + 1, by omega, by go_num, Lib.hid HP.out.1, Lib.hid HP.out.2⟩
          case measure => simp [intOf]; omega
    · obtain rfl : k = n1 := by omega
      obtain ⟨va, vc, rfl⟩ := HM.out.slice
      have hf1 : wr.frozen? ⟨t, 1, none⟩ = false := ((Gr.ext_trans HX2.out HX.out).frozen ⟨t, 1, none⟩ HTL.out).trans HF1.out
      have HPUTW := Lib.hid (fun w5 e => HPUT.out w2 wr w5 _ HX2.out HX.out HM.out e)
      have HMO := Lib.hid HM.out
      clear HM HY1 HN1 HL1 HZ1 HFS1 HAT1 HSL1
      generalize hgl : (G1 k).length = gl at *
      clear hgl
      obtain ⟨B, hB⟩ : ∃ B : Bool, (((gl : Nat) : Int) != ((k : Nat) : Int)) = B := ⟨_, rfl⟩
      have HBF : Hid (P < n2 → B = false) := fun hk => by rw [← hB, HEQ.out hk]; simp
      clear HEQ
      go_upto_region 9 with fail
      generalize hw5 : World.setCell wr _ _ = w5
      obtain ⟨h5, hf5⟩ := HPUTW.out w5 hw5.symm
      have hg5 : wr.grownBy w5 (some t) := by subst hw5; exact grown_set _ _ _ _
      have HH5 := Lib.hid h5
      have HF5 := Lib.hid hf5
      have hty : t ≠ y ∧ t ≠ y + 1 := by have := HTL.out; have := HYW.out; omega
      have HA15 : Hid (Arr w5 y 1 1 (fun _ => (⟨rp, rn, 0, 0, 0, 0, 0, true, ru, []⟩, .slice ua 0 uc))) := (HA1.out.ext HX.out).kept (hg5.block y (HA1.out.ext HX.out).lt (by simpa using Ne.symm hty.1))
      have HA25 : Hid (Arr w5 (y + 1) 1 1 (fun _ => (Rc.zero, .slice none 0 0))) := (HA2.out.ext HX.out).kept (hg5.block (y + 1) (HA2.out.ext HX.out).lt (by simpa using Ne.symm hty.2))
      have hat := h5.own2.at_
      rw [HNN2.out] at hat
      have HAT := Lib.hid hat
      clear hat
      obtain ⟨_, _, _, _, _, c25, _, _, f25⟩ := h5.cells
      have HC25 := Lib.hid c25
      have HF25 := Lib.hid f25
      have HTL5 := Lib.hid h5.lt
      have HYW5 : Hid (w.heap.size = y ∧ y + 1 < w2.heap.size ∧ w2.heap.size ≤ w5.heap.size) := ⟨HYW.out.symm, HY2.out.2, hf5.size⟩
      have HBK : Hid (∀ g cap, Value.slice a2 n2 cap2 = .slice (some ⟨g, 0, none⟩) n2 cap → ∃ cs, w5.heap[g]? = some (.cells cs 28 (0, 0))) := fun g cap hv => h5.own2.block g (by rw [hv]; rfl)
      have HTN : Hid (∀ g cs, w5.heap[g]? = some (.cells cs 28 (0, 0)) → t ≠ g) := fun g cs hc => h5.rec_ne ⟨cs, hc⟩
      have HIN2 : Hid (∀ g cap, Value.slice a2 n2 cap2 = .slice (some ⟨g, 0, none⟩) n2 cap → (g ≠ y ∧ g ≠ y + 1) ∧ ∀ w', w5.Extends w' → (∀ o, w'.frozen? ⟨g, o, none⟩ = false) ∧ ∀ q w6, q < n2 → w6 = w'.setCell ⟨g, q * 10 + 8, none⟩ (.int .i64 ru) → w6.rangeAt g (q * 10) (({ (qs.getD q zp).1 with u := ru } : Rc).cells (qs.getD q zp).2) ∧ w'.grownBy w6 (some g)) := fun g cap hv => by
        have hin := h5.in2 g (by rw [hv]; rfl)
        have ho := h5.own2
        rw [hv] at ho
        have hyw := HYW5.out
        refine ⟨?_, fun w' hx => ⟨(ho.ext hx).arr.1.frozen, fun q w6 hq e => ?_⟩⟩
        · rcases hin with hin | hin
          · have := HD.out g hin; omega
          · omega
        · obtain ⟨k1, k2⟩ := (ho.ext hx).till (k := q) (by rw [HNN2.out]; exact hq) ru e
          have k3 := k1.arr.1.range (k := q) hq
          rw [← set_getD _ (by rw [HNN2.out]; exact hq)] at k3
          unfold upd at k3
          rw [if_pos rfl] at k3
          exact ⟨k3, k2⟩
      -- the three ends
      have HE1 : Hid (∀ wr g cap w6 w7, w5.Extends wr → Value.slice a2 n2 cap2 = .slice (some ⟨g, 0, none⟩) n2 cap → P < n2 → w6 = wr.setCell ⟨g, P * 10 + 8, none⟩ (.int .i64 ru) → w6.grownBy w7 (some (y + 1)) → RLeft w t D { st with t := st.t.set P ⟨rp, rn, 0, 0, 0, 0, 0, true, ru, []⟩ } w7) := fun wr g cap w6 w7 hx hv hk e6 hg7 => by
        rw [hv] at h5
        obtain ⟨k1, k2⟩ := (h5.ext hx).tillT (k := P) (by rw [HNN2.out]; exact hk) ru e6
        have e0 : SM.till (st.t.getD P Rc.zero) ru = ⟨rp, rn, 0, 0, 0, 0, 0, true, ru, []⟩ := by rw [← HR2.out, recs_at]; exact (HSTT.out hk).1
        have k1 : RSX w6 t (Nx D w2 w5) DB { st with l := lf, t := st.t.set P (SM.till (st.t.getD P Rc.zero) ru) } _ _ _ _ := k1
        rw [e0, HKEEP.out hk] at k1
        have hL : RLeft w2 t D { st with t := st.t.set P ⟨rp, rn, 0, 0, 0, 0, 0, true, ru, []⟩ } w6 := by
          refine ⟨⟨_, _, _, _, _, k1.mono fun i hi => ?_⟩, (hf5.trans (Fr.ext (D := D) hx) fun _ _ h => h).trans k2 fun i hi hd => ?_⟩
          · have := hx.size
            have := k2.size
            rcases hi with hi | hi
            · exact .inl hi
            · exact .inr (by omega)
          · rcases hd with hd | hd
            · exact hd
            · omega
        have hyw := HYW5.out
        exact RLeft.close HX2.out hL hg7 (by omega) (by omega) HD.out
      have HE2 : Hid (∀ wr w7, w5.Extends wr → P < n2 → wr.grownBy w7 (some (y + 1)) → RLeft w t D st w7) := fun wr w7 hx hk hg7 => by
        have k1 : RSX wr t (Nx D w2 w5) DB { st with l := lf } _ _ _ _ := h5.ext hx
        rw [HKEEP.out hk] at k1
        have hL : RLeft w2 t D st wr := by
          refine ⟨⟨_, _, _, _, _, k1.mono fun i hi => ?_⟩, hf5.trans (Fr.ext (D := D) hx) fun _ _ h => h⟩
          have := hx.size
          rcases hi with hi | hi
          · exact .inl hi
          · exact .inr (by omega)
        have hyw := HYW5.out
        exact RLeft.close HX2.out hL hg7 (by omega) (by omega) HD.out
      have HE3 : Hid (∀ wr w9 w10 w11 u2, w5.Extends wr → wr.grownBy w9 (Value.slice a2 n2 cap2).ownBlock → OwnR w9 u2 (qs ++ [(⟨rp, rn, 0, 0, 0, 0, 0, true, ru, []⟩, .slice ua 0 uc)]) → NewBlk wr (.slice a2 n2 cap2) u2 → w10 = w9.setCell ⟨t, 2, none⟩ u2 → w10.grownBy w11 (some (y + 1)) → RLeft w t D { st with l := lf, t := st.t ++ [⟨rp, rn, 0, 0, 0, 0, 0, true, ru, []⟩] } w11) := fun wr w9 w10 w11 u2 hx hg9 ho2 hn e10 hg11 => by
        obtain ⟨k1, k2⟩ := (h5.ext hx).putT hg9 ho2 hn e10
        have er : recs (qs ++ [(⟨rp, rn, 0, 0, 0, 0, 0, true, ru, []⟩, .slice ua 0 uc)]) = st.t ++ [⟨rp, rn, 0, 0, 0, 0, 0, true, ru, []⟩] := by rw [← HR2.out]; unfold recs; rw [List.map_append]; rfl
        rw [er] at k1
        have hL : RLeft w2 t D { st with l := lf, t := st.t ++ [⟨rp, rn, 0, 0, 0, 0, 0, true, ru, []⟩] } w10 := by
          have h0 := hx.size
          have h1 := k2.size
          refine ⟨⟨_, _, _, _, _, k1.mono fun i hi => ?_⟩, (hf5.trans (Fr.ext (D := D) hx) fun _ _ h => h).trans k2 fun i hi hd => ?_⟩
          · rcases hi with (hi | hi) | hi
            · exact .inl hi
            · exact .inr (by omega)
            · have := HYW5.out; exact .inr (by omega)
          · rcases hd with hd | hd
            · exact hd
            · omega
        have hyw := HYW5.out
        exact RLeft.close HX2.out hL hg11 (by omega) (by omega) HD.out
      clear h5 hf5 hg5 hw5 c25 f25 HPUTW HMO hf1 e1 HX HA1 HA2 hB HPUT HKEEP HH HH2 HF1 HC1 HC2 HAT2
      go_wp2_with fail
      go_loopw [8, 9] (fun s8 s9 wr => ∃ k : Nat, k ≤ P ∧ s8 = .bool B ∧ s9 = .int .i64 k ∧ Hid (w5.Extends wr)) (fun _ s9 _ => n2 - (intOf s9).toNat)
      case atStart => exact ⟨0, by omega, by rfl, by rfl, Lib.hid (Gr.ext_refl _)⟩
      case round =>
        obtain ⟨q, hq, rfl, rfl, HX⟩ := hrel
        have e1 := HX.out.cell_of HC25.out
        by_cases h1 : q < n2
        · obtain ⟨g, ⟨cap', e⟩, hr⟩ := HAT.out q h1
          have HV := Lib.hid e
          cases e
          have HRG : Hid (∀ w', wr.Extends w' → w'.rangeAt g (q * 10) ((qs.getD q zp).1.cells (qs.getD q zp).2) ∧ w'.cell? ⟨t, 2, none⟩ = some (.slice (some ⟨g, 0, none⟩) n2 cap2) ∧ w'.rangeAt y 0 (Rc.cells ⟨rp, rn, 0, 0, 0, 0, 0, true, ru, []⟩ (.slice ua 0 uc))) := fun w' hx => by
            have h2 := Gr.ext_trans HX.out hx
            exact ⟨rangeAt_ext hr h2, h2.cell_of HC25.out, (HA15.out.ext h2).one rfl⟩
          have HSK := Lib.hid (HSL2.out q h1)
          have HNK : Hid (q < P → ¬ ((qs.getD q zp).1.p = rp ∧ (qs.getD q zp).1.n = rn)) := fun h => HPN.out q h
          have HYK : Hid (q = P → (qs.getD q zp).1.p = rp ∧ (qs.getD q zp).1.n = rn) := fun h => by subst h; exact HPY.out h1
          have HST : Hid (q = P → SM.till (qs.getD q zp).1 ru = ⟨rp, rn, 0, 0, 0, 0, 0, true, ru, []⟩ ∧ (qs.getD q zp).1.d = []) := fun h => by subst h; exact HSTT.out h1
          have HB1K : Hid (q = P → (qs.getD q zp).1.u < ru → BO = ({ st with t := st.t.set P ⟨rp, rn, 0, 0, 0, 0, 0, true, ru, []⟩ }, some ⟨rp, rn, 0, 0, 0, 0, 0, true, ru, []⟩, 0)) := fun h hu => by subst h; exact HB1.out h1 hu
          have HB2K : Hid (q = P → ¬ (qs.getD q zp).1.u < ru → BO = (st, none, 0)) := fun h hu => by subst h; exact HB2.out h1 (by omega)
          have HE1K : Hid (∀ wr w6 w7, q = P → w5.Extends wr → w6 = wr.setCell ⟨g, q * 10 + 8, none⟩ (.int .i64 ru) → w6.grownBy w7 (some (y + 1)) → RLeft w t D { st with t := st.t.set P ⟨rp, rn, 0, 0, 0, 0, 0, true, ru, []⟩ } w7) := fun wr w6 w7 h hx e6 hg7 => by subst h; exact HE1.out wr g _ w6 w7 hx HV.out h1 e6 hg7
          have HE2K : Hid (∀ wr w7, q = P → w5.Extends wr → wr.grownBy w7 (some (y + 1)) → RLeft w t D st w7) := fun wr w7 h hx hg7 => by subst h; exact HE2.out wr w7 hx h1 hg7
          have HXD := Lib.hid (Gr.ext_drew (Gr.ext_refl wr))
          have hin2 := HIN2.out g _ HV.out
          have HFZ : Hid ((g ≠ y ∧ g ≠ y + 1) ∧ ∀ w', w5.Extends w' → w'.frozen? ⟨g, q * 10 + 8, none⟩ = false ∧ ∀ w6, w6 = w'.setCell ⟨g, q * 10 + 8, none⟩ (.int .i64 ru) → w6.rangeAt g (q * 10) (({ (qs.getD q zp).1 with u := ru } : Rc).cells (qs.getD q zp).2) ∧ w'.grownBy w6 (some g)) := ⟨hin2.1, fun w' hx => ⟨(hin2.2 w' hx).1 _, fun w6 e => (hin2.2 w' hx).2 q w6 h1 e⟩⟩
          have HTG : Hid (t ≠ g) := fun e => by
            have h9 := HC25.out
            obtain ⟨cs, hc⟩ := HBK.out g _ HV.out
            exact HTN.out g cs hc e
          clear hin2
          clear hr HE1 HE2 HE3 HB1 HB2 HB3 HPN HPY HSTT
          generalize qs.getD q zp = p at *
          obtain ⟨⟨xp, xn, xb, xs, xm, xk, xe, xg, xu, xd⟩, u⟩ := p
          obtain ⟨sua, suc, hu⟩ := id HSK.out
          simp only at hu
          subst hu
          simp only at HNK HYK HST HB1K HB2K
          go_wp2_with fail
          refine Gr.region 10 [(false,0),(false,1),(false,2),(false,3),(false,4),(false,5),(false,6),(false,7),(false,8),(false,9)] (by kernel_rfl) (by kernel_rfl) (fun d _ _ _ _ h => by cases d <;> exact h) ?_
          simp only [Gr.pick, List.getElem?_cons_zero, List.getElem?_cons_succ, List.drop_succ_cons, List.drop_zero]
          have HXF : Hid (w5.Extends wr.drew) := Gr.ext_trans HX.out HXD.out
          generalize wr.drew = wd at *
          iterate 10
            refine Gr.walk_t ?_ (Or.inl ⟨by rfl, ?_⟩) ?_
            rotate_left
            · intro w' hw'
              obtain ⟨hr, b0, hy⟩ := HRG.out w' (Gr.ext_trans HXD.out hw')
              obtain ⟨c0, c1, -, -, -, -, -, -, -, -⟩ := RCell.ten hr
              obtain ⟨d0, d1, -, -, -, -, -, -, -, -⟩ := RCell.ten hy
              simp only [Nat.zero_add] at d0 d1
              clear hr hy
              clear hw'
              go_simp
              try with_reducible rfl
            simp only [Act.put, List.setIfInBounds_toArray, List.set_cons_zero, List.set_cons_succ]
          refine Gr.walk_nil ?_
          by_cases hid : xp = rp ∧ xn = rn
          · have hqP : q = P := by
              rcases Nat.lt_or_ge q P with h | h
              · exact absurd hid (HNK.out h)
              · omega
            have hst := HST.out hqP
            simp only [SM.till, Rc.mk.injEq] at hst
            obtain ⟨⟨rfl, rfl, rfl, rfl, rfl, rfl, rfl, rfl, _, rfl⟩, _⟩ := hst
            have HB1Q : Hid (xu < ru → BO = ({ st with t := st.t.set P ⟨xp, xn, 0, 0, 0, 0, 0, true, ru, []⟩ }, some ⟨xp, xn, 0, 0, 0, 0, 0, true, ru, []⟩, 0)) := fun h => HB1K.out hqP h
            have HB2Q : Hid (¬ xu < ru → BO = (st, none, 0)) := fun h => HB2K.out hqP (by omega)
            have HE1Q := Lib.hid (fun wr w6 w7 => HE1K.out wr w6 w7 hqP)
            have HE2Q := Lib.hid (fun wr w7 => HE2K.out wr w7 hqP)
            have HPL2 : Hid (P < n2) := by show _ < _; omega
            clear HNK HYK HST HB1K HB2K HE1K HE2K hid hqP
            have HRD : Hid (∀ w', wd.Extends w' → w'.rangeAt g (q * 10) (Rc.cells ⟨xp, xn, 0, 0, 0, 0, 0, true, xu, []⟩ (.slice sua 0 suc)) ∧ w'.cell? ⟨t, 2, none⟩ = some (.slice (some ⟨g, 0, none⟩) n2 cap2) ∧ w'.rangeAt y 0 (Rc.cells ⟨xp, xn, 0, 0, 0, 0, 0, true, ru, []⟩ (.slice ua 0 uc)) ∧ w5.Extends w') := fun w' hx => by
              obtain ⟨k1, k2, k3⟩ := HRG.out w' (Gr.ext_trans HXD.out hx)
              exact ⟨k1, k2, k3, Gr.ext_trans HXF.out hx⟩
            clear HRG HXD
            go_wp2_with fail
            refine Gr.region 10 [(false,0),(false,1),(false,2),(false,3),(false,4),(false,5),(false,6),(false,7),(false,8),(false,9)] (by kernel_rfl) (by kernel_rfl) (fun d _ _ _ _ h => by cases d <;> exact h) ?_
            simp only [Gr.pick, List.getElem?_cons_zero, List.getElem?_cons_succ, List.drop_succ_cons, List.drop_zero]
            have HXE := Lib.hid (Gr.ext_drew (Gr.ext_refl wd))
            generalize wd.drew = we at *
            iterate 10
              refine Gr.walk_t ?_ (Or.inl ⟨by rfl, ?_⟩) ?_
              rotate_left
              · intro w' hw'
                obtain ⟨hr, b0, hy, _⟩ := HRD.out w' (Gr.ext_trans HXE.out hw')
                obtain ⟨-, -, -, -, -, -, -, -, c8, -⟩ := RCell.ten hr
                obtain ⟨-, -, -, -, -, -, -, -, d8, -⟩ := RCell.ten hy
                simp only [Nat.zero_add] at d8
                clear hr hy
                clear hw'
                go_simp
                try with_reducible rfl
              simp only [Act.put, List.setIfInBounds_toArray, List.set_cons_zero, List.set_cons_succ]
            refine Gr.walk_nil ?_
            by_cases hu : xu < ru
            · have hbo := HB1Q.out hu
              have hu2 : ¬ ru ≤ xu := by omega
              have HBO := Lib.hid hbo
              clear hbo
              go_wp2_with fail
              refine Gr.region 7 [(false,0),(false,1),(false,2),(false,3),(false,4),(false,5),(false,6)] (by kernel_rfl) (by kernel_rfl) (fun d _ _ _ _ h => by cases d <;> exact h) ?_
              simp only [Gr.pick, List.getElem?_cons_zero, List.getElem?_cons_succ, List.drop_succ_cons, List.drop_zero]
              have HXG := Lib.hid (Gr.ext_trans HXE.out (Gr.ext_drew (Gr.ext_refl we)))
              generalize we.drew = wf at *
              iterate 7
                refine Gr.walk_t ?_ (Or.inl ⟨by rfl, ?_⟩) ?_
                rotate_left
                · intro w' hw'
                  obtain ⟨hr, b0, hy, _⟩ := HRD.out w' (Gr.ext_trans HXG.out hw')
                  obtain ⟨-, -, -, -, -, -, -, -, d8, -⟩ := RCell.ten hy
                  simp only [Nat.zero_add] at d8
                  clear hr hy
                  clear hw'
                  go_simp
                  try with_reducible rfl
                simp only [Act.put, List.setIfInBounds_toArray, List.set_cons_zero, List.set_cons_succ]
              refine Gr.walk_nil ?_
              obtain ⟨hr, b0, hy, hxf⟩ := HRD.out wf HXG.out
              obtain ⟨c0, c1, c2, c3, c4, c5, c6, c7, c8, c9⟩ := RCell.ten hr
              obtain ⟨hfz, hfq⟩ := HFZ.out.2 wf hxf
              go_upto_region 15 with fail
              generalize hw6 : World.setCell wf _ _ = w6
              obtain ⟨hr6, hg6⟩ := hfq w6 hw6.symm
              have HEND := Lib.hid (fun w7 => HE1Q.out wf w6 w7 hxf hw6.symm)
              have hyg := HFZ.out.1
              have HAZ : Hid (Arr w6 (y + 1) 1 1 (fun _ => (Rc.zero, .slice none 0 0))) := (HA25.out.ext hxf).kept (hg6.block (y + 1) (HA25.out.ext hxf).lt (by simpa using Ne.symm hyg.2))
              have b6 : w6.cell? ⟨t, 2, none⟩ = some (.slice (some ⟨g, 0, none⟩) n2 cap2) := by
                rw [World.cell?_of_block (w := wf) (w' := w6) (a := ⟨t, 2, none⟩) (hg6.block t (Nat.lt_of_lt_of_le HTL5.out hxf.size) (by simpa using HTG.out))]; exact b0
              clear c0 c1 c2 c3 c4 c5 c6 c7 c8 c9 hr hy hfz hfq hw6 hg6 b0 hxf hyg HRD HFZ HE1Q HE2Q
              obtain ⟨c0, c1, c2, c3, c4, c5, c6, c7, c8, c9⟩ := RCell.ten hr6
              simp only at c0 c1 c2 c3 c4 c5 c6 c7 c8 c9
              clear hr6
              have HSLC : Hid (Slc ((⟨xp, xn, 0, 0, 0, 0, 0, true, ru, []⟩, .slice sua 0 suc) : Pr)) := ⟨sua, suc, rfl⟩
              go_wp2_with (refine wpList_store_rec rfl 28 recsize _ _ rfl (y + 1) 0 0 1 1 _ (⟨xp, xn, 0, 0, 0, 0, 0, true, ru, []⟩, .slice sua 0 suc) rfl rfl rfl HAZ.out (by omega) HSLC.out ?_)
              intro w7 ha7 hg7
              have HP : Hid (Q (.returned (.tuple #[Rc.val ⟨xp, xn, 0, 0, 0, 0, 0, true, ru, []⟩ (.slice sua 0 suc), .bool true])) w7) := by
                have h := HOUT.out sua suc ⟨xp, xn, 0, 0, 0, 0, 0, true, ru, []⟩ w7
                rw [HBO.out] at h
                exact h (HEND.out w7 hg7) (fun k hk => Option.some.inj hk) rfl
              clear c0 c1 c2 c3 c4 c5 c6 c7 c8 c9 hg7
              obtain ⟨d0, d1, d2, d3, d4, d5, d6, d7, d8, d9⟩ := RCell.ten (ha7.one (p := (⟨xp, xn, 0, 0, 0, 0, 0, true, ru, []⟩, .slice sua 0 suc)) rfl)
              simp only [Nat.zero_add] at d0 d1 d2 d3 d4 d5 d6 d7 d8 d9
              clear ha7
              repeat (first | go_values | go_skip | go_guarded | go_step)
              refine bodyPost_ret (v := .tuple #[Rc.val ⟨xp, xn, 0, 0, 0, 0, 0, true, ru, []⟩ (.slice sua 0 suc), .bool true]) (by simp [results, Try.results91, go_sem, d0, d1, d2, d3, d4, d5, d6, d7, d8, d9]; try rfl) rfl ?_
              exact HP.out
            · have hbo := HB2Q.out (by omega)
              have hbf := HBF.out HPL2.out
              have HBO := Lib.hid hbo
              clear hbo
              obtain ⟨hr, b0, _, hxf⟩ := HRD.out we HXE.out
              obtain ⟨c0, c1, c2, c3, c4, c5, c6, c7, c8, c9⟩ := RCell.ten hr
              have HAZ : Hid (Arr we (y + 1) 1 1 (fun _ => (Rc.zero, .slice none 0 0))) := HA25.out.ext hxf
              have HEND := Lib.hid (fun w7 => HE2Q.out we w7 hxf)
              clear hr hxf HRD HFZ HE1Q HE2Q
              subst hbf
              have HSLC : Hid (Slc ((⟨xp, xn, 0, 0, 0, 0, 0, true, xu, []⟩, .slice sua 0 suc) : Pr)) := ⟨sua, suc, rfl⟩
              go_wp2_with (refine wpList_store_rec rfl 28 recsize _ _ rfl (y + 1) 0 0 1 1 _ (⟨xp, xn, 0, 0, 0, 0, 0, true, xu, []⟩, .slice sua 0 suc) rfl rfl rfl HAZ.out (by omega) HSLC.out ?_)
              intro w7 ha7 hg7
              have HP : Hid (Q (.returned (.tuple #[Rc.val ⟨xp, xn, 0, 0, 0, 0, 0, true, xu, []⟩ (.slice sua 0 suc), .bool false])) w7) := by
                have h := HOUT.out sua suc ⟨xp, xn, 0, 0, 0, 0, 0, true, xu, []⟩ w7
                rw [HBO.out] at h
                exact h (HEND.out w7 hg7) (fun k hk => nomatch hk) rfl
              clear c0 c1 c2 c3 c4 c5 c6 c7 c8 c9 hg7
              obtain ⟨d0, d1, d2, d3, d4, d5, d6, d7, d8, d9⟩ := RCell.ten (ha7.one (p := (⟨xp, xn, 0, 0, 0, 0, 0, true, xu, []⟩, .slice sua 0 suc)) rfl)
              simp only [Nat.zero_add] at d0 d1 d2 d3 d4 d5 d6 d7 d8 d9
              clear ha7
              repeat (first | go_values | go_skip | go_guarded | go_step)
              refine bodyPost_ret (v := .tuple #[Rc.val ⟨xp, xn, 0, 0, 0, 0, 0, true, xu, []⟩ (.slice sua 0 suc), .bool false]) (by simp [results, Try.results91, go_sem, d0, d1, d2, d3, d4, d5, d6, d7, d8, d9]; try rfl) rfl ?_
              exact HP.out
          · have hqP : q < P := by
              rcases Nat.lt_or_ge q P with h | h
              · exact h
              · exact absurd (HYK.out (by omega)) hid
            clear HNK HYK HST HB1K HB2K HE1K HE2K HRG HFZ
            by_cases hp : xp = rp
            · have hn : ¬ xn = rn := fun e => hid ⟨hp, e⟩
              subst hp
              clear hid
              go_wp2
              go_roundw
              case rel => exact ⟨q + 1, by omega, by rfl, by go_num, HXF⟩
              case measure => simp [intOf]; omega
            · clear hid
              go_wp2
              go_roundw
              case rel => exact ⟨q + 1, by omega, by rfl, by go_num, HXF⟩
              case measure => simp [intOf]; omega
        · have hbo := HB3.out (by omega)
          have HBO := Lib.hid hbo
          clear hbo HE1 HE2 HB1 HB2 HB3 HPN HPY HSTT HSL2 HAT HIN2 HBK HTN
          have HRD : Hid (∀ w', w5.Extends w' → w'.cell? ⟨t, 2, none⟩ = some (.slice a2 n2 cap2) ∧ w'.frozen? ⟨t, 2, none⟩ = false ∧ t < w'.heap.size ∧ Arr w' y 1 1 (fun _ => (⟨rp, rn, 0, 0, 0, 0, 0, true, ru, []⟩, .slice ua 0 uc)) ∧ Arr w' (y + 1) 1 1 (fun _ => (Rc.zero, .slice none 0 0)) ∧ OwnR w' (.slice a2 n2 cap2) qs) := fun w' hx =>
            ⟨hx.cell_of HC25.out, (hx.frozen ⟨t, 2, none⟩ HTL5.out).trans HF25.out, Nat.lt_of_lt_of_le HTL5.out hx.size, HA15.out.ext hx, HA25.out.ext hx, HH5.out.own2.ext hx⟩
          obtain ⟨Rb, hRb⟩ : ∃ Rb, Rb = (Value.slice a2 n2 cap2).ownBlock := ⟨_, rfl⟩
          have HNB : Hid (Rb ≠ some t ∧ Rb ≠ some y ∧ Rb ≠ some (y + 1)) := by
            have hyw := HYW5.out
            refine ⟨fun e => ?_, fun e => ?_, fun e => ?_⟩
            · exact HH5.out.rec_ne (HH5.out.own2.block t (hRb.symm.trans e)) rfl
            · rcases HH5.out.in2 y (hRb.symm.trans e) with h | h
              · have := HD.out _ h; omega
              · omega
            · rcases HH5.out.in2 (y + 1) (hRb.symm.trans e) with h | h
              · have := HD.out _ h; omega
              · omega
          have HRB := Lib.hid hRb
          clear hRb
          go_wp2_with fail
          refine GrR.region Rb 8 [(false,0),(false,1),(false,2),(false,3),(false,4),(false,5),(true,6),(true,7)] (by kernel_rfl) (by kernel_rfl) (fun d _ _ _ _ h => by cases d <;> exact h) ?_
          simp only [Gr.pick, List.getElem?_cons_zero, List.getElem?_cons_succ, List.drop_succ_cons, List.drop_zero]
          have HXF : Hid (w5.Extends wr.drew) := Gr.ext_trans HX.out (Gr.ext_drew (Gr.ext_refl wr))
          generalize wr.drew = wd at *
          have HT : Hid (∀ w' : World, wd.grownBy w' Rb → w'.cell? ⟨t, 2, none⟩ = some (.slice a2 n2 cap2) ∧ w'.frozen? ⟨t, 2, none⟩ = false ∧ Arr w' y 1 1 (fun _ => (⟨rp, rn, 0, 0, 0, 0, 0, true, ru, []⟩, .slice ua 0 uc)) ∧ Arr w' (y + 1) 1 1 (fun _ => (Rc.zero, .slice none 0 0))) := fun w' hw' => by
            obtain ⟨q1, q2, q3, q4, q5, _⟩ := HRD.out wd HXF.out
            have hnb := HNB.out
            have et : w'.heap[t]? = wd.heap[t]? := hw'.block t q3 (fun e => hnb.1 e.symm)
            exact ⟨by rw [World.cell?_of_block (w := wd) (w' := w') (a := ⟨t, 2, none⟩) et]; exact q1, by rw [World.frozen?_of_block (w := wd) (w' := w') (a := ⟨t, 2, none⟩) et]; exact q2, q4.kept (hw'.block y q4.lt (fun e => hnb.2.1 e.symm)), q5.kept (hw'.block (y + 1) q5.lt (fun e => hnb.2.2 e.symm))⟩
          iterate 5
            refine GrR.walk_t ?_ (Or.inl ⟨by rfl, ?_⟩) ?_
            rotate_left
            · intro w' hw'
              obtain ⟨e0, -, -, -⟩ := HT.out w' hw'
              clear hw'
              go_simp
              try with_reducible rfl
            simp only [Act.put, List.setIfInBounds_toArray, List.set_cons_zero, List.set_cons_succ]
          refine GrR.walk_t ?_ (Or.inl ⟨by rfl, ?_⟩) ?_
          rotate_left
          · intro w' hw'
            obtain ⟨-, -, e1, -⟩ := HT.out w' hw'
            obtain ⟨d0, d1, d2, d3, d4, d5, d6, d7, d8, d9⟩ := RCell.ten (e1.one rfl)
            simp only [Nat.zero_add] at d0 d1 d2 d3 d4 d5 d6 d7 d8 d9
            clear e1
            clear hw'
            go_simp
            try with_reducible rfl
          simp only [Act.put, List.setIfInBounds_toArray, List.set_cons_zero, List.set_cons_succ]
          refine GrR.walk_c (fun K hK => ?_)
          go_simp
          generalize hwb : World.alloc _ _ = wb
          have hsrc : Src Try.prog 10 47 (.slice (some ⟨wd.heap.size, 0, none⟩) 1 1) 1 (Rc.cells ⟨rp, rn, 0, 0, 0, 0, 0, true, ru, []⟩ (.slice ua 0 uc)) wb := by subst hwb; exact src_rec (r := ⟨rp, rn, 0, 0, 0, 0, 0, true, ru, []⟩) Try.underlying47 _ _ rfl rfl
          have hxb : wd.Extends wb := by subst hwb; exact ext_alloc _ _
          have HSRC := Lib.hid hsrc
          have HXB := Lib.hid hxb
          have HGB : Hid (wd.grownBy wb Rb) := by subst hwb; exact World.grownBy_alloc wd _ _
          refine hK.out _ _ HGB.out ?_
          clear hK K hwb hsrc
          have HOW : Hid (OwnR wb (.slice a2 n2 cap2) qs) := (HRD.out wb (Gr.ext_trans HXF.out hxb)).2.2.2.2.2
          have how := HOW.out.1
          rw [HNN2.out] at how
          have HOWN := Lib.hid how
          clear how hxb
          generalize wd.heap.size = bb at *
          refine GrR.walk_c (fun K hK => ?_)
          rw [if_pos (by rfl)]
          refine wp_append_own_src3 wb (.tmp 104) (.tmp 106) 47 47 rfl 0 28 i2 (Rc.zero.val (.slice none 0 0)) 10 96 Try.underlying47 HI'.out HZ0'.out HZ1'.out HZ2'.out rfl (.slice a2 n2 cap2) n2 (flat qs) rfl HOWN.out _ 1 (Rc.cells ⟨rp, rn, 0, 0, 0, 0, 0, true, ru, []⟩ (.slice ua 0 uc)) rfl HSRC.out (by unfold maxLen; omega) (by omega) (Nat.zero_le _) (fun _ => True) (fun _ _ _ _ _ _ _ _ => trivial) (fun _ _ => trivial) (fun _ _ => trivial) ?_
          intro v' w9 ho9 hg9 hn9 _
          have hg9' := hg9
          rw [← HRB.out] at hg9'
          refine hK.out _ _ hg9' ?_
          clear hK K
          refine GrR.walk_nil ?_
          obtain ⟨e0, f0, e1, e2⟩ := HT.out w9 (grown_trans HGB.out hg9')
          have HAY := Lib.hid e1
          have HAZ := Lib.hid e2
          have HO9 : Hid (OwnR w9 v' (qs ++ [(⟨rp, rn, 0, 0, 0, 0, 0, true, ru, []⟩, .slice ua 0 uc)])) := by
            refine ⟨?_, fun p hp => ?_⟩
            · rw [flat_append, List.length_append, HNN2.out]
              exact ho9
            · rcases List.mem_append.1 hp with hp | hp
              · exact HOW.out.2 p hp
              · rw [List.mem_singleton] at hp; subst hp; exact ⟨ua, uc, rfl⟩
          have HNW : Hid (NewBlk wb (.slice a2 n2 cap2) v') := hn9
          have HG9 := Lib.hid hg9
          have HX9 := Lib.hid (Gr.ext_trans HXF.out HXB.out)
          clear ho9 hg9 hg9' hn9 e1 e2 HT HOW HOWN HSRC HRD HRB HGB
          obtain ⟨xa, xc, hxv⟩ := HO9.out.slice
          have hxl : (qs ++ [((⟨rp, rn, 0, 0, 0, 0, 0, true, ru, []⟩ : Rc), Value.slice ua 0 uc)]).length = n2 + 1 := by rw [List.length_append, HNN2.out]; rfl
          rw [hxl] at hxv
          subst hxv
          clear hxl
          simp only [Act.put, List.setIfInBounds_toArray, List.set_cons_zero, List.set_cons_succ]
          go_upto_region 18 with fail
          generalize hw10 : World.setCell w9 _ _ = w10
          have HEND := Lib.hid (fun w11 hg => HE3.out wb w9 w10 w11 _ HX9.out HG9.out HO9.out HNW.out hw10.symm hg)
          have hg10 : w9.grownBy w10 (some t) := by subst hw10; exact grown_set _ _ _ _
          have HAY0 : Hid (Arr w10 y 1 1 (fun _ => (⟨rp, rn, 0, 0, 0, 0, 0, true, ru, []⟩, .slice ua 0 uc))) := HAY.out.kept (hg10.block y HAY.out.lt (by simpa using Ne.symm hty.1))
          have HAZ0 : Hid (Arr w10 (y + 1) 1 1 (fun _ => (Rc.zero, .slice none 0 0))) := HAZ.out.kept (hg10.block (y + 1) HAZ.out.lt (by simpa using Ne.symm hty.2))
          clear hw10 hg10 e0 f0 HE3 HO9 HNW HG9 HX9 HAY HAZ
          obtain ⟨c0, c1, c2, c3, c4, c5, c6, c7, c8, c9⟩ := RCell.ten (HAY0.out.one rfl)
          simp only [Nat.zero_add] at c0 c1 c2 c3 c4 c5 c6 c7 c8 c9
          have HSLC : Hid (Slc ((⟨rp, rn, 0, 0, 0, 0, 0, true, ru, []⟩, .slice ua 0 uc) : Pr)) := ⟨ua, uc, rfl⟩
          go_wp2_with (refine wpList_store_rec rfl 28 recsize _ _ rfl (y + 1) 0 0 1 1 _ (⟨rp, rn, 0, 0, 0, 0, 0, true, ru, []⟩, .slice ua 0 uc) rfl rfl rfl HAZ0.out (by omega) HSLC.out ?_)
          intro w7 ha7 hg7
          have HP : Hid (Q (.returned (.tuple #[Rc.val ⟨rp, rn, 0, 0, 0, 0, 0, true, ru, []⟩ (.slice ua 0 uc), .bool true])) w7) := by
            have h := HOUT.out ua uc ⟨rp, rn, 0, 0, 0, 0, 0, true, ru, []⟩ w7
            rw [HBO.out] at h
            exact h (HEND.out w7 hg7) (fun k hk => Option.some.inj hk) rfl
          clear c0 c1 c2 c3 c4 c5 c6 c7 c8 c9 hg7
          obtain ⟨d0, d1, d2, d3, d4, d5, d6, d7, d8, d9⟩ := RCell.ten (ha7.one (p := (⟨rp, rn, 0, 0, 0, 0, 0, true, ru, []⟩, .slice ua 0 uc)) rfl)
          simp only [Nat.zero_add] at d0 d1 d2 d3 d4 d5 d6 d7 d8 d9
          clear ha7
          repeat (first | go_values | go_skip | go_guarded | go_step)
          refine bodyPost_ret (v := .tuple #[Rc.val ⟨rp, rn, 0, 0, 0, 0, 0, true, ru, []⟩ (.slice ua 0 uc), .bool true]) (by simp [results, Try.results91, go_sem, d0, d1, d2, d3, d4, d5, d6, d7, d8, d9]; try rfl) rfl ?_
          exact HP.out
end Go.Proofs.Ytdbdnfjgmdkneaa
namespace Go.Proofs.Ytdbdnfjgmdkneaa
set_option maxRecDepth 20000
open Go.RowKit Go.Deep Go.Maps
set_option linter.unusedVariables false
theorem radd_any (t : Nat) (D : Nat → Prop) (st : Sto) (r : Rc) (ua : Option Addr) (uc : Nat) (w : World) (h : RSt w t D st) (hD : ∀ i, D i → i < w.heap.size) (hi : SM.Inv st) (htl : st.t.length ≤ 1000000) (hu : U8s w (.slice ua r.d.length uc) r.d) (hsep : r.d = [] ∨ ∀ g, (Value.slice ua r.d.length uc).ownBlock = some g → ¬ D g) (hrl : r.d.length ≤ 1000) :
    Calls Try.prog 92 #[.pointer (some ⟨t, 0, none⟩), r.val (.slice ua r.d.length uc)] w (RAddOut w t D st r) := by
  by_cases hh : SM.Has st.t r
  · exact radd_gone t D st r ua uc w h hD hi htl hu hsep hrl hh
  · by_cases hT : SM.Taken r st.l
    · exact radd_taken t D st r ua uc w h hD hi htl hu hsep hrl hh hT
    · exact radd_new t D st r ua uc w h hD hi htl hu hsep hrl hh hT
/-- A piece more in the log. -/
theorem rlog_any (t : Nat) (D : Nat → Prop) (st : Sto) (v : Value) (x : List Nat) (w : World) (h : RSt w t D st) (hu : U8s w v x) (hx : x.length ≤ 65535) (hz : LM.size st.lg ≤ 900000) (hv : ∀ g, v.ownBlock = some g → ¬ D g) :
    Calls Try.prog 93 #[.pointer (some ⟨t, 3, none⟩), v] w fun e w' => e = .returned (.int .i64 0) ∧ RLeft w t D { st with lg := st.lg ++ [x] } w' := by
  obtain ⟨DB, v1, v2, ps, qs, h⟩ := h
  have hin : ∀ g, g < w.heap.size → (DB g ∨ w.heap.size ≤ g) → DB g := fun g hg h => h.resolve_right (by omega)
  have hsrc : x = [] ∨ ∀ g, v.ownBlock = some g → ¬ (DB g ∨ w.heap.size ≤ g) := by
    rcases hu with ⟨e, _⟩ | ⟨b, off, cap, rfl, _, _, h3, _⟩
    · exact .inl e
    · refine .inr fun g hg hd => ?_
      have e : b = g := by simpa [Value.ownBlock] using hg
      subst e
      exact hv b hg (h.inB b (hin b h3 hd)).1
  refine (rappend15_any t st.s (fun g => DB g ∨ w.heap.size ≤ g) (LM.spell st.lg) v x w (h.log.mono fun g _ hg => .inl hg) hu hx (by rw [LM.spell_length]; exact hz) hsrc (fun g hg => .inr hg)).mono ?_
  rintro e w2 ⟨rfl, hl, hT⟩
  rw [← LM.spell_snoc] at hl
  obtain ⟨DB2, hl2, hb2⟩ := hl.least
  obtain ⟨sa, sc, hb, _⟩ := h.cells
  have hne : ∀ (g : Nat) (cs : Array Value) (T : TypeId) (f : Nat × Nat), w.heap[g]? = some (.cells cs T f) → T ≠ 64 → g ≠ t := fun g cs T f hg hTT e => by
    subst e
    rw [hb] at hg
    simp only [Option.some.injEq, Obj.cells.injEq] at hg
    exact hTT hg.2.1.symm
  refine ⟨rfl, h.logged hl2 hT.size (fun i cs f hi => hT.other i cs _ f hi (hne i cs _ f hi (by decide)) (by decide)) (fun g hg => ?_) (fun g hg hD hnB hc => ?_), ⟨hT.os, hT.tape, hT.output, hT.size, fun i hi hnD => hT.away i hi (fun e => hnD (e ▸ h.here)) fun hd => hnD (h.inB i (hin i hi hd)).1⟩⟩
  · obtain ⟨k1, k2⟩ := hb2 g hg
    exact ⟨k1, k2⟩
  · obtain ⟨cs, f, hc⟩ := hc
    exact hT.away g hg (hne g cs _ f hc (by decide)) fun hd => hnB (hin g hg hd)
/-- A box is written behind a step, and then the log. -/
theorem RLeft.fin {w w4 w5 w6 : World} {t z : Nat} {D : Nat → Prop} {st1 : Sto} (hx : w.Extends w4) (hL : RLeft w4 t D st1 w5) (hg : w5.grownBy w6 (some z)) (hz : w.heap.size ≤ z) (hz4 : z < w4.heap.size) (hD : ∀ i, D i → i < w.heap.size) :
    RSt w6 t (Nx D w4 w6) st1 ∧ RLeft w t D st1 w6 ∧ ∀ w7 w8 st2, w6.Extends w7 → RLeft w7 t (Nx D w4 w6) st2 w8 → RLeft w t D st2 w8 := by
  have h1 := hx.size
  have h2 := hL.2.size
  have h3 := hg.size
  have hnz : ∀ i, Nx D w4 w5 i → i ≠ z := fun i hi e => by
    subst e
    rcases hi with hi | hi
    · have := hD i hi; omega
    · omega
  refine ⟨(hL.1.away h3 (fun g hg' hl => hg.block g hl (fun e => hnz g hg' (Option.some.inj e)))).mono fun i hi => ?_, RLeft.close hx hL hg hz hz4 hD, fun w7 w8 st2 hx7 hL8 => ?_⟩
  · rcases hi with hi | hi
    · exact .inl hi
    · exact .inr (by omega)
  · have h4 := hx7.size
    have h5 := hL8.2.size
    refine ⟨hL8.1.mono fun i hi => ?_, ?_⟩
    · rcases hi with (hi | hi) | hi
      · exact .inl hi
      · exact .inr (by omega)
      · exact .inr (by omega)
    · exact ((RLeft.close hx hL hg hz hz4 hD).2.trans (Fr.ext (D := D) hx7) fun _ _ h => h).trans hL8.2 fun i hi hd => by
        rcases hd with hd | hd
        · exact hd
        · omega
end Go.Proofs.Ytdbdnfjgmdkneaa
