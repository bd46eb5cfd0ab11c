/- In one text: StoGet, StoIds, LogRef, LogRows, LogWhole. -/
import Derived.WalkKit
import Derived.IntWalk
import Derived.Deep.DeepCutAuto
import Derived.Test.YtohonjhfmmhgdaaMC1
import Derived.Test.YtohonjhfmmhgdaaMC2
import Derived.Test.YtohonjhfmmhgdaaMC3
import Derived.Test.YtohonjhfmmhgdaaMC6
import Derived.Test.YtohonjhfmmhgdaaMC7
import Derived.Test.YtohonjhfmmhgdaaMC8
import Derived.Test.YtohonjhfmmhgdaaMC12
namespace Go.Proofs.Ytohonjhfmmhgdaa
set_option maxRecDepth 20000
open Go.RowKit Go.Deep Go.Maps
set_option linter.unusedVariables false
/-- Records that a call answers, in memory of its own. -/
def RcsOut (w : World) (l : List Rc) (e : Ending) (w' : World) : Prop := ∃ v, e = .returned v ∧ w.Extends w' ∧ Recs w' v l
def getTo (r : Rc) (ps : List Pr) (k : Nat) : List Rc := ((ps.take k).map (·.1)).filter (isOf r)
theorem getTo_yes {r : Rc} {ps : List Pr} {k : Nat} (h : k < ps.length) (hq : isOf r (ps.getD k zp).1 = true) : getTo r ps (k + 1) = getTo r ps k ++ [(ps.getD k zp).1] := by
  unfold getTo
  rw [take_snocp ps k h, List.map_append, List.filter_append]
  congr 1
  rw [List.map_singleton, List.filter_cons]
  simp only [hq]
  simp
theorem getTo_no {r : Rc} {ps : List Pr} {k : Nat} (h : k < ps.length) (hq : isOf r (ps.getD k zp).1 = false) : getTo r ps (k + 1) = getTo r ps k := by
  unfold getTo
  rw [take_snocp ps k h, List.map_append, List.filter_append, List.map_singleton, List.filter_cons]
  simp only [hq]
  simp
theorem getTo_le (r : Rc) (ps : List Pr) (k : Nat) : (getTo r ps k).length ≤ k := by
  unfold getTo
  refine Nat.le_trans (List.length_filter_le _ _) ?_
  rw [List.length_map, List.length_take]; omega
theorem copy_rok {w w' : World} {xs : List Nat} {a : Option Addr} {c : Nat} (h : CopyOut w xs (.returned (.slice a xs.length c)) w') : RowOk w' 0 (.slice a xs.length c) xs := by
  obtain ⟨a', c', e, _, hu, hb⟩ := h
  simp only [Ending.returned.injEq, Value.slice.injEq] at e
  obtain ⟨rfl, _, rfl⟩ := e
  exact ⟨hu, .inr fun g hg => ⟨(hb g hg).1.2, .inr (hb g hg).2⟩⟩
theorem RMats.box {w w' : World} {B z k : Nat} {v : Value} {l : List Rc} {cs : Array Value} {f : Nat × Nat} (h : RMats w B 0 v k l) (hg : w.grownBy w' (some z)) (hv : v.ownBlock ≠ some z) (hz : w.heap[z]? = some (.cells cs 43 f)) : RMats w' B 0 v k l := by
  obtain ⟨vs, ho, hr⟩ := h
  refine ⟨vs, ho.kept hg (.inr hv), fun j hj => ?_⟩
  obtain ⟨u, h1, h2⟩ := hr j hj
  refine ⟨u, h1, h2.grown hg ?_⟩
  rcases h2.2 with h3 | h3
  · exact .inl h3
  · refine .inr fun e => ?_
    obtain ⟨_, h4⟩ := h3 z e
    rcases h4 with h4 | ⟨cs', h4⟩
    · omega
    · rw [hz] at h4
      simp only [Option.some.injEq, Obj.cells.injEq] at h4
      exact absurd h4.2.1 (by decide)
set_option maxHeartbeats 2000000 in
theorem get16_any (t : Nat) (D : Nat → Prop) (st : Sto) (r : Rc) (w : World) (h : SAt w t D st) (hl : st.l.length ≤ 1000) (hs : ∀ x ∈ st.l, KM.Right x ∧ x.g = false) :
    Calls Try.prog 28 #[.pointer (some ⟨t, 0, none⟩), .agg #[.int .i64 r.p, .int .i64 r.n]] w (RcsOut w (st.l.filter (isOf r))) := by
  obtain ⟨v, mp, ps, h⟩ := h
  have HH := Lib.hid h
  have HAT := Lib.hid h.range
  have HSL : Hid (∀ k, k < ps.length → Slc (ps.getD k zp)) := fun k hk => h.own.2 _ (getD_mem hk)
  have HDT : Hid (∀ k, k < ps.length → U8s w (ps.getD k zp).2 (ps.getD k zp).1.d ∧ (ps.getD k zp).1.d ≠ [] ∧ (ps.getD k zp).1.d.length ≤ 64) := fun k hk => by
    have hm : (ps.getD k zp).1 ∈ st.l := by rw [← h.recs]; exact List.mem_map.2 ⟨_, getD_mem hk, rfl⟩
    obtain ⟨h1, h2⟩ := hs _ hm
    obtain ⟨⟨⟨_, _, h3, h4, _⟩, _⟩, _, h8⟩ := h1.2.2.2.2 h2
    refine ⟨(h.data _ (getD_mem hk)).1, fun e => ?_, by omega⟩
    have h0 : (ps.getD k zp).1.d.length = 0 := by rw [e]; rfl
    omega
  obtain ⟨p, hb, c2, c3, c4, f3, f4⟩ := h.cells
  have HC := Lib.hid c3
  have HY : Hid (∀ k, k < ps.length → isOf r (ps.getD k zp).1 = true → getTo r ps (k + 1) = getTo r ps k ++ [(ps.getD k zp).1]) := fun k hk hq => getTo_yes hk hq
  have HN : Hid (∀ k, k < ps.length → isOf r (ps.getD k zp).1 = false → getTo r ps (k + 1) = getTo r ps k) := fun k hk hq => getTo_no hk hq
  have HLE := Lib.hid (getTo_le r ps)
  have HG0 : Hid (getTo r ps 0 = []) := by show _ = _; simp [getTo]
  have HGN : Hid (getTo r ps ps.length = st.l.filter (isOf r)) := by
    unfold getTo; rw [List.take_length, ← h.recs]; rfl
  have HIS : Hid (∀ x : Rc, isOf r x = decide (x.p = r.p ∧ x.n = r.n)) := fun x => rfl
  rw [← h.len] at hl
  obtain ⟨a, cap, rfl⟩ := h.own.slice
  obtain ⟨i2, hi', hz0', hz1', hz2'⟩ := info_parts recinfo
  have HI' := Lib.hid hi'; clear hi'
  have HZ0' := Lib.hid hz0'; clear hz0'
  have HZ1' := Lib.hid hz1'; clear hz1'
  have HZ2' := Lib.hid hz2'; clear hz2'
  clear h hb c2 c3 c4 f3 f4 hs HH
  generalize ps.length = n at *
  generalize st.l.filter (isOf r) = L at *
  generalize r.p = rp at *
  generalize r.n = rn at *
  generalize getTo r ps = G at *
  go_enter Try.func28, Try.ntmps28
  go_upto_region 1 with fail
  generalize hw1 : World.alloc w _ = w1
  have hx1 : w.Extends w1 := by subst hw1; exact ext_alloc _ _
  obtain ⟨d0, d1⟩ : w1.cell? ⟨w.heap.size, 0, none⟩ = some (.int .i64 rp) ∧ w1.cell? ⟨w.heap.size, 1, none⟩ = some (.int .i64 rn) := by subst hw1; exact box_id w 38 rp rn
  have HX1 := Lib.hid hx1
  have HD0 := Lib.hid d0
  have HD1 := Lib.hid d1
  have hc := hx1.cell_of HC.out
  clear hw1 hx1 d0 d1
  generalize w.heap.size = y at *
  go_wp2_with fail
  go_loopw [5, 15] (fun s5 s15 wr => ∃ k : Nat, k ≤ n ∧ s15 = .int .i64 k ∧ Hid (w1.Extends wr) ∧ Hid (RMats wr w1.heap.size 0 s5 (G k).length (G k))) (fun _ s15 _ => n - (intOf s15).toNat)
  case atStart => exact ⟨0, by omega, rfl, Gr.ext_refl _, by rw [HG0.out]; exact RMats.nil _ _ _ _⟩
  case round =>
    clear hc
    obtain ⟨k, hk, rfl, HX, HM⟩ := hrel
    by_cases h1 : k < n
    · obtain ⟨g, ⟨cap', e⟩, hr⟩ := HAT.out k h1
      cases e
      have hr := rangeAt_ext hr (Gr.ext_trans HX1.out HX.out)
      obtain ⟨c0, c1, c2, c3, c4, c5, c6, c7, c8, c9⟩ := RCell.ten hr
      have HSK := Lib.hid (HSL.out k h1)
      have HDK := Lib.hid (HDT.out k h1)
      have HYK := Lib.hid (HY.out k h1)
      have HNK := Lib.hid (HN.out k h1)
      have HLK := Lib.hid (HLE.out k)
      have HISK := Lib.hid (HIS.out (ps.getD k zp).1)
      clear hr
      generalize ps.getD k zp = p at *
      obtain ⟨⟨xp, xn, xb, xs, xm, xk, xe, xg, xu, xd⟩, u⟩ := p
      obtain ⟨ua, uc, hu⟩ := HSK.out
      simp only at hu
      subst hu
      simp only at c0 c1 c2 c3 c4 c5 c6 c7 c8 c9
      have d0 := HX.out.cell_of HD0.out
      have d1 := HX.out.cell_of HD1.out
      obtain ⟨va, vc, rfl⟩ := HM.out.slice
      by_cases hid : xp = rp ∧ xn = rn
      · have hG := HYK.out (by rw [HISK.out]; exact decide_eq_true hid)
        obtain ⟨rfl, rfl⟩ := hid
        have HGK := Lib.hid hG
        clear HYK HNK HISK hG
        go_upto_region 7 with fail
        generalize hwb : World.alloc wr _ = wb
        have hxb : wr.Extends wb := by subst hwb; exact ext_alloc _ _
        have ha : Arr wb wr.heap.size 1 1 (fun _ => (⟨xp, xn, xb, xs, xm, xk, xe, xg, xu, xd⟩, .slice ua xd.length uc)) := by subst hwb; exact Arr.box wr ⟨xp, xn, xb, xs, xm, xk, xe, xg, xu, xd⟩ _
        have hzw : w1.heap.size ≤ wr.heap.size := HX.out.size
        obtain ⟨z, hz⟩ : ∃ z, z = wr.heap.size := ⟨_, rfl⟩
        rw [← hz] at ha hzw ⊢
        have HZW := Lib.hid hz
        clear hz hwb c0 c1 c2 c3 c4 c5 c6 c7 c8 c9
        obtain ⟨c0, c1, c2, c3, c4, c5, c6, c7, c8, c9⟩ := RCell.ten (ha.one rfl)
        simp only [Nat.zero_add] at c0 c1 c2 c3 c4 c5 c6 c7 c8 c9
        have d0' := hxb.cell_of d0
        have d1' := hxb.cell_of d1
        have HXB := Lib.hid (Gr.ext_trans HX.out hxb)
        have HMB := Lib.hid (HM.out.ext hxb)
        have HAB := Lib.hid ha
        have HCL := Lib.hid (clone_any (.slice ua xd.length uc) xd wb (HDK.out.1.ext (Gr.ext_trans HX1.out HXB.out)) HDK.out.2.1 (by have := HDK.out.2.2; simp only at this; omega))
        clear hxb ha d0 d1 HDK
        go_wp2_with fail
        refine HCL.out.mono ?_
        rintro e w6 ⟨a2, c2', rfl, hx6, hu6, hb6⟩
        have HRK : Hid (RowOk w6 0 (.slice a2 xd.length c2') xd) := copy_rok ⟨a2, c2', rfl, hx6, hu6, hb6⟩
        have HA6 := Lib.hid (HAB.out.ext hx6)
        have HX6 := Lib.hid (Gr.ext_trans HXB.out hx6)
        have HM6 := Lib.hid (HMB.out.ext hx6)
        have f9 := HA6.out.frozen 9
        clear c0 c1 c2 c3 c4 c5 c6 c7 c8 c9 d0' d1' HCL hx6 hu6 hb6 HXB HMB HAB
        obtain ⟨c0, c1, c2, c3, c4, c5, c6, c7, c8, c9⟩ := RCell.ten (HA6.out.one rfl)
        simp only [Nat.zero_add] at c0 c1 c2 c3 c4 c5 c6 c7 c8 c9
        go_upto_region 9 with fail
        generalize hw7 : World.setCell w6 _ _ = w7
        obtain ⟨ha7, hg7⟩ := HA6.out.datum (i := 0) (w' := w7) (by omega) (.slice a2 xd.length c2') hw7.symm
        have hzb : ∃ cs, w6.heap[z]? = some (.cells cs 43 (0, 0)) := by obtain ⟨cur, hc, _⟩ := HA6.out; exact ⟨_, hc⟩
        have hvz : (Value.slice va (G k).length vc).ownBlock ≠ some z := fun e => by
          obtain ⟨vs, ho, _⟩ := HM.out
          have := (ho.lt z e).2
          have := HZW.out
          omega
        have HM7 : Hid (RMats w7 w1.heap.size 0 (.slice va (G k).length vc) (G k).length (G k)) := by
          obtain ⟨cs, hc⟩ := hzb
          exact HM6.out.box hg7 hvz hc
        have HX7 : Hid (w1.Extends w7) := HX6.out.grown hg7 (fun j hj => by have := Option.some.inj hj; omega)
        have HRK7 : Hid (RowOk w7 0 (.slice a2 xd.length c2') xd) := HRK.out.grown hg7 (by
          rcases HRK.out.2 with h3 | h3
          · exact .inl h3
          · refine .inr fun e => ?_
            obtain ⟨_, h4⟩ := h3 z e
            obtain ⟨cs, hc⟩ := hzb
            rcases h4 with h4 | ⟨cs', h4⟩
            · omega
            · rw [hc] at h4
              simp only [Option.some.injEq, Obj.cells.injEq] at h4
              exact absurd h4.2.1 (by decide))
        clear hw7 hg7 hzb hvz c0 c1 c2 c3 c4 c5 c6 c7 c8 c9 HM HM6 HX HX6 HRK HA6 f9
        obtain ⟨c0, c1, c2, c3, c4, c5, c6, c7, c8, c9⟩ := RCell.ten (ha7.one (p := (⟨xp, xn, xb, xs, xm, xk, xe, xg, xu, xd⟩, .slice a2 xd.length c2')) rfl)
        simp only [Nat.zero_add] at c0 c1 c2 c3 c4 c5 c6 c7 c8 c9
        clear ha7
        have hx8 : w7.Extends (w7.alloc (.cells (Rc.cells ⟨xp, xn, xb, xs, xm, xk, xe, xg, xu, xd⟩ (.slice a2 xd.length c2')).toArray 43)) := ext_alloc _ _
        have HSRC : Hid (Src Try.prog 10 28 (.slice (some ⟨w7.heap.size, 0, none⟩) 1 1) 1 (Rc.cells ⟨xp, xn, xb, xs, xm, xk, xe, xg, xu, xd⟩ (.slice a2 xd.length c2')) (w7.alloc (.cells (Rc.cells ⟨xp, xn, xb, xs, xm, xk, xe, xg, xu, xd⟩ (.slice a2 xd.length c2')).toArray 43))) := src_rec (r := ⟨xp, xn, xb, xs, xm, xk, xe, xg, xu, xd⟩) Try.underlying28 _ _ rfl rfl
        have HM8 := Lib.hid (HM7.out.ext hx8)
        have HRK8 := Lib.hid (HRK7.out.ext hx8)
        have HX8 := Lib.hid (Gr.ext_trans HX7.out hx8)
        obtain ⟨vs, hown, hrows⟩ := HM8.out
        have HOWN := Lib.hid hown
        have HROWS := Lib.hid hrows
        have HOB : Hid (∀ g, (Value.slice va (G k).length vc).ownBlock = some g → w1.heap.size ≤ g) := fun g hg => (HOWN.out.lt g hg).1
        have hbs := HX8.out.size
        have hgk := HLK.out
        clear hx8 hown hrows HM8 HM7 HX7 HRK7
        generalize hgl : (G k).length = gl at *
        have HGL := Lib.hid hgl
        clear hgl
        go_wp2_with (at_builtin; refine wpList_append_own_src _ rfl _ _ 28 28 rfl w1.heap.size 43 i2 (Rc.zero.val (.slice none 0 0)) 10 96 Try.underlying28 HI'.out HZ0'.out HZ1'.out HZ2'.out rfl _ _ _ rfl HOWN.out _ 1 (Rc.cells ⟨xp, xn, xb, xs, xm, xk, xe, xg, xu, xd⟩ (.slice a2 xd.length c2')) rfl HSRC.out (by unfold maxLen; omega) (by omega) hbs ?_)
        intro v' w9 ho9 hg9 _
        have HP : Hid (w1.Extends w9 ∧ RMats w9 w1.heap.size 0 v' (G (k + 1)).length (G (k + 1))) := by
          refine ⟨HX8.out.grown hg9 HOB.out, ?_⟩
          rw [HGK.out, List.length_append, HGL.out]
          exact RMats.snoc (Nat.zero_le _) HGL.out.symm HOWN.out HROWS.out HRK8.out hg9 ho9
        clear ho9 hg9 c0 c1 c2 c3 c4 c5 c6 c7 c8 c9 HSRC HOWN HROWS HOB HX8 HRK8
        go_wp2
        go_roundw
        case rel => exact ⟨k + 1, by omega, by go_num, Lib.hid HP.out.1, Lib.hid HP.out.2⟩
        case measure => simp [intOf]; omega
      · have hG := HNK.out (by rw [HISK.out]; exact decide_eq_false hid)
        have HGK := Lib.hid hG
        clear HYK HNK HISK hG
        have HXA : Hid (∀ w', wr.Extends w' → w1.Extends w' ∧ RMats w' w1.heap.size 0 (.slice va (G k).length vc) (G (k + 1)).length (G (k + 1))) := fun w' hx => ⟨Gr.ext_trans HX.out hx, by rw [HGK.out]; exact HM.out.ext hx⟩
        clear HM
        go_upto_region 7 with fail
        generalize hwb : World.alloc wr _ = wb
        have hxb : wr.Extends wb := by subst hwb; exact ext_alloc _ _
        have ha : Arr wb wr.heap.size 1 1 (fun _ => (⟨xp, xn, xb, xs, xm, xk, xe, xg, xu, xd⟩, .slice ua xd.length uc)) := by subst hwb; exact Arr.box wr ⟨xp, xn, xb, xs, xm, xk, xe, xg, xu, xd⟩ _
        clear hwb c0 c1 c2 c3 c4 c5 c6 c7 c8 c9
        obtain ⟨c0, c1, c2, c3, c4, c5, c6, c7, c8, c9⟩ := RCell.ten (ha.one rfl)
        simp only [Nat.zero_add] at c0 c1 c2 c3 c4 c5 c6 c7 c8 c9
        have d0' := hxb.cell_of d0
        have d1' := hxb.cell_of d1
        have HXB := Lib.hid (HXA.out wb hxb)
        clear hxb ha d0 d1 HXA
        generalize wr.heap.size = z at *
        by_cases hp : xp = rp
        · have hn : ¬ xn = rn := fun e => hid ⟨hp, e⟩
          subst hp
          clear hid
          go_wp2
          go_roundw
          case rel => exact ⟨k + 1, by omega, by go_num, HXB.out.1, HXB.out.2⟩
          case measure => simp [intOf]; omega
        · clear hid
          go_wp2
          go_roundw
          case rel => exact ⟨k + 1, by omega, by go_num, HXB.out.1, HXB.out.2⟩
          case measure => simp [intOf]; omega
    · obtain rfl : k = n := by omega
      obtain ⟨va, vc, rfl⟩ := HM.out.slice
      have HP : Hid (RcsOut w L (.returned (.slice va (G k).length vc)) wr) := by
        refine ⟨_, rfl, Gr.ext_trans HX1.out HX.out, ?_⟩
        rw [← HGN.out]
        exact HM.out.recs rfl
      clear HM
      generalize (G k).length = gl at *
      go_wp2
      go_ret
      exact HP.out
end Go.Proofs.Ytohonjhfmmhgdaa
namespace Go.Proofs.Ytohonjhfmmhgdaa
set_option maxRecDepth 20000
open Go.RowKit Go.Deep Go.Maps
set_option linter.unusedVariables false
/-- Ids that a call answers. -/
def IdsOut (w : World) (l : List Ip) (e : Ending) (w' : World) : Prop := ∃ v, e = .returned v ∧ w.Extends w' ∧ IdsAt w' v l
def ipOf (r : Rc) : Ip := (r.p, r.n)
namespace SM
def ids (st : Sto) : List Ip := comp (st.l.map ipOf)
end SM
theorem src_id {P : Program} {W : World} {T tx e' : TypeId} {x : Ip} (hk : P.underlying tx = some (.slice e')) (s c : Nat) (hs : s = W.heap.size) :
    Src P 2 tx (.slice (some ⟨s, 0, none⟩) 1 c) 1 (idc x) (W.alloc (.cells (idc x).toArray T)) := by
  subst hs
  refine Src.ofSlice _ hk ⟨W.heap.size, 0, none⟩ 1 c (idc x) rfl (fun j v hv => ?_) (fun v hv => fl2_one [x] v (by simpa [fl2] using hv))
  have h0 := heap_alloc_new W (.cells (idc x).toArray T)
  rw [Addr.add_mid, cell_of_row _ _ _ _ _ _ h0, List.getElem?_toArray, Nat.zero_add]
  exact hv
theorem compact_all (B : Nat) (v : Value) (l : List Ip) (w : World) (hv : OwnI w B v l) (hl : l.length ≤ 1000) :
    Calls Try.prog 47 #[v] w (CompOut w B v l) := by
  rcases hv.kinds with ⟨rfl, rfl⟩ | ⟨g, cap, rfl⟩
  · have HP : Hid (CompOut w B (.slice none 0 0) [] (.returned (.slice none 0 0)) w) := ⟨none, 0, rfl, OwnI.nil _ _, ⟨rfl, rfl, rfl, Nat.le_refl _, fun _ _ _ => rfl⟩⟩
    clear hv
    go_enter Try.func47, Try.ntmps47
    go_wp2
    go_ret
    exact HP.out
  · exact compact_any B g cap l.length l w hv hl
set_option maxHeartbeats 2000000 in
theorem ids16_any (t : Nat) (D : Nat → Prop) (st : Sto) (w : World) (h : SAt w t D st) (hl : st.l.length ≤ 1000) :
    Calls Try.prog 24 #[.pointer (some ⟨t, 0, none⟩)] w (IdsOut w (SM.ids st)) := by
  obtain ⟨v, mp, ps, h⟩ := h
  have HAT := Lib.hid h.range
  have HSL : Hid (∀ k, k < ps.length → Slc (ps.getD k zp)) := fun k hk => h.own.2 _ (getD_mem hk)
  obtain ⟨p, hb, c2, c3, c4, f3, f4⟩ := h.cells
  have HC := Lib.hid c3
  obtain ⟨G, HGE⟩ : ∃ G : Nat → List Ip, G = fun k => (ps.take k).map (fun p => ipOf p.1) := ⟨_, rfl⟩
  have HG0 : Hid (G 0 = []) := by show _ = _; rw [HGE]; rfl
  have HGS : Hid (∀ k, k < ps.length → G (k + 1) = G k ++ [((ps.getD k zp).1.p, (ps.getD k zp).1.n)]) := fun k hk => by
    rw [HGE]
    show (ps.take (k + 1)).map _ = (ps.take k).map _ ++ _
    rw [take_snocp ps k hk, List.map_append]; rfl
  have HGL : Hid (∀ k, k ≤ ps.length → (G k).length = k) := fun k hk => by rw [HGE]; simp; omega
  have HGN : Hid (G ps.length = st.l.map ipOf) := by
    show _ = _
    rw [HGE, ← h.recs]
    show (ps.take ps.length).map _ = _
    rw [List.take_length]
    unfold recs
    rw [List.map_map]; rfl
  have HFIN : Hid (∀ w' a c, w.Extends w' → OwnI w' w.heap.size (.slice a (SM.ids st).length c) (SM.ids st) → IdsOut w (SM.ids st) (.returned (.slice a (SM.ids st).length c)) w') := fun w' a c hx ho => ⟨_, rfl, hx, ho.at⟩
  have HIDS : Hid (SM.comp (G ps.length) = SM.ids st) := by show _ = _; rw [HGN.out]; rfl
  rw [← h.len] at hl
  obtain ⟨a, cap, rfl⟩ := h.own.slice
  obtain ⟨i2, hi', hz0', hz1', hz2'⟩ := info_parts idinfo
  have HI' := Lib.hid hi'; clear hi'
  have HZ0' := Lib.hid hz0'; clear hz0'
  have HZ1' := Lib.hid hz1'; clear hz1'
  have HZ2' := Lib.hid hz2'; clear hz2'
  have hc := HC.out
  clear h hb c2 c3 c4 f3 f4 HGE HGN
  generalize ps.length = n at *
  generalize SM.ids st = L at *
  go_enter Try.func24, Try.ntmps24
  go_wp2_with fail
  go_loopw [3, 13] (fun s3 s13 wr => ∃ k : Nat, k ≤ n ∧ s13 = .int .i64 k ∧ Hid (w.Extends wr) ∧ Hid (OwnI wr w.heap.size s3 (G k))) (fun _ s13 _ => n - (intOf s13).toNat)
  case atStart => exact ⟨0, by omega, rfl, Lib.hid (Gr.ext_refl _), Lib.hid (by rw [HG0.out]; exact OwnI.nil _ _)⟩
  case round =>
    clear hc
    obtain ⟨k, hk, rfl, HX, HM⟩ := hrel
    by_cases h1 : k < n
    · obtain ⟨g, ⟨cap', e⟩, hr⟩ := HAT.out k h1
      cases e
      have hr := rangeAt_ext hr HX.out
      obtain ⟨c0, c1, c2, c3, c4, c5, c6, c7, c8, c9⟩ := RCell.ten hr
      have HSK := Lib.hid (HSL.out k h1)
      have HGK := Lib.hid (HGS.out k h1)
      have HLK := Lib.hid (HGL.out k hk)
      clear hr
      generalize ps.getD k zp = p at *
      obtain ⟨⟨xp, xn, xb, xs, xm, xk, xe, xg, xu, xd⟩, u⟩ := p
      obtain ⟨ua, uc, hu⟩ := HSK.out
      simp only at hu
      subst hu
      simp only at c0 c1 c2 c3 c4 c5 c6 c7 c8 c9
      go_upto_region 7 with fail
      generalize hwb : World.alloc wr _ = wb
      have hxb : wr.Extends wb := by subst hwb; exact ext_alloc _ _
      have ha : Arr wb wr.heap.size 1 1 (fun _ => (⟨xp, xn, xb, xs, xm, xk, xe, xg, xu, xd⟩, .slice ua xd.length uc)) := by subst hwb; exact Arr.box wr ⟨xp, xn, xb, xs, xm, xk, xe, xg, xu, xd⟩ _
      obtain ⟨z, hz⟩ : ∃ z, z = wr.heap.size := ⟨_, rfl⟩
      rw [← hz] at ha ⊢
      clear hz hwb c0 c1 c2 c3 c4 c5 c6 c7 c8 c9
      obtain ⟨c0, c1, c2, c3, c4, c5, c6, c7, c8, c9⟩ := RCell.ten (ha.one rfl)
      simp only [Nat.zero_add] at c0 c1 c2 c3 c4 c5 c6 c7 c8 c9
      clear c2 c3 c4 c5 c6 c7 c8 c9 ha
      obtain ⟨va, vc, rfl⟩ := HM.out.slice
      have hx8 : wb.Extends (wb.alloc (.cells (idc (xp, xn)).toArray 38)) := ext_alloc _ _
      have HSRC : Hid (Src Try.prog 2 58 (.slice (some ⟨wb.heap.size, 0, none⟩) 1 1) 1 (idc (xp, xn)) (wb.alloc (.cells (idc (xp, xn)).toArray 38))) := src_id (x := (xp, xn)) Try.underlying58 _ _ rfl
      have HX8 := Lib.hid (Gr.ext_trans HX.out (Gr.ext_trans hxb hx8))
      have HOWN := Lib.hid ((HM.out.ext hxb).ext hx8)
      have HOB : Hid (∀ g, (Value.slice va (G k).length vc).ownBlock = some g → w.heap.size ≤ g) := fun g hg => (World.ownsRow.lt HOWN.out g hg).1
      have hbs := HX8.out.size
      rw [HLK.out] at HOB HOWN ⊢
      clear hx8 hxb HM HX
      have HOWN2 : Hid (World.ownsRow (wb.alloc (.cells (idc (xp, xn)).toArray 38)) w.heap.size 38 2 (.slice va k vc) k (fl2 (G k))) := by have := HOWN.out; unfold OwnI at this; rw [HLK.out] at this; exact this
      go_wp2_with (at_builtin; refine wpList_append_own_src _ rfl _ _ 58 58 rfl w.heap.size 38 i2 (.agg #[.int .i64 0, .int .i64 0]) 2 16 Try.underlying58 HI'.out HZ0'.out HZ1'.out HZ2'.out rfl _ _ _ rfl HOWN2.out _ 1 (idc (xp, xn)) rfl HSRC.out (by unfold maxLen; omega) (by omega) hbs ?_)
      intro v' w9 ho9 hg9 _
      have HP : Hid (w.Extends w9 ∧ OwnI w9 w.heap.size v' (G (k + 1))) := by
        refine ⟨HX8.out.grown hg9 HOB.out, ?_⟩
        unfold OwnI
        rw [HGK.out, fl2_snoc, List.length_append, HLK.out]
        exact ho9
      clear ho9 hg9 c0 c1 HSRC HOWN HOWN2 HOB HX8
      go_wp2
      go_roundw
      case rel => exact ⟨k + 1, by omega, by go_num, Lib.hid HP.out.1, Lib.hid HP.out.2⟩
      case measure => simp [intOf]; omega
    · obtain rfl : k = n := by omega
      obtain ⟨va, vc, rfl⟩ := HM.out.slice
      have HCL := Lib.hid (compact_all w.heap.size _ (G k) wr HM.out (by rw [HGL.out k (Nat.le_refl _)]; exact hl))
      have HOB : Hid (∀ g, (Value.slice va (G k).length vc).ownBlock = some g → w.heap.size ≤ g) := fun g hg => (World.ownsRow.lt HM.out g hg).1
      clear HM
      go_wp2_with fail
      refine HCL.out.mono ?_
      rintro e w5 ⟨a5, c5, rfl, ho, hg⟩
      rw [HIDS.out] at ho ⊢
      have HP := Lib.hid (HFIN.out w5 a5 c5 (HX.out.grown hg HOB.out) ho)
      clear ho hg HCL
      go_wp2
      go_ret
      exact HP.out
end Go.Proofs.Ytohonjhfmmhgdaa
namespace Go.Proofs.Ytohonjhfmmhgdaa
set_option maxRecDepth 20000
open Go.RowKit Go.Deep
set_option linter.unusedVariables false
/-- The array is that of v, or a new one. -/
def NewBlk (w : World) (v v' : Value) : Prop := v'.ownBlock = v.ownBlock ∨ ∃ g, v'.ownBlock = some g ∧ w.heap.size ≤ g
theorem grown_on {a b c : World} {v v' : Value} (h : a.grownBy b v.ownBlock) (k : b.grownBy c v'.ownBlock) (hn : NewBlk a v v') : a.grownBy c v.ownBlock := by
  rcases hn with e | ⟨g, e, hg⟩
  · rw [e] at k; exact grown_trans h k
  · rw [e] at k
    exact ⟨k.os.trans h.os, k.tape.trans h.tape, k.output.trans h.output, Nat.le_trans h.size k.size, fun i hi hr =>
      (k.block i (Nat.lt_of_lt_of_le hi h.size) (by simp; omega)).trans (h.block i hi hr)⟩
theorem NewBlk.next {a b : World} {v v' v'' : Value} (h : NewBlk a v v') (hs : a.heap.size ≤ b.heap.size) (k : v''.ownBlock = v'.ownBlock ∨ ∃ g, v''.ownBlock = some g ∧ b.heap.size ≤ g) : NewBlk a v v'' := by
  rcases k with e | ⟨g, e, hg⟩
  · rcases h with e' | ⟨g, e', hg⟩
    · exact .inl (e.trans e')
    · exact .inr ⟨g, e.trans e', hg⟩
  · exact .inr ⟨g, e, Nat.le_trans hs hg⟩
theorem clean_any (w : World) (v : Value) : CleanBlk (fun _ => True) w v := fun _ _ _ _ _ _ _ _ => trivial
/-- The reference's put: the array is the old one or a new one. -/
def PutOut (w : World) (v : Value) (zs : List Nat) (e : Ending) (w' : World) : Prop := ∃ a c ys, e = .returned (.slice a ys.length c) ∧ ys = zs ∧ w'.ownsRow 0 5 1 (.slice a ys.length c) ys.length (u8vs ys) ∧ w.grownBy w' v.ownBlock ∧ NewBlk w v (.slice a ys.length c)
theorem put_own (v : Value) (xs : List Nat) (n W : Nat) (w : World) (hW : W ≤ 8) (hn : n < 4611686018427387904) (hx : xs.length ≤ 1000000) (hown : w.ownsRow 0 5 1 v xs.length (u8vs xs)) :
    Calls Try.prog 76 #[v, .int .i64 n, .int .i64 W] w (PutOut w v (xs ++ KM.nb W n)) := by
  obtain ⟨iu, hiu, hz0, hz1, hz2⟩ := info_parts byteinfo
  have HI := Lib.hid hiu
  have HZ0 := Lib.hid hz0
  have HZ1 := Lib.hid hz1
  have HZ2 := Lib.hid hz2
  have HOWN := Lib.hid hown
  obtain ⟨lx, hlx⟩ : ∃ lx, lx = xs.length := ⟨_, rfl⟩
  rw [← hlx] at hx HOWN
  have HLX := Lib.hid hlx
  obtain ⟨va, vc, rfl⟩ := owns_slice HOWN.out
  clear hiu hz0 hz1 hz2 hown hlx
  go_enter Try.func76, Try.ntmps76
  go_wp2_with fail
  go_loopw [0, 7] (fun s0 s7 wr => ∃ q : Nat, q ≤ W ∧ s7 = .int .i64 ((q : Int) - 1) ∧ Hid (wr.ownsRow 0 5 1 s0 (lx + (W - q)) (u8vs (xs ++ (KM.nb W n).take (W - q)))) ∧ Hid (w.grownBy wr (Value.slice va lx vc).ownBlock) ∧ Hid (NewBlk w (.slice va lx vc) s0)) (fun _ s7 _ => (intOf s7 + 1).toNat)
  case atStart => exact ⟨W, by omega, by rfl, by rw [Nat.sub_self, List.take_zero, List.append_nil]; exact HOWN, grown_refl _ _, .inl rfl⟩
  case round =>
    obtain ⟨q, hq, rfl, HO, HG, HN⟩ := hrel
    obtain ⟨a0, c0, rfl⟩ := owns_slice HO.out
    by_cases h : q = 0
    · subst h
      have HP : Hid (PutOut w (.slice va lx vc) (xs ++ KM.nb W n) (.returned (.slice a0 (lx + (W - 0)) c0)) wr) := by
        have ho := HO.out
        have e : lx + (W - 0) = (xs ++ KM.nb W n).length := by rw [List.length_append, KM.nb_length, HLX.out]; rfl
        have hnb := HN.out
        rw [List.take_of_length_le (by rw [KM.nb_length]; omega), e] at ho
        rw [e] at hnb ⊢
        exact ⟨a0, c0, _, rfl, rfl, ho, HG.out, hnb⟩
      go_wp2
      go_ret
      exact HP.out
    · obtain ⟨p, rfl⟩ : ∃ p, q = p + 1 := ⟨q - 1, by omega⟩
      rw [show (((p + 1 : Nat) : Int) - 1) = (p : Int) by omega]
      have hshr := shr_bytes n p
      obtain ⟨m, hm⟩ : ∃ m, m = n / 256 ^ p % 256 := ⟨_, rfl⟩
      have hm2 : m < 256 := hm ▸ Nat.mod_lt _ (by decide)
      have hand : bits .and .i64 ((n : Int) / 256 ^ p) 255 = (m : Int) := by
        rw [i64_and255, hm, Int.natCast_emod, Int.natCast_ediv, Int.natCast_pow]; rfl
      have HM := Lib.hid hm
      clear h hm
      go_wp2_with (at_builtin; refine wpList_append_own_src3 _ rfl _ _ 41 41 rfl 0 5 iu (.int .u8 0) 1 1 Try.underlying41 HI.out HZ0.out HZ1.out HZ2.out rfl _ _ _ rfl (HO.out.alloc _) _ 1 [.int .u8 m] rfl (src_one Try.underlying41 _ _ rfl rfl) (by unfold maxLen; omega) (by omega) (Nat.zero_le _) (fun _ => True) (clean_any _ _) (fun _ _ => trivial) (fun _ _ => trivial) ?_)
      intro v' w9 ho9 hg9 hn9 _
      have HP : Hid (w9.ownsRow 0 5 1 v' (lx + (W - p)) (u8vs (xs ++ (KM.nb W n).take (W - p))) ∧ w.grownBy w9 (Value.slice va lx vc).ownBlock ∧ NewBlk w (.slice va lx vc) v') := by
        refine ⟨?_, grown_on (grown_alloc HG.out _) hg9 HN.out, HN.out.next (b := wr) HG.out.size (hn9.imp id (fun ⟨g, e, h⟩ => ⟨g, e, by omega⟩))⟩
        rw [show lx + (W - p) = lx + (W - (p + 1)) + 1 by omega, ← KM.nb_step p W n (by omega), ← HM.out, ← List.append_assoc, u8vs_app1]
        exact ho9
      clear ho9 hg9 hn9
      go_wp2
      go_roundw
      case rel => exact ⟨p, by omega, by go_num, Lib.hid HP.out.1, Lib.hid HP.out.2.1, Lib.hid HP.out.2.2⟩
      case measure => simp [intOf]
/-- A log of the reference lies at block t of type T from cell o on, behind L: its bytes, how many are sure; its array is one of D. -/
def RAt (w : World) (t o : Nat) (L : List Value) (T : TypeId) (D : Nat → Prop) (bs : List Nat) (s : Nat) : Prop := ∃ a c, w.heap[t]? = some (.cells (L ++ [Value.slice a bs.length c, Value.int .i64 ((s : Nat) : Int)]).toArray T (0, 0)) ∧ L.length = o ∧ T ≠ 5 ∧ w.ownsRow 0 5 1 (.slice a bs.length c) bs.length (u8vs bs) ∧ ∀ g, (Value.slice a bs.length c).ownBlock = some g → D g
theorem RAt.lt {w : World} {t o s : Nat} {L : List Value} {T : TypeId} {D : Nat → Prop} {bs : List Nat} (h : RAt w t o L T D bs s) : t < w.heap.size := by
  obtain ⟨a, c, h1, _⟩ := h
  exact (Array.getElem?_eq_some_iff.1 h1).1
theorem RAt.new (w : World) (D : Nat → Prop) : RAt (w.alloc (.cells #[.slice none 0 0, .int .i64 0] 52)) w.heap.size 0 [] 52 D [] 0 :=
  ⟨none, 0, heap_alloc_new _ _, rfl, by decide, World.ownsRow_nil _ _ _ _, fun g hg => by cases hg⟩
theorem owns_at {w : World} {v : Value} {n g : Nat} {T : TypeId} {vs : List Value} {B : Nat} (h : w.ownsRow B T 1 v n vs) (hg : v.ownBlock = some g) : ∃ cs, w.heap[g]? = some (.cells cs T (0, 0)) := by
  rcases h.2 with ⟨rfl, _⟩ | ⟨g', cap, cur, rfl, hbg, hh, _⟩
  · cases hg
  · simp only [Value.ownBlock, Option.some.injEq] at hg
    subst hg
    exact ⟨cur, hh⟩
section
variable {w w' : World} {t o s : Nat} {L : List Value} {T : TypeId} {D : Nat → Prop} {bs : List Nat}
theorem two_last (a b : Value) (L : List Value) (h : L.length = o) : (L ++ [a, b]).toArray[o]? = some a ∧ (L ++ [a, b]).toArray[o + 1]? = some b := by subst h; exact ⟨by simp, by simp⟩
theorem last_set0 (a b v : Value) (L : List Value) (h : L.length = o) : (L ++ [a, b]).toArray.setIfInBounds o v = (L ++ [v, b]).toArray := by subst h; simp
theorem last_set1 (a b v : Value) (L : List Value) (h : L.length = o) : (L ++ [a, b]).toArray.setIfInBounds (o + 1) v = (L ++ [a, v]).toArray := by subst h; simp
theorem RAt.keep (h : RAt w t o L T D bs s) (ht : w'.heap[t]? = w.heap[t]?) (hD : ∀ (g : Nat) (cs : Array Value), D g → w.heap[g]? = some (.cells cs 5 (0, 0)) → w'.heap[g]? = w.heap[g]?) : RAt w' t o L T D bs s := by
  obtain ⟨a, c, h1, h5, h6, h2, h3⟩ := h
  refine ⟨a, c, ht.trans h1, h5, h6, ⟨h2.1, ?_⟩, h3⟩
  rcases h2.2 with h4 | ⟨g, cap, cur, hv, hb, hh, hrest⟩
  · exact .inl h4
  · refine .inr ⟨g, cap, cur, hv, hb, ?_, hrest⟩
    rw [hD g cur (h3 g (by rw [hv]; rfl)) hh]; exact hh
theorem RAt.ext (h : RAt w t o L T D bs s) (hx : w.Extends w') : RAt w' t o L T D bs s :=
  h.keep (hx.block t h.lt) fun g cs _ hg => hx.block g (Array.getElem?_eq_some_iff.1 hg).1
theorem RAt.mono {D' : Nat → Prop} (h : RAt w t o L T D bs s) (hD : ∀ g, g < w.heap.size → D g → D' g) : RAt w t o L T D' bs s := by
  obtain ⟨a, c, h1, h5, h6, h2, h3⟩ := h
  refine ⟨a, c, h1, h5, h6, h2, fun g hg => ?_⟩
  obtain ⟨cs, hc⟩ := owns_at h2 hg
  exact hD g (Array.getElem?_eq_some_iff.1 hc).1 (h3 g hg)
/-- It stays where another block may be written, that is none of D's or holds no bytes. -/
theorem RAt.grown {g : Nat} (h : RAt w t o L T D bs s) (hg : w.grownBy w' (some g)) (hn : t ≠ g) (hD : ¬ D g ∨ ∃ cs T f, w.heap[g]? = some (.cells cs T f) ∧ T ≠ 5) : RAt w' t o L T D bs s :=
  h.keep (hg.block t h.lt (by simpa using hn)) fun i cs hi hc => hg.block i (Array.getElem?_eq_some_iff.1 hc).1 (fun e => by
    have e' := Option.some.inj e
    subst e'
    rcases hD with hD | ⟨cs', T, f, hc', hT⟩
    · exact hD hi
    · rw [hc] at hc'
      simp only [Option.some.injEq, Obj.cells.injEq] at hc'
      exact hT hc'.2.1.symm)
end
/-- What an append of the reference's log may write: its block t, and bytes in a block of D. -/
structure Touch (D : Nat → Prop) (t : Nat) (w w' : World) : Prop where
  os : w'.os = w.os
  tape : w'.tape = w.tape
  output : w'.output = w.output
  size : w.heap.size ≤ w'.heap.size
  away : ∀ i, i < w.heap.size → i ≠ t → ¬ D i → w'.heap[i]? = w.heap[i]?
  other : ∀ (i : Nat) (cs : Array Value) (T : TypeId) (f : Nat × Nat), w.heap[i]? = some (.cells cs T f) → i ≠ t → T ≠ 5 → w'.heap[i]? = w.heap[i]?
theorem Touch.below {D : Nat → Prop} {t B : Nat} {w w' : World} (h : Touch D t w w') (hB : B ≤ t) (hs : B ≤ w.heap.size) (hD : ∀ i, D i → B ≤ i) : Below B w w' :=
  ⟨h.os, h.tape, h.output, h.size, fun k hk => h.away k (by omega) (by omega) (fun hd => by have := hD k hd; omega)⟩
theorem RAt.shape {w : World} {t o s : Nat} {L : List Value} {T : TypeId} {D : Nat → Prop} {bs : List Nat} (h : RAt w t o L T D bs s) : ∃ cs f, w.heap[t]? = some (.cells cs T f) := by
  obtain ⟨a, c, h1, _⟩ := h
  exact ⟨_, _, h1⟩
theorem rlog_cells (L : List Value) (hL : ∀ y ∈ L, ∀ n, y ≠ .int .u8 n) (a : Option Addr) (n c : Nat) (s : Int) : ∀ y ∈ (L ++ [Value.slice a n c, .int .i64 s]).toArray.toList, ∀ n, y ≠ .int .u8 n := by
  intro y hy n e
  rw [List.toList_toArray, List.mem_append] at hy
  rcases hy with hy | hy
  · exact hL y hy n e
  · subst e
    simp at hy
theorem RAt.cells {w : World} {t o s : Nat} {L : List Value} {T : TypeId} {D : Nat → Prop} {bs : List Nat} (h : RAt w t o L T D bs s) : ∃ a c, w.cell? ⟨t, o, none⟩ = some (.slice a bs.length c) ∧ w.cell? ⟨t, o + 1, none⟩ = some (.int .i64 ((s : Nat) : Int)) ∧ w.frozen? ⟨t, o, none⟩ = false ∧ w.frozen? ⟨t, o + 1, none⟩ = false ∧
    w.ownsRow 0 5 1 (.slice a bs.length c) bs.length (u8vs bs) ∧ (∀ g, (Value.slice a bs.length c).ownBlock = some g → D g) ∧ w.heap[t]? = some (.cells (L ++ [Value.slice a bs.length c, Value.int .i64 ((s : Nat) : Int)]).toArray T (0, 0)) ∧ L.length = o ∧ T ≠ 5 := by
  obtain ⟨a, c, h1, h5, h6, h2, h3⟩ := h
  exact ⟨a, c, by rw [cell_of_row _ _ _ _ _ _ h1]; exact (two_last _ _ _ h5).1, by rw [cell_of_row _ _ _ _ _ _ h1]; exact (two_last _ _ _ h5).2, frozen_of_row _ _ _ _ _ h1, frozen_of_row _ _ _ _ _ h1, h2, h3, h1, h5, h6⟩
theorem rsure15_any (t s : Nat) {o : Nat} {L : List Value} {T : TypeId} (D : Nat → Prop) (bs : List Nat) (w : World) (h : RAt w t o L T D bs s) :
    Calls Try.prog 18 #[.pointer (some ⟨t, o, none⟩)] w fun e w' => e = .returned (.tuple #[]) ∧ RAt w' t o L T D bs bs.length ∧ w.grownBy w' (some t) := by
  obtain ⟨a, c, h0, h1, f0, f1, ho, hD, hb, hLo, hT8⟩ := h.cells
  have HP : Hid (∀ w2, w2 = w.setCell ⟨t, o + 1, none⟩ (.int .i64 ((bs.length : Nat) : Int)) → RAt w2 t o L T D bs bs.length ∧ w.grownBy w2 (some t)) := fun w2 e => by
    have hg : w.grownBy w2 (some t) := by subst e; exact grown_set _ _ _ _
    refine ⟨⟨a, c, ?_, hLo, hT8, ho.kept hg ?_, hD⟩, hg⟩
    · subst e; rw [heap_setCell_same _ _ _ _ _ _ hb, last_set1 _ _ _ _ hLo]
    · cases hv : (Value.slice a bs.length c).ownBlock with
      | none => exact .inl rfl
      | some g =>
        refine .inr fun e => ?_
        obtain ⟨cs, hc⟩ := owns_at ho hv
        have e' := Option.some.inj e
        subst e'
        rw [hb] at hc
        simp only [Option.some.injEq, Obj.cells.injEq] at hc
        exact absurd hc.2.1 hT8
  clear h ho hD hb hLo hT8
  generalize bs.length = n at *
  go_enter Try.func18, Try.ntmps18
  go_wp2
  go_end0
  exact ⟨rfl, HP.out _ rfl⟩
theorem rappend15_any (t s : Nat) {o : Nat} {L : List Value} {T : TypeId} (D : Nat → Prop) (bs : List Nat) (v : Value) (x : List Nat) (w : World) (h : RAt w t o L T D bs s) (hu : U8s w v x) (hx : x.length ≤ 65535) (hz : bs.length ≤ 900000)
    (hsrc : x = [] ∨ ∀ g, v.ownBlock = some g → ¬ D g) (hnew : ∀ g, w.heap.size ≤ g → D g) :
    Calls Try.prog 58 #[.pointer (some ⟨t, o, none⟩), v] w fun e w' => e = .returned (.int .i64 0) ∧ RAt w' t o L T D (bs ++ KM.nb 2 x.length ++ x) s ∧ Touch D t w w' := by
  obtain ⟨a, c, h0, h1, f0, f1, ho, hD, hb, hLo, hT8⟩ := h.cells
  have hlt := h.lt
  obtain ⟨va, vc, rfl, _, _⟩ := hu.slice
  have hxlt := hu.lt
  obtain ⟨iu, hiu, hz0, hz1, hz2⟩ := info_parts byteinfo
  have HI := Lib.hid hiu
  have HZ0 := Lib.hid hz0
  have HZ1 := Lib.hid hz1
  have HZ2 := Lib.hid hz2
  have hvt : (Value.slice a bs.length c).ownBlock ≠ some t := fun e => by
    obtain ⟨cs, hc⟩ := owns_at ho e
    rw [hb] at hc
    simp only [Option.some.injEq, Obj.cells.injEq] at hc
    exact absurd hc.2.1 hT8
  have hput := put_own (.slice a bs.length c) bs x.length 2 w (by omega) (by omega) (by omega) ho
  have hstay : ∀ w3 : World, w.grownBy w3 (Value.slice a bs.length c).ownBlock → w3.cell? ⟨t, o, none⟩ = some (.slice a bs.length c) ∧ w3.frozen? ⟨t, o, none⟩ = false := fun w3 hg3 => by
    have e : w3.heap[t]? = w.heap[t]? := hg3.block t hlt (Ne.symm hvt)
    exact ⟨by rw [World.cell?_of_block (w := w) (w' := w3) (a := ⟨t, o, none⟩) e]; exact h0, by rw [World.frozen?_of_block (w := w) (w' := w3) (a := ⟨t, o, none⟩) e]; exact f0⟩
  have HSTAY := Lib.hid hstay
  have hmid : ∀ (a2 : Option Addr) (c2 : Nat) (ys : List Nat) (w2 : World), w2.ownsRow 0 5 1 (.slice a2 ys.length c2) ys.length (u8vs ys) → w.grownBy w2 (Value.slice a bs.length c).ownBlock → NewBlk w (.slice a bs.length c) (.slice a2 ys.length c2) →
      U8s w2 (.slice va x.length vc) x ∧ w2.cell? ⟨t, o, none⟩ = some (.slice a bs.length c) ∧ w2.frozen? ⟨t, o, none⟩ = false := fun a2 c2 ys w2 ho2 hg2 hn2 => by
    have e : w2.heap[t]? = w.heap[t]? := hg2.block t hlt (Ne.symm hvt)
    refine ⟨hu.grown hg2 ?_, ?_, ?_⟩
    · rcases hsrc with rfl | hsrc
      · exact .inl rfl
      · cases hv : (Value.slice va x.length vc).ownBlock with
        | none =>
          rcases hu with hu | ⟨b, off, cap, hv', _⟩
          · exact .inl hu.1
          · rw [hv'] at hv; cases hv
        | some g => exact .inr fun e => hsrc g hv (hD g e.symm)
    · rw [World.cell?_of_block (w := w) (w' := w2) (a := ⟨t, o, none⟩) e]; exact h0
    · rw [World.frozen?_of_block (w := w) (w' := w2) (a := ⟨t, o, none⟩) e]; exact f0
  have hlast : ∀ (a2 : Option Addr) (c2 : Nat) (ys : List Nat) (w2 : World) (a3 : Option Addr) (c3 : Nat) (w3 : World) (n3 : Nat) (w4 : World), ys = bs ++ KM.nb 2 x.length → w2.ownsRow 0 5 1 (.slice a2 ys.length c2) ys.length (u8vs ys) → w.grownBy w2 (Value.slice a bs.length c).ownBlock → NewBlk w (.slice a bs.length c) (.slice a2 ys.length c2) →
      w3.ownsRow 0 5 1 (.slice a3 n3 c3) (ys.length + x.length) (u8vs ys ++ u8vs x) → n3 = ys.length + x.length → w2.grownBy w3 (Value.slice a2 ys.length c2).ownBlock → ((Value.slice a3 n3 c3).ownBlock = (Value.slice a2 ys.length c2).ownBlock ∨ ∃ g, (Value.slice a3 n3 c3).ownBlock = some g ∧ w2.heap.size ≤ g) →
      w4 = w3.setCell ⟨t, o, none⟩ (.slice a3 n3 c3) → RAt w4 t o L T D (bs ++ KM.nb 2 x.length ++ x) s ∧ Touch D t w w4 := fun a2 c2 ys w2 a3 c3 w3 n3 w4 hys ho2 hg2 hn2 ho3 hn3 hg3 hnn e4 => by
    have hN3 : NewBlk w (.slice a bs.length c) (.slice a3 n3 c3) := hn2.next hg2.size hnn
    have hG3 : w.grownBy w3 (Value.slice a bs.length c).ownBlock := grown_on hg2 hg3 hn2
    have hb3 : w3.heap[t]? = some (.cells (L ++ [Value.slice a bs.length c, Value.int .i64 ((s : Nat) : Int)]).toArray T (0, 0)) := (hG3.block t hlt (Ne.symm hvt)).trans hb
    have hl : (bs ++ KM.nb 2 x.length ++ x).length = n3 := by rw [hn3, List.length_append, ← hys]
    have hg4 : w3.grownBy w4 (some t) := by subst e4; exact grown_set _ _ _ _
    have hne3 : (Value.slice a3 n3 c3).ownBlock ≠ some t := fun e => by
      rcases hN3 with e' | ⟨g, e', hg⟩
      · exact hvt (e'.symm.trans e)
      · rw [e'] at e; have := Option.some.inj e; omega
    refine ⟨⟨a3, c3, ?_, hLo, hT8, ?_, fun g hg => ?_⟩, ?_⟩
    · subst e4; rw [heap_setCell_same _ _ _ _ _ _ hb3, hl, last_set0 _ _ _ _ hLo]
    · rw [hl]
      have : w4.ownsRow 0 5 1 (.slice a3 n3 c3) (ys.length + x.length) (u8vs ys ++ u8vs x) := ho3.kept hg4 (.inr hne3)
      rw [← hn3, ← u8vs_app1, hys] at this
      exact this
    · rw [hl] at hg
      rcases hN3 with e' | ⟨g', e', hg'⟩
      · exact hD g (e'.symm.trans hg)
      · rw [e'] at hg; have := Option.some.inj hg; subst this; exact hnew _ hg'
    · refine ⟨hg4.os.trans hG3.os, hg4.tape.trans hG3.tape, hg4.output.trans hG3.output, Nat.le_trans hG3.size hg4.size, fun i hi hit hDi => ?_, fun i cs T f hi hit hT => ?_⟩
      · exact (hg4.block i (Nat.lt_of_lt_of_le hi hG3.size) (by simpa using hit)).trans (hG3.block i hi (fun e => hDi (hD i e.symm)))
      · have hil := (Array.getElem?_eq_some_iff.1 hi).1
        refine (hg4.block i (Nat.lt_of_lt_of_le hil hG3.size) (by simpa using hit)).trans (hG3.block i hil (fun e => ?_))
        obtain ⟨cs', hc'⟩ := owns_at ho e.symm
        rw [hi] at hc'
        simp only [Option.some.injEq, Obj.cells.injEq] at hc'
        exact hT hc'.2.1
  have HPUT := Lib.hid hput
  have HMID := Lib.hid hmid
  have HLAST := Lib.hid hlast
  have HLN : Hid (∀ ys : List Nat, ys = bs ++ KM.nb 2 x.length → ys.length ≤ 1000000) := fun ys e => by rw [e, List.length_append, KM.nb_length]; omega
  clear hput hmid hlast hstay hb ho hD hvt hu hxlt hsrc hnew h h1 f0 f1 hlt hiu hz0 hz1 hz2 hLo hT8
  generalize bs.length = n at *
  go_enter Try.func58, Try.ntmps58
  go_wp2_with fail
  refine HPUT.out.mono ?_
  rintro e w2 ⟨a2, c2, ys, rfl, hys, ho2, hg2, hn2⟩
  obtain ⟨hu2, hc2, hf2⟩ := HMID.out a2 c2 ys w2 ho2 hg2 hn2
  have hyl := HLN.out ys hys
  have HO2 := Lib.hid ho2
  have HU2 := Lib.hid hu2
  have HL2 := Lib.hid (HLAST.out a2 c2 ys w2)
  have HG2 := Lib.hid hg2
  have HN2 := Lib.hid hn2
  have HYS := Lib.hid hys
  clear h0 hu2 ho2 hg2 hn2 hys HPUT HMID HLAST HLN
  go_wp2_with (at_builtin; refine wpList_append_own_src3 _ rfl _ _ 41 41 rfl 0 5 iu (.int .u8 0) 1 1 Try.underlying41 HI.out HZ0.out HZ1.out HZ2.out rfl _ _ _ rfl HO2.out _ x.length (u8vs x) rfl (HU2.out.src Try.underlying41) (by unfold maxLen; omega) (by omega) (Nat.zero_le _) (fun _ => True) (clean_any _ _) (fun _ _ => trivial) (fun _ _ => trivial) ?_)
  intro v' w3 ho3 hg3 hn3 _
  obtain ⟨a3, c3, rfl⟩ := owns_slice ho3
  obtain ⟨hc3, hf3⟩ := HSTAY.out w3 (grown_on HG2.out hg3 HN2.out)
  have HP := Lib.hid (fun w4 => HL2.out a3 c3 w3 (ys.length + x.length) w4 HYS.out HO2.out HG2.out HN2.out ho3 rfl hg3 hn3)
  clear ho3 hg3 hn3 hc2 hf2 HL2 HSTAY
  generalize ys.length + x.length = n3 at *
  go_wp2
  go_ret
  exact ⟨rfl, HP.out _ rfl⟩
end Go.Proofs.Ytohonjhfmmhgdaa
namespace Go.Proofs.Ytohonjhfmmhgdaa
set_option maxRecDepth 20000
open Go.RowKit Go.Deep
set_option linter.unusedVariables false
/-- v reads as l; its array in memory from B on, the rows in blocks of bytes. -/
def RwsB (w : World) (B : Nat) (v : Value) (l : List (List Nat)) : Prop :=
  (l = [] ∧ ∃ a cap, v = .slice a 0 cap) ∨
  ∃ b off cap, v = .slice (some ⟨b, off, none⟩) l.length cap ∧ l.length ≤ cap ∧ cap ≤ maxLen ∧ B ≤ b ∧ b < w.heap.size ∧ ∀ k, k < l.length → ∃ u, w.cell? ⟨b, off + k, none⟩ = some u ∧ RowB w u (l.getD k [])
theorem RwsB.old {w : World} {B : Nat} {v : Value} {l : List (List Nat)} (h : RwsB w B v l) : Rws w v l := by
  rcases h with h | ⟨b, off, cap, h1, h2, h3, _, h4, h5⟩
  · exact .inl h
  · exact .inr ⟨b, off, cap, h1, h2, h3, h4, fun k hk => by obtain ⟨u, h6, h7⟩ := h5 k hk; exact ⟨u, h6, h7.1⟩⟩
/-- Rows that a call answers, in memory of its own. -/
def LMade (w : World) (l : List (List Nat)) (e : Ending) (w' : World) : Prop := ∃ v, e = .returned v ∧ w.Extends w' ∧ RwsB w' w.heap.size v l
theorem LMade.old {w w' : World} {l : List (List Nat)} {e : Ending} (h : LMade w l e w') : MadeList w l e w' := by
  obtain ⟨v, h1, h2, h3⟩ := h
  exact ⟨v, h1, h2, h3.old⟩
theorem Mats.rwsB {w : World} {B : Nat} {T : TypeId} {v : Value} {k : Nat} {l : List (List Nat)} (h : Mats w B 0 T v k l) (hk : k = l.length) : RwsB w B v l := by
  subst hk
  obtain ⟨vs, hown, hrow⟩ := h
  rcases hown.2 with ⟨rfl, h0⟩ | ⟨g, cap, cur, rfl, hbg, hg, hnc, hcm, hcs, htake⟩
  · exact .inl ⟨List.eq_nil_of_length_eq_zero h0, none, 0, rfl⟩
  · refine .inr ⟨g, 0, cap, rfl, hnc, hcm, hbg, (Array.getElem?_eq_some_iff.1 hg).1, fun j hj => ?_⟩
    obtain ⟨u, hu, ho⟩ := hrow j hj
    refine ⟨u, ?_, ho.1, ho.2.imp id fun h2 g hg => ?_⟩
    · have := hown.cells (g := g) rfl j u hu
      rw [Addr.add_mid] at this
      exact this
    · obtain ⟨_, h3⟩ := h2 g hg
      rcases h3 with h3 | ⟨cs, h3⟩
      · omega
      · exact ⟨cs, _, h3⟩
theorem RwsB.ext {w w' : World} {B : Nat} {v : Value} {l : List (List Nat)} (h : RwsB w B v l) (hx : w.Extends w') : RwsB w' B v l := by
  rcases h with h | ⟨b, off, cap, h1, h2, h3, h6, h4, h5⟩
  · exact .inl h
  · exact .inr ⟨b, off, cap, h1, h2, h3, h6, Nat.lt_of_lt_of_le h4 hx.size, fun k hk => by obtain ⟨u, h7, h8⟩ := h5 k hk; exact ⟨u, hx.cell_of h7, h8.ext hx⟩⟩
/-- The rows of such a slice lie in memory from B on. -/
def LocN (w : World) (B : Nat) (v : Value) (k : Nat) : Prop := ∃ vs, w.ownsRow B 41 1 v k vs ∧ ∀ u ∈ vs, ∀ g, u.ownBlock = some g → B ≤ g
theorem LocN.nil (w : World) (B : Nat) : LocN w B (.slice none 0 0) 0 := ⟨[], World.ownsRow_nil _ _ _ _, fun u hu => by cases hu⟩
theorem LocN.ext {w w' : World} {B k : Nat} {v : Value} (h : LocN w B v k) (hx : w.Extends w') : LocN w' B v k := by
  obtain ⟨vs, ho, hr⟩ := h
  have hg : w.grownBy w' none := ⟨hx.os, hx.tape, hx.output, hx.size, fun i hi _ => hx.block i hi⟩
  exact ⟨vs, ho.kept hg (by cases v.ownBlock <;> simp), hr⟩
theorem owns_uniq {w : World} {B B' k : Nat} {T : TypeId} {v : Value} {vs vs' : List Value} (h : w.ownsRow B T 1 v k vs) (h' : w.ownsRow B' T 1 v k vs') : vs = vs' := by
  rcases h.2 with ⟨rfl, rfl⟩ | ⟨g, cap, cur, rfl, _, hg, _, _, _, ht⟩
  · have h1 := h.1
    have h2 := h'.1
    have e1 : vs = [] := List.eq_nil_of_length_eq_zero (by simpa using h1)
    have e2 : vs' = [] := List.eq_nil_of_length_eq_zero (by simpa using h2)
    rw [e1, e2]
  · rcases h'.2 with ⟨e, _⟩ | ⟨g', cap', cur', e, _, hg', _, _, _, ht'⟩
    · cases e
    · cases e
      rw [hg] at hg'
      simp only [Option.some.injEq, Obj.cells.injEq, and_true] at hg'
      rw [← ht, ← ht', hg']
theorem LocN.snoc {w w' : World} {B B' k : Nat} {v v' u : Value} {vs : List Value} (h : LocN w B v k) (ho : w.ownsRow B' 41 1 v k vs) (ho' : w'.ownsRow B 41 1 v' (k + 1) (vs ++ [u])) (hu : ∀ g, u.ownBlock = some g → B ≤ g) : LocN w' B v' (k + 1) := by
  obtain ⟨vs', h1, h2⟩ := h
  refine ⟨_, ho', fun x hx => ?_⟩
  rcases List.mem_append.1 hx with hx | hx
  · rw [owns_uniq ho h1] at hx; exact h2 x hx
  · rw [List.mem_singleton] at hx; subst hx; exact hu
theorem LocN.at_ {w : World} {B k b off n cap j : Nat} {u : Value} (h : LocN w B (.slice (some ⟨b, off, none⟩) n cap) k) (hj : j < k) (hc : w.cell? ⟨b, off + j, none⟩ = some u) : ∀ g, u.ownBlock = some g → B ≤ g := by
  obtain ⟨vs, ho, hr⟩ := h
  have hl : vs.length = k := by have := ho.1; simpa using this
  rcases ho.2 with ⟨e, _⟩ | ⟨g, cap', cur, e, _⟩
  · cases e
  · have e1 := e
    simp only [Value.slice.injEq, Option.some.injEq, Addr.mk.injEq, and_true] at e1
    obtain ⟨⟨e2, e3⟩, _⟩ := e1
    subst e2 e3
    have h1 := ho.cells (g := b) rfl j vs[j] (List.getElem?_eq_getElem (by omega))
    rw [Addr.add_mid] at h1
    rw [hc] at h1
    have e4 : u = vs[j] := by simpa using h1
    rw [e4]
    exact hr _ (List.getElem_mem _)
/-- Rows that a call answers, and where they lie. -/
def LLoc (w : World) (l : List (List Nat)) (e : Ending) (w' : World) : Prop := ∃ v, e = .returned v ∧ w.Extends w' ∧ RwsB w' w.heap.size v l ∧ LocN w' w.heap.size v l.length
end Go.Proofs.Ytohonjhfmmhgdaa
namespace Go.Proofs.Ytohonjhfmmhgdaa
set_option maxRecDepth 20000
open Go.RowKit Go.Deep
set_option linter.unusedVariables false
theorem owns_rok {w : World} {B n : Nat} {u : Value} {xs : List Nat} (h : w.ownsRow B 5 1 u n (u8vs xs)) (hlt : ∀ x ∈ xs, x < 256) : RowOk w 0 u xs := by
  refine ⟨owns_u8s h hlt, ?_⟩
  rcases h.2 with ⟨rfl, rfl⟩ | ⟨g, cap, cur, rfl, hbg, hg, _⟩
  · refine .inl ?_
    have := h.1
    rw [u8vs_length] at this
    exact List.eq_nil_of_length_eq_zero (by omega)
  · refine .inr fun g' hg' => ?_
    simp only [Value.ownBlock, Option.some.injEq] at hg'
    subst hg'
    exact ⟨(Array.getElem?_eq_some_iff.1 hg).1, .inr ⟨cur, hg⟩⟩
theorem grown_none {w w' : World} (h : w.grownBy w' none) : w.Extends w' := ext_below ⟨h.os, h.tape, h.output, h.size, fun i hi => h.block i hi (by simp)⟩ rfl
/-- How many bytes the whole pieces have, and these. -/
def WholeOut (w : World) (l : List (List Nat)) (e : Ending) (w' : World) : Prop := ∃ v, e = .returned (.tuple #[.int .i64 ((LM.size l : Nat) : Int), v]) ∧ RwsB w' w.heap.size v l ∧ w.Extends w' ∧ LocN w' w.heap.size v l.length
set_option maxHeartbeats 2000000 in
theorem whole15_any (v : Value) (l : List (List Nat)) (m : Nat) (w : World) (hu : U8s w v ((LM.spell l).take m)) (hm : m ≤ LM.size l) (hf : LM.Fine l) (hz : m ≤ 1000000000) :
    Calls Try.prog 64 #[v] w (WholeOut w (LM.upto m l)) := by
  have hbl : ((LM.spell l).take m).length = m := by rw [List.length_take, LM.spell_length]; omega
  obtain ⟨a, c, rfl, _, _⟩ := hu.slice
  rw [hbl] at hu ⊢
  have HU := Lib.hid hu
  have HUC := Lib.hid hu.cell.2
  have HF := Lib.hid hf
  have HM := Lib.hid hm
  have HBL := Lib.hid hbl
  obtain ⟨iu, hiu, hu0, hu1, hu2⟩ := info_parts byteinfo
  have HI := Lib.hid hiu
  have HZ0 := Lib.hid hu0
  have HZ1 := Lib.hid hu1
  have HZ2 := Lib.hid hu2
  obtain ⟨i1, hi', hz0', hz1', hz2'⟩ := info_parts bytesinfo
  have HI' := Lib.hid hi'
  have HZ0' := Lib.hid hz0'
  have HZ1' := Lib.hid hz1'
  have HZ2' := Lib.hid hz2'
  clear hu hm hf hbl hiu hu0 hu1 hu2 hi' hz0' hz1' hz2'
  go_enter Try.func64, Try.ntmps64
  go_wp2_with fail
  go_loopw [4, 5] (fun s4 s5 wr => ∃ (done rest : List (List Nat)) (n dn : Nat), Hid (l = done ++ rest) ∧ s4 = .int .i64 ((n : Nat) : Int) ∧ Hid (n = LM.size done) ∧ n ≤ m ∧ Hid (LM.upto m l = done ++ LM.upto (m - n) rest) ∧ Hid (w.Extends wr) ∧ Hid (Mats wr w.heap.size 0 41 s5 dn done) ∧ Hid (dn = done.length) ∧ dn ≤ n ∧ Hid (LocN wr w.heap.size s5 dn)) (fun s4 _ _ => m - (intOf s4).toNat)
  case atStart => exact ⟨[], l, 0, 0, rfl, by rfl, rfl, by omega, rfl, Gr.ext_refl _, Mats.nil _ _ _ _ _, rfl, by omega, LocN.nil _ _⟩
  case round =>
    obtain ⟨done, rest, n, dn, HL, rfl, HN, hnm, HUP, HX, HMT, HDN, hdn, HLO⟩ := hrel
    -- where it ends
    have HEND : Hid (LM.upto (m - n) rest = [] → WholeOut w (LM.upto m l) (.returned (.tuple #[.int .i64 ((n : Nat) : Int), u5])) wr) := fun e => by
      have h1 := HUP.out
      rw [e, List.append_nil] at h1
      refine ⟨u5, by rw [h1, HN.out], ?_, HX.out, ?_⟩
      · rw [h1]
        exact HMT.out.rwsB HDN.out
      · rw [h1, ← HDN.out]
        exact HLO.out
    by_cases h2 : m - n < 2
    · have HP : Hid (WholeOut w (LM.upto m l) (.returned (.tuple #[.int .i64 ((n : Nat) : Int), u5])) wr) := HEND.out (LM.upto_few h2)
      clear HEND
      go_wp2
      go_returns
      exact HP.out
    · obtain ⟨p, rest', hrest⟩ : ∃ p rest', rest = p :: rest' := by
        cases rest with
        | nil =>
          have h1 := HM.out
          rw [HL.out, LM.size_append, ← HN.out] at h1
          simp only [LM.size] at h1
          omega
        | cons p r => exact ⟨p, r, rfl⟩
      subst hrest
      have hp := HF.out p (by rw [HL.out]; simp)
      have HPL := Lib.hid hp.2
      obtain ⟨q, hq⟩ : ∃ q, q = p.length := ⟨_, rfl⟩
      have hq2 : q ≤ 65535 := by rw [hq]; exact hp.1
      have hnum := LM.at_num (done := done) (rest := rest') (p := p) (m := m) hp.1 (by rw [← HN.out]; omega)
      rw [← HL.out, ← HN.out, ← hq] at hnum
      obtain ⟨b, off, rfl, hb, hcell⟩ := HUC.out (by omega)
      have hc0 := hcell n (by omega)
      have hc1 := hcell (n + 1) (by omega)
      rw [hnum.1] at hc0
      rw [hnum.2] at hc1
      obtain ⟨hi, hhi⟩ : ∃ hi, hi = q / 256 := ⟨_, rfl⟩
      obtain ⟨lo, hlo⟩ : ∃ lo, lo = q % 256 := ⟨_, rfl⟩
      rw [← hhi] at hc0
      rw [← hlo] at hc1
      have hsum : hi * 256 + lo = q := by omega
      have hhi2 : hi < 256 := by omega
      have hn0 : n < m := by omega
      have hn1 : n + 1 < m := by omega
      have hw1 : IntKind.i64.wrap ((n : Int) + 1) = ((n + 1 : Nat) : Int) := by rw [IntKind.wrap_i64]; omega
      have hlo2 : lo < 256 := by omega
      have hor := i64_or_byte hi lo (by omega) hlo2
      rw [hsum] at hor
      have hn2 : (0 : Int) ≤ (n : Int) + 1 := by omega
      have hn3 : (n : Int) + 1 < (m : Int) := by omega
      have hw2 : IntKind.i64.wrap ((hi : Nat) : Int) = ((hi : Nat) : Int) := by rw [IntKind.wrap_i64]; omega
      have hw3 : IntKind.i64.wrap ((lo : Nat) : Int) = ((lo : Nat) : Int) := by rw [IntKind.wrap_i64]; omega
      have hw4 : IntKind.i64.wrap (((hi : Nat) : Int) * 256) = ((hi : Nat) : Int) * 256 := by rw [IntKind.wrap_i64]; omega
      have HC : Hid (∀ w', wr.drew.Extends w' → w'.cell? ⟨b, off + n, none⟩ = some (.int .u8 ((hi : Nat) : Int)) ∧ w'.cell? ⟨b, off + (n + 1), none⟩ = some (.int .u8 ((lo : Nat) : Int))) := fun w' hw' =>
        ⟨(Gr.ext_trans HX.out (Gr.of_drew hw')).cell_of hc0, (Gr.ext_trans HX.out (Gr.of_drew hw')).cell_of hc1⟩
      have HXD : Hid (w.Extends wr.drew) := Gr.ext_trans HX.out (Gr.ext_drew (Gr.ext_refl _))
      have HMD : Hid (Mats wr.drew w.heap.size 0 41 u5 dn done) := HMT.out.ext (Gr.ext_drew (Gr.ext_refl _))
      have HQ := Lib.hid hq
      clear hc0 hc1 hcell hnum hp hhi hlo hq hsum HX HMT
      have HENDD : Hid (m - n < 2 + q → WholeOut w (LM.upto m l) (.returned (.tuple #[.int .i64 ((n : Nat) : Int), u5])) wr.drew) := fun e => by
        obtain ⟨v, h1, h2, h3, h4⟩ := HEND.out (LM.upto_stop (by rw [← HQ.out]; exact e))
        exact ⟨v, h1, h2.ext (Gr.ext_drew (Gr.ext_refl _)), Gr.ext_trans h3 (Gr.ext_drew (Gr.ext_refl _)), h4.ext (Gr.ext_drew (Gr.ext_refl _))⟩
      clear HEND
      go_wp2_with fail
      refine Gr.region 13 [(false,0),(false,1),(false,2),(false,3),(false,4),(false,5),(false,6),(false,7),(false,8),(false,9),(false,10),(false,11),(false,12)] (by kernel_rfl) (by kernel_rfl) (fun d _ _ _ _ h => by cases d <;> exact h) ?_
      simp only [Gr.pick, List.getElem?_cons_zero, List.getElem?_cons_succ, List.drop_succ_cons, List.drop_zero]
      have HLO2 : Hid (LocN wr.drew w.heap.size u5 dn) := HLO.out.ext (Gr.ext_drew (Gr.ext_refl _))
      clear HLO
      generalize wr.drew = wd at *
      iterate 13
        refine Gr.walk_t ?_ (Or.inl ⟨by rfl, ?_⟩) ?_
        rotate_left
        · intro w' hw'
          obtain ⟨hc0, hc1⟩ := HC.out w' hw'
          clear hw'
          go_simp
          try with_reducible rfl
        simp only [Act.put, List.setIfInBounds_toArray, List.set_cons_zero, List.set_cons_succ]
      refine Gr.walk_nil ?_
      by_cases h3 : m - n < 2 + q
      · have HP := Lib.hid (HENDD.out h3)
        clear HENDD HC
        go_wp2
        go_returns
        exact HP.out
      · obtain ⟨a2, c2, hsl, hup⟩ := cut_part HU.out (n + 2) (n + 2 + q) (by omega) (by rw [HBL.out]; omega)
        have hpe := LM.at_piece (done := done) (rest := rest') (p := p) (m := m) (by rw [← HN.out, ← HQ.out]; omega)
        rw [← HL.out, ← HN.out, ← HQ.out] at hpe
        rw [hpe, show n + 2 + q - (n + 2) = q by omega] at hup
        rw [show n + 2 + q - (n + 2) = q by omega] at hsl
        have HSL := Lib.hid hsl
        have HUP2 := Lib.hid hup
        have hbs := HXD.out.size
        clear hsl hup hpe HENDD HC
        go_wp2_with (first | refine wpList_slice rfl 41 (.tmp 33) (some (.tmp 35)) (some (.tmp 39)) rfl elemBytes _ _ _ rfl rfl rfl (HSL.out _) ?_ | at_builtin; refine wpList_append_own_src _ rfl _ _ 41 41 rfl wd.heap.size 5 iu (.int .u8 0) 1 1 Try.underlying41 HI.out HZ0.out HZ1.out HZ2.out rfl _ _ _ rfl (World.ownsRow_nil _ _ _ _) _ q (u8vs p) rfl (by have h := (HUP2.out.ext HXD.out).src (P := Try.prog) (tx := 41) Try.underlying41; rw [← HQ.out] at h; exact h) (by unfold maxLen; omega) (by omega) (Nat.le_refl _) ?_)
        intro v2 w2 ho2 hg2 _
        obtain ⟨a3, c3, rfl⟩ := owns_slice ho2
        have hx2 : wd.Extends w2 := grown_none hg2
        have HOK : Hid (RowOk w2 0 (.slice a3 q c3) p) := owns_rok ho2 HPL.out
        have HRB : Hid (∀ g, (Value.slice a3 q c3).ownBlock = some g → w.heap.size ≤ g) := fun g hg => Nat.le_trans HXD.out.size (ho2.lt g hg).1
        have HLD : Hid (LocN w2 w.heap.size u5 dn) := HLO2.out.ext hx2
        have HX2 : Hid (w.Extends w2) := Gr.ext_trans HXD.out hx2
        obtain ⟨vs, hown, hrows⟩ := HMD.out.ext hx2
        have HOWN := Lib.hid hown
        have HROWS := Lib.hid hrows
        have HOB : Hid (∀ g, u5.ownBlock = some g → w.heap.size ≤ g) := fun g hg => (HOWN.out.lt g hg).1
        have hbs2 := HX2.out.size
        clear ho2 hg2 hx2 hown hrows HMD HXD HU HUP2 hbs
        go_wp2_with (at_builtin; refine wpList_append_own_src _ rfl _ _ 83 83 rfl w.heap.size 41 i1 (.slice none 0 0) 1 24 Try.underlying83 HI'.out HZ0'.out HZ1'.out HZ2'.out rfl _ _ _ rfl (HOWN.out.alloc _) _ 1 [.slice a3 q c3] rfl (src_one Try.underlying83 _ _ rfl rfl) (by unfold maxLen; omega) (by omega) (by simp; omega) ?_)
        intro v' w3 ho3 hg3 _
        have HP : Hid (w.Extends w3 ∧ Mats w3 w.heap.size 0 41 v' (dn + 1) (done ++ [p]) ∧ LocN w3 w.heap.size v' (dn + 1)) := by
          refine ⟨Gr.ext_of (((Gr.below_of HX2.out).alloc hbs2 _).grown hg3 (by simp; omega) HOB.out), ?_, HLD.out.snoc HOWN.out ho3 HRB.out⟩
          exact Mats.snoc (Nat.zero_le _) (by decide) HDN.out (HOWN.out.alloc _) (fun j hj => by obtain ⟨u, h1, h2⟩ := HROWS.out j hj; exact ⟨u, h1, h2.ext (ext_alloc _ _)⟩) (HOK.out.ext (ext_alloc _ _)) hg3 ho3
        clear ho3 hg3
        have HNN : Hid (n + 2 + q = LM.size (done ++ [p])) := by rw [LM.size_snoc, ← HN.out, ← HQ.out]; rfl
        have HUN : Hid (LM.upto m l = (done ++ [p]) ++ LM.upto (m - (n + 2 + q)) rest') := by
          rw [HNN.out, ← LM.upto_next (by rw [← HN.out, ← HQ.out]; omega), ← HN.out]
          exact HUP.out
        go_wp2
        go_roundw
        case rel => exact ⟨done ++ [p], rest', n + 2 + q, dn + 1, Lib.hid (by rw [HL.out, List.append_assoc]; rfl), by go_num, HNN, by omega, HUN, Lib.hid HP.out.1, Lib.hid HP.out.2.1, Lib.hid (by rw [List.length_append, ← HDN.out]; rfl), by omega, Lib.hid HP.out.2.2⟩
        case measure => simp [intOf]; omega
end Go.Proofs.Ytohonjhfmmhgdaa
