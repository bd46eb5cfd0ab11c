/- In one text: StoGet, StoIds, LogRef, LogRows, LogRefCrash, RefAt, RefExp. -/
import Derived.WalkKit
import Derived.IntWalk
import Derived.Deep.DeepCutAuto
import Derived.Laws.IdiomRangeMap
import Derived.Test.YtohonjhfmmhgdaaMB1
import Derived.Test.YtohonjhfmmhgdaaMB2
import Derived.Test.YtohonjhfmmhgdaaMB3
import Derived.Test.YtohonjhfmmhgdaaMB5
import Derived.Test.YtohonjhfmmhgdaaMB7
import Derived.Test.YtohonjhfmmhgdaaMB8
import Derived.Test.YtohonjhfmmhgdaaMB12
namespace Go.Proofs.Ytohonjhfmmhgdaa
set_option maxRecDepth 20000
open Go.RowKit Go.Deep Go.Maps
set_option linter.unusedVariables false
/-- Records that a call answers, in memory of its own. -/
def RcsOut (w : World) (l : List Rc) (e : Ending) (w' : World) : Prop := ∃ v, e = .returned v ∧ w.Extends w' ∧ Recs w' v l
def getTo (r : Rc) (ps : List Pr) (k : Nat) : List Rc := ((ps.take k).map (·.1)).filter (isOf r)
theorem getTo_yes {r : Rc} {ps : List Pr} {k : Nat} (h : k < ps.length) (hq : isOf r (ps.getD k zp).1 = true) : getTo r ps (k + 1) = getTo r ps k ++ [(ps.getD k zp).1] := by
  unfold getTo
  rw [take_snocp ps k h, List.map_append, List.filter_append]
  congr 1
  rw [List.map_singleton, List.filter_cons]
  simp only [hq]
  simp
theorem getTo_no {r : Rc} {ps : List Pr} {k : Nat} (h : k < ps.length) (hq : isOf r (ps.getD k zp).1 = false) : getTo r ps (k + 1) = getTo r ps k := by
  unfold getTo
  rw [take_snocp ps k h, List.map_append, List.filter_append, List.map_singleton, List.filter_cons]
  simp only [hq]
  simp
theorem getTo_le (r : Rc) (ps : List Pr) (k : Nat) : (getTo r ps k).length ≤ k := by
  unfold getTo
  refine Nat.le_trans (List.length_filter_le _ _) ?_
  rw [List.length_map, List.length_take]; omega
theorem copy_rok {w w' : World} {xs : List Nat} {a : Option Addr} {c : Nat} (h : CopyOut w xs (.returned (.slice a xs.length c)) w') : RowOk w' 0 (.slice a xs.length c) xs := by
  obtain ⟨a', c', e, _, hu, hb⟩ := h
  simp only [Ending.returned.injEq, Value.slice.injEq] at e
  obtain ⟨rfl, _, rfl⟩ := e
  exact ⟨hu, .inr fun g hg => ⟨(hb g hg).1.2, .inr (hb g hg).2⟩⟩
theorem RMats.box {w w' : World} {B z k : Nat} {v : Value} {l : List Rc} {cs : Array Value} {f : Nat × Nat} (h : RMats w B 0 v k l) (hg : w.grownBy w' (some z)) (hv : v.ownBlock ≠ some z) (hz : w.heap[z]? = some (.cells cs 43 f)) : RMats w' B 0 v k l := by
  obtain ⟨vs, ho, hr⟩ := h
  refine ⟨vs, ho.kept hg (.inr hv), fun j hj => ?_⟩
  obtain ⟨u, h1, h2⟩ := hr j hj
  refine ⟨u, h1, h2.grown hg ?_⟩
  rcases h2.2 with h3 | h3
  · exact .inl h3
  · refine .inr fun e => ?_
    obtain ⟨_, h4⟩ := h3 z e
    rcases h4 with h4 | ⟨cs', h4⟩
    · omega
    · rw [hz] at h4
      simp only [Option.some.injEq, Obj.cells.injEq] at h4
      exact absurd h4.2.1 (by decide)
set_option maxHeartbeats 2000000 in
theorem get16_any (t : Nat) (D : Nat → Prop) (st : Sto) (r : Rc) (w : World) (h : SAt w t D st) (hl : st.l.length ≤ 1000) (hs : ∀ x ∈ st.l, KM.Right x ∧ x.g = false) :
    Calls Try.prog 28 #[.pointer (some ⟨t, 0, none⟩), .agg #[.int .i64 r.p, .int .i64 r.n]] w (RcsOut w (st.l.filter (isOf r))) := by
  obtain ⟨v, mp, ps, h⟩ := h
  have HH := Lib.hid h
  have HAT := Lib.hid h.range
  have HSL : Hid (∀ k, k < ps.length → Slc (ps.getD k zp)) := fun k hk => h.own.2 _ (getD_mem hk)
  have HDT : Hid (∀ k, k < ps.length → U8s w (ps.getD k zp).2 (ps.getD k zp).1.d ∧ (ps.getD k zp).1.d ≠ [] ∧ (ps.getD k zp).1.d.length ≤ 64) := fun k hk => by
    have hm : (ps.getD k zp).1 ∈ st.l := by rw [← h.recs]; exact List.mem_map.2 ⟨_, getD_mem hk, rfl⟩
    obtain ⟨h1, h2⟩ := hs _ hm
    obtain ⟨⟨⟨_, _, h3, h4, _⟩, _⟩, _, h8⟩ := h1.2.2.2.2 h2
    refine ⟨(h.data _ (getD_mem hk)).1, fun e => ?_, by omega⟩
    have h0 : (ps.getD k zp).1.d.length = 0 := by rw [e]; rfl
    omega
  obtain ⟨p, hb, c2, c3, c4, f3, f4⟩ := h.cells
  have HC := Lib.hid c3
  have HY : Hid (∀ k, k < ps.length → isOf r (ps.getD k zp).1 = true → getTo r ps (k + 1) = getTo r ps k ++ [(ps.getD k zp).1]) := fun k hk hq => getTo_yes hk hq
  have HN : Hid (∀ k, k < ps.length → isOf r (ps.getD k zp).1 = false → getTo r ps (k + 1) = getTo r ps k) := fun k hk hq => getTo_no hk hq
  have HLE := Lib.hid (getTo_le r ps)
  have HG0 : Hid (getTo r ps 0 = []) := by show _ = _; simp [getTo]
  have HGN : Hid (getTo r ps ps.length = st.l.filter (isOf r)) := by
    unfold getTo; rw [List.take_length, ← h.recs]; rfl
  have HIS : Hid (∀ x : Rc, isOf r x = decide (x.p = r.p ∧ x.n = r.n)) := fun x => rfl
  rw [← h.len] at hl
  obtain ⟨a, cap, rfl⟩ := h.own.slice
  obtain ⟨i2, hi', hz0', hz1', hz2'⟩ := info_parts recinfo
  have HI' := Lib.hid hi'; clear hi'
  have HZ0' := Lib.hid hz0'; clear hz0'
  have HZ1' := Lib.hid hz1'; clear hz1'
  have HZ2' := Lib.hid hz2'; clear hz2'
  clear h hb c2 c3 c4 f3 f4 hs HH
  generalize ps.length = n at *
  generalize st.l.filter (isOf r) = L at *
  generalize r.p = rp at *
  generalize r.n = rn at *
  generalize getTo r ps = G at *
  go_enter Try.func28, Try.ntmps28
  go_upto_region 1 with fail
  generalize hw1 : World.alloc w _ = w1
  have hx1 : w.Extends w1 := by subst hw1; exact ext_alloc _ _
  obtain ⟨d0, d1⟩ : w1.cell? ⟨w.heap.size, 0, none⟩ = some (.int .i64 rp) ∧ w1.cell? ⟨w.heap.size, 1, none⟩ = some (.int .i64 rn) := by subst hw1; exact box_id w 38 rp rn
  have HX1 := Lib.hid hx1
  have HD0 := Lib.hid d0
  have HD1 := Lib.hid d1
  have hc := hx1.cell_of HC.out
  clear hw1 hx1 d0 d1
  generalize w.heap.size = y at *
  go_wp2_with fail
  go_loopw [5, 15] (fun s5 s15 wr => ∃ k : Nat, k ≤ n ∧ s15 = .int .i64 k ∧ Hid (w1.Extends wr) ∧ Hid (RMats wr w1.heap.size 0 s5 (G k).length (G k))) (fun _ s15 _ => n - (intOf s15).toNat)
  case atStart => exact ⟨0, by omega, rfl, Gr.ext_refl _, by rw [HG0.out]; exact RMats.nil _ _ _ _⟩
  case round =>
    clear hc
    obtain ⟨k, hk, rfl, HX, HM⟩ := hrel
    by_cases h1 : k < n
    · obtain ⟨g, ⟨cap', e⟩, hr⟩ := HAT.out k h1
      cases e
      have hr := rangeAt_ext hr (Gr.ext_trans HX1.out HX.out)
      obtain ⟨c0, c1, c2, c3, c4, c5, c6, c7, c8, c9⟩ := RCell.ten hr
      have HSK := Lib.hid (HSL.out k h1)
      have HDK := Lib.hid (HDT.out k h1)
      have HYK := Lib.hid (HY.out k h1)
      have HNK := Lib.hid (HN.out k h1)
      have HLK := Lib.hid (HLE.out k)
      have HISK := Lib.hid (HIS.out (ps.getD k zp).1)
      clear hr
      generalize ps.getD k zp = p at *
      obtain ⟨⟨xp, xn, xb, xs, xm, xk, xe, xg, xu, xd⟩, u⟩ := p
      obtain ⟨ua, uc, hu⟩ := HSK.out
      simp only at hu
      subst hu
      simp only at c0 c1 c2 c3 c4 c5 c6 c7 c8 c9
      have d0 := HX.out.cell_of HD0.out
      have d1 := HX.out.cell_of HD1.out
      obtain ⟨va, vc, rfl⟩ := HM.out.slice
      by_cases hid : xp = rp ∧ xn = rn
      · have hG := HYK.out (by rw [HISK.out]; exact decide_eq_true hid)
        obtain ⟨rfl, rfl⟩ := hid
        have HGK := Lib.hid hG
        clear HYK HNK HISK hG
        go_upto_region 7 with fail
        generalize hwb : World.alloc wr _ = wb
        have hxb : wr.Extends wb := by subst hwb; exact ext_alloc _ _
        have ha : Arr wb wr.heap.size 1 1 (fun _ => (⟨xp, xn, xb, xs, xm, xk, xe, xg, xu, xd⟩, .slice ua xd.length uc)) := by subst hwb; exact Arr.box wr ⟨xp, xn, xb, xs, xm, xk, xe, xg, xu, xd⟩ _
        have hzw : w1.heap.size ≤ wr.heap.size := HX.out.size
        obtain ⟨z, hz⟩ : ∃ z, z = wr.heap.size := ⟨_, rfl⟩
        rw [← hz] at ha hzw ⊢
        have HZW := Lib.hid hz
        clear hz hwb c0 c1 c2 c3 c4 c5 c6 c7 c8 c9
        obtain ⟨c0, c1, c2, c3, c4, c5, c6, c7, c8, c9⟩ := RCell.ten (ha.one rfl)
        simp only [Nat.zero_add] at c0 c1 c2 c3 c4 c5 c6 c7 c8 c9
        have d0' := hxb.cell_of d0
        have d1' := hxb.cell_of d1
        have HXB := Lib.hid (Gr.ext_trans HX.out hxb)
        have HMB := Lib.hid (HM.out.ext hxb)
        have HAB := Lib.hid ha
        have HCL := Lib.hid (clone_any (.slice ua xd.length uc) xd wb (HDK.out.1.ext (Gr.ext_trans HX1.out HXB.out)) HDK.out.2.1 (by have := HDK.out.2.2; simp only at this; omega))
        clear hxb ha d0 d1 HDK
        go_wp2_with fail
        refine HCL.out.mono ?_
        rintro e w6 ⟨a2, c2', rfl, hx6, hu6, hb6⟩
        have HRK : Hid (RowOk w6 0 (.slice a2 xd.length c2') xd) := copy_rok ⟨a2, c2', rfl, hx6, hu6, hb6⟩
        have HA6 := Lib.hid (HAB.out.ext hx6)
        have HX6 := Lib.hid (Gr.ext_trans HXB.out hx6)
        have HM6 := Lib.hid (HMB.out.ext hx6)
        have f9 := HA6.out.frozen 9
        clear c0 c1 c2 c3 c4 c5 c6 c7 c8 c9 d0' d1' HCL hx6 hu6 hb6 HXB HMB HAB
        obtain ⟨c0, c1, c2, c3, c4, c5, c6, c7, c8, c9⟩ := RCell.ten (HA6.out.one rfl)
        simp only [Nat.zero_add] at c0 c1 c2 c3 c4 c5 c6 c7 c8 c9
        go_upto_region 9 with fail
        generalize hw7 : World.setCell w6 _ _ = w7
        obtain ⟨ha7, hg7⟩ := HA6.out.datum (i := 0) (w' := w7) (by omega) (.slice a2 xd.length c2') hw7.symm
        have hzb : ∃ cs, w6.heap[z]? = some (.cells cs 43 (0, 0)) := by obtain ⟨cur, hc, _⟩ := HA6.out; exact ⟨_, hc⟩
        have hvz : (Value.slice va (G k).length vc).ownBlock ≠ some z := fun e => by
          obtain ⟨vs, ho, _⟩ := HM.out
          have := (ho.lt z e).2
          have := HZW.out
          omega
        have HM7 : Hid (RMats w7 w1.heap.size 0 (.slice va (G k).length vc) (G k).length (G k)) := by
          obtain ⟨cs, hc⟩ := hzb
          exact HM6.out.box hg7 hvz hc
        have HX7 : Hid (w1.Extends w7) := HX6.out.grown hg7 (fun j hj => by have := Option.some.inj hj; omega)
        have HRK7 : Hid (RowOk w7 0 (.slice a2 xd.length c2') xd) := HRK.out.grown hg7 (by
          rcases HRK.out.2 with h3 | h3
          · exact .inl h3
          · refine .inr fun e => ?_
            obtain ⟨_, h4⟩ := h3 z e
            obtain ⟨cs, hc⟩ := hzb
            rcases h4 with h4 | ⟨cs', h4⟩
            · omega
            · rw [hc] at h4
              simp only [Option.some.injEq, Obj.cells.injEq] at h4
              exact absurd h4.2.1 (by decide))
        clear hw7 hg7 hzb hvz c0 c1 c2 c3 c4 c5 c6 c7 c8 c9 HM HM6 HX HX6 HRK HA6 f9
        obtain ⟨c0, c1, c2, c3, c4, c5, c6, c7, c8, c9⟩ := RCell.ten (ha7.one (p := (⟨xp, xn, xb, xs, xm, xk, xe, xg, xu, xd⟩, .slice a2 xd.length c2')) rfl)
        simp only [Nat.zero_add] at c0 c1 c2 c3 c4 c5 c6 c7 c8 c9
        clear ha7
        have hx8 : w7.Extends (w7.alloc (.cells (Rc.cells ⟨xp, xn, xb, xs, xm, xk, xe, xg, xu, xd⟩ (.slice a2 xd.length c2')).toArray 43)) := ext_alloc _ _
        have HSRC : Hid (Src Try.prog 10 28 (.slice (some ⟨w7.heap.size, 0, none⟩) 1 1) 1 (Rc.cells ⟨xp, xn, xb, xs, xm, xk, xe, xg, xu, xd⟩ (.slice a2 xd.length c2')) (w7.alloc (.cells (Rc.cells ⟨xp, xn, xb, xs, xm, xk, xe, xg, xu, xd⟩ (.slice a2 xd.length c2')).toArray 43))) := src_rec (r := ⟨xp, xn, xb, xs, xm, xk, xe, xg, xu, xd⟩) Try.underlying28 _ _ rfl rfl
        have HM8 := Lib.hid (HM7.out.ext hx8)
        have HRK8 := Lib.hid (HRK7.out.ext hx8)
        have HX8 := Lib.hid (Gr.ext_trans HX7.out hx8)
        obtain ⟨vs, hown, hrows⟩ := HM8.out
        have HOWN := Lib.hid hown
        have HROWS := Lib.hid hrows
        have HOB : Hid (∀ g, (Value.slice va (G k).length vc).ownBlock = some g → w1.heap.size ≤ g) := fun g hg => (HOWN.out.lt g hg).1
        have hbs := HX8.out.size
        have hgk := HLK.out
        clear hx8 hown hrows HM8 HM7 HX7 HRK7
        generalize hgl : (G k).length = gl at *
        have HGL := Lib.hid hgl
        clear hgl
        go_wp2_with (at_builtin; refine wpList_append_own_src _ rfl _ _ 28 28 rfl w1.heap.size 43 i2 (Rc.zero.val (.slice none 0 0)) 10 96 Try.underlying28 HI'.out HZ0'.out HZ1'.out HZ2'.out rfl _ _ _ rfl HOWN.out _ 1 (Rc.cells ⟨xp, xn, xb, xs, xm, xk, xe, xg, xu, xd⟩ (.slice a2 xd.length c2')) rfl HSRC.out (by unfold maxLen; omega) (by omega) hbs ?_)
        intro v' w9 ho9 hg9 _
        have HP : Hid (w1.Extends w9 ∧ RMats w9 w1.heap.size 0 v' (G (k + 1)).length (G (k + 1))) := by
          refine ⟨HX8.out.grown hg9 HOB.out, ?_⟩
          rw [HGK.out, List.length_append, HGL.out]
          exact RMats.snoc (Nat.zero_le _) HGL.out.symm HOWN.out HROWS.out HRK8.out hg9 ho9
        clear ho9 hg9 c0 c1 c2 c3 c4 c5 c6 c7 c8 c9 HSRC HOWN HROWS HOB HX8 HRK8
        go_wp2
        go_roundw
        case rel => exact ⟨k + 1, by omega, by go_num, Lib.hid HP.out.1, Lib.hid HP.out.2⟩
        case measure => simp [intOf]; omega
      · have hG := HNK.out (by rw [HISK.out]; exact decide_eq_false hid)
        have HGK := Lib.hid hG
        clear HYK HNK HISK hG
        have HXA : Hid (∀ w', wr.Extends w' → w1.Extends w' ∧ RMats w' w1.heap.size 0 (.slice va (G k).length vc) (G (k + 1)).length (G (k + 1))) := fun w' hx => ⟨Gr.ext_trans HX.out hx, by rw [HGK.out]; exact HM.out.ext hx⟩
        clear HM
        go_upto_region 7 with fail
        generalize hwb : World.alloc wr _ = wb
        have hxb : wr.Extends wb := by subst hwb; exact ext_alloc _ _
        have ha : Arr wb wr.heap.size 1 1 (fun _ => (⟨xp, xn, xb, xs, xm, xk, xe, xg, xu, xd⟩, .slice ua xd.length uc)) := by subst hwb; exact Arr.box wr ⟨xp, xn, xb, xs, xm, xk, xe, xg, xu, xd⟩ _
        clear hwb c0 c1 c2 c3 c4 c5 c6 c7 c8 c9
        obtain ⟨c0, c1, c2, c3, c4, c5, c6, c7, c8, c9⟩ := RCell.ten (ha.one rfl)
        simp only [Nat.zero_add] at c0 c1 c2 c3 c4 c5 c6 c7 c8 c9
        have d0' := hxb.cell_of d0
        have d1' := hxb.cell_of d1
        have HXB := Lib.hid (HXA.out wb hxb)
        clear hxb ha d0 d1 HXA
        generalize wr.heap.size = z at *
        by_cases hp : xp = rp
        · have hn : ¬ xn = rn := fun e => hid ⟨hp, e⟩
          subst hp
          clear hid
          go_wp2
          go_roundw
          case rel => exact ⟨k + 1, by omega, by go_num, HXB.out.1, HXB.out.2⟩
          case measure => simp [intOf]; omega
        · clear hid
          go_wp2
          go_roundw
          case rel => exact ⟨k + 1, by omega, by go_num, HXB.out.1, HXB.out.2⟩
          case measure => simp [intOf]; omega
    · obtain rfl : k = n := by omega
      obtain ⟨va, vc, rfl⟩ := HM.out.slice
      have HP : Hid (RcsOut w L (.returned (.slice va (G k).length vc)) wr) := by
        refine ⟨_, rfl, Gr.ext_trans HX1.out HX.out, ?_⟩
        rw [← HGN.out]
        exact HM.out.recs rfl
      clear HM
      generalize (G k).length = gl at *
      go_wp2
      go_ret
      exact HP.out
end Go.Proofs.Ytohonjhfmmhgdaa
namespace Go.Proofs.Ytohonjhfmmhgdaa
set_option maxRecDepth 20000
open Go.RowKit Go.Deep Go.Maps
set_option linter.unusedVariables false
/-- Ids that a call answers. -/
def IdsOut (w : World) (l : List Ip) (e : Ending) (w' : World) : Prop := ∃ v, e = .returned v ∧ w.Extends w' ∧ IdsAt w' v l
def ipOf (r : Rc) : Ip := (r.p, r.n)
namespace SM
def ids (st : Sto) : List Ip := comp (st.l.map ipOf)
end SM
theorem src_id {P : Program} {W : World} {T tx e' : TypeId} {x : Ip} (hk : P.underlying tx = some (.slice e')) (s c : Nat) (hs : s = W.heap.size) :
    Src P 2 tx (.slice (some ⟨s, 0, none⟩) 1 c) 1 (idc x) (W.alloc (.cells (idc x).toArray T)) := by
  subst hs
  refine Src.ofSlice _ hk ⟨W.heap.size, 0, none⟩ 1 c (idc x) rfl (fun j v hv => ?_) (fun v hv => fl2_one [x] v (by simpa [fl2] using hv))
  have h0 := heap_alloc_new W (.cells (idc x).toArray T)
  rw [Addr.add_mid, cell_of_row _ _ _ _ _ _ h0, List.getElem?_toArray, Nat.zero_add]
  exact hv
theorem compact_all (B : Nat) (v : Value) (l : List Ip) (w : World) (hv : OwnI w B v l) (hl : l.length ≤ 1000) :
    Calls Try.prog 47 #[v] w (CompOut w B v l) := by
  rcases hv.kinds with ⟨rfl, rfl⟩ | ⟨g, cap, rfl⟩
  · have HP : Hid (CompOut w B (.slice none 0 0) [] (.returned (.slice none 0 0)) w) := ⟨none, 0, rfl, OwnI.nil _ _, ⟨rfl, rfl, rfl, Nat.le_refl _, fun _ _ _ => rfl⟩⟩
    clear hv
    go_enter Try.func47, Try.ntmps47
    go_wp2
    go_ret
    exact HP.out
  · exact compact_any B g cap l.length l w hv hl
set_option maxHeartbeats 2000000 in
theorem ids16_any (t : Nat) (D : Nat → Prop) (st : Sto) (w : World) (h : SAt w t D st) (hl : st.l.length ≤ 1000) :
    Calls Try.prog 24 #[.pointer (some ⟨t, 0, none⟩)] w (IdsOut w (SM.ids st)) := by
  obtain ⟨v, mp, ps, h⟩ := h
  have HAT := Lib.hid h.range
  have HSL : Hid (∀ k, k < ps.length → Slc (ps.getD k zp)) := fun k hk => h.own.2 _ (getD_mem hk)
  obtain ⟨p, hb, c2, c3, c4, f3, f4⟩ := h.cells
  have HC := Lib.hid c3
  obtain ⟨G, HGE⟩ : ∃ G : Nat → List Ip, G = fun k => (ps.take k).map (fun p => ipOf p.1) := ⟨_, rfl⟩
  have HG0 : Hid (G 0 = []) := by show _ = _; rw [HGE]; rfl
  have HGS : Hid (∀ k, k < ps.length → G (k + 1) = G k ++ [((ps.getD k zp).1.p, (ps.getD k zp).1.n)]) := fun k hk => by
    rw [HGE]
    show (ps.take (k + 1)).map _ = (ps.take k).map _ ++ _
    rw [take_snocp ps k hk, List.map_append]; rfl
  have HGL : Hid (∀ k, k ≤ ps.length → (G k).length = k) := fun k hk => by rw [HGE]; simp; omega
  have HGN : Hid (G ps.length = st.l.map ipOf) := by
    show _ = _
    rw [HGE, ← h.recs]
    show (ps.take ps.length).map _ = _
    rw [List.take_length]
    unfold recs
    rw [List.map_map]; rfl
  have HFIN : Hid (∀ w' a c, w.Extends w' → OwnI w' w.heap.size (.slice a (SM.ids st).length c) (SM.ids st) → IdsOut w (SM.ids st) (.returned (.slice a (SM.ids st).length c)) w') := fun w' a c hx ho => ⟨_, rfl, hx, ho.at⟩
  have HIDS : Hid (SM.comp (G ps.length) = SM.ids st) := by show _ = _; rw [HGN.out]; rfl
  rw [← h.len] at hl
  obtain ⟨a, cap, rfl⟩ := h.own.slice
  obtain ⟨i2, hi', hz0', hz1', hz2'⟩ := info_parts idinfo
  have HI' := Lib.hid hi'; clear hi'
  have HZ0' := Lib.hid hz0'; clear hz0'
  have HZ1' := Lib.hid hz1'; clear hz1'
  have HZ2' := Lib.hid hz2'; clear hz2'
  have hc := HC.out
  clear h hb c2 c3 c4 f3 f4 HGE HGN
  generalize ps.length = n at *
  generalize SM.ids st = L at *
  go_enter Try.func24, Try.ntmps24
  go_wp2_with fail
  go_loopw [3, 13] (fun s3 s13 wr => ∃ k : Nat, k ≤ n ∧ s13 = .int .i64 k ∧ Hid (w.Extends wr) ∧ Hid (OwnI wr w.heap.size s3 (G k))) (fun _ s13 _ => n - (intOf s13).toNat)
  case atStart => exact ⟨0, by omega, rfl, Lib.hid (Gr.ext_refl _), Lib.hid (by rw [HG0.out]; exact OwnI.nil _ _)⟩
  case round =>
    clear hc
    obtain ⟨k, hk, rfl, HX, HM⟩ := hrel
    by_cases h1 : k < n
    · obtain ⟨g, ⟨cap', e⟩, hr⟩ := HAT.out k h1
      cases e
      have hr := rangeAt_ext hr HX.out
      obtain ⟨c0, c1, c2, c3, c4, c5, c6, c7, c8, c9⟩ := RCell.ten hr
      have HSK := Lib.hid (HSL.out k h1)
      have HGK := Lib.hid (HGS.out k h1)
      have HLK := Lib.hid (HGL.out k hk)
      clear hr
      generalize ps.getD k zp = p at *
      obtain ⟨⟨xp, xn, xb, xs, xm, xk, xe, xg, xu, xd⟩, u⟩ := p
      obtain ⟨ua, uc, hu⟩ := HSK.out
      simp only at hu
      subst hu
      simp only at c0 c1 c2 c3 c4 c5 c6 c7 c8 c9
      go_upto_region 7 with fail
      generalize hwb : World.alloc wr _ = wb
      have hxb : wr.Extends wb := by subst hwb; exact ext_alloc _ _
      have ha : Arr wb wr.heap.size 1 1 (fun _ => (⟨xp, xn, xb, xs, xm, xk, xe, xg, xu, xd⟩, .slice ua xd.length uc)) := by subst hwb; exact Arr.box wr ⟨xp, xn, xb, xs, xm, xk, xe, xg, xu, xd⟩ _
      obtain ⟨z, hz⟩ : ∃ z, z = wr.heap.size := ⟨_, rfl⟩
      rw [← hz] at ha ⊢
      clear hz hwb c0 c1 c2 c3 c4 c5 c6 c7 c8 c9
      obtain ⟨c0, c1, c2, c3, c4, c5, c6, c7, c8, c9⟩ := RCell.ten (ha.one rfl)
      simp only [Nat.zero_add] at c0 c1 c2 c3 c4 c5 c6 c7 c8 c9
      clear c2 c3 c4 c5 c6 c7 c8 c9 ha
      obtain ⟨va, vc, rfl⟩ := HM.out.slice
      have hx8 : wb.Extends (wb.alloc (.cells (idc (xp, xn)).toArray 38)) := ext_alloc _ _
      have HSRC : Hid (Src Try.prog 2 58 (.slice (some ⟨wb.heap.size, 0, none⟩) 1 1) 1 (idc (xp, xn)) (wb.alloc (.cells (idc (xp, xn)).toArray 38))) := src_id (x := (xp, xn)) Try.underlying58 _ _ rfl
      have HX8 := Lib.hid (Gr.ext_trans HX.out (Gr.ext_trans hxb hx8))
      have HOWN := Lib.hid ((HM.out.ext hxb).ext hx8)
      have HOB : Hid (∀ g, (Value.slice va (G k).length vc).ownBlock = some g → w.heap.size ≤ g) := fun g hg => (World.ownsRow.lt HOWN.out g hg).1
      have hbs := HX8.out.size
      rw [HLK.out] at HOB HOWN ⊢
      clear hx8 hxb HM HX
      have HOWN2 : Hid (World.ownsRow (wb.alloc (.cells (idc (xp, xn)).toArray 38)) w.heap.size 38 2 (.slice va k vc) k (fl2 (G k))) := by have := HOWN.out; unfold OwnI at this; rw [HLK.out] at this; exact this
      go_wp2_with (at_builtin; refine wpList_append_own_src _ rfl _ _ 58 58 rfl w.heap.size 38 i2 (.agg #[.int .i64 0, .int .i64 0]) 2 16 Try.underlying58 HI'.out HZ0'.out HZ1'.out HZ2'.out rfl _ _ _ rfl HOWN2.out _ 1 (idc (xp, xn)) rfl HSRC.out (by unfold maxLen; omega) (by omega) hbs ?_)
      intro v' w9 ho9 hg9 _
      have HP : Hid (w.Extends w9 ∧ OwnI w9 w.heap.size v' (G (k + 1))) := by
        refine ⟨HX8.out.grown hg9 HOB.out, ?_⟩
        unfold OwnI
        rw [HGK.out, fl2_snoc, List.length_append, HLK.out]
        exact ho9
      clear ho9 hg9 c0 c1 HSRC HOWN HOWN2 HOB HX8
      go_wp2
      go_roundw
      case rel => exact ⟨k + 1, by omega, by go_num, Lib.hid HP.out.1, Lib.hid HP.out.2⟩
      case measure => simp [intOf]; omega
    · obtain rfl : k = n := by omega
      obtain ⟨va, vc, rfl⟩ := HM.out.slice
      have HCL := Lib.hid (compact_all w.heap.size _ (G k) wr HM.out (by rw [HGL.out k (Nat.le_refl _)]; exact hl))
      have HOB : Hid (∀ g, (Value.slice va (G k).length vc).ownBlock = some g → w.heap.size ≤ g) := fun g hg => (World.ownsRow.lt HM.out g hg).1
      clear HM
      go_wp2_with fail
      refine HCL.out.mono ?_
      rintro e w5 ⟨a5, c5, rfl, ho, hg⟩
      rw [HIDS.out] at ho ⊢
      have HP := Lib.hid (HFIN.out w5 a5 c5 (HX.out.grown hg HOB.out) ho)
      clear ho hg HCL
      go_wp2
      go_ret
      exact HP.out
end Go.Proofs.Ytohonjhfmmhgdaa
namespace Go.Proofs.Ytohonjhfmmhgdaa
set_option maxRecDepth 20000
open Go.RowKit Go.Deep
set_option linter.unusedVariables false
/-- The array is that of v, or a new one. -/
def NewBlk (w : World) (v v' : Value) : Prop := v'.ownBlock = v.ownBlock ∨ ∃ g, v'.ownBlock = some g ∧ w.heap.size ≤ g
theorem grown_on {a b c : World} {v v' : Value} (h : a.grownBy b v.ownBlock) (k : b.grownBy c v'.ownBlock) (hn : NewBlk a v v') : a.grownBy c v.ownBlock := by
  rcases hn with e | ⟨g, e, hg⟩
  · rw [e] at k; exact grown_trans h k
  · rw [e] at k
    exact ⟨k.os.trans h.os, k.tape.trans h.tape, k.output.trans h.output, Nat.le_trans h.size k.size, fun i hi hr =>
      (k.block i (Nat.lt_of_lt_of_le hi h.size) (by simp; omega)).trans (h.block i hi hr)⟩
theorem NewBlk.next {a b : World} {v v' v'' : Value} (h : NewBlk a v v') (hs : a.heap.size ≤ b.heap.size) (k : v''.ownBlock = v'.ownBlock ∨ ∃ g, v''.ownBlock = some g ∧ b.heap.size ≤ g) : NewBlk a v v'' := by
  rcases k with e | ⟨g, e, hg⟩
  · rcases h with e' | ⟨g, e', hg⟩
    · exact .inl (e.trans e')
    · exact .inr ⟨g, e.trans e', hg⟩
  · exact .inr ⟨g, e, Nat.le_trans hs hg⟩
theorem clean_any (w : World) (v : Value) : CleanBlk (fun _ => True) w v := fun _ _ _ _ _ _ _ _ => trivial
/-- The reference's put: the array is the old one or a new one. -/
def PutOut (w : World) (v : Value) (zs : List Nat) (e : Ending) (w' : World) : Prop := ∃ a c ys, e = .returned (.slice a ys.length c) ∧ ys = zs ∧ w'.ownsRow 0 5 1 (.slice a ys.length c) ys.length (u8vs ys) ∧ w.grownBy w' v.ownBlock ∧ NewBlk w v (.slice a ys.length c)
theorem put_own (v : Value) (xs : List Nat) (n W : Nat) (w : World) (hW : W ≤ 8) (hn : n < 4611686018427387904) (hx : xs.length ≤ 1000000) (hown : w.ownsRow 0 5 1 v xs.length (u8vs xs)) :
    Calls Try.prog 76 #[v, .int .i64 n, .int .i64 W] w (PutOut w v (xs ++ KM.nb W n)) := by
  obtain ⟨iu, hiu, hz0, hz1, hz2⟩ := info_parts byteinfo
  have HI := Lib.hid hiu
  have HZ0 := Lib.hid hz0
  have HZ1 := Lib.hid hz1
  have HZ2 := Lib.hid hz2
  have HOWN := Lib.hid hown
  obtain ⟨lx, hlx⟩ : ∃ lx, lx = xs.length := ⟨_, rfl⟩
  rw [← hlx] at hx HOWN
  have HLX := Lib.hid hlx
  obtain ⟨va, vc, rfl⟩ := owns_slice HOWN.out
  clear hiu hz0 hz1 hz2 hown hlx
  go_enter Try.func76, Try.ntmps76
  go_wp2_with fail
  go_loopw [0, 7] (fun s0 s7 wr => ∃ q : Nat, q ≤ W ∧ s7 = .int .i64 ((q : Int) - 1) ∧ Hid (wr.ownsRow 0 5 1 s0 (lx + (W - q)) (u8vs (xs ++ (KM.nb W n).take (W - q)))) ∧ Hid (w.grownBy wr (Value.slice va lx vc).ownBlock) ∧ Hid (NewBlk w (.slice va lx vc) s0)) (fun _ s7 _ => (intOf s7 + 1).toNat)
  case atStart => exact ⟨W, by omega, by rfl, by rw [Nat.sub_self, List.take_zero, List.append_nil]; exact HOWN, grown_refl _ _, .inl rfl⟩
  case round =>
    obtain ⟨q, hq, rfl, HO, HG, HN⟩ := hrel
    obtain ⟨a0, c0, rfl⟩ := owns_slice HO.out
    by_cases h : q = 0
    · subst h
      have HP : Hid (PutOut w (.slice va lx vc) (xs ++ KM.nb W n) (.returned (.slice a0 (lx + (W - 0)) c0)) wr) := by
        have ho := HO.out
        have e : lx + (W - 0) = (xs ++ KM.nb W n).length := by rw [List.length_append, KM.nb_length, HLX.out]; rfl
        have hnb := HN.out
        rw [List.take_of_length_le (by rw [KM.nb_length]; omega), e] at ho
        rw [e] at hnb ⊢
        exact ⟨a0, c0, _, rfl, rfl, ho, HG.out, hnb⟩
      go_wp2
      go_ret
      exact HP.out
    · obtain ⟨p, rfl⟩ : ∃ p, q = p + 1 := ⟨q - 1, by omega⟩
      rw [show (((p + 1 : Nat) : Int) - 1) = (p : Int) by omega]
      have hshr := shr_bytes n p
      obtain ⟨m, hm⟩ : ∃ m, m = n / 256 ^ p % 256 := ⟨_, rfl⟩
      have hm2 : m < 256 := hm ▸ Nat.mod_lt _ (by decide)
      have hand : bits .and .i64 ((n : Int) / 256 ^ p) 255 = (m : Int) := by
        rw [i64_and255, hm, Int.natCast_emod, Int.natCast_ediv, Int.natCast_pow]; rfl
      have HM := Lib.hid hm
      clear h hm
      go_wp2_with (at_builtin; refine wpList_append_own_src3 _ rfl _ _ 41 41 rfl 0 5 iu (.int .u8 0) 1 1 Try.underlying41 HI.out HZ0.out HZ1.out HZ2.out rfl _ _ _ rfl (HO.out.alloc _) _ 1 [.int .u8 m] rfl (src_one Try.underlying41 _ _ rfl rfl) (by unfold maxLen; omega) (by omega) (Nat.zero_le _) (fun _ => True) (clean_any _ _) (fun _ _ => trivial) (fun _ _ => trivial) ?_)
      intro v' w9 ho9 hg9 hn9 _
      have HP : Hid (w9.ownsRow 0 5 1 v' (lx + (W - p)) (u8vs (xs ++ (KM.nb W n).take (W - p))) ∧ w.grownBy w9 (Value.slice va lx vc).ownBlock ∧ NewBlk w (.slice va lx vc) v') := by
        refine ⟨?_, grown_on (grown_alloc HG.out _) hg9 HN.out, HN.out.next (b := wr) HG.out.size (hn9.imp id (fun ⟨g, e, h⟩ => ⟨g, e, by omega⟩))⟩
        rw [show lx + (W - p) = lx + (W - (p + 1)) + 1 by omega, ← KM.nb_step p W n (by omega), ← HM.out, ← List.append_assoc, u8vs_app1]
        exact ho9
      clear ho9 hg9 hn9
      go_wp2
      go_roundw
      case rel => exact ⟨p, by omega, by go_num, Lib.hid HP.out.1, Lib.hid HP.out.2.1, Lib.hid HP.out.2.2⟩
      case measure => simp [intOf]
/-- A log of the reference lies at block t of type T from cell o on, behind L: its bytes, how many are sure; its array is one of D. -/
def RAt (w : World) (t o : Nat) (L : List Value) (T : TypeId) (D : Nat → Prop) (bs : List Nat) (s : Nat) : Prop := ∃ a c, w.heap[t]? = some (.cells (L ++ [Value.slice a bs.length c, Value.int .i64 ((s : Nat) : Int)]).toArray T (0, 0)) ∧ L.length = o ∧ T ≠ 5 ∧ w.ownsRow 0 5 1 (.slice a bs.length c) bs.length (u8vs bs) ∧ ∀ g, (Value.slice a bs.length c).ownBlock = some g → D g
theorem RAt.lt {w : World} {t o s : Nat} {L : List Value} {T : TypeId} {D : Nat → Prop} {bs : List Nat} (h : RAt w t o L T D bs s) : t < w.heap.size := by
  obtain ⟨a, c, h1, _⟩ := h
  exact (Array.getElem?_eq_some_iff.1 h1).1
theorem RAt.new (w : World) (D : Nat → Prop) : RAt (w.alloc (.cells #[.slice none 0 0, .int .i64 0] 52)) w.heap.size 0 [] 52 D [] 0 :=
  ⟨none, 0, heap_alloc_new _ _, rfl, by decide, World.ownsRow_nil _ _ _ _, fun g hg => by cases hg⟩
theorem owns_at {w : World} {v : Value} {n g : Nat} {T : TypeId} {vs : List Value} {B : Nat} (h : w.ownsRow B T 1 v n vs) (hg : v.ownBlock = some g) : ∃ cs, w.heap[g]? = some (.cells cs T (0, 0)) := by
  rcases h.2 with ⟨rfl, _⟩ | ⟨g', cap, cur, rfl, hbg, hh, _⟩
  · cases hg
  · simp only [Value.ownBlock, Option.some.injEq] at hg
    subst hg
    exact ⟨cur, hh⟩
section
variable {w w' : World} {t o s : Nat} {L : List Value} {T : TypeId} {D : Nat → Prop} {bs : List Nat}
theorem two_last (a b : Value) (L : List Value) (h : L.length = o) : (L ++ [a, b]).toArray[o]? = some a ∧ (L ++ [a, b]).toArray[o + 1]? = some b := by subst h; exact ⟨by simp, by simp⟩
theorem last_set0 (a b v : Value) (L : List Value) (h : L.length = o) : (L ++ [a, b]).toArray.setIfInBounds o v = (L ++ [v, b]).toArray := by subst h; simp
theorem RAt.keep (h : RAt w t o L T D bs s) (ht : w'.heap[t]? = w.heap[t]?) (hD : ∀ (g : Nat) (cs : Array Value), D g → w.heap[g]? = some (.cells cs 5 (0, 0)) → w'.heap[g]? = w.heap[g]?) : RAt w' t o L T D bs s := by
  obtain ⟨a, c, h1, h5, h6, h2, h3⟩ := h
  refine ⟨a, c, ht.trans h1, h5, h6, ⟨h2.1, ?_⟩, h3⟩
  rcases h2.2 with h4 | ⟨g, cap, cur, hv, hb, hh, hrest⟩
  · exact .inl h4
  · refine .inr ⟨g, cap, cur, hv, hb, ?_, hrest⟩
    rw [hD g cur (h3 g (by rw [hv]; rfl)) hh]; exact hh
theorem RAt.ext (h : RAt w t o L T D bs s) (hx : w.Extends w') : RAt w' t o L T D bs s :=
  h.keep (hx.block t h.lt) fun g cs _ hg => hx.block g (Array.getElem?_eq_some_iff.1 hg).1
theorem RAt.mono {D' : Nat → Prop} (h : RAt w t o L T D bs s) (hD : ∀ g, g < w.heap.size → D g → D' g) : RAt w t o L T D' bs s := by
  obtain ⟨a, c, h1, h5, h6, h2, h3⟩ := h
  refine ⟨a, c, h1, h5, h6, h2, fun g hg => ?_⟩
  obtain ⟨cs, hc⟩ := owns_at h2 hg
  exact hD g (Array.getElem?_eq_some_iff.1 hc).1 (h3 g hg)
/-- It stays where another block may be written, that is none of D's or holds no bytes. -/
theorem RAt.grown {g : Nat} (h : RAt w t o L T D bs s) (hg : w.grownBy w' (some g)) (hn : t ≠ g) (hD : ¬ D g ∨ ∃ cs T f, w.heap[g]? = some (.cells cs T f) ∧ T ≠ 5) : RAt w' t o L T D bs s :=
  h.keep (hg.block t h.lt (by simpa using hn)) fun i cs hi hc => hg.block i (Array.getElem?_eq_some_iff.1 hc).1 (fun e => by
    have e' := Option.some.inj e
    subst e'
    rcases hD with hD | ⟨cs', T, f, hc', hT⟩
    · exact hD hi
    · rw [hc] at hc'
      simp only [Option.some.injEq, Obj.cells.injEq] at hc'
      exact hT hc'.2.1.symm)
end
/-- What an append of the reference's log may write: its block t, and bytes in a block of D. -/
structure Touch (D : Nat → Prop) (t : Nat) (w w' : World) : Prop where
  os : w'.os = w.os
  tape : w'.tape = w.tape
  output : w'.output = w.output
  size : w.heap.size ≤ w'.heap.size
  away : ∀ i, i < w.heap.size → i ≠ t → ¬ D i → w'.heap[i]? = w.heap[i]?
  other : ∀ (i : Nat) (cs : Array Value) (T : TypeId) (f : Nat × Nat), w.heap[i]? = some (.cells cs T f) → i ≠ t → T ≠ 5 → w'.heap[i]? = w.heap[i]?
theorem Touch.below {D : Nat → Prop} {t B : Nat} {w w' : World} (h : Touch D t w w') (hB : B ≤ t) (hs : B ≤ w.heap.size) (hD : ∀ i, D i → B ≤ i) : Below B w w' :=
  ⟨h.os, h.tape, h.output, h.size, fun k hk => h.away k (by omega) (by omega) (fun hd => by have := hD k hd; omega)⟩
theorem RAt.shape {w : World} {t o s : Nat} {L : List Value} {T : TypeId} {D : Nat → Prop} {bs : List Nat} (h : RAt w t o L T D bs s) : ∃ cs f, w.heap[t]? = some (.cells cs T f) := by
  obtain ⟨a, c, h1, _⟩ := h
  exact ⟨_, _, h1⟩
theorem RAt.cells {w : World} {t o s : Nat} {L : List Value} {T : TypeId} {D : Nat → Prop} {bs : List Nat} (h : RAt w t o L T D bs s) : ∃ a c, w.cell? ⟨t, o, none⟩ = some (.slice a bs.length c) ∧ w.cell? ⟨t, o + 1, none⟩ = some (.int .i64 ((s : Nat) : Int)) ∧ w.frozen? ⟨t, o, none⟩ = false ∧ w.frozen? ⟨t, o + 1, none⟩ = false ∧
    w.ownsRow 0 5 1 (.slice a bs.length c) bs.length (u8vs bs) ∧ (∀ g, (Value.slice a bs.length c).ownBlock = some g → D g) ∧ w.heap[t]? = some (.cells (L ++ [Value.slice a bs.length c, Value.int .i64 ((s : Nat) : Int)]).toArray T (0, 0)) ∧ L.length = o ∧ T ≠ 5 := by
  obtain ⟨a, c, h1, h5, h6, h2, h3⟩ := h
  exact ⟨a, c, by rw [cell_of_row _ _ _ _ _ _ h1]; exact (two_last _ _ _ h5).1, by rw [cell_of_row _ _ _ _ _ _ h1]; exact (two_last _ _ _ h5).2, frozen_of_row _ _ _ _ _ h1, frozen_of_row _ _ _ _ _ h1, h2, h3, h1, h5, h6⟩
theorem rappend15_any (t s : Nat) {o : Nat} {L : List Value} {T : TypeId} (D : Nat → Prop) (bs : List Nat) (v : Value) (x : List Nat) (w : World) (h : RAt w t o L T D bs s) (hu : U8s w v x) (hx : x.length ≤ 65535) (hz : bs.length ≤ 900000)
    (hsrc : x = [] ∨ ∀ g, v.ownBlock = some g → ¬ D g) (hnew : ∀ g, w.heap.size ≤ g → D g) :
    Calls Try.prog 58 #[.pointer (some ⟨t, o, none⟩), v] w fun e w' => e = .returned (.int .i64 0) ∧ RAt w' t o L T D (bs ++ KM.nb 2 x.length ++ x) s ∧ Touch D t w w' := by
  obtain ⟨a, c, h0, h1, f0, f1, ho, hD, hb, hLo, hT8⟩ := h.cells
  have hlt := h.lt
  obtain ⟨va, vc, rfl, _, _⟩ := hu.slice
  have hxlt := hu.lt
  obtain ⟨iu, hiu, hz0, hz1, hz2⟩ := info_parts byteinfo
  have HI := Lib.hid hiu
  have HZ0 := Lib.hid hz0
  have HZ1 := Lib.hid hz1
  have HZ2 := Lib.hid hz2
  have hvt : (Value.slice a bs.length c).ownBlock ≠ some t := fun e => by
    obtain ⟨cs, hc⟩ := owns_at ho e
    rw [hb] at hc
    simp only [Option.some.injEq, Obj.cells.injEq] at hc
    exact absurd hc.2.1 hT8
  have hput := put_own (.slice a bs.length c) bs x.length 2 w (by omega) (by omega) (by omega) ho
  have hstay : ∀ w3 : World, w.grownBy w3 (Value.slice a bs.length c).ownBlock → w3.cell? ⟨t, o, none⟩ = some (.slice a bs.length c) ∧ w3.frozen? ⟨t, o, none⟩ = false := fun w3 hg3 => by
    have e : w3.heap[t]? = w.heap[t]? := hg3.block t hlt (Ne.symm hvt)
    exact ⟨by rw [World.cell?_of_block (w := w) (w' := w3) (a := ⟨t, o, none⟩) e]; exact h0, by rw [World.frozen?_of_block (w := w) (w' := w3) (a := ⟨t, o, none⟩) e]; exact f0⟩
  have HSTAY := Lib.hid hstay
  have hmid : ∀ (a2 : Option Addr) (c2 : Nat) (ys : List Nat) (w2 : World), w2.ownsRow 0 5 1 (.slice a2 ys.length c2) ys.length (u8vs ys) → w.grownBy w2 (Value.slice a bs.length c).ownBlock → NewBlk w (.slice a bs.length c) (.slice a2 ys.length c2) →
      U8s w2 (.slice va x.length vc) x ∧ w2.cell? ⟨t, o, none⟩ = some (.slice a bs.length c) ∧ w2.frozen? ⟨t, o, none⟩ = false := fun a2 c2 ys w2 ho2 hg2 hn2 => by
    have e : w2.heap[t]? = w.heap[t]? := hg2.block t hlt (Ne.symm hvt)
    refine ⟨hu.grown hg2 ?_, ?_, ?_⟩
    · rcases hsrc with rfl | hsrc
      · exact .inl rfl
      · cases hv : (Value.slice va x.length vc).ownBlock with
        | none =>
          rcases hu with hu | ⟨b, off, cap, hv', _⟩
          · exact .inl hu.1
          · rw [hv'] at hv; cases hv
        | some g => exact .inr fun e => hsrc g hv (hD g e.symm)
    · rw [World.cell?_of_block (w := w) (w' := w2) (a := ⟨t, o, none⟩) e]; exact h0
    · rw [World.frozen?_of_block (w := w) (w' := w2) (a := ⟨t, o, none⟩) e]; exact f0
  have hlast : ∀ (a2 : Option Addr) (c2 : Nat) (ys : List Nat) (w2 : World) (a3 : Option Addr) (c3 : Nat) (w3 : World) (n3 : Nat) (w4 : World), ys = bs ++ KM.nb 2 x.length → w2.ownsRow 0 5 1 (.slice a2 ys.length c2) ys.length (u8vs ys) → w.grownBy w2 (Value.slice a bs.length c).ownBlock → NewBlk w (.slice a bs.length c) (.slice a2 ys.length c2) →
      w3.ownsRow 0 5 1 (.slice a3 n3 c3) (ys.length + x.length) (u8vs ys ++ u8vs x) → n3 = ys.length + x.length → w2.grownBy w3 (Value.slice a2 ys.length c2).ownBlock → ((Value.slice a3 n3 c3).ownBlock = (Value.slice a2 ys.length c2).ownBlock ∨ ∃ g, (Value.slice a3 n3 c3).ownBlock = some g ∧ w2.heap.size ≤ g) →
      w4 = w3.setCell ⟨t, o, none⟩ (.slice a3 n3 c3) → RAt w4 t o L T D (bs ++ KM.nb 2 x.length ++ x) s ∧ Touch D t w w4 := fun a2 c2 ys w2 a3 c3 w3 n3 w4 hys ho2 hg2 hn2 ho3 hn3 hg3 hnn e4 => by
    have hN3 : NewBlk w (.slice a bs.length c) (.slice a3 n3 c3) := hn2.next hg2.size hnn
    have hG3 : w.grownBy w3 (Value.slice a bs.length c).ownBlock := grown_on hg2 hg3 hn2
    have hb3 : w3.heap[t]? = some (.cells (L ++ [Value.slice a bs.length c, Value.int .i64 ((s : Nat) : Int)]).toArray T (0, 0)) := (hG3.block t hlt (Ne.symm hvt)).trans hb
    have hl : (bs ++ KM.nb 2 x.length ++ x).length = n3 := by rw [hn3, List.length_append, ← hys]
    have hg4 : w3.grownBy w4 (some t) := by subst e4; exact grown_set _ _ _ _
    have hne3 : (Value.slice a3 n3 c3).ownBlock ≠ some t := fun e => by
      rcases hN3 with e' | ⟨g, e', hg⟩
      · exact hvt (e'.symm.trans e)
      · rw [e'] at e; have := Option.some.inj e; omega
    refine ⟨⟨a3, c3, ?_, hLo, hT8, ?_, fun g hg => ?_⟩, ?_⟩
    · subst e4; rw [heap_setCell_same _ _ _ _ _ _ hb3, hl, last_set0 _ _ _ _ hLo]
    · rw [hl]
      have : w4.ownsRow 0 5 1 (.slice a3 n3 c3) (ys.length + x.length) (u8vs ys ++ u8vs x) := ho3.kept hg4 (.inr hne3)
      rw [← hn3, ← u8vs_app1, hys] at this
      exact this
    · rw [hl] at hg
      rcases hN3 with e' | ⟨g', e', hg'⟩
      · exact hD g (e'.symm.trans hg)
      · rw [e'] at hg; have := Option.some.inj hg; subst this; exact hnew _ hg'
    · refine ⟨hg4.os.trans hG3.os, hg4.tape.trans hG3.tape, hg4.output.trans hG3.output, Nat.le_trans hG3.size hg4.size, fun i hi hit hDi => ?_, fun i cs T f hi hit hT => ?_⟩
      · exact (hg4.block i (Nat.lt_of_lt_of_le hi hG3.size) (by simpa using hit)).trans (hG3.block i hi (fun e => hDi (hD i e.symm)))
      · have hil := (Array.getElem?_eq_some_iff.1 hi).1
        refine (hg4.block i (Nat.lt_of_lt_of_le hil hG3.size) (by simpa using hit)).trans (hG3.block i hil (fun e => ?_))
        obtain ⟨cs', hc'⟩ := owns_at ho e.symm
        rw [hi] at hc'
        simp only [Option.some.injEq, Obj.cells.injEq] at hc'
        exact hT hc'.2.1
  have HPUT := Lib.hid hput
  have HMID := Lib.hid hmid
  have HLAST := Lib.hid hlast
  have HLN : Hid (∀ ys : List Nat, ys = bs ++ KM.nb 2 x.length → ys.length ≤ 1000000) := fun ys e => by rw [e, List.length_append, KM.nb_length]; omega
  clear hput hmid hlast hstay hb ho hD hvt hu hxlt hsrc hnew h h1 f0 f1 hlt hiu hz0 hz1 hz2 hLo hT8
  generalize bs.length = n at *
  go_enter Try.func58, Try.ntmps58
  go_wp2_with fail
  refine HPUT.out.mono ?_
  rintro e w2 ⟨a2, c2, ys, rfl, hys, ho2, hg2, hn2⟩
  obtain ⟨hu2, hc2, hf2⟩ := HMID.out a2 c2 ys w2 ho2 hg2 hn2
  have hyl := HLN.out ys hys
  have HO2 := Lib.hid ho2
  have HU2 := Lib.hid hu2
  have HL2 := Lib.hid (HLAST.out a2 c2 ys w2)
  have HG2 := Lib.hid hg2
  have HN2 := Lib.hid hn2
  have HYS := Lib.hid hys
  clear h0 hu2 ho2 hg2 hn2 hys HPUT HMID HLAST HLN
  go_wp2_with (at_builtin; refine wpList_append_own_src3 _ rfl _ _ 41 41 rfl 0 5 iu (.int .u8 0) 1 1 Try.underlying41 HI.out HZ0.out HZ1.out HZ2.out rfl _ _ _ rfl HO2.out _ x.length (u8vs x) rfl (HU2.out.src Try.underlying41) (by unfold maxLen; omega) (by omega) (Nat.zero_le _) (fun _ => True) (clean_any _ _) (fun _ _ => trivial) (fun _ _ => trivial) ?_)
  intro v' w3 ho3 hg3 hn3 _
  obtain ⟨a3, c3, rfl⟩ := owns_slice ho3
  obtain ⟨hc3, hf3⟩ := HSTAY.out w3 (grown_on HG2.out hg3 HN2.out)
  have HP := Lib.hid (fun w4 => HL2.out a3 c3 w3 (ys.length + x.length) w4 HYS.out HO2.out HG2.out HN2.out ho3 rfl hg3 hn3)
  clear ho3 hg3 hn3 hc2 hf2 HL2 HSTAY
  generalize ys.length + x.length = n3 at *
  go_wp2
  go_ret
  exact ⟨rfl, HP.out _ rfl⟩
end Go.Proofs.Ytohonjhfmmhgdaa
namespace Go.Proofs.Ytohonjhfmmhgdaa
set_option maxRecDepth 20000
open Go.RowKit Go.Deep
set_option linter.unusedVariables false
/-- v reads as l; its array in memory from B on, the rows in blocks of bytes. -/
def RwsB (w : World) (B : Nat) (v : Value) (l : List (List Nat)) : Prop :=
  (l = [] ∧ ∃ a cap, v = .slice a 0 cap) ∨
  ∃ b off cap, v = .slice (some ⟨b, off, none⟩) l.length cap ∧ l.length ≤ cap ∧ cap ≤ maxLen ∧ B ≤ b ∧ b < w.heap.size ∧ ∀ k, k < l.length → ∃ u, w.cell? ⟨b, off + k, none⟩ = some u ∧ RowB w u (l.getD k [])
theorem RwsB.old {w : World} {B : Nat} {v : Value} {l : List (List Nat)} (h : RwsB w B v l) : Rws w v l := by
  rcases h with h | ⟨b, off, cap, h1, h2, h3, _, h4, h5⟩
  · exact .inl h
  · exact .inr ⟨b, off, cap, h1, h2, h3, h4, fun k hk => by obtain ⟨u, h6, h7⟩ := h5 k hk; exact ⟨u, h6, h7.1⟩⟩
/-- Rows that a call answers, in memory of its own. -/
def LMade (w : World) (l : List (List Nat)) (e : Ending) (w' : World) : Prop := ∃ v, e = .returned v ∧ w.Extends w' ∧ RwsB w' w.heap.size v l
theorem LMade.old {w w' : World} {l : List (List Nat)} {e : Ending} (h : LMade w l e w') : MadeList w l e w' := by
  obtain ⟨v, h1, h2, h3⟩ := h
  exact ⟨v, h1, h2, h3.old⟩
theorem RwsB.ext {w w' : World} {B : Nat} {v : Value} {l : List (List Nat)} (h : RwsB w B v l) (hx : w.Extends w') : RwsB w' B v l := by
  rcases h with h | ⟨b, off, cap, h1, h2, h3, h6, h4, h5⟩
  · exact .inl h
  · exact .inr ⟨b, off, cap, h1, h2, h3, h6, Nat.lt_of_lt_of_le h4 hx.size, fun k hk => by obtain ⟨u, h7, h8⟩ := h5 k hk; exact ⟨u, hx.cell_of h7, h8.ext hx⟩⟩
/-- The rows of such a slice lie in memory from B on. -/
def LocN (w : World) (B : Nat) (v : Value) (k : Nat) : Prop := ∃ vs, w.ownsRow B 41 1 v k vs ∧ ∀ u ∈ vs, ∀ g, u.ownBlock = some g → B ≤ g
theorem LocN.nil (w : World) (B : Nat) : LocN w B (.slice none 0 0) 0 := ⟨[], World.ownsRow_nil _ _ _ _, fun u hu => by cases hu⟩
theorem LocN.ext {w w' : World} {B k : Nat} {v : Value} (h : LocN w B v k) (hx : w.Extends w') : LocN w' B v k := by
  obtain ⟨vs, ho, hr⟩ := h
  have hg : w.grownBy w' none := ⟨hx.os, hx.tape, hx.output, hx.size, fun i hi _ => hx.block i hi⟩
  exact ⟨vs, ho.kept hg (by cases v.ownBlock <;> simp), hr⟩
theorem owns_uniq {w : World} {B B' k : Nat} {T : TypeId} {v : Value} {vs vs' : List Value} (h : w.ownsRow B T 1 v k vs) (h' : w.ownsRow B' T 1 v k vs') : vs = vs' := by
  rcases h.2 with ⟨rfl, rfl⟩ | ⟨g, cap, cur, rfl, _, hg, _, _, _, ht⟩
  · have h1 := h.1
    have h2 := h'.1
    have e1 : vs = [] := List.eq_nil_of_length_eq_zero (by simpa using h1)
    have e2 : vs' = [] := List.eq_nil_of_length_eq_zero (by simpa using h2)
    rw [e1, e2]
  · rcases h'.2 with ⟨e, _⟩ | ⟨g', cap', cur', e, _, hg', _, _, _, ht'⟩
    · cases e
    · cases e
      rw [hg] at hg'
      simp only [Option.some.injEq, Obj.cells.injEq, and_true] at hg'
      rw [← ht, ← ht', hg']
theorem LocN.snoc {w w' : World} {B B' k : Nat} {v v' u : Value} {vs : List Value} (h : LocN w B v k) (ho : w.ownsRow B' 41 1 v k vs) (ho' : w'.ownsRow B 41 1 v' (k + 1) (vs ++ [u])) (hu : ∀ g, u.ownBlock = some g → B ≤ g) : LocN w' B v' (k + 1) := by
  obtain ⟨vs', h1, h2⟩ := h
  refine ⟨_, ho', fun x hx => ?_⟩
  rcases List.mem_append.1 hx with hx | hx
  · rw [owns_uniq ho h1] at hx; exact h2 x hx
  · rw [List.mem_singleton] at hx; subst hx; exact hu
theorem LocN.at_ {w : World} {B k b off n cap j : Nat} {u : Value} (h : LocN w B (.slice (some ⟨b, off, none⟩) n cap) k) (hj : j < k) (hc : w.cell? ⟨b, off + j, none⟩ = some u) : ∀ g, u.ownBlock = some g → B ≤ g := by
  obtain ⟨vs, ho, hr⟩ := h
  have hl : vs.length = k := by have := ho.1; simpa using this
  rcases ho.2 with ⟨e, _⟩ | ⟨g, cap', cur, e, _⟩
  · cases e
  · have e1 := e
    simp only [Value.slice.injEq, Option.some.injEq, Addr.mk.injEq, and_true] at e1
    obtain ⟨⟨e2, e3⟩, _⟩ := e1
    subst e2 e3
    have h1 := ho.cells (g := b) rfl j vs[j] (List.getElem?_eq_getElem (by omega))
    rw [Addr.add_mid] at h1
    rw [hc] at h1
    have e4 : u = vs[j] := by simpa using h1
    rw [e4]
    exact hr _ (List.getElem_mem _)
end Go.Proofs.Ytohonjhfmmhgdaa
namespace Go.Proofs.Ytohonjhfmmhgdaa
set_option maxRecDepth 20000
open Go.RowKit Go.Deep
set_option linter.unusedVariables false
theorem cut15_any (k : Int) (u : Nat) (w : World) (hk : -9223372036854775808 ≤ k ∧ k ≤ 9223372036854775807) (hu : u ≤ 1000000000) :
    Calls Try.prog 33 #[.int .i64 k, .int .i64 0, .int .i64 ((u : Nat) : Int)] w fun e w' => e = .returned (.int .i64 ((min k.toNat u : Nat) : Int)) ∧ w = w' := by
  by_cases h1 : k < 0
  · rw [show min k.toNat u = 0 by omega]
    go_enter Try.func33, Try.ntmps33
    go_wp2
    go_ret
    exact ⟨rfl, rfl⟩
  · obtain ⟨j, rfl⟩ := Int.eq_ofNat_of_zero_le (show 0 ≤ k by omega)
    rw [Int.toNat_natCast]
    by_cases h2 : u < j
    · rw [Nat.min_eq_right (by omega)]
      go_enter Try.func33, Try.ntmps33
      go_wp2
      go_ret
      exact ⟨rfl, rfl⟩
    · rw [Nat.min_eq_left (by omega)]
      go_enter Try.func33, Try.ntmps33
      go_wp2
      go_ret
      exact ⟨rfl, rfl⟩
end Go.Proofs.Ytohonjhfmmhgdaa
namespace Go.Proofs.Ytohonjhfmmhgdaa
set_option maxRecDepth 20000
open Go.RowKit Go.Deep Go.Maps
set_option linter.unusedVariables false
theorem RAt.least {w : World} {t o s : Nat} {L : List Value} {T : TypeId} {D : Nat → Prop} {bs : List Nat} (h : RAt w t o L T D bs s) : ∃ DB : Nat → Prop, RAt w t o L T DB bs s ∧ ∀ g, DB g → D g ∧ ∃ cs, w.heap[g]? = some (.cells cs 5 (0, 0)) := by
  obtain ⟨a, c, h1, h2, h3, h4, h5⟩ := h
  exact ⟨fun g => (Value.slice a bs.length c).ownBlock = some g, ⟨a, c, h1, h2, h3, h4, fun g hg => hg⟩, fun g hg => ⟨h5 g hg, owns_at h4 hg⟩⟩
/-- A store of the reference lies at block t, in blocks of D; DB: the block of its log's bytes; v1, v2: its symbols' and its tombstones' slices; ps, qs: these and their data. -/
structure RSX (w : World) (t : Nat) (D DB : Nat → Prop) (st : Sto) (v1 v2 : Value) (ps qs : List Pr) : Prop where
  log : RAt w t 3 [.int .i64 ((st.m : Nat) : Int), v1, v2] 54 DB (LM.spell st.lg) st.s
  here : D t
  own1 : OwnR w v1 ps
  own2 : OwnR w v2 qs
  recs1 : recs ps = st.l
  recs2 : recs qs = st.t
  in1 : ∀ g, v1.ownBlock = some g → D g
  in2 : ∀ g, v2.ownBlock = some g → D g
  inB : ∀ g, DB g → D g ∧ ∃ cs, w.heap[g]? = some (.cells cs 5 (0, 0))
  apart : ∀ g, v1.ownBlock = some g → v2.ownBlock ≠ some g
  data : Reads w D ps
  dataB : ∀ p ∈ ps, p.1.d = [] ∨ ∀ g, p.2.ownBlock = some g → ¬ DB g
def RSt (w : World) (t : Nat) (D : Nat → Prop) (st : Sto) : Prop := ∃ DB v1 v2 ps qs, RSX w t D DB st v1 v2 ps qs
theorem OwnR.at_ {w : World} {v : Value} {ps : List Pr} (h : OwnR w v ps) : ∀ k, k < ps.length → ∃ g, (∃ cap, v = .slice (some ⟨g, 0, none⟩) ps.length cap) ∧ w.rangeAt g (k * 10) ((ps.getD k zp).1.cells (ps.getD k zp).2) := fun k hk => by
  rcases h.kinds with ⟨rfl, rfl⟩ | ⟨g, cap, rfl⟩
  · simp at hk
  · exact ⟨g, ⟨cap, rfl⟩, h.arr.1.range hk⟩
theorem OwnR.block {w : World} {v : Value} {ps : List Pr} (h : OwnR w v ps) : ∀ g, v.ownBlock = some g → ∃ cs, w.heap[g]? = some (.cells cs 43 (0, 0)) := fun g hg => by
  rcases h.1.2 with ⟨rfl, _⟩ | ⟨g', cap, cur, rfl, _, hh, _⟩
  · cases hg
  · simp only [Value.ownBlock, Option.some.injEq] at hg
    subst hg
    exact ⟨cur, hh⟩
theorem OwnR.same {w w' : World} {v : Value} {ps : List Pr} (h : OwnR w v ps) (hb : ∀ g cs, v.ownBlock = some g → w.heap[g]? = some (.cells cs 43 (0, 0)) → w'.heap[g]? = w.heap[g]?) : OwnR w' v ps := by
  refine ⟨⟨h.1.1, ?_⟩, h.2⟩
  rcases h.1.2 with h4 | ⟨g, cap, cur, rfl, h1, hh, hrest⟩
  · exact .inl h4
  · exact .inr ⟨g, cap, cur, rfl, h1, (hb g cur rfl hh).trans hh, hrest⟩
section
variable {w w' : World} {t : Nat} {D D' DB : Nat → Prop} {st : Sto} {v1 v2 : Value} {ps qs : List Pr}
theorem RSX.lt (h : RSX w t D DB st v1 v2 ps qs) : t < w.heap.size := h.log.lt
theorem RSX.len1 (h : RSX w t D DB st v1 v2 ps qs) : ps.length = st.l.length := by rw [← h.recs1, recs_length]
theorem RSX.len2 (h : RSX w t D DB st v1 v2 ps qs) : qs.length = st.t.length := by rw [← h.recs2, recs_length]
theorem RSX.mono (h : RSX w t D DB st v1 v2 ps qs) (hD : ∀ i, D i → D' i) : RSX w t D' DB st v1 v2 ps qs :=
  ⟨h.log, hD _ h.here, h.own1, h.own2, h.recs1, h.recs2, fun g hg => hD g (h.in1 g hg), fun g hg => hD g (h.in2 g hg), fun g hg => ⟨hD g (h.inB g hg).1, (h.inB g hg).2⟩, h.apart, h.data.mono hD, h.dataB⟩
theorem RSt.mono (h : RSt w t D st) (hD : ∀ i, D i → D' i) : RSt w t D' st := by
  obtain ⟨DB, v1, v2, ps, qs, h⟩ := h
  exact ⟨DB, v1, v2, ps, qs, h.mono hD⟩
/-- It stays where none of its blocks is written. -/
theorem RSX.away (h : RSX w t D DB st v1 v2 ps qs) (hs : w.heap.size ≤ w'.heap.size) (hb : ∀ g, D g → g < w.heap.size → w'.heap[g]? = w.heap[g]?) : RSX w' t D DB st v1 v2 ps qs := by
  have hlt : ∀ g cs (T : TypeId) f, w.heap[g]? = some (.cells cs T f) → g < w.heap.size := fun g cs T f hg => (Array.getElem?_eq_some_iff.1 hg).1
  refine ⟨h.log.keep (hb t h.here h.lt) (fun g cs hg hc => hb g (h.inB g hg).1 (hlt g _ _ _ hc)), h.here, h.own1.same (fun g cs hg hc => hb g (h.in1 g hg) (hlt g _ _ _ hc)), h.own2.same (fun g cs hg hc => hb g (h.in2 g hg) (hlt g _ _ _ hc)), h.recs1, h.recs2, h.in1, h.in2, fun g hg => ?_, h.apart, fun p hp' => (h.data p hp').same hs fun g cs f hg hc => hb g hg (hlt g _ _ _ hc), h.dataB⟩
  obtain ⟨h1, cs, h2⟩ := h.inB g hg
  exact ⟨h1, cs, (hb g h1 (hlt g _ _ _ h2)).trans h2⟩
theorem RSt.away (h : RSt w t D st) (hs : w.heap.size ≤ w'.heap.size) (hb : ∀ g, D g → g < w.heap.size → w'.heap[g]? = w.heap[g]?) : RSt w' t D st := by
  obtain ⟨DB, v1, v2, ps, qs, h⟩ := h
  exact ⟨DB, v1, v2, ps, qs, h.away hs hb⟩
theorem RSX.ext (h : RSX w t D DB st v1 v2 ps qs) (hx : w.Extends w') : RSX w' t D DB st v1 v2 ps qs := h.away hx.size fun g _ hg => hx.block g hg
theorem RSt.ext (h : RSt w t D st) (hx : w.Extends w') : RSt w' t D st := by
  obtain ⟨DB, v1, v2, ps, qs, h⟩ := h
  exact ⟨DB, v1, v2, ps, qs, h.ext hx⟩
theorem RSX.cells (h : RSX w t D DB st v1 v2 ps qs) : ∃ a c, w.heap[t]? = some (.cells #[.int .i64 ((st.m : Nat) : Int), v1, v2, .slice a (LM.spell st.lg).length c, .int .i64 ((st.s : Nat) : Int)] 54 (0, 0)) ∧ w.cell? ⟨t, 0, none⟩ = some (.int .i64 ((st.m : Nat) : Int)) ∧ w.cell? ⟨t, 1, none⟩ = some v1 ∧ w.cell? ⟨t, 2, none⟩ = some v2 ∧ w.cell? ⟨t, 3, none⟩ = some (.slice a (LM.spell st.lg).length c) ∧ w.frozen? ⟨t, 1, none⟩ = false ∧ w.frozen? ⟨t, 2, none⟩ = false := by
  obtain ⟨a, c, h1, _⟩ := h.log
  exact ⟨a, c, h1, by rw [cell_of_row _ _ _ _ _ _ h1]; rfl, by rw [cell_of_row _ _ _ _ _ _ h1]; rfl, by rw [cell_of_row _ _ _ _ _ _ h1]; rfl, by rw [cell_of_row _ _ _ _ _ _ h1]; rfl, frozen_of_row _ _ _ _ _ h1, frozen_of_row _ _ _ _ _ h1⟩
/-- Another slice of symbols, or of tombstones. -/
theorem RAt.front {w w' : World} {t s i : Nat} {a b c x : Value} {T : TypeId} {DB : Nat → Prop} {bs : List Nat} (h : RAt w t 3 [a, b, c] T DB bs s) (hi : i < 3) (hw : w' = w.setCell ⟨t, i, none⟩ x) : RAt w' t 3 ([a, b, c].set i x) T DB bs s ∧ w.grownBy w' (some t) := by
  obtain ⟨sa, sc, h1, h2, h3, h4, h5⟩ := h
  have hg : w.grownBy w' (some t) := by subst hw; exact grown_set _ _ _ _
  refine ⟨⟨sa, sc, ?_, by simp, h3, h4.kept hg ?_, h5⟩, hg⟩
  · subst hw
    rw [heap_setCell_same _ _ _ _ _ _ h1]
    obtain rfl | rfl | rfl : i = 0 ∨ i = 1 ∨ i = 2 := by omega
    all_goals rfl
  · cases hv : (Value.slice sa bs.length sc).ownBlock with
    | none => exact .inl rfl
    | some g =>
      refine .inr fun e => ?_
      obtain ⟨cs, hc⟩ := owns_at h4 hv
      have e' := Option.some.inj e
      subst e'
      rw [h1] at hc
      simp only [Option.some.injEq, Obj.cells.injEq] at hc
      exact absurd hc.2.1 h3
end
theorem cut1000_any (k : Int) (w : World) (hk : -9223372036854775808 ≤ k ∧ k ≤ 9223372036854775807) :
    Calls Try.prog 33 #[.int .i64 k, .int .i64 0, .int .i64 1000] w fun e w' => e = .returned (.int .i64 ((SM.cut k : Nat) : Int)) ∧ w = w' := by
  refine (cut15_any k 1000 w hk (by omega)).mono ?_
  rintro e w' ⟨rfl, rfl⟩
  refine ⟨?_, rfl⟩
  have : min k.toNat 1000 = SM.cut k := by unfold SM.cut; split <;> (try split) <;> omega
  rw [this]
theorem rnew16_any (x : Int) (w : World) (hx : -9223372036854775808 ≤ x ∧ x ≤ 9223372036854775807) :
    Calls Try.prog 9 #[.int .i64 x] w fun e w' => ∃ t, e = .returned (.pointer (some ⟨t, 0, none⟩)) ∧ w.Extends w' ∧ RSt w' t (fun i => w.heap.size ≤ i ∧ i < w'.heap.size) (SM.new x) := by
  have HC : Hid (∀ w', Calls Try.prog 33 #[.int .i64 x, .int .i64 0, .int .i64 1000] w' fun e w2 => e = .returned (.int .i64 ((SM.cut x : Nat) : Int)) ∧ w' = w2) := fun w' => cut1000_any x w' hx
  have HP : Hid (∀ w', w' = w.alloc (.cells #[.int .i64 ((SM.cut x : Nat) : Int), .slice none 0 0, .slice none 0 0, .slice none 0 0, .int .i64 0] 54) → w.Extends w' ∧ RSt w' w.heap.size (fun i => w.heap.size ≤ i ∧ i < w'.heap.size) (SM.new x)) := fun w' e => by
    subst e
    exact ⟨ext_alloc _ _, fun _ => False, .slice none 0 0, .slice none 0 0, [], [], ⟨⟨none, 0, heap_alloc_new _ _, rfl, by decide, World.ownsRow_nil _ _ _ _, fun g hg => (nomatch hg)⟩, by simp, OwnR.nil _, OwnR.nil _, rfl, rfl, fun g hg => (nomatch hg), fun g hg => (nomatch hg), fun g hg => hg.elim, fun g hg => (nomatch hg), fun p hp => (nomatch hp), fun p hp => (nomatch hp)⟩⟩
  generalize SM.cut x = q at *
  go_enter Try.func9, Try.ntmps9
  go_wp2_with fail
  refine (HC.out w).mono ?_
  rintro e w2 ⟨rfl, rfl⟩
  go_wp2
  go_ret
  exact ⟨_, rfl, HP.out _ rfl⟩
end Go.Proofs.Ytohonjhfmmhgdaa
namespace Go.Proofs.Ytohonjhfmmhgdaa
set_option maxRecDepth 20000
open Go.RowKit Go.Deep Go.Maps
set_option linter.unusedVariables false
/-- What a call leaves of a store of the reference. -/
def RLeft (w : World) (t : Nat) (D : Nat → Prop) (st : Sto) (w' : World) : Prop := RSt w' t (Nx D w w') st ∧ Fr D w w'
theorem RLeft.ext {w w' : World} {t : Nat} {D : Nat → Prop} {st : Sto} (h : RSt w t D st) (hx : w.Extends w') : RLeft w t D st w' := ⟨(h.ext hx).mono fun i hi => .inl hi, Fr.ext hx⟩
theorem RLeft.next {a b c : World} {t : Nat} {D : Nat → Prop} {st st' : Sto} (h : RLeft a t D st b) (k : RLeft b t (Nx D a b) st' c) : RLeft a t D st' c := ⟨k.1.mono fun i hi => Nx.next h.2.size k.2.size hi, h.2.next k.2⟩
/-- A slice of records of a call's own, in memory from B on. -/
def OwnB (w : World) (B : Nat) (v : Value) (ps : List Pr) : Prop := w.ownsRow B 43 10 v ps.length (flat ps) ∧ ∀ p ∈ ps, Slc p
theorem OwnB.nil (w : World) (B : Nat) : OwnB w B (.slice none 0 0) [] := ⟨World.ownsRow_nil _ _ _ _, fun p hp => by cases hp⟩
theorem OwnB.own {w : World} {B : Nat} {v : Value} {ps : List Pr} (h : OwnB w B v ps) : OwnR w v ps := by
  refine ⟨⟨h.1.1, ?_⟩, h.2⟩
  rcases h.1.2 with h4 | ⟨g, cap, cur, e, _, hrest⟩
  · exact .inl h4
  · exact .inr ⟨g, cap, cur, e, Nat.zero_le _, hrest⟩
theorem OwnB.ext {w w' : World} {B : Nat} {v : Value} {ps : List Pr} (h : OwnB w B v ps) (hx : w.Extends w') : OwnB w' B v ps := by
  have hg : w.grownBy w' none := ⟨hx.os, hx.tape, hx.output, hx.size, fun i hi _ => hx.block i hi⟩
  exact ⟨h.1.kept hg (by cases v.ownBlock <;> simp), h.2⟩
theorem OwnB.slice {w : World} {B : Nat} {v : Value} {ps : List Pr} (h : OwnB w B v ps) : ∃ a cap, v = .slice a ps.length cap := h.own.slice
theorem OwnB.snoc {w' : World} {B : Nat} {v' : Value} {ps : List Pr} {p : Pr} (hs : ∀ q ∈ ps, Slc q) (hp : Slc p) (ho : w'.ownsRow B 43 10 v' (ps.length + 1) (flat ps ++ p.1.cells p.2)) : OwnB w' B v' (ps ++ [p]) := by
  refine ⟨?_, fun q hq => ?_⟩
  · rw [flat_append, List.length_append]
    have e : flat [p] = p.1.cells p.2 := by rw [flat_cons, flat_nil, List.append_nil]
    rw [e]
    exact ho
  · rcases List.mem_append.1 hq with hq | hq
    · exact hs q hq
    · rw [List.mem_singleton] at hq; subst hq; exact hp
theorem fl_mem {q : Rc → Bool} {ps : List Pr} : ∀ p ∈ ps.filter (fun p => !q p.1), p ∈ ps := fun p hp => (List.mem_filter.1 hp).1
end Go.Proofs.Ytohonjhfmmhgdaa
