/- In one text: RefGet, RecSame, SameRecs, StoSame, StoCrashW. -/
import Derived.Deep.DeepCutAuto
import Derived.Handy
import Derived.Lib.Hide
import Derived.Test.YtdbdnfjgmdkneaaMB1
import Derived.Test.YtdbdnfjgmdkneaaMB2
import Derived.Test.YtdbdnfjgmdkneaaMB5
import Derived.Test.YtdbdnfjgmdkneaaMB14
import Derived.Test.YtdbdnfjgmdkneaaMB19
import Derived.Test.YtdbdnfjgmdkneaaMB23
namespace Go.Proofs.Ytdbdnfjgmdkneaa
set_option maxRecDepth 20000
open Go.RowKit Go.Deep Go.Maps
set_option linter.unusedVariables false
set_option maxHeartbeats 2000000 in
theorem rget16_any (t : Nat) (D : Nat → Prop) (st : Sto) (r : Rc) (w : World) (h : RSt w t D st) (hl : st.l.length ≤ 1000) (hs : ∀ x ∈ st.l, x.d.length ≤ 64) :
    Calls Try.prog 44 #[.pointer (some ⟨t, 0, none⟩), .agg #[.int .i64 r.p, .int .i64 r.n]] w (RcsOut w (st.l.filter (isOf r))) := by
  obtain ⟨DB, v1, v2, ps, qs, h⟩ := h
  have HAT := Lib.hid h.own1.at_
  have HSL : Hid (∀ k, k < ps.length → Slc (ps.getD k zp)) := fun k hk => h.own1.2 _ (getD_mem hk)
  have HDT : Hid (∀ k, k < ps.length → U8s w (ps.getD k zp).2 (ps.getD k zp).1.d ∧ (ps.getD k zp).1.d.length ≤ 64) := fun k hk => by
    have hm : (ps.getD k zp).1 ∈ st.l := by rw [← h.recs1]; exact List.mem_map.2 ⟨_, getD_mem hk, rfl⟩
    exact ⟨(h.data _ (getD_mem hk)).1, hs _ hm⟩
  obtain ⟨sa, sc, hb, c0, c1, c2, c3, f1, f2⟩ := h.cells
  have HC := Lib.hid c1
  have HY : Hid (∀ k, k < ps.length → isOf r (ps.getD k zp).1 = true → getTo r ps (k + 1) = getTo r ps k ++ [(ps.getD k zp).1]) := fun k hk hq => getTo_yes hk hq
  have HN : Hid (∀ k, k < ps.length → isOf r (ps.getD k zp).1 = false → getTo r ps (k + 1) = getTo r ps k) := fun k hk hq => getTo_no hk hq
  have HLE := Lib.hid (getTo_le r ps)
  have HG0 : Hid (getTo r ps 0 = []) := by show _ = _; simp [getTo]
  have HGN : Hid (getTo r ps ps.length = st.l.filter (isOf r)) := by
    unfold getTo; rw [List.take_length, ← h.recs1]; rfl
  have HIS : Hid (∀ x : Rc, isOf r x = decide (x.p = r.p ∧ x.n = r.n)) := fun x => rfl
  rw [← h.len1] at hl
  obtain ⟨a, cap, rfl⟩ := h.own1.slice
  obtain ⟨i2, hi', hz0', hz1', hz2'⟩ := info_parts recinfo
  have HI' := Lib.hid hi'; clear hi'
  have HZ0' := Lib.hid hz0'; clear hz0'
  have HZ1' := Lib.hid hz1'; clear hz1'
  have HZ2' := Lib.hid hz2'; clear hz2'
  clear h hb c0 c1 c2 c3 f1 f2 hs
  generalize ps.length = n at *
  generalize st.l.filter (isOf r) = L at *
  generalize r.p = rp at *
  generalize r.n = rn at *
  generalize getTo r ps = G at *
  go_enter Try.func44, Try.ntmps44
  go_upto_region 1 with fail
  generalize hw1 : World.alloc w _ = w1
  have hx1 : w.Extends w1 := by subst hw1; exact ext_alloc _ _
  obtain ⟨d0, d1⟩ : w1.cell? ⟨w.heap.size, 0, none⟩ = some (.int .i64 rp) ∧ w1.cell? ⟨w.heap.size, 1, none⟩ = some (.int .i64 rn) := by subst hw1; exact box_id w 23 rp rn
  have HX1 := Lib.hid hx1
  have HD0 := Lib.hid d0
  have HD1 := Lib.hid d1
  have hc := hx1.cell_of HC.out
  clear hw1 hx1 d0 d1
  generalize w.heap.size = y at *
  go_wp2_with fail
  go_loopw [5, 6] (fun s5 s6 wr => ∃ k : Nat, k ≤ n ∧ s6 = .int .i64 k ∧ Hid (w1.Extends wr) ∧ Hid (RMats wr w1.heap.size 0 s5 (G k).length (G k))) (fun _ s6 _ => n - (intOf s6).toNat)
  case atStart => exact ⟨0, by omega, rfl, Gr.ext_refl _, by rw [HG0.out]; exact RMats.nil _ _ _ _⟩
  case round =>
    clear hc
    obtain ⟨k, hk, rfl, HX, HM⟩ := hrel
    have e1 := HX.out.cell_of (HX1.out.cell_of HC.out)
    by_cases h1 : k < n
    · obtain ⟨g, ⟨cap', e⟩, hr⟩ := HAT.out k h1
      cases e
      have HRG : Hid (∀ w', wr.Extends w' → w'.rangeAt g (k * 10) ((ps.getD k zp).1.cells (ps.getD k zp).2) ∧ w'.cell? ⟨t, 1, none⟩ = some (.slice (some ⟨g, 0, none⟩) n cap) ∧ w'.cell? ⟨y, 0, none⟩ = some (.int .i64 rp) ∧ w'.cell? ⟨y, 1, none⟩ = some (.int .i64 rn)) := fun w' hx => by
        have h2 := Gr.ext_trans HX.out hx
        exact ⟨rangeAt_ext hr (Gr.ext_trans HX1.out h2), h2.cell_of (HX1.out.cell_of HC.out), h2.cell_of HD0.out, h2.cell_of HD1.out⟩
      have HSK := Lib.hid (HSL.out k h1)
      have HDK := Lib.hid (HDT.out k h1)
      have HYK := Lib.hid (HY.out k h1)
      have HNK := Lib.hid (HN.out k h1)
      have HLK := Lib.hid (HLE.out k)
      have HISK := Lib.hid (HIS.out (ps.getD k zp).1)
      have HXD := Lib.hid (Gr.ext_drew (Gr.ext_refl wr))
      clear hr
      generalize ps.getD k zp = p at *
      obtain ⟨⟨xp, xn, xb, xs, xm, xk, xe, xg, xu, xd⟩, u⟩ := p
      obtain ⟨ua, uc, hu⟩ := HSK.out
      simp only at hu
      subst hu
      obtain ⟨va, vc, rfl⟩ := HM.out.slice
      go_wp2_with fail
      refine Gr.region 9 [(false,0),(false,1),(false,2),(false,3),(false,4),(false,5),(false,6),(false,7),(false,8)] (by kernel_rfl) (by kernel_rfl) (fun d _ _ _ _ h => by cases d <;> exact h) ?_
      simp only [Gr.pick, List.getElem?_cons_zero, List.getElem?_cons_succ, List.drop_succ_cons, List.drop_zero]
      have HMD : Hid (RMats wr.drew w1.heap.size 0 (.slice va (G k).length vc) (G k).length (G k)) := HM.out.ext HXD.out
      have HXF : Hid (w1.Extends wr.drew) := Gr.ext_trans HX.out HXD.out
      generalize wr.drew = wd at *
      iterate 9
        refine Gr.walk_t ?_ (Or.inl ⟨by rfl, ?_⟩) ?_
        rotate_left
        · intro w' hw'
          obtain ⟨hr, b0, d0, d1⟩ := HRG.out w' (Gr.ext_trans HXD.out hw')
          obtain ⟨c0, c1, c2, c3, c4, c5, c6, c7, c8, c9⟩ := RCell.ten hr
          clear hw'
          go_simp
          try with_reducible rfl
        simp only [Act.put, List.setIfInBounds_toArray, List.set_cons_zero, List.set_cons_succ]
      refine Gr.walk_nil ?_
      by_cases hid : xp = rp ∧ xn = rn
      · have hG := HYK.out (by rw [HISK.out]; exact decide_eq_true hid)
        obtain ⟨rfl, rfl⟩ := hid
        have HGK := Lib.hid hG
        have HCL := Lib.hid (copyrec_any ⟨xp, xn, xb, xs, xm, xk, xe, xg, xu, xd⟩ ua uc wd (HDK.out.1.ext (Gr.ext_trans HX1.out HXF.out)) (by have h64 : xd.length ≤ 64 := HDK.out.2; show xd.length ≤ 1000000; omega))
        obtain ⟨hr, b0, d0, d1⟩ := HRG.out wd HXD.out
        obtain ⟨c0, c1, c2, c3, c4, c5, c6, c7, c8, c9⟩ := RCell.ten hr
        simp only at c0 c1 c2 c3 c4 c5 c6 c7 c8 c9
        clear hr HRG HYK HNK HISK hG HDK HX HM
        go_wp2_with fail
        refine HCL.out.mono ?_
        rintro e w6 ⟨a2, c2', rfl, hcp⟩
        have HRK : Hid (RowOk w6 0 (.slice a2 xd.length c2') xd) := copy_rok hcp
        have hx6 : wd.Extends w6 := by obtain ⟨_, _, _, hx6, _⟩ := hcp; exact hx6
        have HX6 := Lib.hid (Gr.ext_trans HXF.out hx6)
        have HM6 := Lib.hid (HMD.out.ext hx6)
        clear hcp hx6 c0 c1 c2 c3 c4 c5 c6 c7 c8 c9 b0 d0 d1 HCL HMD HXF
        simp only [Rc.val]
        have hx8 : w6.Extends (w6.alloc (.cells (Rc.cells ⟨xp, xn, xb, xs, xm, xk, xe, xg, xu, xd⟩ (.slice a2 xd.length c2')).toArray 28)) := ext_alloc _ _
        have HSRC : Hid (Src Try.prog 10 47 (.slice (some ⟨w6.heap.size, 0, none⟩) 1 1) 1 (Rc.cells ⟨xp, xn, xb, xs, xm, xk, xe, xg, xu, xd⟩ (.slice a2 xd.length c2')) (w6.alloc (.cells (Rc.cells ⟨xp, xn, xb, xs, xm, xk, xe, xg, xu, xd⟩ (.slice a2 xd.length c2')).toArray 28))) := src_rec (r := ⟨xp, xn, xb, xs, xm, xk, xe, xg, xu, xd⟩) Try.underlying47 _ _ rfl rfl
        have HM8 := Lib.hid (HM6.out.ext hx8)
        have HRK8 := Lib.hid (HRK.out.ext hx8)
        have HX8 := Lib.hid (Gr.ext_trans HX6.out hx8)
        obtain ⟨vs, hown, hrows⟩ := HM8.out
        have HOWN := Lib.hid hown
        have HROWS := Lib.hid hrows
        have HOB : Hid (∀ g, (Value.slice va (G k).length vc).ownBlock = some g → w1.heap.size ≤ g) := fun g hg => (HOWN.out.lt g hg).1
        have hbs := HX8.out.size
        have hgk := HLK.out
        clear hx8 hown hrows HM8 HM6 HX6 HRK
        generalize hgl : (G k).length = gl at *
        have HGL := Lib.hid hgl
        clear hgl
        go_wp2_with (at_builtin; refine wpList_append_own_src _ rfl _ _ 47 47 rfl w1.heap.size 28 i2 (Rc.zero.val (.slice none 0 0)) 10 96 Try.underlying47 HI'.out HZ0'.out HZ1'.out HZ2'.out rfl _ _ _ rfl HOWN.out _ 1 (Rc.cells ⟨xp, xn, xb, xs, xm, xk, xe, xg, xu, xd⟩ (.slice a2 xd.length c2')) rfl HSRC.out (by unfold maxLen; omega) (by omega) hbs ?_)
        intro v' w9 ho9 hg9 _
        have HP : Hid (w1.Extends w9 ∧ RMats w9 w1.heap.size 0 v' (G (k + 1)).length (G (k + 1))) := by
          refine ⟨HX8.out.grown hg9 HOB.out, ?_⟩
          rw [HGK.out, List.length_append, HGL.out]
          exact RMats.snoc (Nat.zero_le _) HGL.out.symm HOWN.out HROWS.out HRK8.out hg9 ho9
        clear ho9 hg9 HSRC HOWN HROWS HOB HX8 HRK8
        go_wp2
        go_roundw
        case rel => exact ⟨k + 1, by omega, by go_num, Lib.hid HP.out.1, Lib.hid HP.out.2⟩
        case measure => simp [intOf]; omega
      · have hG := HNK.out (by rw [HISK.out]; exact decide_eq_false hid)
        have HGK : Hid (RMats wd w1.heap.size 0 (.slice va (G k).length vc) (G (k + 1)).length (G (k + 1))) := by rw [hG]; exact HMD.out
        clear HYK HNK HISK hG HMD HM HRG
        by_cases hp : xp = rp
        · have hn : ¬ xn = rn := fun e => hid ⟨hp, e⟩
          subst hp
          clear hid
          go_wp2
          go_roundw
          case rel => exact ⟨k + 1, by omega, by go_num, HXF, HGK⟩
          case measure => simp [intOf]; omega
        · clear hid
          go_wp2
          go_roundw
          case rel => exact ⟨k + 1, by omega, by go_num, HXF, HGK⟩
          case measure => simp [intOf]; omega
    · obtain rfl : k = n := by omega
      obtain ⟨va, vc, rfl⟩ := HM.out.slice
      have HP : Hid (RcsOut w L (.returned (.slice va (G k).length vc)) wr) := by
        refine ⟨_, rfl, Gr.ext_trans HX1.out HX.out, ?_⟩
        rw [← HGN.out]
        exact HM.out.recs rfl
      clear HM
      generalize (G k).length = gl at *
      go_wp2
      go_ret
      exact HP.out
end Go.Proofs.Ytdbdnfjgmdkneaa
namespace Go.Proofs.Ytdbdnfjgmdkneaa
set_option maxRecDepth 20000
open Go.RowKit Go.Deep
set_option linter.unusedVariables false
theorem conv_ob {w : World} {v : Value} {xs : List Nat} (h : U8s w v xs) : (convert 26 9 v).run Try.prog w = .ok (.string (strOf xs)) w := conv_any h _ _ _ Try.underlying26 Try.underlying5 Try.underlying9
set_option maxHeartbeats 1000000 in
theorem same_rec (r : Rc) (a a' : Option Addr) (c c' : Nat) (w : World) (hu : U8s w (.slice a r.d.length c) r.d) (hu' : U8s w (.slice a' r.d.length c') r.d) :
    Calls Try.prog 20 #[r.val (.slice a r.d.length c), r.val (.slice a' r.d.length c')] w fun e w' => e = .returned (.bool true) ∧ w.Extends w' := by
  obtain ⟨p, n, b, s, m, k, e, g, u, d⟩ := r
  have HU : Hid (U8s w (.slice a d.length c) d) := hu
  have HU' : Hid (U8s w (.slice a' d.length c') d) := hu'
  clear hu hu'
  show Calls Try.prog 20 #[.agg #[.int .i64 p, .int .i64 n, .int .i64 b, .int .i64 s, .int .i64 m, .int .i64 k, .int .i64 e, .bool g, .int .i64 u, .slice a d.length c], .agg #[.int .i64 p, .int .i64 n, .int .i64 b, .int .i64 s, .int .i64 m, .int .i64 k, .int .i64 e, .bool g, .int .i64 u, .slice a' d.length c']] w _
  go_enter Try.func20, Try.ntmps20
  go_upto_region 1 with fail
  generalize hw1 : World.alloc w _ = w1
  generalize hw2 : World.alloc w1 _ = w2
  have hs1 : w1.heap.size = w.heap.size + 1 := by subst hw1; simp
  have hx1 : w.Extends w1 := by subst hw1; exact ext_alloc _ _
  have hx2 : w1.Extends w2 := by subst hw2; exact ext_alloc _ _
  have hb1 : w1.rangeAt w.heap.size 0 (Rc.cells ⟨p, n, b, s, m, k, e, g, u, d⟩ (.slice a d.length c)) := by subst hw1; exact box_rec w 28 ⟨p, n, b, s, m, k, e, g, u, d⟩ _
  have hb2 : w2.rangeAt w1.heap.size 0 (Rc.cells ⟨p, n, b, s, m, k, e, g, u, d⟩ (.slice a' d.length c')) := by subst hw2; exact box_rec w1 28 ⟨p, n, b, s, m, k, e, g, u, d⟩ _
  have hb1' := rangeAt_ext hb1 hx2
  rw [hs1] at hb2
  clear hw1 hw2 hb1 hs1
  have hx := Gr.ext_trans hx1 hx2
  have hv1 := conv_ob (HU.out.ext hx)
  have hv2 := conv_ob (HU'.out.ext hx)
  generalize w.heap.size = x at *
  have a0 : w2.cell? ⟨x, 0, none⟩ = some (.int .i64 p) := hb1' 0 _ rfl
  have a1 : w2.cell? ⟨x, 1, none⟩ = some (.int .i64 n) := hb1' 1 _ rfl
  have a2 : w2.cell? ⟨x, 2, none⟩ = some (.int .i64 b) := hb1' 2 _ rfl
  have a3 : w2.cell? ⟨x, 3, none⟩ = some (.int .i64 s) := hb1' 3 _ rfl
  have a4 : w2.cell? ⟨x, 4, none⟩ = some (.int .i64 m) := hb1' 4 _ rfl
  have a5 : w2.cell? ⟨x, 5, none⟩ = some (.int .i64 k) := hb1' 5 _ rfl
  have a6 : w2.cell? ⟨x, 6, none⟩ = some (.int .i64 e) := hb1' 6 _ rfl
  have a7 : w2.cell? ⟨x, 7, none⟩ = some (.bool g) := hb1' 7 _ rfl
  have a8 : w2.cell? ⟨x, 8, none⟩ = some (.int .i64 u) := hb1' 8 _ rfl
  have a9 : w2.cell? ⟨x, 9, none⟩ = some (.slice a d.length c) := hb1' 9 _ rfl
  have b0 : w2.cell? ⟨x + 1, 0, none⟩ = some (.int .i64 p) := hb2 0 _ rfl
  have b1 : w2.cell? ⟨x + 1, 1, none⟩ = some (.int .i64 n) := hb2 1 _ rfl
  have b2 : w2.cell? ⟨x + 1, 2, none⟩ = some (.int .i64 b) := hb2 2 _ rfl
  have b3 : w2.cell? ⟨x + 1, 3, none⟩ = some (.int .i64 s) := hb2 3 _ rfl
  have b4 : w2.cell? ⟨x + 1, 4, none⟩ = some (.int .i64 m) := hb2 4 _ rfl
  have b5 : w2.cell? ⟨x + 1, 5, none⟩ = some (.int .i64 k) := hb2 5 _ rfl
  have b6 : w2.cell? ⟨x + 1, 6, none⟩ = some (.int .i64 e) := hb2 6 _ rfl
  have b7 : w2.cell? ⟨x + 1, 7, none⟩ = some (.bool g) := hb2 7 _ rfl
  have b8 : w2.cell? ⟨x + 1, 8, none⟩ = some (.int .i64 u) := hb2 8 _ rfl
  have b9 : w2.cell? ⟨x + 1, 9, none⟩ = some (.slice a' d.length c') := hb2 9 _ rfl
  have HX := Lib.hid hx
  clear hb1' hb2 HU HU' hx1 hx2 hx
  generalize strOf d = sd at *
  generalize d.length = dl at *
  go_wp2
  go_ret
  exact ⟨by cases g <;> rfl, HX.out⟩
end Go.Proofs.Ytdbdnfjgmdkneaa
namespace Go.Proofs.Ytdbdnfjgmdkneaa
set_option maxRecDepth 20000
open Go.RowKit Go.Deep
set_option linter.unusedVariables false
set_option maxHeartbeats 1000000 in
theorem same_recs (v v' : Value) (l : List Rc) (w : World) (hv : Recs w v l) (hv' : Recs w v' l) :
    Calls Try.prog 42 #[v, v'] w fun e w' => e = .returned (.bool true) ∧ w.Extends w' := by
  obtain ⟨a, c, rfl⟩ := hv.slice
  obtain ⟨a', c', rfl⟩ := hv'.slice
  have HV := Lib.hid hv.at.2
  have HV' := Lib.hid hv'.at.2
  have hm := hv.len
  unfold maxLen at hm
  clear hv hv'
  generalize l.length = n at *
  go_enter Try.func42, Try.ntmps42
  go_wp2_with fail
  go_loopw [5] (fun i wr => ∃ q : Nat, q ≤ n ∧ i = .int .i64 q ∧ Hid (w.Extends wr)) (fun i _ => (n - intOf i).toNat)
  case atStart => exact ⟨0, by omega, rfl, Lib.hid (Gr.ext_refl _)⟩
  case round =>
    obtain ⟨q, hq, rfl, HX⟩ := hrel
    by_cases h : q < n
    · obtain ⟨b1, o1, rfl, hb1, hc1⟩ := HV.out (by omega)
      obtain ⟨b2, o2, rfl, hb2, hc2⟩ := HV'.out (by omega)
      obtain ⟨ra, rc, hr, hu⟩ := hc1 q h
      obtain ⟨ra', rc', hr', hu'⟩ := hc2 q h
      have hrr := rangeAt_ext hr (Gr.ext_drew HX.out)
      have hrr' := rangeAt_ext hr' (Gr.ext_drew HX.out)
      have HU := Lib.hid (hu.ext (Gr.ext_drew HX.out))
      have HU' := Lib.hid (hu'.ext (Gr.ext_drew HX.out))
      clear hc1 hc2 hr hr' hu hu'
      generalize l.getD q Rc.zero = r at *
      have HSR : Hid (∀ w1, wr.drew.Extends w1 → Calls Try.prog 20 #[r.val (.slice ra r.d.length rc), r.val (.slice ra' r.d.length rc')] w1 fun e w' => e = .returned (.bool true) ∧ w1.Extends w') := fun w1 hx => same_rec r ra ra' rc rc' w1 (HU.out.ext hx) (HU'.out.ext hx)
      obtain ⟨p, n', b, s, m, k, e, g, u, d⟩ := r
      have HT := Lib.hid (RCell.ten hrr)
      have HT' := Lib.hid (RCell.ten hrr')
      clear hrr hrr' HU HU'
      have HSR2 : Hid (∀ w1, wr.drew.Extends w1 → Calls Try.prog 20 #[.agg #[.int .i64 p, .int .i64 n', .int .i64 b, .int .i64 s, .int .i64 m, .int .i64 k, .int .i64 e, .bool g, .int .i64 u, .slice ra d.length rc], .agg #[.int .i64 p, .int .i64 n', .int .i64 b, .int .i64 s, .int .i64 m, .int .i64 k, .int .i64 e, .bool g, .int .i64 u, .slice ra' d.length rc']] w1 fun e w' => e = .returned (.bool true) ∧ w1.Extends w') := HSR.out
      have HCF : Hid (∀ w', wr.drew.Extends w' → (w'.cell? ⟨b1, o1 + q * 10, none⟩ = some (.int .i64 p) ∧ w'.cell? ⟨b1, o1 + q * 10 + 1, none⟩ = some (.int .i64 n') ∧ w'.cell? ⟨b1, o1 + q * 10 + 2, none⟩ = some (.int .i64 b) ∧ w'.cell? ⟨b1, o1 + q * 10 + 3, none⟩ = some (.int .i64 s) ∧ w'.cell? ⟨b1, o1 + q * 10 + 4, none⟩ = some (.int .i64 m) ∧ w'.cell? ⟨b1, o1 + q * 10 + 5, none⟩ = some (.int .i64 k) ∧ w'.cell? ⟨b1, o1 + q * 10 + 6, none⟩ = some (.int .i64 e) ∧ w'.cell? ⟨b1, o1 + q * 10 + 7, none⟩ = some (.bool g) ∧ w'.cell? ⟨b1, o1 + q * 10 + 8, none⟩ = some (.int .i64 u) ∧ w'.cell? ⟨b1, o1 + q * 10 + 9, none⟩ = some (.slice ra d.length rc)) ∧
          (w'.cell? ⟨b2, o2 + q * 10, none⟩ = some (.int .i64 p) ∧ w'.cell? ⟨b2, o2 + q * 10 + 1, none⟩ = some (.int .i64 n') ∧ w'.cell? ⟨b2, o2 + q * 10 + 2, none⟩ = some (.int .i64 b) ∧ w'.cell? ⟨b2, o2 + q * 10 + 3, none⟩ = some (.int .i64 s) ∧ w'.cell? ⟨b2, o2 + q * 10 + 4, none⟩ = some (.int .i64 m) ∧ w'.cell? ⟨b2, o2 + q * 10 + 5, none⟩ = some (.int .i64 k) ∧ w'.cell? ⟨b2, o2 + q * 10 + 6, none⟩ = some (.int .i64 e) ∧ w'.cell? ⟨b2, o2 + q * 10 + 7, none⟩ = some (.bool g) ∧ w'.cell? ⟨b2, o2 + q * 10 + 8, none⟩ = some (.int .i64 u) ∧ w'.cell? ⟨b2, o2 + q * 10 + 9, none⟩ = some (.slice ra' d.length rc'))) := fun w' hw' => by
        obtain ⟨t0, t1, t2, t3, t4, t5, t6, t7, t8, t9⟩ := HT.out
        obtain ⟨s0, s1, s2, s3, s4, s5, s6, s7, s8, s9⟩ := HT'.out
        exact ⟨⟨hw'.cell_of t0, hw'.cell_of t1, hw'.cell_of t2, hw'.cell_of t3, hw'.cell_of t4, hw'.cell_of t5, hw'.cell_of t6, hw'.cell_of t7, hw'.cell_of t8, hw'.cell_of t9⟩, ⟨hw'.cell_of s0, hw'.cell_of s1, hw'.cell_of s2, hw'.cell_of s3, hw'.cell_of s4, hw'.cell_of s5, hw'.cell_of s6, hw'.cell_of s7, hw'.cell_of s8, hw'.cell_of s9⟩⟩
      clear HT HT' HSR
      generalize d.length = dl at *
      go_wp2_with fail
      have HXd := Lib.hid (Gr.ext_drew HX.out)
      clear HX
      refine Gr.region 9 [(false,0),(false,1),(false,2),(false,3),(false,4),(false,5),(false,6),(false,7),(true,8)] (by kernel_rfl) (by kernel_rfl) (fun d _ _ _ _ h => by cases d <;> exact h) ?_
      simp only [Gr.pick, List.getElem?_cons_zero, List.getElem?_cons_succ, List.drop_succ_cons, List.drop_zero]
      generalize wr.drew = w4 at *
      iterate 8
        refine Gr.walk_t ?_ (Or.inl ⟨by rfl, ?_⟩) ?_
        rotate_left
        · intro w' hw'
          obtain ⟨⟨t0, t1, t2, t3, t4, t5, t6, t7, t8, t9⟩, s0, s1, s2, s3, s4, s5, s6, s7, s8, s9⟩ := HCF.out w' hw'
          clear hw'
          go_simp
          try with_reducible rfl
        simp only [Act.put, List.setIfInBounds_toArray, List.set_cons_zero, List.set_cons_succ]
      refine Gr.walk_c (fun K hK => ?_)
      go_simp
      refine (HSR2.out w4 (Gr.ext_refl _)).mono ?_
      rintro e w5 ⟨rfl, hx⟩
      have HX5 := Lib.hid (Gr.ext_trans HXd.out hx)
      try go_simp
      refine hK.out _ _ (hx) ?_
      clear hK K
      clear hx HXd HCF HSR2
      refine Gr.walk_nil ?_
      go_wp2
      go_roundw
      case rel => exact ⟨q + 1, by omega, by go_num, HX5⟩
      case measure => simp [intOf]; omega
    · obtain rfl : q = n := by omega
      go_wp2
      go_ret
      exact ⟨rfl, HX.out⟩
end Go.Proofs.Ytdbdnfjgmdkneaa
namespace Go.Proofs.Ytdbdnfjgmdkneaa
set_option maxRecDepth 20000
open Go.RowKit Go.Deep Go.Maps
set_option linter.unusedVariables false
set_option maxHeartbeats 1000000 in
theorem sameids16_any (v v' : Value) (l : List Ip) (w : World) (hv : IdsAt w v l) (hv' : IdsAt w v' l) (hl : l.length ≤ 1000000) :
    Calls Try.prog 38 #[v, v'] w fun e w' => e = .returned (.bool true) ∧ w.Extends w' := by
  obtain ⟨a, c, rfl⟩ := hv.slice
  obtain ⟨a', c', rfl⟩ := hv'.slice
  have HAT : Hid (∀ k, k < l.length → ∃ b off, a = some ⟨b, off, none⟩ ∧ w.cell? ⟨b, off + k * 2, none⟩ = some (.int .i64 (l.getD k zi).1) ∧ w.cell? ⟨b, off + k * 2 + 1, none⟩ = some (.int .i64 (l.getD k zi).2)) := fun k hk => by
    rcases hv with ⟨rfl, _⟩ | ⟨b, off, cap, e, _, _, _, h5⟩
    · simp at hk
    · simp only [Value.slice.injEq] at e
      exact ⟨b, off, e.1, h5 k hk⟩
  have HAT' : Hid (∀ k, k < l.length → ∃ b off, a' = some ⟨b, off, none⟩ ∧ w.cell? ⟨b, off + k * 2, none⟩ = some (.int .i64 (l.getD k zi).1) ∧ w.cell? ⟨b, off + k * 2 + 1, none⟩ = some (.int .i64 (l.getD k zi).2)) := fun k hk => by
    rcases hv' with ⟨rfl, _⟩ | ⟨b, off, cap, e, _, _, _, h5⟩
    · simp at hk
    · simp only [Value.slice.injEq] at e
      exact ⟨b, off, e.1, h5 k hk⟩
  clear hv hv'
  generalize l.length = n at *
  go_enter Try.func38, Try.ntmps38
  go_wp2_with fail
  go_loopw [5] (fun s5 wr => ∃ k : Nat, k ≤ n ∧ s5 = .int .i64 k ∧ Hid (w.Extends wr)) (fun s5 _ => n - (intOf s5).toNat)
  case atStart => exact ⟨0, by omega, by rfl, Lib.hid (Gr.ext_refl _)⟩
  case round =>
    obtain ⟨k, hk, rfl, HX⟩ := hrel
    by_cases h1 : k < n
    · obtain ⟨b, off, rfl, e0, e1⟩ := HAT.out k h1
      obtain ⟨b', off', rfl, f0, f1⟩ := HAT'.out k h1
      have HC : Hid (∀ wx, wr.drew.Extends wx → (wx.cell? ⟨b, off + k * 2, none⟩ = some (.int .i64 (l.getD k zi).1) ∧ wx.cell? ⟨b, off + k * 2 + 1, none⟩ = some (.int .i64 (l.getD k zi).2)) ∧ wx.cell? ⟨b', off' + k * 2, none⟩ = some (.int .i64 (l.getD k zi).1) ∧ wx.cell? ⟨b', off' + k * 2 + 1, none⟩ = some (.int .i64 (l.getD k zi).2)) := fun wx hx => by
        have h2 := Gr.ext_trans HX.out (Gr.ext_trans (Gr.ext_drew (Gr.ext_refl wr)) hx)
        exact ⟨⟨h2.cell_of e0, h2.cell_of e1⟩, h2.cell_of f0, h2.cell_of f1⟩
      clear e0 e1 f0 f1
      generalize l.getD k zi = x at *
      obtain ⟨x1, x2⟩ := x
      simp only at HC
      go_wp2_with fail
      refine Gr.region 8 [(false,0),(false,1),(false,2),(false,3),(false,4),(false,5),(false,6),(false,7)] (by kernel_rfl) (by kernel_rfl) (fun d _ _ _ _ h => by cases d <;> exact h) ?_
      simp only [Gr.pick, List.getElem?_cons_zero, List.getElem?_cons_succ, List.drop_succ_cons, List.drop_zero]
      have HX2 : Hid (w.Extends wr.drew) := Gr.ext_trans HX.out (Gr.ext_drew (Gr.ext_refl wr))
      generalize wr.drew = wd at *
      iterate 8
        refine Gr.walk_t ?_ (Or.inl ⟨by rfl, ?_⟩) ?_
        rotate_left
        · intro w' hw'
          obtain ⟨⟨e0, e1⟩, f0, f1⟩ := HC.out w' hw'
          clear hw'
          go_simp
          try with_reducible rfl
        simp only [Act.put, List.setIfInBounds_toArray, List.set_cons_zero, List.set_cons_succ]
      refine Gr.walk_nil ?_
      clear HC HX
      go_wp2
      go_roundw
      case rel => exact ⟨k + 1, by omega, by go_num, HX2⟩
      case measure => simp [intOf]; omega
    · obtain rfl : k = n := by omega
      clear HAT HAT'
      go_wp2
      go_ret
      exact ⟨rfl, HX.out⟩
set_option maxHeartbeats 4000000 in
theorem same16_any (ts tr : Nat) (Ds Dr : Nat → Prop) (sa sb : Sto) (w : World) (hs : SAt w ts Ds sa) (hr : RSt w tr Dr sb) (el : sa.l = sb.l) (et : sa.t = sb.t) (hi : SM.Inv sa) (htl : sa.t.length ≤ 1000000) :
    Calls Try.prog 47 #[.pointer (some ⟨ts, 0, none⟩), .pointer (some ⟨tr, 0, none⟩)] w fun e w' => e = .returned (.bool true) ∧ w.Extends w' := by
  have hl : sa.l.length ≤ 1000 := Nat.le_trans hi.room hi.most
  have HIDS : Hid (∀ w', w.Extends w' → Calls Try.prog 39 #[.pointer (some ⟨ts, 0, none⟩)] w' (IdsOut w' (SM.ids sa))) := fun w' hx => ids16_any ts Ds sa w' (hs.ext hx) hl
  have HRID : Hid (∀ w', w.Extends w' → Calls Try.prog 40 #[.pointer (some ⟨tr, 0, none⟩)] w' (IdsOut w' (SM.ids sa))) := fun w' hx => by
    have := rids16_any tr Dr sb w' (hr.ext hx) (by rw [← el]; exact hl)
    unfold SM.ids at this ⊢
    rw [el]; exact this
  have HCNT : Hid (∀ w', w.Extends w' → Calls Try.prog 36 #[.pointer (some ⟨ts, 0, none⟩)] w' fun e w2 => e = .returned (.int .i64 ((sa.l.length : Nat) : Int)) ∧ w' = w2) := fun w' hx => count_any ts Ds sa w' (hs.ext hx)
  have HGET : Hid (∀ w' (x : Ip), w.Extends w' → Calls Try.prog 43 #[.pointer (some ⟨ts, 0, none⟩), .agg #[.int .i64 x.1, .int .i64 x.2]] w' (RcsOut w' (sa.l.filter (isOf ⟨x.1, x.2, 0, 0, 0, 0, 0, false, 0, []⟩)))) := fun w' x hx => get16_any ts Ds sa ⟨x.1, x.2, 0, 0, 0, 0, 0, false, 0, []⟩ w' (hs.ext hx) hl fun y hy => ⟨(hi.sym y hy).1, (hi.sym y hy).2.1⟩
  have HRGT : Hid (∀ w' (x : Ip), w.Extends w' → Calls Try.prog 44 #[.pointer (some ⟨tr, 0, none⟩), .agg #[.int .i64 x.1, .int .i64 x.2]] w' (RcsOut w' (sa.l.filter (isOf ⟨x.1, x.2, 0, 0, 0, 0, 0, false, 0, []⟩)))) := fun w' x hx => by
    have := rget16_any tr Dr sb ⟨x.1, x.2, 0, 0, 0, 0, 0, false, 0, []⟩ w' (hr.ext hx) (by rw [← el]; exact hl) (fun y hy => by
      rw [← el] at hy
      obtain ⟨h1, h2, _⟩ := hi.sym y hy
      obtain ⟨⟨⟨_, _, _, h6, _⟩, _⟩, _, h8⟩ := h1.2.2.2.2 h2
      omega)
    rw [← el] at this; exact this
  have HGON : Hid (∀ w' r, w.Extends w' → r ∈ sa.t → Calls Try.prog 45 #[.pointer (some ⟨ts, 0, none⟩), .agg #[.int .i64 r.p, .int .i64 r.n]] w' fun e w2 => e = .returned (.bool true) ∧ w'.Extends w2) := fun w' r hx hm => by
    have := gone_any ts Ds sa r w' (hs.ext hx) (right_id (hi.tomb r hm).1)
    rw [decide_eq_true ((SM.has_iff _ _).2 ⟨r, hm, rfl, rfl⟩)] at this
    exact this
  obtain ⟨DB, v1, v2, ps, qs, h⟩ := hr
  obtain ⟨sa', sc, hb, c0, c1, c2, c3, f1, f2⟩ := h.cells
  have HC1 := Lib.hid c1
  have HC2 := Lib.hid c2
  have HAT2 := Lib.hid h.own2.at_
  have HSL2 : Hid (∀ k, k < qs.length → Slc (qs.getD k zp) ∧ (qs.getD k zp).1 ∈ sa.t) := fun k hk => ⟨h.own2.2 _ (getD_mem hk), by rw [et, ← h.recs2]; exact List.mem_map.2 ⟨_, getD_mem hk, rfl⟩⟩
  obtain ⟨a1, cap1, hv1⟩ := h.own1.slice
  obtain ⟨a2, cap2, hv2⟩ := h.own2.slice
  have hlen1 := h.len1
  have hlen2 := h.len2
  rw [← el] at hlen1
  rw [← et] at hlen2
  rw [hlen1] at hv1
  subst hv1 hv2
  have hidl : (SM.ids sa).length ≤ 1000 := by
    have := SM.dd_le (sa.l.map ipOf) (sa.l.map ipOf).length
    unfold SM.ids SM.comp
    rw [List.length_map] at this ⊢
    omega
  rw [← hlen2] at htl
  clear h hb c0 c1 c2 c3 f1 f2 hs el et hi hlen1 hlen2
  generalize SM.ids sa = L at *
  generalize sa.l.length = n1 at *
  generalize qs.length = n2 at *
  go_enter Try.func47, Try.ntmps47
  go_wp2_with fail
  refine (HIDS.out w (Gr.ext_refl _)).mono ?_
  rintro e w1 ⟨vi, rfl, hx1, hi1⟩
  have HX1 := Lib.hid hx1
  have HI1 := Lib.hid hi1
  obtain ⟨ia, ic, rfl⟩ := hi1.slice
  clear hx1 hi1 HIDS
  go_wp2_with fail
  have HXD : Hid (w.Extends w1.drew) := Gr.ext_trans HX1.out (Gr.ext_drew (Gr.ext_refl w1))
  have HID : Hid (IdsAt w1.drew (.slice ia L.length ic) L) := HI1.out.ext (Gr.ext_drew (Gr.ext_refl w1))
  clear HX1 HI1
  generalize hnl : L.length = nl at *
  have HNL := Lib.hid hnl
  clear hnl
  refine Gr.region 14 [(false,0),(false,1),(true,2),(true,3),(false,4),(false,5),(false,6),(false,8),(false,9),(false,10),(false,11),(false,12),(true,7),(false,13)] (by kernel_rfl) (by kernel_rfl) (fun d _ _ _ _ h => by cases d <;> exact h) ?_
  simp only [Gr.pick, List.getElem?_cons_zero, List.getElem?_cons_succ, List.drop_succ_cons, List.drop_zero]
  generalize w1.drew = wd at *
  iterate 2
    refine Gr.walk_t ?_ (Or.inl ⟨by rfl, ?_⟩) ?_
    rotate_left
    · intro w' hw'
      clear hw'
      go_simp
      try with_reducible rfl
    simp only [Act.put, List.setIfInBounds_toArray, List.set_cons_zero, List.set_cons_succ]
  refine Gr.walk_c (fun K hK => ?_)
  go_simp
  refine (HRID.out wd HXD.out).mono ?_
  rintro e w2 ⟨vr, rfl, hx2, hir⟩
  have HX2 := Lib.hid (Gr.ext_trans HXD.out hx2)
  have HI2 := Lib.hid (HID.out.ext hx2)
  have HIR := Lib.hid hir
  try go_simp
  refine hK.out _ _ (hx2) ?_
  clear hK K
  clear hx2 hir HXD HID HRID
  obtain ⟨ra, rc, hvr⟩ := HIR.out.slice
  subst hvr
  have HSI := Lib.hid (sameids16_any _ _ L w2 (by have := HI2.out; rwa [← HNL.out] at this) HIR.out (by rw [HNL.out]; omega))
  rw [HNL.out] at HSI ⊢
  refine Gr.walk_c (fun K hK => ?_)
  go_simp
  refine (HSI.out).mono ?_
  rintro e w3 ⟨rfl, hx3⟩
  have HX3 := Lib.hid (Gr.ext_trans HX2.out hx3)
  have HI3 := Lib.hid (HI2.out.ext hx3)
  try go_simp
  refine hK.out _ _ (hx3) ?_
  clear hK K
  clear hx3 HX2 HI2 HIR HSI
  iterate 6
    refine Gr.walk_t ?_ (Or.inl ⟨by rfl, ?_⟩) ?_
    rotate_left
    · intro w' hw'
      clear hw'
      go_simp
      try with_reducible rfl
    simp only [Act.put, List.setIfInBounds_toArray, List.set_cons_zero, List.set_cons_succ]
  refine Gr.walk_t ?_ (Or.inl ⟨by rfl, ?_⟩) ?_
  rotate_left
  · intro w' hw'
    have b0 := (Gr.ext_trans HX3.out hw').cell_of HC1.out
    clear hw'
    go_simp
    try with_reducible rfl
  simp only [Act.put, List.setIfInBounds_toArray, List.set_cons_zero, List.set_cons_succ]
  refine Gr.walk_t ?_ (Or.inl ⟨by rfl, ?_⟩) ?_
  rotate_left
  · intro w' hw'
    clear hw'
    go_simp
    try with_reducible rfl
  simp only [Act.put, List.setIfInBounds_toArray, List.set_cons_zero, List.set_cons_succ]
  refine Gr.walk_c (fun K hK => ?_)
  go_simp
  refine (HCNT.out w3 HX3.out).mono ?_
  rintro e w4 ⟨rfl, rfl⟩
  try go_simp
  refine hK.out _ _ ((Gr.ext_refl _)) ?_
  clear hK K
  refine Gr.walk_t ?_ (Or.inl ⟨by rfl, ?_⟩) ?_
  rotate_left
  · intro w' hw'
    clear hw'
    go_simp
    try with_reducible rfl
  simp only [Act.put, List.setIfInBounds_toArray, List.set_cons_zero, List.set_cons_succ]
  refine Gr.walk_nil ?_
  clear HCNT
  go_wp2_with fail
  go_loopw [6] (fun s6 wr => ∃ k : Nat, k ≤ nl ∧ s6 = .int .i64 k ∧ Hid (w3.Extends wr)) (fun s6 _ => nl - (intOf s6).toNat)
  case atStart => exact ⟨0, by omega, by rfl, Lib.hid (Gr.ext_refl _)⟩
  case round =>
    obtain ⟨k, hk, rfl, HX⟩ := hrel
    by_cases h1 : k < nl
    · obtain ⟨b, off, hia, e0, e1⟩ : ∃ b off, ia = some ⟨b, off, none⟩ ∧ w3.cell? ⟨b, off + k * 2, none⟩ = some (.int .i64 (L.getD k zi).1) ∧ w3.cell? ⟨b, off + k * 2 + 1, none⟩ = some (.int .i64 (L.getD k zi).2) := by
        rcases HI3.out with ⟨e, _⟩ | ⟨b, off, cap, e, _, _, _, h5⟩
        · have := HNL.out; rw [e] at this; simp at this; omega
        · simp only [Value.slice.injEq] at e
          exact ⟨b, off, e.1, h5 k (by rw [HNL.out]; exact h1)⟩
      subst hia
      have HC : Hid (∀ wx, wr.drew.Extends wx → (wx.cell? ⟨b, off + k * 2, none⟩ = some (.int .i64 (L.getD k zi).1) ∧ wx.cell? ⟨b, off + k * 2 + 1, none⟩ = some (.int .i64 (L.getD k zi).2)) ∧ w.Extends wx ∧ w3.Extends wx) := fun wx hx => by
        have h2 := Gr.ext_trans HX.out (Gr.ext_trans (Gr.ext_drew (Gr.ext_refl wr)) hx)
        exact ⟨⟨h2.cell_of e0, h2.cell_of e1⟩, Gr.ext_trans HX3.out h2, h2⟩
      clear e0 e1
      generalize L.getD k zi = x at *
      go_wp2_with fail
      refine Gr.region 13 [(false,0),(false,1),(false,2),(false,3),(false,4),(false,6),(false,7),(false,8),(false,9),(false,10),(true,5),(true,11),(true,12)] (by kernel_rfl) (by kernel_rfl) (fun d _ _ _ _ h => by cases d <;> exact h) ?_
      simp only [Gr.pick, List.getElem?_cons_zero, List.getElem?_cons_succ, List.drop_succ_cons, List.drop_zero]
      generalize wr.drew = wd at *
      iterate 4
        refine Gr.walk_t ?_ (Or.inl ⟨by rfl, ?_⟩) ?_
        rotate_left
        · intro w' hw'
          clear hw'
          go_simp
          try with_reducible rfl
        simp only [Act.put, List.setIfInBounds_toArray, List.set_cons_zero, List.set_cons_succ]
      refine Gr.walk_t ?_ (Or.inl ⟨by rfl, ?_⟩) ?_
      rotate_left
      · intro w' hw'
        obtain ⟨⟨e0, e1⟩, -⟩ := HC.out w' hw'
        clear hw'
        go_simp
        try with_reducible rfl
      simp only [Act.put, List.setIfInBounds_toArray, List.set_cons_zero, List.set_cons_succ]
      iterate 4
        refine Gr.walk_t ?_ (Or.inl ⟨by rfl, ?_⟩) ?_
        rotate_left
        · intro w' hw'
          clear hw'
          go_simp
          try with_reducible rfl
        simp only [Act.put, List.setIfInBounds_toArray, List.set_cons_zero, List.set_cons_succ]
      refine Gr.walk_t ?_ (Or.inl ⟨by rfl, ?_⟩) ?_
      rotate_left
      · intro w' hw'
        obtain ⟨⟨e0, e1⟩, -⟩ := HC.out w' hw'
        clear hw'
        go_simp
        try with_reducible rfl
      simp only [Act.put, List.setIfInBounds_toArray, List.set_cons_zero, List.set_cons_succ]
      refine Gr.walk_c (fun K hK => ?_)
      go_simp
      refine (HGET.out wd x (HC.out wd (Gr.ext_refl _)).2.1).mono ?_
      rintro e w5 ⟨v5, rfl, hx5, hr5⟩
      have HX5 := Lib.hid hx5
      have HR5 := Lib.hid hr5
      try go_simp
      refine hK.out _ _ (hx5) ?_
      clear hK K
      clear hx5 hr5
      refine Gr.walk_c (fun K hK => ?_)
      go_simp
      refine (HRGT.out w5 x (HC.out w5 HX5.out).2.1).mono ?_
      rintro e w6 ⟨v6, rfl, hx6, hr6⟩
      have HX6 := Lib.hid (Gr.ext_trans HX5.out hx6)
      have HR56 := Lib.hid (HR5.out.ext hx6)
      have HR6 := Lib.hid hr6
      try go_simp
      refine hK.out _ _ (hx6) ?_
      clear hK K
      clear hx6 hr6 HX5 HR5
      refine Gr.walk_c (fun K hK => ?_)
      go_simp
      refine (same_recs v5 v6 _ w6 HR56.out HR6.out).mono ?_
      rintro e w7 ⟨rfl, hx7⟩
      have HX7 : Hid (w3.Extends w7) := (HC.out w7 (Gr.ext_trans HX6.out hx7)).2.2
      try go_simp
      refine hK.out _ _ (hx7) ?_
      clear hK K
      clear hx7 HX6 HR56 HR6 HC HX
      refine Gr.walk_nil ?_
      go_wp2
      go_roundw
      case rel => exact ⟨k + 1, by omega, by go_num, HX7⟩
      case measure => simp [intOf]; omega
    · obtain rfl : k = nl := by omega
      clear HI3 HGET HRGT
      have HX4 : Hid (w.Extends wr) := Gr.ext_trans HX3.out HX.out
      clear HX3 HX
      obtain ⟨wa, hwa⟩ : ∃ wa, wa = wr := ⟨_, rfl⟩
      subst hwa
      go_wp2_with fail
      go_loopw [7] (fun s7 wr => ∃ q : Nat, q ≤ n2 ∧ s7 = .int .i64 q ∧ Hid (w.Extends wr)) (fun s7 _ => n2 - (intOf s7).toNat)
      case atStart => exact ⟨0, by omega, by rfl, HX4⟩
      case round =>
        obtain ⟨q, hq, rfl, HX⟩ := hrel
        have e2 := HX.out.cell_of HC2.out
        by_cases h2 : q < n2
        · obtain ⟨g, ⟨cap', e⟩, hr⟩ := HAT2.out q h2
          cases e
          have hr := rangeAt_ext hr HX.out
          obtain ⟨c0, c1, -, -, -, -, -, -, -, -⟩ := RCell.ten hr
          have HG := Lib.hid (HGON.out wr (qs.getD q zp).1 HX.out (HSL2.out q h2).2)
          clear hr
          generalize (qs.getD q zp).1.p = xp at *
          generalize (qs.getD q zp).1.n = xn at *
          go_wp2_with fail
          refine HG.out.mono ?_
          rintro e w8 ⟨rfl, hx8⟩
          have HX8 := Lib.hid (Gr.ext_trans HX.out hx8)
          clear hx8 HG c0 c1 HX e2
          go_wp2
          go_roundw
          case rel => exact ⟨q + 1, by omega, by go_num, HX8⟩
          case measure => simp [intOf]; omega
        · obtain rfl : q = n2 := by omega
          clear HAT2 HSL2 HGON
          go_wp2
          go_ret
          exact ⟨rfl, HX.out⟩
end Go.Proofs.Ytdbdnfjgmdkneaa
namespace Go.Proofs.Ytdbdnfjgmdkneaa
set_option maxRecDepth 20000
open Go.RowKit Go.Deep Go.Maps
set_option linter.unusedVariables false
/-- A store of the reference of the law's own. -/
structure ROk (w0 w : World) (t : Nat) (st : Sto) (c : Nat) : Prop where
  at_ : RSt w t (fun i => w0.heap.size ≤ i ∧ i < w.heap.size) st
  inv : SM.Inv st
  ext : w0.Extends w
  size : LM.size st.lg ≤ 90 * c
  few : st.t.length ≤ c
theorem ROk.later {w0 w w' : World} {t c : Nat} {st : Sto} (h : ROk w0 w t st c) (hx : w.Extends w') : ROk w0 w' t st c :=
  ⟨(h.at_.ext hx).mono fun i hi => ⟨hi.1, Nat.lt_of_lt_of_le hi.2 hx.size⟩, h.inv, Gr.ext_trans h.ext hx, h.size, h.few⟩
theorem ROk.left {w0 w w1 w2 : World} {t c c' : Nat} {st st' : Sto} (h : ROk w0 w t st c) (hx : w.Extends w1) (hL : RLeft w1 t (fun i => w0.heap.size ≤ i ∧ i < w.heap.size) st' w2) (hi : SM.Inv st') (hz : LM.size st'.lg ≤ 90 * c') (hf : st'.t.length ≤ c') : ROk w0 w2 t st' c' := by
  have h1 := hx.size
  have h2 := hL.2.size
  have h0 := h.ext.size
  refine ⟨hL.1.mono fun i hi => ?_, hi, Fr.extends (Gr.ext_trans h.ext hx) hL.2 fun i hi => hi.1, hz, hf⟩
  rcases hi with hi | hi
  · exact ⟨hi.1, by omega⟩
  · exact ⟨by omega, hi.2⟩
/-- Records that came in: the k-th. -/
theorem arg_at {w : World} {v : Value} {l : List Rc} (h : Recs w v l) {k : Nat} (hk : k < l.length) : ∃ b off cap, v = .slice (some ⟨b, off, none⟩) l.length cap ∧ l.length ≤ cap ∧ b < w.heap.size ∧ ∃ a c, w.rangeAt b (off + k * 10) ((l.getD k Rc.zero).cells (.slice a (l.getD k Rc.zero).d.length c)) ∧ U8s w (.slice a (l.getD k Rc.zero).d.length c) (l.getD k Rc.zero).d ∧ ((l.getD k Rc.zero).d = [] ∨ ∀ g, (Value.slice a (l.getD k Rc.zero).d.length c).ownBlock = some g → g < w.heap.size) := by
  rcases h with ⟨rfl, _⟩ | ⟨b, off, cap, rfl, h2, h3, h4, h5⟩
  · simp at hk
  · obtain ⟨a, c, h6, h7⟩ := h5 k hk
    refine ⟨b, off, cap, rfl, h2, h4, a, c, h6, h7, ?_⟩
    rcases h7 with ⟨e, _⟩ | ⟨b', off', cap', e, _, _, h9, _⟩
    · exact .inl e
    · refine .inr fun g hg => ?_
      rw [e] at hg
      have e2 : b' = g := by simpa [Value.ownBlock] using hg
      omega
/-- One of them, cut out, for a store whose blocks are all newer. -/
theorem recs_cut {w0 w : World} {D : Nat → Prop} {r : Rc} {b off c cap' : Nat} {a : Option Addr} (hx : w0.Extends w) (hD : ∀ i, D i → w0.heap.size ≤ i) (hb : b < w0.heap.size) (hr : w0.rangeAt b off (r.cells (.slice a r.d.length c))) (hu : U8s w0 (.slice a r.d.length c) r.d) (hd : r.d = [] ∨ ∀ g, (Value.slice a r.d.length c).ownBlock = some g → g < w0.heap.size) : RecsD w D (.slice (some ⟨b, off, none⟩) 1 cap') [r] := by
  have hs := hx.size
  refine .inr ⟨b, off, cap', rfl, by omega, fun h => by have := hD b h; omega, fun k hk => ?_⟩
  obtain rfl : k = 0 := by simp at hk; omega
  exact ⟨a, c, by simpa using rangeAt_ext hr hx, hu.ext hx, hd.imp id fun hd g hg => ⟨fun h => by have := hD g h; have := hd g hg; omega, by have := hd g hg; omega⟩⟩
theorem rput_one {w0 w : World} {t c : Nat} {st : Sto} {r : Rc} {v : Value} (h : ROk w0 w t st c) (hc : c ≤ 7000) (hv : RecsD w (fun i => w0.heap.size ≤ i ∧ i < w.heap.size) v [r]) :
    Calls Try.prog 29 #[.pointer (some ⟨t, 0, none⟩), v] w fun e w' => e = .returned (.int .i64 (((SM.keepOf st r).2.2 : Nat) : Int)) ∧ ROk w0 w' t (SM.put1 st r) (c + 1) := by
  have := rput_any t (fun i => w0.heap.size ≤ i ∧ i < w.heap.size) st v [r] w h.at_ (fun i hi => hi.2) h.inv hv (by simp) (by have := h.few; omega) (by have := h.size; omega)
  rw [puts_one] at this
  refine this.mono ?_
  rintro e w' ⟨h1, h2, h3, h4, h5⟩
  exact ⟨h1, h.left (Gr.ext_refl _) h2 h3 (by have := h.size; simp only [List.length_singleton] at h4; omega) (by have := h.few; simp only [List.length_singleton] at h5; omega)⟩
theorem SOk.sure {w0 w : World} {t c : Nat} {st : Sto} (h : SOk w0 w t st c) : Calls Try.prog 32 #[.pointer (some ⟨t, 0, none⟩)] w fun e w' => e = .returned (.tuple #[]) ∧ SOk w0 w' t (SM.sure st) c := by
  refine (ssure_any t _ st w h.at_).mono ?_
  rintro e w' ⟨h1, h2⟩
  exact ⟨h1, h.left (Gr.ext_refl _) h2 (SM.sure_inv h.inv) h.size h.few⟩
theorem SOk.restart {w0 w : World} {t c : Nat} {st : Sto} (h : SOk w0 w t st c) (hz : LM.size st.lg ≤ 20000) (keep : Int) (hk : -9223372036854775808 ≤ keep ∧ keep ≤ 9223372036854775807) : Calls Try.prog 34 #[.pointer (some ⟨t, 0, none⟩), .int .i64 keep] w fun e w' => e = .returned (.tuple #[]) ∧ SOk w0 w' t (SM.restart st keep) 20000 ∧ LM.size (SM.restart st keep).lg ≤ 20000 := by
  have hl : LM.size (SM.restart st keep).lg ≤ 20000 := by
    rw [(SM.restart_lg st keep).1]
    exact Nat.le_trans (LM.upto_le _ _) hz
  refine (restart_any t _ st keep w h.at_ (fun i hi => hi.2) h.inv (by omega) hk).mono ?_
  rintro e w' ⟨h1, h2, h3, h4⟩
  exact ⟨h1, h.left (Gr.ext_refl _) h2 h3 (by omega) (by omega), hl⟩
/-- x[k:k+1] of records. -/
theorem cutr_one (b off n cap k : Nat) (hk : k < n) (hn : n ≤ cap) (w' : World) : (Instr.slice 47 (.slice (some ⟨b, off, none⟩) n cap) (some (.int .i64 (k : Nat))) (some (.int .i64 ((k + 1 : Nat) : Int))) none).run Try.prog w' = .ok (.slice (some ⟨b, off + k * 10, none⟩) 1 (cap - k)) w' := by
  rw [run_slice_lh (P := Try.prog) w' 47 _ n cap elemRec .i64 .i64 ((k : Nat) : Int) ((k + 1 : Nat) : Int) (by omega) (by omega) (by omega), sizeRec]
  simp only [Result.andThen_ok, Int.toNat_natCast, sliced, if_neg (show ¬ cap = k by omega)]
  rw [show k + 1 - k = 1 by omega]
  simp [Addr.add_mid]
end Go.Proofs.Ytdbdnfjgmdkneaa
