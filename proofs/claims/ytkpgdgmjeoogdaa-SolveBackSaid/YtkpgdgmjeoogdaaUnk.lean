/- Package solve: unknowns. -/
import Derived.Test.YtkpgdgmjeoogdaaRank
namespace Go.Proofs.Ytkpgdgmjeoogdaa
open Go.RowKit
set_option linter.unusedVariables false
theorem mixTo_at (n m : Nat) (c : List Nat) (l : List (List Nat)) (k : Nat) (hk : k < n) : (RM.mixTo n m c l).getD k 0 = LA.dots m (fun i => c.getD i 0) (fun i => (l.getD i []).getD k 0) := by
  induction m with
  | zero => show (RM.zeros n).getD k 0 = 0; exact RM.zeros_getD n k
  | succ m ih => rw [RM.mixTo_succ, RM.xr_at _ _ _ (by rw [RM.mixTo_length]; exact hk), RM.scale_getD, LA.dots_succ, ih]
/-- The rows that are known: those from j on. -/
def known (W j : Nat) (xf : Nat → List Nat) : List (List Nat) := (List.range W).map fun i => if i < j then [] else xf i
theorem known_getD (W j : Nat) (xf : Nat → List Nat) (i : Nat) (h : i < W) : (known W j xf).getD i [] = if i < j then [] else xf i := by simp [known, List.getD_eq_getElem?_getD, h]
theorem known_length (W j : Nat) (xf : Nat → List Nat) : (known W j xf).length = W := by simp [known]
def RowOf (w : World) (S : Nat) (u : Value) (xs : List Nat) : Prop := ∃ b, u = .slice (some ⟨b, 0, none⟩) S S ∧ Own w b 5 xs ∧ xs.length = S
/-- x in memory: at gx, the rows from j on. -/
def XAt (w : World) (gx W S j : Nat) (xf : Nat → List Nat) : Prop := ∃ vs, w.rowIs gx 26 W vs ∧ ∀ c, c < W → (c < j → vs c = nilS) ∧ (j ≤ c → RowOf w S (vs c) (xf c))
theorem RowOf.u8s {w : World} {S : Nat} {u : Value} {xs : List Nat} (h : RowOf w S u xs) : U8s w u xs := by
  obtain ⟨b, rfl, ho, hl⟩ := h
  have := ho.u8s
  rwa [hl] at this
theorem XAt.rws {w : World} {gx W S j : Nat} {xf : Nat → List Nat} (h : XAt w gx W S j xf) (hW : W ≤ 300) : Rws w (.slice (some ⟨gx, 0, none⟩) W W) (known W j xf) := by
  obtain ⟨vs, h1, h2⟩ := h
  refine .inr ⟨gx, 0, W, by rw [known_length], by rw [known_length]; exact Nat.le_refl _, by unfold maxLen; omega, h1.lt, fun k hk => ?_⟩
  rw [known_length] at hk
  rw [known_getD W j xf k hk, Nat.zero_add]
  refine ⟨vs k, h1.cell hk, ?_⟩
  by_cases hkj : k < j
  · rw [if_pos hkj, (h2 k hk).1 hkj]; exact nil_u8s _ _ _
  · rw [if_neg hkj]; exact ((h2 k hk).2 (by omega)).u8s
theorem XAt.ext {w w' : World} {gx W S j : Nat} {xf : Nat → List Nat} (h : XAt w gx W S j xf) (hx : w.Extends w') : XAt w' gx W S j xf := by
  obtain ⟨vs, h1, h2⟩ := h
  refine ⟨vs, h1.of_block (hx.block _ h1.lt), fun c hc => ⟨(h2 c hc).1, fun hj => ?_⟩⟩
  obtain ⟨b, hb, ho, hl⟩ := (h2 c hc).2 hj
  exact ⟨b, hb, ho.ext hx, hl⟩
def updF (xf : Nat → List Nat) (c : Nat) (xs : List Nat) : Nat → List Nat := fun i => if i = c then xs else xf i
theorem XAt.set {w : World} {gx W S c : Nat} {xf : Nat → List Nat} {u : Value} {xs : List Nat} (h : XAt w gx W S (c + 1) xf) (hc : c < W) (hu : RowOf w S u xs) : XAt (w.setCell ⟨gx, c, none⟩ u) gx W S c (updF xf c xs) := by
  obtain ⟨vs, h1, h2⟩ := h
  obtain ⟨cs, hcs, _⟩ := id h1
  have keep : ∀ {v : Value} {ys : List Nat}, RowOf w S v ys → RowOf (w.setCell ⟨gx, c, none⟩ u) S v ys := fun {v ys} hr => by
    obtain ⟨b, hb, ho, hl⟩ := hr
    refine ⟨b, hb, ho.block ?_, hl⟩
    exact Below.heap_setCell _ ⟨gx, c, none⟩ _ b fun e => own_not (T' := 26) ho (by decide) (by have e' : b = gx := e; subst e'; exact hcs)
  refine ⟨_, h1.set c u, fun i hi => ⟨fun hij => ?_, fun hij => ?_⟩⟩
  · show (if i = c then u else vs i) = nilS
    rw [if_neg (by omega)]; exact (h2 i hi).1 (by omega)
  · show RowOf _ S (if i = c then u else vs i) (if i = c then xs else xf i)
    by_cases hic : i = c
    · rw [if_pos hic, if_pos hic]; exact keep hu
    · rw [if_neg hic, if_neg hic]; exact keep ((h2 i hi).2 (by omega))
/-- The rows from j on solve the steps from j on. -/
def XSol (W S j : Nat) (st : Nat → Option LA.Eqn) (xf : Nat → List Nat) : Prop := (∀ i, ∀ x ∈ xf i, x < 256) ∧ ∀ c, j ≤ c → c < W → ∀ s, st c = some s → ∀ k, k < S → s.2.getD k 0 = LA.dots W (fun i => s.1.getD i 0) (fun i => (xf i).getD k 0)
theorem XSol.set {W S c : Nat} {st : Nat → Option LA.Eqn} {xf : Nat → List Nat} {s : LA.Eqn} (h : XSol W S (c + 1) st xf) (hg : LA.Good W S st) (hc : c < W) (hs : st c = some s) :
    XSol W S c st (updF xf c (RM.sum S [s.2, RM.mix S s.1 (known W (c + 1) xf)])) := by
  obtain ⟨hd, h1, h0⟩ := hg c hc s hs
  have hmlt : ∀ x ∈ RM.mix S s.1 (known W (c + 1) xf), x < 256 := by
    have key : ∀ m, ∀ x ∈ RM.mixTo S m s.1 (known W (c + 1) xf), x < 256 := fun m => by
      induction m with
      | zero => intro x hx; simp [RM.mixTo, RM.zeros] at hx; omega
      | succ m ih => rw [RM.mixTo_succ]; exact RM.xr_lt _ _ ih (RM.scale_lt _ _ (getD_lt _ hd.2.2.1 m))
    exact key _
  have hml : (RM.mix S s.1 (known W (c + 1) xf)).length = S := RM.mixTo_length _ _ _ _
  refine ⟨fun i => ?_, fun d hdc hdW t ht k hk => ?_⟩
  · unfold updF; split
    · exact LA.sum_lt _ _ (by intro r hr; simp at hr; rcases hr with rfl | rfl; exact hd.2.2.2; exact hmlt)
    · exact h.1 i
  · -- rows before c do not count in rows from c on
    have hzero : ∀ i, i < d → t.1.getD i 0 = 0 := (hg d hdW t ht).2.2
    by_cases hdc' : d = c
    · subst hdc'
      rw [hs] at ht
      obtain rfl := Option.some.inj ht
      have e1 : LA.dots W (fun i => s.1.getD i 0) (fun i => ((known W (d + 1) xf).getD i []).getD k 0) ^^^ (updF xf d (RM.sum S [s.2, RM.mix S s.1 (known W (d + 1) xf)]) d).getD k 0 = LA.dots W (fun i => s.1.getD i 0) (fun i => (updF xf d (RM.sum S [s.2, RM.mix S s.1 (known W (d + 1) xf)]) i).getD k 0) := by
        have e2 : (fun i => (updF xf d (RM.sum S [s.2, RM.mix S s.1 (known W (d + 1) xf)]) i).getD k 0) = fun i => (updF xf d (RM.sum S [s.2, RM.mix S s.1 (known W (d + 1) xf)]) i).getD k 0 := rfl
        have e3 : LA.dots W (fun i => s.1.getD i 0) (fun i => if i = d then (updF xf d (RM.sum S [s.2, RM.mix S s.1 (known W (d + 1) xf)]) d).getD k 0 else 0) = (updF xf d (RM.sum S [s.2, RM.mix S s.1 (known W (d + 1) xf)]) d).getD k 0 := by
          rw [LA.dots_one W d _ _ hdW fun i hi hne => by simp only [if_neg hne]; exact FM.tm_zero_right _]
          simp only [if_true, h1]
          refine FM.tm_one_left _ (getD_lt _ ?_ k)
          unfold updF; rw [if_pos rfl]
          exact LA.sum_lt _ _ (by intro r hr; simp at hr; rcases hr with rfl | rfl; exact hd.2.2.2; exact hmlt)
        rw [← e3, ← LA.dots_add_right]
        refine LA.dots_congr W _ _ _ _ fun i hi => ?_
        show FM.tm (s.1.getD i 0) (((known W (d + 1) xf).getD i []).getD k 0 ^^^ (if i = d then _ else 0)) = _
        rw [known_getD W (d + 1) xf i hi]
        by_cases hid : i < d
        · rw [hzero i hid, FM.tm_zero_left, FM.tm_zero_left]
        · by_cases hid2 : i = d
          · subst hid2; rw [if_pos (by omega), if_pos rfl]; simp
          · rw [if_neg (by omega), if_neg hid2, Nat.xor_zero]; unfold updF; rw [if_neg hid2]
      rw [← e1]
      have e4 : (RM.mix S s.1 (known W (d + 1) xf)).getD k 0 = LA.dots W (fun i => s.1.getD i 0) (fun i => ((known W (d + 1) xf).getD i []).getD k 0) := by
        show (RM.mixTo S (min s.1.length (known W (d + 1) xf).length) _ _).getD k 0 = _
        rw [mixTo_at S _ _ _ k hk, hd.1, known_length, Nat.min_self]
      have e5 : (updF xf d (RM.sum S [s.2, RM.mix S s.1 (known W (d + 1) xf)]) d).getD k 0 = s.2.getD k 0 ^^^ (RM.mix S s.1 (known W (d + 1) xf)).getD k 0 := by
        unfold updF; rw [if_pos rfl]; exact LA.sum2_getD S _ _ hd.2.1 hml k
      rw [e5, e4, Nat.xor_comm (s.2.getD k 0), ← Nat.xor_assoc, Nat.xor_self, Nat.zero_xor]
    · rw [h.2 d (by omega) hdW t ht k hk]
      refine LA.dots_congr W _ _ _ _ fun i hi => ?_
      by_cases hic : i = c
      · subst hic; rw [hzero i (by omega), FM.tm_zero_left, FM.tm_zero_left]
      · unfold updF; rw [if_neg hic]
theorem rowinfo' : (Try.prog.info? 26).map (fun i => (i.zero, i.size, i.bytes)) = some (some (.slice none 0 0), 1, 24) := by kernel_rfl
theorem makeX (k : Nat) (hk : k ≤ 300) (w : World) : (Instr.makeSlice 28 (.int .i64 (k : Int)) (.int .i64 (k : Int))).run Try.prog w = .ok (.slice (some ⟨w.heap.size, 0, none⟩) k k) (w.alloc (.cells (madeCells #[nilS] k) 26)) :=
  run_make_row' (P := Try.prog) 28 26 nilS 24 Try.underlying28 rowinfo' rfl .i64 .i64 k (by omega) (by omega) w
def XOut (w : World) (W S : Nat) (st : Nat → Option LA.Eqn) (e : Ending) (w' : World) : Prop := ∃ gx xf, e = .returned (.slice (some ⟨gx, 0, none⟩) W W) ∧ w.Extends w' ∧ XAt w' gx W S 0 xf ∧ XSol W S 0 st xf
theorem mix_own (m : Nat) (u v : Value) (c : List Nat) (l : List (List Nat)) (w : World) (hm : m ≤ 1000) (hu : U8s w u c) (hv : Rws w v l) : Calls Try.prog 13 #[.int .i64 m, u, v] w (MadeOwn w (RM.mix m c l)) :=
  (mix_any m u v c l w hu hv).mono fun e w' ⟨he, hb, ho⟩ => by
    rw [cut_nat m hm] at he ho
    exact ⟨w.heap.size, by rw [show (RM.mix m c l).length = m from RM.mixTo_length _ _ _ _]; exact he, Gr.ext_of hb, ho⟩
set_option maxHeartbeats 4000000 in
theorem unknowns_any (p g W S r : Nat) (st : Nat → Option LA.Eqn) (w : World) (hs : Sys w p g W S r st) (hgood : LA.Good W S st) (hall : ∀ c, c < W → ∃ s, st c = some s) (hW1 : 1 ≤ W) :
    Calls Try.prog 40 #[.pointer (some ⟨p, 0, none⟩)] w (XOut w W S st) := by
  obtain ⟨hc0, hc1, _⟩ := hs.cells
  have hW := hs.hW
  have hS := hs.hS
  have HSY := Lib.hid hs
  have HGOOD := Lib.hid hgood
  have HALL := Lib.hid hall
  have hmk := makeX W hW
  obtain ⟨w1, hw1⟩ : ∃ w1, w1 = w.alloc (.cells (madeCells #[nilS] W) 26) := ⟨_, rfl⟩
  have hx1 : w.Extends w1 := by subst hw1; exact ext_alloc _ _
  have hX1 : XAt w1 w.heap.size W S W (fun _ => []) := by subst hw1; exact ⟨_, World.rowIs_made w nilS W _, fun c hc => ⟨fun _ => rfl, fun h => absurd hc (by omega)⟩⟩
  have HX1 := Lib.hid hx1
  have HXA := Lib.hid hX1
  have HXS : Hid (XSol W S W st (fun _ => [])) := ⟨fun i x hx => (by cases hx), fun c h1 h2 => absurd h2 (by omega)⟩
  obtain ⟨gx, hgx⟩ : ∃ gx, gx = w.heap.size := ⟨_, rfl⟩
  have hgw : gx < w1.heap.size := by subst hgx; subst hw1; simp
  have hmk' := hmk w
  rw [← hw1, ← hgx] at hmk'
  rw [← hgx] at HXA
  have HGX := Lib.hid hgx
  clear hs hgood hall hw1 hx1 hX1 hmk hgx
  go_enter Try.func40, Try.ntmps40
  go_wp2_with fail
  clear hc0 hc1 hmk'
  go_loopw [4] (fun i wr => ∃ (j : Nat) (xf : Nat → List Nat), j ≤ W ∧ (j = 0 ∧ i = .int .i64 (-1) ∨ ∃ c : Nat, j = c + 1 ∧ i = .int .i64 c) ∧ w1.grownBy wr (some gx) ∧ XAt wr gx W S j xf ∧ XSol W S j st xf) (fun i _ => (intOf i + 1).toNat)
  case atStart => exact ⟨W, _, Nat.le_refl _, .inr ⟨W - 1, by omega, by congr 1; omega⟩, grown_refl _ _, HXA.out, HXS.out⟩
  case round =>
    obtain ⟨j, xf, hj, hi, hg, hxa, hxs⟩ := hrel
    have HG := Lib.hid hg
    have HA := Lib.hid hxa
    have HS := Lib.hid hxs
    clear hg hxa hxs
    rcases hi with ⟨rfl, rfl⟩ | ⟨c, rfl, rfl⟩
    · have HOUT : Hid (w.Extends wr) := Gr.ext_of ((Gr.below_of HX1.out).trans (below_grown HG.out (by rw [← HGX.out]; exact Nat.le_refl _) HX1.out.size))
      go_wp2
      go_ret
      exact ⟨gx, xf, rfl, HOUT.out, HA.out, HS.out⟩
    · have hxw : w.Extends wr := Gr.ext_of ((Gr.below_of HX1.out).trans (below_grown HG.out (by rw [← HGX.out]; exact Nat.le_refl _) HX1.out.size))
      have hcW : c < W := by omega
      obtain ⟨s, hs⟩ := HALL.out c hcW
      have hsw := HSY.out.ext hxw
      obtain ⟨hp0, hp1, _⟩ := hsw.cells
      obtain ⟨vs, hvs, hst⟩ := hsw.steps
      have hck := hst c hcW
      rw [hs] at hck
      obtain ⟨b1, b2, ha, hb, ho1, hn1, ho2, hn2⟩ := hck
      have hv1 := hvs.cell (i := c * 2) (by omega)
      have hv2 := hvs.cell (i := c * 2 + 1) (by omega)
      rw [ha] at hv1
      rw [hb] at hv2
      have HNEW := Lib.hid (HS.out.set HGOOD.out hcW hs)
      have HU1 : Hid (U8s wr (.slice (some ⟨b1, 0, none⟩) W W) s.1) := by have := ho1.u8s; rw [hn1] at this; exact this
      have HU2 : Hid (U8s wr (.slice (some ⟨b2, 0, none⟩) S S) s.2) := by have := ho2.u8s; rw [hn2] at this; exact this
      have HXR := Lib.hid (HA.out.rws hW)
      have HXW := Lib.hid hxw
      clear ha hb ho1 hn1 ho2 hn2 hvs hst hsw hs hxw
      go_wp2_with fail
      generalize hwa : World.alloc wr _ = wa
      have hxa : wr.Extends wa := by subst hwa; exact ext_alloc _ _
      have hca : wa.cell? ⟨wr.heap.size, 0, none⟩ = some (.slice (some ⟨b1, 0, none⟩) W W) ∧ wa.cell? ⟨wr.heap.size, 1, none⟩ = some (.slice (some ⟨b2, 0, none⟩) S S) := by subst hwa; exact one_cells _ _ _ _
      clear hwa
      have HL1 : Hid (∀ w', wa.Extends w' → w'.cell? ⟨p, 0, none⟩ = some (.int .i64 S)) := fun w' hw' => (Gr.ext_trans hxa hw').cell_of hp0
      have HL3 : Hid (∀ w', wa.Extends w' → w'.cell? ⟨wr.heap.size, 0, none⟩ = some (.slice (some ⟨b1, 0, none⟩) W W)) := fun w' hw' => hw'.cell_of hca.1
      have HL4 : Hid (∀ w', wa.Extends w' → w'.cell? ⟨wr.heap.size, 1, none⟩ = some (.slice (some ⟨b2, 0, none⟩) S S)) := fun w' hw' => hw'.cell_of hca.2
      have HXA' := Lib.hid (Gr.ext_drew hxa)
      clear hca hxa hp0 hp1 hv1 hv2
      refine Gr.region 19 [(false,0),(false,1),(false,2),(false,3),(false,4),(false,5),(false,6),(false,7),(false,8),(false,9),(false,10),(false,11),(false,12),(false,13),(false,14),(true,15),(true,16),(true,17),(false,18)] (by kernel_rfl) (by kernel_rfl) (fun d _ _ _ _ h => by cases d <;> exact h) ?_
      simp only [Gr.pick, List.getElem?_cons_zero, List.getElem?_cons_succ, List.drop_succ_cons, List.drop_zero]
      iterate 15
        refine Gr.walk_t ?_ (Or.inl ⟨by rfl, ?_⟩) ?_
        rotate_left
        · intro w' hw'
          have hc1 := HL1.out w' (Gr.of_drew hw')
          have hc3 := HL3.out w' (Gr.of_drew hw')
          have hc4 := HL4.out w' (Gr.of_drew hw')
          clear hw'
          go_simp
          try with_reducible rfl
        simp only [Act.put, List.setIfInBounds_toArray, List.set_cons_zero, List.set_cons_succ]
      clear HL1 HL3 HL4
      refine Gr.walk_c (fun K hK => ?_)
      go_simp
      refine (mix_own S _ _ s.1 (known W (c + 1) xf) _ hS (HU1.out.ext HXA'.out) (HXR.out.ext HXA'.out)).mono ?_
      rintro _ w5 ⟨bm, hret, hx5, ho5⟩
      rw [show (RM.mix S s.1 (known W (c + 1) xf)).length = S from RM.mixTo_length _ _ _ _] at hret
      subst hret
      have HX5 := Lib.hid (Gr.ext_trans HXA'.out hx5)
      have HU5 : Hid (U8s w5 (.slice (some ⟨bm, 0, none⟩) S S) (RM.mix S s.1 (known W (c + 1) xf))) := by have := ho5.u8s; rw [show (RM.mix S s.1 (known W (c + 1) xf)).length = S from RM.mixTo_length _ _ _ _] at this; exact this
      clear ho5
      try go_simp
      refine hK.out _ _ hx5 ?_
      clear hK K hx5
      refine Gr.walk_c (fun K hK => ?_)
      go_simp
      generalize hw : World.alloc _ _ = w6
      have hx6 : w5.Extends w6 := by subst hw; exact ext_alloc _ _
      have HR6 : Hid (Rws w6 (.slice (some ⟨w5.heap.size, 0, none⟩) 2 2) [s.2, RM.mix S s.1 (known W (c + 1) xf)]) := by subst hw; exact rws_two _ _ _ _ _ _ _ (HU2.out.ext HX5.out) HU5.out
      clear hw
      have HX6 := Lib.hid (Gr.ext_trans HX5.out hx6)
      refine hK.out _ _ hx6 ?_
      clear hK K hx6
      refine Gr.walk_c (fun K hK => ?_)
      go_simp
      refine (sum_own S _ _ _ hS HR6.out).mono ?_
      rintro _ w7 ⟨bq, hret, hx7, ho7⟩
      rw [RM.sum_length] at hret
      subst hret
      have HX7 := Lib.hid (Gr.ext_trans HX6.out hx7)
      have HO7 := Lib.hid ho7
      clear ho7
      try go_simp
      refine hK.out _ _ hx7 ?_
      clear hK K hx7
      refine Gr.walk_t ?_ (Or.inl ⟨by rfl, ?_⟩) ?_
      rotate_left
      · intro w' hw'
        clear hw'
        go_simp
        try with_reducible rfl
      simp only [Act.put, List.setIfInBounds_toArray, List.set_cons_zero, List.set_cons_succ]
      refine Gr.walk_nil ?_
      have hA7 := HA.out.ext HX7.out
      have HN7 := Lib.hid (hA7.set hcW ⟨bq, rfl, HO7.out, RM.sum_length _ _⟩)
      obtain ⟨vx, hvx, _⟩ := hA7
      have hxc := hvx.cell hcW
      have hxf := hvx.frozen c
      have HG7 := Lib.hid (grown_trans HG.out (grown_ext (r := some gx) HX7.out))
      clear hvx
      go_wp2
      go_roundw
      case rel => exact ⟨c, _, by omega, (by cases c with | zero => exact .inl ⟨rfl, rfl⟩ | succ c => exact .inr ⟨c, rfl, by congr 1; omega⟩), grown_setCell HG7.out _ _, HN7.out, HNEW.out⟩
      case measure => simp [intOf]
end Go.Proofs.Ytkpgdgmjeoogdaa
