/- In one text: Trunc, Unk, Solve, DroMath, BlkMath, RankLaw. -/
import Derived.Test.YtpfmmfapdcbnkaaGreatDoorMB2
import Derived.Test.YtpfmmfapdcbnkaaGreatDoorMB4
import Derived.Test.YtpfmmfapdcbnkaaGreatDoorMB8
import Derived.Test.YtpfmmfapdcbnkaaGreatDoorMB10
namespace Go.Proofs.YtpfmmfapdcbnkaaGreatDoor
set_option maxRecDepth 20000
set_option linter.unusedVariables false
namespace LA
/-- A vector cut to W places. -/
def trunc (W : Nat) (v : V) : V := fun i => if i < W then v i else 0
theorem trunc_add (W : Nat) (u v : V) : trunc W (add u v) = add (trunc W u) (trunc W v) := funext fun i => by
  show (if i < W then u i ^^^ v i else 0) = (if i < W then u i else 0) ^^^ (if i < W then v i else 0)
  split <;> rfl
theorem trunc_scl (W c : Nat) (v : V) : trunc W (scl c v) = scl c (trunc W v) := funext fun i => by
  show (if i < W then FM.tm c (v i) else 0) = FM.tm c (if i < W then v i else 0)
  split
  · rfl
  · exact (FM.tm_zero_right c).symm
theorem span_trunc {W : Nat} {P : Nat → Prop} {f g : Nat → V} (e : ∀ j, P j → g j = trunc W (f j)) {v : V} (h : Span P f v) : Span P g (trunc W v) := by
  induction h using Span.ind with
  | zero =>
    have : trunc W zero = zero := funext fun i => by show (if i < W then 0 else 0) = 0; split <;> rfl
    rw [this]; exact .zero
  | more c j v hc hj _ ih => rw [trunc_add, trunc_scl, ← e j hj]; exact .more c j _ hc hj ih
theorem span_untrunc {W : Nat} {P : Nat → Prop} {f g : Nat → V} (e : ∀ j, P j → g j = trunc W (f j)) {u : V} (h : Span P g u) : ∃ v, Span P f v ∧ u = trunc W v := by
  induction h using Span.ind with
  | zero => exact ⟨zero, .zero, funext fun i => by show 0 = (if i < W then 0 else 0); split <;> rfl⟩
  | more c j u hc hj _ ih =>
    obtain ⟨v, h1, rfl⟩ := ih
    exact ⟨_, .more c j v hc hj h1, by rw [trunc_add, trunc_scl, ← e j hj]⟩
theorem lead_trunc {W : Nat} {P : Nat → Prop} {f g : Nat → V} (e : ∀ j, P j → g j = trunc W (f j)) (c : Nat) (hc : c < W) : Lead P f c ↔ Lead P g c := by
  constructor
  · rintro ⟨v, h1, h2, h3⟩
    exact ⟨_, span_trunc e h1, by show (if c < W then v c else 0) ≠ 0; rw [if_pos hc]; exact h2, fun i hi => by show (if i < W then v i else 0) = 0; rw [if_pos (by omega)]; exact h3 i hi⟩
  · rintro ⟨u, h1, h2, h3⟩
    obtain ⟨v, hv, rfl⟩ := span_untrunc e h1
    have h2' : (if c < W then v c else 0) ≠ 0 := h2
    rw [if_pos hc] at h2'
    refine ⟨v, hv, h2', fun i hi => ?_⟩
    have h3' : (if i < W then v i else 0) = 0 := h3 i hi
    rwa [if_pos (by omega)] at h3'
end LA
theorem rowsF_trunc (W S : Nat) (m d : List (List Nat)) (j : Nat) : rowsF W 0 m [] j = LA.trunc W (rowsF W S m d j) := funext fun i => by
  show (if i < W then (RM.sum W [m.getD j []]).getD i 0 else (RM.sum 0 [[]]).getD (i - W) 0) = (if i < W then (if i < W then (RM.sum W [m.getD j []]).getD i 0 else (RM.sum S [d.getD j []]).getD (i - W) 0) else 0)
  split
  · rfl
  · exact RM.getD_far _ _ (by rw [RM.sum_length]; omega)
end Go.Proofs.YtpfmmfapdcbnkaaGreatDoor
namespace Go.Proofs.YtpfmmfapdcbnkaaGreatDoor
set_option maxRecDepth 20000
open Go.RowKit
set_option linter.unusedVariables false
theorem mixTo_at (n m : Nat) (c : List Nat) (l : List (List Nat)) (k : Nat) (hk : k < n) : (RM.mixTo n m c l).getD k 0 = LA.dots m (fun i => c.getD i 0) (fun i => (l.getD i []).getD k 0) := by
  induction m with
  | zero => show (RM.zeros n).getD k 0 = 0; exact RM.zeros_getD n k
  | succ m ih => rw [RM.mixTo_succ, RM.xr_at _ _ _ (by rw [RM.mixTo_length]; exact hk), RM.scale_getD, LA.dots_succ, ih]
/-- The rows that are known: those from j on. -/
def known (W j : Nat) (xf : Nat → List Nat) : List (List Nat) := (List.range W).map fun i => if i < j then [] else xf i
theorem known_getD (W j : Nat) (xf : Nat → List Nat) (i : Nat) (h : i < W) : (known W j xf).getD i [] = if i < j then [] else xf i := by simp [known, List.getD_eq_getElem?_getD, h]
theorem known_length (W j : Nat) (xf : Nat → List Nat) : (known W j xf).length = W := by simp [known]
def RowOf (w : World) (S : Nat) (u : Value) (xs : List Nat) : Prop := ∃ b, u = .slice (some ⟨b, 0, none⟩) S S ∧ Own w b 5 xs ∧ xs.length = S
/-- x in memory: at gx, the rows from j on. -/
def XAt (w : World) (gx W S j : Nat) (xf : Nat → List Nat) : Prop := ∃ vs, w.rowIs gx 99 W vs ∧ ∀ c, c < W → (c < j → vs c = nilS) ∧ (j ≤ c → RowOf w S (vs c) (xf c))
theorem RowOf.u8s {w : World} {S : Nat} {u : Value} {xs : List Nat} (h : RowOf w S u xs) : U8s w u xs := by
  obtain ⟨b, rfl, ho, hl⟩ := h
  have := ho.u8s
  rwa [hl] at this
theorem XAt.rws {w : World} {gx W S j : Nat} {xf : Nat → List Nat} (h : XAt w gx W S j xf) (hW : W ≤ 300) : Rws w (.slice (some ⟨gx, 0, none⟩) W W) (known W j xf) := by
  obtain ⟨vs, h1, h2⟩ := h
  refine .inr ⟨gx, 0, W, by rw [known_length], by rw [known_length]; exact Nat.le_refl _, by unfold maxLen; omega, h1.lt, fun k hk => ?_⟩
  rw [known_length] at hk
  rw [known_getD W j xf k hk, Nat.zero_add]
  refine ⟨vs k, h1.cell hk, ?_⟩
  by_cases hkj : k < j
  · rw [if_pos hkj, (h2 k hk).1 hkj]; exact nil_u8s _ _ _
  · rw [if_neg hkj]; exact ((h2 k hk).2 (by omega)).u8s
theorem XAt.ext {w w' : World} {gx W S j : Nat} {xf : Nat → List Nat} (h : XAt w gx W S j xf) (hx : w.Extends w') : XAt w' gx W S j xf := by
  obtain ⟨vs, h1, h2⟩ := h
  refine ⟨vs, h1.of_block (hx.block _ h1.lt), fun c hc => ⟨(h2 c hc).1, fun hj => ?_⟩⟩
  obtain ⟨b, hb, ho, hl⟩ := (h2 c hc).2 hj
  exact ⟨b, hb, ho.ext hx, hl⟩
def updF (xf : Nat → List Nat) (c : Nat) (xs : List Nat) : Nat → List Nat := fun i => if i = c then xs else xf i
theorem XAt.set {w : World} {gx W S c : Nat} {xf : Nat → List Nat} {u : Value} {xs : List Nat} (h : XAt w gx W S (c + 1) xf) (hc : c < W) (hu : RowOf w S u xs) : XAt (w.setCell ⟨gx, c, none⟩ u) gx W S c (updF xf c xs) := by
  obtain ⟨vs, h1, h2⟩ := h
  obtain ⟨cs, hcs, _⟩ := id h1
  have keep : ∀ {v : Value} {ys : List Nat}, RowOf w S v ys → RowOf (w.setCell ⟨gx, c, none⟩ u) S v ys := fun {v ys} hr => by
    obtain ⟨b, hb, ho, hl⟩ := hr
    refine ⟨b, hb, ho.block ?_, hl⟩
    exact Below.heap_setCell _ ⟨gx, c, none⟩ _ b fun e => own_not (T' := 99) ho (by decide) (by have e' : b = gx := e; subst e'; exact hcs)
  refine ⟨_, h1.set c u, fun i hi => ⟨fun hij => ?_, fun hij => ?_⟩⟩
  · show (if i = c then u else vs i) = nilS
    rw [if_neg (by omega)]; exact (h2 i hi).1 (by omega)
  · show RowOf _ S (if i = c then u else vs i) (if i = c then xs else xf i)
    by_cases hic : i = c
    · rw [if_pos hic, if_pos hic]; exact keep hu
    · rw [if_neg hic, if_neg hic]; exact keep ((h2 i hi).2 (by omega))
/-- The rows from j on solve the steps from j on. -/
def XSol (W S j : Nat) (st : Nat → Option LA.Eqn) (xf : Nat → List Nat) : Prop := (∀ i, ∀ x ∈ xf i, x < 256) ∧ ∀ c, j ≤ c → c < W → ∀ s, st c = some s → ∀ k, k < S → s.2.getD k 0 = LA.dots W (fun i => s.1.getD i 0) (fun i => (xf i).getD k 0)
theorem XSol.set {W S c : Nat} {st : Nat → Option LA.Eqn} {xf : Nat → List Nat} {s : LA.Eqn} (h : XSol W S (c + 1) st xf) (hg : LA.Good W S st) (hc : c < W) (hs : st c = some s) :
    XSol W S c st (updF xf c (RM.sum S [s.2, RM.mix S s.1 (known W (c + 1) xf)])) := by
  obtain ⟨hd, h1, h0⟩ := hg c hc s hs
  have hmlt : ∀ x ∈ RM.mix S s.1 (known W (c + 1) xf), x < 256 := by
    have key : ∀ m, ∀ x ∈ RM.mixTo S m s.1 (known W (c + 1) xf), x < 256 := fun m => by
      induction m with
      | zero => intro x hx; simp [RM.mixTo, RM.zeros] at hx; omega
      | succ m ih => rw [RM.mixTo_succ]; exact RM.xr_lt _ _ ih (RM.scale_lt _ _ (getD_lt _ hd.2.2.1 m))
    exact key _
  have hml : (RM.mix S s.1 (known W (c + 1) xf)).length = S := RM.mixTo_length _ _ _ _
  refine ⟨fun i => ?_, fun d hdc hdW t ht k hk => ?_⟩
  · unfold updF; split
    · exact LA.sum_lt _ _ (by intro r hr; simp at hr; rcases hr with rfl | rfl; exact hd.2.2.2; exact hmlt)
    · exact h.1 i
  · -- rows before c do not count in rows from c on
    have hzero : ∀ i, i < d → t.1.getD i 0 = 0 := (hg d hdW t ht).2.2
    by_cases hdc' : d = c
    · subst hdc'
      rw [hs] at ht
      obtain rfl := Option.some.inj ht
      have e1 : LA.dots W (fun i => s.1.getD i 0) (fun i => ((known W (d + 1) xf).getD i []).getD k 0) ^^^ (updF xf d (RM.sum S [s.2, RM.mix S s.1 (known W (d + 1) xf)]) d).getD k 0 = LA.dots W (fun i => s.1.getD i 0) (fun i => (updF xf d (RM.sum S [s.2, RM.mix S s.1 (known W (d + 1) xf)]) i).getD k 0) := by
        have e2 : (fun i => (updF xf d (RM.sum S [s.2, RM.mix S s.1 (known W (d + 1) xf)]) i).getD k 0) = fun i => (updF xf d (RM.sum S [s.2, RM.mix S s.1 (known W (d + 1) xf)]) i).getD k 0 := rfl
        have e3 : LA.dots W (fun i => s.1.getD i 0) (fun i => if i = d then (updF xf d (RM.sum S [s.2, RM.mix S s.1 (known W (d + 1) xf)]) d).getD k 0 else 0) = (updF xf d (RM.sum S [s.2, RM.mix S s.1 (known W (d + 1) xf)]) d).getD k 0 := by
          rw [LA.dots_one W d _ _ hdW fun i hi hne => by simp only [if_neg hne]; exact FM.tm_zero_right _]
          simp only [if_true, h1]
          refine FM.tm_one_left _ (getD_lt _ ?_ k)
          unfold updF; rw [if_pos rfl]
          exact LA.sum_lt _ _ (by intro r hr; simp at hr; rcases hr with rfl | rfl; exact hd.2.2.2; exact hmlt)
        rw [← e3, ← LA.dots_add_right]
        refine LA.dots_congr W _ _ _ _ fun i hi => ?_
        show FM.tm (s.1.getD i 0) (((known W (d + 1) xf).getD i []).getD k 0 ^^^ (if i = d then _ else 0)) = _
        rw [known_getD W (d + 1) xf i hi]
        by_cases hid : i < d
        · rw [hzero i hid, FM.tm_zero_left, FM.tm_zero_left]
        · by_cases hid2 : i = d
          · subst hid2; rw [if_pos (by omega), if_pos rfl]; simp
          · rw [if_neg (by omega), if_neg hid2, Nat.xor_zero]; unfold updF; rw [if_neg hid2]
      rw [← e1]
      have e4 : (RM.mix S s.1 (known W (d + 1) xf)).getD k 0 = LA.dots W (fun i => s.1.getD i 0) (fun i => ((known W (d + 1) xf).getD i []).getD k 0) := by
        show (RM.mixTo S (min s.1.length (known W (d + 1) xf).length) _ _).getD k 0 = _
        rw [mixTo_at S _ _ _ k hk, hd.1, known_length, Nat.min_self]
      have e5 : (updF xf d (RM.sum S [s.2, RM.mix S s.1 (known W (d + 1) xf)]) d).getD k 0 = s.2.getD k 0 ^^^ (RM.mix S s.1 (known W (d + 1) xf)).getD k 0 := by
        unfold updF; rw [if_pos rfl]; exact LA.sum2_getD S _ _ hd.2.1 hml k
      rw [e5, e4, Nat.xor_comm (s.2.getD k 0), ← Nat.xor_assoc, Nat.xor_self, Nat.zero_xor]
    · rw [h.2 d (by omega) hdW t ht k hk]
      refine LA.dots_congr W _ _ _ _ fun i hi => ?_
      by_cases hic : i = c
      · subst hic; rw [hzero i (by omega), FM.tm_zero_left, FM.tm_zero_left]
      · unfold updF; rw [if_neg hic]
theorem rowinfo' : (Tryz.prog.info? 99).map (fun i => (i.zero, i.size, i.bytes)) = some (some (.slice none 0 0), 1, 24) := by kernel_rfl
theorem makeX (k : Nat) (hk : k ≤ 300) (w : World) : (Instr.makeSlice 87 (.int .i64 (k : Int)) (.int .i64 (k : Int))).run Tryz.prog w = .ok (.slice (some ⟨w.heap.size, 0, none⟩) k k) (w.alloc (.cells (madeCells #[nilS] k) 99)) :=
  run_make_row' (P := Tryz.prog) 87 99 nilS 24 Tryz.underlying87 rowinfo' rfl .i64 .i64 k (by omega) (by omega) w
def XOut (w : World) (W S : Nat) (st : Nat → Option LA.Eqn) (e : Ending) (w' : World) : Prop := ∃ gx xf, e = .returned (.slice (some ⟨gx, 0, none⟩) W W) ∧ w.Extends w' ∧ XAt w' gx W S 0 xf ∧ XSol W S 0 st xf
theorem mix_own (m : Nat) (u v : Value) (c : List Nat) (l : List (List Nat)) (w : World) (hm : m ≤ 1000) (hu : U8s w u c) (hv : Rws w v l) : Calls Tryz.prog 113 #[.int .i64 m, u, v] w (MadeOwn w (RM.mix m c l)) :=
  (mix_any m u v c l w hu hv).mono fun e w' ⟨he, hb, ho⟩ => by
    rw [cut_nat m hm] at he ho
    exact ⟨w.heap.size, by rw [show (RM.mix m c l).length = m from RM.mixTo_length _ _ _ _]; exact he, Gr.ext_of hb, ho⟩
set_option maxHeartbeats 4000000 in
theorem unknowns_any (p g W S r : Nat) (st : Nat → Option LA.Eqn) (w : World) (hs : Sys w p g W S r st) (hgood : LA.Good W S st) (hall : ∀ c, c < W → ∃ s, st c = some s) (hW1 : 1 ≤ W) :
    Calls Tryz.prog 100 #[.pointer (some ⟨p, 0, none⟩)] w (XOut w W S st) := by
  obtain ⟨hc0, hc1, _⟩ := hs.cells
  have hW := hs.hW
  have hS := hs.hS
  have HSY := Lib.hid hs
  have HGOOD := Lib.hid hgood
  have HALL := Lib.hid hall
  have hmk := makeX W hW
  obtain ⟨w1, hw1⟩ : ∃ w1, w1 = w.alloc (.cells (madeCells #[nilS] W) 99) := ⟨_, rfl⟩
  have hx1 : w.Extends w1 := by subst hw1; exact ext_alloc _ _
  have hX1 : XAt w1 w.heap.size W S W (fun _ => []) := by subst hw1; exact ⟨_, World.rowIs_made w nilS W _, fun c hc => ⟨fun _ => rfl, fun h => absurd hc (by omega)⟩⟩
  have HX1 := Lib.hid hx1
  have HXA := Lib.hid hX1
  have HXS : Hid (XSol W S W st (fun _ => [])) := ⟨fun i x hx => (by cases hx), fun c h1 h2 => absurd h2 (by omega)⟩
  obtain ⟨gx, hgx⟩ : ∃ gx, gx = w.heap.size := ⟨_, rfl⟩
  have hgw : gx < w1.heap.size := by subst hgx; subst hw1; simp
  have hmk' := hmk w
  rw [← hw1, ← hgx] at hmk'
  rw [← hgx] at HXA
  have HGX := Lib.hid hgx
  clear hs hgood hall hw1 hx1 hX1 hmk hgx
  go_enter Tryz.func100, Tryz.ntmps100
  go_wp2_with fail
  clear hc0 hc1 hmk'
  go_loopw [4] (fun i wr => ∃ (j : Nat) (xf : Nat → List Nat), j ≤ W ∧ (j = 0 ∧ i = .int .i64 (-1) ∨ ∃ c : Nat, j = c + 1 ∧ i = .int .i64 c) ∧ w1.grownBy wr (some gx) ∧ XAt wr gx W S j xf ∧ XSol W S j st xf) (fun i _ => (intOf i + 1).toNat)
  case atStart => exact ⟨W, _, Nat.le_refl _, .inr ⟨W - 1, by omega, by congr 1; omega⟩, grown_refl _ _, HXA.out, HXS.out⟩
  case round =>
    obtain ⟨j, xf, hj, hi, hg, hxa, hxs⟩ := hrel
    have HG := Lib.hid hg
    have HA := Lib.hid hxa
    have HS := Lib.hid hxs
    clear hg hxa hxs
    rcases hi with ⟨rfl, rfl⟩ | ⟨c, rfl, rfl⟩
    · have HOUT : Hid (w.Extends wr) := Gr.ext_of ((Gr.below_of HX1.out).trans (below_grown HG.out (by rw [← HGX.out]; exact Nat.le_refl _) HX1.out.size))
      go_wp2
      go_ret
      exact ⟨gx, xf, rfl, HOUT.out, HA.out, HS.out⟩
    · have hxw : w.Extends wr := Gr.ext_of ((Gr.below_of HX1.out).trans (below_grown HG.out (by rw [← HGX.out]; exact Nat.le_refl _) HX1.out.size))
      have hcW : c < W := by omega
      obtain ⟨s, hs⟩ := HALL.out c hcW
      have hsw := HSY.out.ext hxw
      obtain ⟨hp0, hp1, _⟩ := hsw.cells
      obtain ⟨vs, hvs, hst⟩ := hsw.steps
      have hck := hst c hcW
      rw [hs] at hck
      obtain ⟨b1, b2, ha, hb, ho1, hn1, ho2, hn2⟩ := hck
      have hv1 := hvs.cell (i := c * 2) (by omega)
      have hv2 := hvs.cell (i := c * 2 + 1) (by omega)
      rw [ha] at hv1
      rw [hb] at hv2
      have HNEW := Lib.hid (HS.out.set HGOOD.out hcW hs)
      have HU1 : Hid (U8s wr (.slice (some ⟨b1, 0, none⟩) W W) s.1) := by have := ho1.u8s; rw [hn1] at this; exact this
      have HU2 : Hid (U8s wr (.slice (some ⟨b2, 0, none⟩) S S) s.2) := by have := ho2.u8s; rw [hn2] at this; exact this
      have HXR := Lib.hid (HA.out.rws hW)
      have HXW := Lib.hid hxw
      clear ha hb ho1 hn1 ho2 hn2 hvs hst hsw hs hxw
      go_wp2_with fail
      generalize hwa : World.alloc wr _ = wa
      have hxa : wr.Extends wa := by subst hwa; exact ext_alloc _ _
      have hca : wa.cell? ⟨wr.heap.size, 0, none⟩ = some (.slice (some ⟨b1, 0, none⟩) W W) ∧ wa.cell? ⟨wr.heap.size, 1, none⟩ = some (.slice (some ⟨b2, 0, none⟩) S S) := by subst hwa; exact one_cells _ _ _ _
      clear hwa
      have HL1 : Hid (∀ w', wa.Extends w' → w'.cell? ⟨p, 0, none⟩ = some (.int .i64 S)) := fun w' hw' => (Gr.ext_trans hxa hw').cell_of hp0
      have HL3 : Hid (∀ w', wa.Extends w' → w'.cell? ⟨wr.heap.size, 0, none⟩ = some (.slice (some ⟨b1, 0, none⟩) W W)) := fun w' hw' => hw'.cell_of hca.1
      have HL4 : Hid (∀ w', wa.Extends w' → w'.cell? ⟨wr.heap.size, 1, none⟩ = some (.slice (some ⟨b2, 0, none⟩) S S)) := fun w' hw' => hw'.cell_of hca.2
      have HXA' := Lib.hid (Gr.ext_drew hxa)
      clear hca hxa hp0 hp1 hv1 hv2
      refine Gr.region 19 [(false,0),(false,1),(false,2),(false,3),(false,4),(false,5),(false,6),(false,7),(false,8),(false,9),(false,10),(false,11),(false,12),(false,13),(false,14),(true,15),(true,16),(true,17),(false,18)] (by kernel_rfl) (by kernel_rfl) (fun d _ _ _ _ h => by cases d <;> exact h) ?_
      simp only [Gr.pick, List.getElem?_cons_zero, List.getElem?_cons_succ, List.drop_succ_cons, List.drop_zero]
      iterate 15
        refine Gr.walk_t ?_ (Or.inl ⟨by rfl, ?_⟩) ?_
        rotate_left
        · intro w' hw'
          have hc1 := HL1.out w' (Gr.of_drew hw')
          have hc3 := HL3.out w' (Gr.of_drew hw')
          have hc4 := HL4.out w' (Gr.of_drew hw')
          clear hw'
          go_simp
          try with_reducible rfl
        simp only [Act.put, List.setIfInBounds_toArray, List.set_cons_zero, List.set_cons_succ]
      clear HL1 HL3 HL4
      refine Gr.walk_c (fun K hK => ?_)
      go_simp
      refine (mix_own S _ _ s.1 (known W (c + 1) xf) _ hS (HU1.out.ext HXA'.out) (HXR.out.ext HXA'.out)).mono ?_
      rintro _ w5 ⟨bm, hret, hx5, ho5⟩
      rw [show (RM.mix S s.1 (known W (c + 1) xf)).length = S from RM.mixTo_length _ _ _ _] at hret
      subst hret
      have HX5 := Lib.hid (Gr.ext_trans HXA'.out hx5)
      have HU5 : Hid (U8s w5 (.slice (some ⟨bm, 0, none⟩) S S) (RM.mix S s.1 (known W (c + 1) xf))) := by have := ho5.u8s; rw [show (RM.mix S s.1 (known W (c + 1) xf)).length = S from RM.mixTo_length _ _ _ _] at this; exact this
      clear ho5
      try go_simp
      refine hK.out _ _ hx5 ?_
      clear hK K hx5
      refine Gr.walk_c (fun K hK => ?_)
      go_simp
      generalize hw : World.alloc _ _ = w6
      have hx6 : w5.Extends w6 := by subst hw; exact ext_alloc _ _
      have HR6 : Hid (Rws w6 (.slice (some ⟨w5.heap.size, 0, none⟩) 2 2) [s.2, RM.mix S s.1 (known W (c + 1) xf)]) := by subst hw; exact rws_two _ _ _ _ _ _ _ (HU2.out.ext HX5.out) HU5.out
      clear hw
      have HX6 := Lib.hid (Gr.ext_trans HX5.out hx6)
      refine hK.out _ _ hx6 ?_
      clear hK K hx6
      refine Gr.walk_c (fun K hK => ?_)
      go_simp
      refine (sum_own S _ _ _ hS HR6.out).mono ?_
      rintro _ w7 ⟨bq, hret, hx7, ho7⟩
      rw [RM.sum_length] at hret
      subst hret
      have HX7 := Lib.hid (Gr.ext_trans HX6.out hx7)
      have HO7 := Lib.hid ho7
      clear ho7
      try go_simp
      refine hK.out _ _ hx7 ?_
      clear hK K hx7
      refine Gr.walk_t ?_ (Or.inl ⟨by rfl, ?_⟩) ?_
      rotate_left
      · intro w' hw'
        clear hw'
        go_simp
        try with_reducible rfl
      simp only [Act.put, List.setIfInBounds_toArray, List.set_cons_zero, List.set_cons_succ]
      refine Gr.walk_nil ?_
      have hA7 := HA.out.ext HX7.out
      have HN7 := Lib.hid (hA7.set hcW ⟨bq, rfl, HO7.out, RM.sum_length _ _⟩)
      obtain ⟨vx, hvx, _⟩ := hA7
      have hxc := hvx.cell hcW
      have hxf := hvx.frozen c
      have HG7 := Lib.hid (grown_trans HG.out (grown_ext (r := some gx) HX7.out))
      clear hvx
      go_wp2
      go_roundw
      case rel => exact ⟨c, _, by omega, (by cases c with | zero => exact .inl ⟨rfl, rfl⟩ | succ c => exact .inr ⟨c, rfl, by congr 1; omega⟩), grown_setCell HG7.out _ _, HN7.out, HNEW.out⟩
      case measure => simp [intOf]
end Go.Proofs.YtpfmmfapdcbnkaaGreatDoor
namespace Go.Proofs.YtpfmmfapdcbnkaaGreatDoor
set_option maxRecDepth 20000
open Go.RowKit
set_option linter.unusedVariables false
/-- Rows as unknowns: of place k, row i. -/
def xOf (X : List (List Nat)) (k : Nat) : LA.V := fun i => (X.getD i []).getD k 0
def Solvable (W S : Nat) (P : Nat → Prop) (f : Nat → LA.V) : Prop := (∀ c, c < W → LA.Lead P f c) ∧ ∃ x, LA.Sol W S P f x
/-- What solving answers: rows that solve, each column leading; or that there are none. -/
def SolveRes (W S : Nat) (P : Nat → Prop) (f : Nat → LA.V) : Option (List (List Nat)) → Prop
  | none => ¬ Solvable W S P f
  | some X => X.length = W ∧ (∀ i, i < W → (X.getD i []).length = S) ∧ (∀ c, c < W → LA.Lead P f c) ∧ LA.Sol W S P f (xOf X)
def errOf : Option (List (List Nat)) → Nat
  | none => 4
  | some _ => 0
theorem SolveRes.uniq {W S : Nat} {P : Nat → Prop} {f : Nat → LA.V} (hf : ∀ j, P j → LA.Bd (f j)) {a b : Option (List (List Nat))} (ha : SolveRes W S P f a) (hb : SolveRes W S P f b) : a = b := by
  cases a with
  | none =>
    cases b with
    | none => rfl
    | some Y => exact absurd ⟨hb.2.2.1, _, hb.2.2.2⟩ ha
  | some X =>
    cases b with
    | none => exact absurd ⟨ha.2.2.1, _, ha.2.2.2⟩ hb
    | some Y =>
      congr 1
      have hu := LA.Sol.uniq hf ha.2.2.1 ha.2.2.2 hb.2.2.2
      apply List.ext_getElem (by rw [ha.1, hb.1])
      intro i h1 h2
      rw [ha.1] at h1
      have e1 : X.getD i [] = X[i] := by simp [show i < X.length by rw [ha.1]; exact h1]
      have e2 : Y.getD i [] = Y[i] := by simp [show i < Y.length by rw [hb.1]; exact h1]
      rw [← e1, ← e2]
      refine RM.list_ext (by rw [ha.2.1 i h1, hb.2.1 i h1]) fun k hk => ?_
      rw [ha.2.1 i h1] at hk
      exact hu k hk i h1
def SolveOut (w : World) (W S : Nat) (P : Nat → Prop) (f : Nat → LA.V) (e : Ending) (w' : World) : Prop :=
  ∃ res v, SolveRes W S P f res ∧ e = .returned (.tuple #[v, .int .i64 (errOf res : Nat)]) ∧ Below w.heap.size w w' ∧ Rws w' v (res.getD [])
theorem vec_low (W : Nat) (s : LA.Eqn) (i : Nat) (h : i < W) : LA.vec W s i = s.1.getD i 0 := if_pos h
theorem vec_high (W : Nat) (s : LA.Eqn) (k : Nat) : LA.vec W s (W + k) = s.2.getD k 0 := by
  show (if W + k < W then _ else s.2.getD (W + k - W) 0) = _
  rw [if_neg (by omega), show W + k - W = k by omega]
/-- Rows that solve all steps solve all rows. -/
theorem xsol_res {W S r : Nat} {st : Nat → Option LA.Eqn} {P : Nat → Prop} {f : Nat → LA.V} {xf : Nat → List Nat} (hi : LA.Inv W S r st P f) (hf : ∀ j, P j → LA.Bd (f j)) (hr : r = W) (h : XSol W S 0 st xf) (hl : ∀ i, i < W → (xf i).length = S) : SolveRes W S P f (some (known W 0 xf)) := by
  have hk : ∀ i, i < W → (known W 0 xf).getD i [] = xf i := fun i hi => by rw [known_getD W 0 xf i hi, if_neg (by omega)]
  have hlead : ∀ c, c < W → LA.Lead P f c := by have := hi.rankIs; rw [hr] at this; exact this.full
  have hb : ∀ k, LA.Bd (xOf (known W 0 xf) k) := fun k i => by
    unfold xOf
    refine getD_lt _ ?_ k
    by_cases hiW : i < W
    · rw [hk i hiW]; exact h.1 i
    · rw [List.getD_eq_getElem?_getD, List.getElem?_eq_none (by rw [known_length]; omega)]; intro x hx; cases hx
  refine ⟨known_length _ _ _, fun i hi => by rw [hk i hi]; exact hl i hi, hlead, ?_⟩
  have hsol : LA.Sol W S (fun c => c < W ∧ LA.has st c = true) (LA.stF W st) (xOf (known W 0 xf)) := by
    refine ⟨hb, fun c hc k hk' => ?_⟩
    obtain ⟨s, hs⟩ := Option.isSome_iff_exists.1 hc.2
    have hst : LA.stF W st c = LA.vec W s := by unfold LA.stF; rw [hs]
    rw [hst, vec_high, h.2 c (by omega) hc.1 s hs k hk']
    refine LA.dots_congr W _ _ _ _ fun i hi => ?_
    rw [vec_low W s i hi]
    show FM.tm _ ((xf i).getD k 0) = FM.tm _ (((known W 0 xf).getD i []).getD k 0)
    rw [hk i hi]
  exact hsol.sub hi.good.bd fun j hj => hi.from_ _ (LA.Span.mem hf hj)
def SolveMid (w : World) (W S ll : Nat) (f : Nat → LA.V) (p g : Nat) (wr : World) (r : Nat) (st : Nat → Option LA.Eqn) (k : Nat) : Prop := Below w.heap.size w wr ∧ Sys wr p g W S r st ∧ LA.Inv W S r st (· < k) f
theorem XAt.lens {w : World} {gx W S : Nat} {xf : Nat → List Nat} (h : XAt w gx W S 0 xf) : ∀ i, i < W → (xf i).length = S := fun i hi => by
  obtain ⟨vs, _, h2⟩ := h
  obtain ⟨b, _, _, hl⟩ := (h2 i hi).2 (by omega)
  exact hl
set_option maxHeartbeats 4000000 in
theorem solve_good (W S : Nat) (u v : Value) (ml dl : List (List Nat)) (w : World) (hu : Rws w u ml) (hv : Rws w v dl) (h1 : 1 ≤ W) (h2 : W ≤ 300) (h3 : 1 ≤ S) (h4 : S ≤ 1000) (h5 : dl.length = ml.length) :
    Calls Tryz.prog 85 #[.int .i64 W, .int .i64 S, u, v] w (SolveOut w W S (· < ml.length) (rowsF W S ml dl)) := by
  have hm1 := hu.len
  have HBD : Hid (∀ j, LA.Bd (rowsF W S ml dl j)) := rowsF_bd _ _ hu.all_lt hv.all_lt
  have HDIM : Hid (∀ k, LA.Dim W S (RM.sum W [ml.getD k []], RM.sum S [dl.getD k []])) := fun k => LA.dim_cut W S (ml.getD k [], dl.getD k []) (getD_mem_lt hu.all_lt k) (getD_mem_lt hv.all_lt k)
  obtain ⟨a, cap, rfl, _⟩ := hu.slice
  obtain ⟨a', cap', rfl, _⟩ := hv.slice
  have HR := Lib.hid hu.at.2
  have HR2 := Lib.hid hv.at.2
  clear hu hv
  have HF : Hid (∀ k, rowsF W S ml dl k = LA.vec W (RM.sum W [ml.getD k []], RM.sum S [dl.getD k []])) := fun k => rfl
  generalize hF : rowsF W S ml dl = f at *
  have HFF := Lib.hid hF; clear hF
  rw [h5] at HR2 ⊢
  have H5 := Lib.hid h5; clear h5
  generalize hll : ml.length = ll at *
  have HL := Lib.hid hll; clear hll
  unfold maxLen at hm1
  go_enter Tryz.func85, Tryz.ntmps85
  go_wp2_with fail
  refine (newSystem_any W S h2 h4 _).mono ?_
  rintro e w1 ⟨p, g, rfl, hsys, hx, hp, hg⟩
  have HX1 := Lib.hid hx
  have HS1 := Lib.hid hsys
  clear hx hsys
  go_wp2_with fail
  go_loopw [38] (fun i wr => ∃ (k r : Nat) (st : Nat → Option LA.Eqn), k ≤ ll ∧ i = .int .i64 k ∧ SolveMid w W S ll f p g wr r st k) (fun i _ => (ll - intOf i).toNat)
  case atStart => exact ⟨0, 0, _, by omega, rfl, Gr.below_of HX1.out, HS1.out, (LA.Inv.start W S f).congrP fun j => by simp⟩
  case round =>
    obtain ⟨k, r, st, hk, rfl, hb, hsys, hinv⟩ := hrel
    have HB := Lib.hid hb
    have HS := Lib.hid hsys
    have HI := Lib.hid hinv
    clear hb hsys hinv
    by_cases hlt : k < ll
    · obtain ⟨b1, o1, rfl, hb1, hr1⟩ := HR.out (by omega)
      obtain ⟨b2, o2, rfl, hb2, hr2⟩ := HR2.out (by omega)
      obtain ⟨ra, rc, hc1, hu1⟩ := hr1 k hlt
      obtain ⟨rb, rd, hc2, hu2⟩ := hr2 k hlt
      have HL1 : Hid (∀ w', wr.Extends w' → w'.cell? ⟨b1, o1 + k, none⟩ = some (.slice ra (ml.getD k []).length rc)) := fun w' hw' => hw'.cell_of ((HB.out.cell (p := ⟨b1, o1 + k, none⟩) hb1).trans hc1)
      have HL2 : Hid (∀ w', wr.Extends w' → w'.cell? ⟨b2, o2 + k, none⟩ = some (.slice rb (dl.getD k []).length rd)) := fun w' hw' => hw'.cell_of ((HB.out.cell (p := ⟨b2, o2 + k, none⟩) hb2).trans hc2)
      have HU1 := Lib.hid (hu1.below HB.out rfl)
      have HU2 := Lib.hid (hu2.below HB.out rfl)
      have hr3 : r ≤ 300 := by have := HI.out.rankIs.le; omega
      clear hr1 hr2 hc1 hc2 hu1 hu2
      go_wp2_with fail
      refine Gr.region 9 [(false,0),(false,1),(false,2),(false,3),(false,4),(false,5),(false,6),(false,7),(false,8)] (by kernel_rfl) (by kernel_rfl) (fun d _ _ _ _ h => by cases d <;> exact h) ?_
      simp only [Gr.pick, List.getElem?_cons_zero, List.getElem?_cons_succ, List.drop_succ_cons, List.drop_zero]
      iterate 9
        refine Gr.walk_t ?_ (Or.inl ⟨by rfl, ?_⟩) ?_
        rotate_left
        · intro w' hw'
          have hc1 := HL1.out w' (Gr.of_drew hw')
          have hc2 := HL2.out w' (Gr.of_drew hw')
          clear hw'
          go_simp
          try with_reducible rfl
        simp only [Act.put, List.setIfInBounds_toArray, List.set_cons_zero, List.set_cons_succ]
      clear HL1 HL2
      refine Gr.walk_nil ?_
      go_wp2_with fail
      refine (take_any p g W S r st _ _ (ml.getD k []) (dl.getD k []) _ (HS.out.ext (Gr.ext_drew (Gr.ext_refl _))) HI.out.good hr3 HU1.out.drew HU2.out.drew).mono ?_
      intro e w2 ht
      have hbw := ht.2 w.heap.size hp hg (by exact HB.out.size)
      rcases inv_next HI.out HBD.out (HF.out k) (HDIM.out k) ht with ⟨r', st', rfl, hs', hi'⟩ | ⟨rfl, v, hv, hv0, q, hq, hvq⟩
      · have HP : Hid (SolveMid w W S ll f p g w2 r' st' (k + 1)) := ⟨HB.out.drew.trans hbw, hs', hi'⟩
        clear hbw ht hs' hi'
        go_wp2
        go_roundw
        case rel => exact ⟨k + 1, r', st', by omega, by go_num, HP.out⟩
        case measure => simp [intOf]; omega
      · have HOUT : Hid (SolveOut w W S (· < ll) f (.returned (.tuple #[nilS, .int .i64 4])) w2) := by
          refine ⟨none, nilS, fun ⟨_, x, hx⟩ => ?_, rfl, HB.out.drew.trans hbw, Rws.nil _ _ _⟩
          exact hvq (hx.never (fun j _ => HBD.out j) (hv.mono fun j hj => by omega) hv0 q hq)
        clear hbw ht hv hv0 hvq
        go_wp2
        go_ret2
        exact HOUT.out
    · obtain rfl : k = ll := by omega
      by_cases hfull : r = W
      · have HD : Hid (decide (r = W) = true) := decide_eq_true hfull
        have HFULL := Lib.hid hfull
        have HALL : Hid (∀ c, c < W → ∃ s, st c = some s) := fun c hc => by
          have h := HI.out.rank
          rw [HFULL.out] at h
          exact Option.isSome_iff_exists.1 (LA.cnt_all W h.symm c hc)
        clear hfull
        go_wp2_with fail
        refine (full_any p g W S r st _ HS.out).mono ?_
        rintro _ w2 ⟨rfl, rfl⟩
        rw [HD.out]
        go_wp2_with fail
        refine (unknowns_any p g W S r st _ (HS.out.ext (Gr.ext_drew (Gr.ext_refl _))) HI.out.good HALL.out h1).mono ?_
        rintro _ w2 ⟨gx, xf, rfl, hx2, hxa, hxs⟩
        have HOUT : Hid (SolveOut w W S (· < k) f (.returned (.tuple #[.slice (some ⟨gx, 0, none⟩) W W, .int .i64 0])) w2) :=
          ⟨some (known W 0 xf), _, xsol_res HI.out (fun j _ => HBD.out j) HFULL.out hxs hxa.lens, rfl, HB.out.drew.trans ((Gr.below_of hx2).mono (by exact HB.out.size)), hxa.rws h2⟩
        clear hx2 hxa hxs
        go_wp2
        go_ret2
        exact HOUT.out
      · have HD : Hid (decide (r = W) = false) := decide_eq_false hfull
        have HOUT : Hid (SolveOut w W S (· < k) f (.returned (.tuple #[nilS, .int .i64 4])) wr.drew) :=
          ⟨none, nilS, fun ⟨hl, _⟩ => HI.out.rankIs.notfull (by have := HI.out.rankIs.le; omega) hl, rfl, HB.out.drew, Rws.nil _ _ _⟩
        clear hfull
        go_wp2_with fail
        refine (full_any p g W S r st _ HS.out).mono ?_
        rintro _ w2 ⟨rfl, rfl⟩
        rw [HD.out]
        go_wp2
        go_ret2
        exact HOUT.out
end Go.Proofs.YtpfmmfapdcbnkaaGreatDoor
namespace Go.Proofs.YtpfmmfapdcbnkaaGreatDoor.DM
/-- Those rows of c that the numbers p name. -/
def pick (c : List (List Nat)) (p : List Nat) : List (List Nat) := p.map fun i => c.getD i []
theorem pick_length (c : List (List Nat)) (p : List Nat) : (pick c p).length = p.length := by simp [pick]
theorem pick_snoc (c : List (List Nat)) (p : List Nat) (i : Nat) (h : i < p.length) : pick c (p.take i) ++ [c.getD (p.getD i 0) []] = pick c (p.take (i + 1)) := by
  show _ = (p.take (i + 1)).map _
  rw [List.take_succ_eq_append_getElem h, List.map_append, show p.getD i 0 = p[i] by simp [h]]; rfl
/-- The symbol. -/
def drop (k j size : Nat) (c : List (List Nat)) (esi : Nat) : List Nat := RM.sum size (pick c (TM.parts k j esi))
theorem drop_length (k j size : Nat) (c : List (List Nat)) (esi : Nat) : (drop k j size c esi).length = size := RM.sum_length _ _
theorem sum_pick_at (size : Nat) (c : List (List Nat)) (p : List Nat) (i : Nat) (h : i < size) : (RM.sum size (pick c p)).getD i 0 = p.foldl (fun x q => x ^^^ (c.getD q []).getD i 0) 0 := by
  rw [RM.sum_at _ _ _ h, pick, List.foldl_map]
/-- The symbols of all these numbers, where each has one; d: the symbol of a number, nothing where there is none. -/
def all (d : Int → List Nat) (es : List Int) : List (List Nat) := if es.all (fun e => decide (0 < (d e).length)) then es.map d else []
theorem all_yes (d : Int → List Nat) (es : List Int) (h : ∀ i, i < es.length → 0 < (d (es.getD i 0)).length) : all d es = es.map d := by
  unfold all
  rw [if_pos]
  rw [List.all_eq_true]
  intro e he
  obtain ⟨i, hi, rfl⟩ := List.mem_iff_getElem.1 he
  have := h i hi
  simpa [hi] using this
theorem all_no (d : Int → List Nat) (es : List Int) (i : Nat) (h : i < es.length) (h0 : (d (es.getD i 0)).length = 0) : all d es = [] := by
  unfold all
  rw [if_neg]
  intro ha
  have := List.all_eq_true.1 ha (es.getD i 0) (by simp [h])
  simp only [decide_eq_true_eq] at this
  omega
theorem map_snoc (d : Int → List Nat) (es : List Int) (i : Nat) (h : i < es.length) : (es.take i).map d ++ [d (es.getD i 0)] = (es.take (i + 1)).map d := by
  rw [List.take_succ_eq_append_getElem h, List.map_append, show es.getD i 0 = es[i] by simp [h]]; rfl
end Go.Proofs.YtpfmmfapdcbnkaaGreatDoor.DM
namespace Go.Proofs.YtpfmmfapdcbnkaaGreatDoor
set_option maxRecDepth 20000
set_option linter.unusedVariables false
namespace LA
open FM
/-- Rows can be brought to steps, column by column. -/
theorem ref_exists {n : Nat} {u0 : Nat → V} (hb : ∀ j, j < n → Bd (u0 j)) : ∀ c, ∃ r has u, RefInv c r n has u u0
  | 0 => ⟨0, _, _, RefInv.start n u0 hb⟩
  | c + 1 => by
    obtain ⟨r, has, u, h⟩ := ref_exists hb c
    by_cases hp : ∃ p, r ≤ p ∧ p < n ∧ u p c ≠ 0
    · obtain ⟨p, h1, h2, h3⟩ := hp
      exact ⟨_, _, _, h.step h1 h2 h3⟩
    · exact ⟨_, _, _, h.skip fun j h1 h2 => Decidable.byContradiction fun h3 => hp ⟨j, h1, h2, h3⟩⟩
/-- As many rows as columns, which all lead: some unknowns solve. -/
theorem square {W S : Nat} {f : Nat → V} (hf : ∀ j, j < W → Bd (f j)) (hl : RankIs W (· < W) f W) : ∃ x, Sol W S (· < W) f x := by
  obtain ⟨r, has, u, h⟩ := ref_exists hf W
  have hr : r = W := h.rankIs.uniq hl
  have hu := h.unit hr
  refine ⟨fun k i => if i < W then u i (W + k) else 0, ?_⟩
  have hs : Sol W S (· < W) u (fun k i => if i < W then u i (W + k) else 0) := by
    have hbx : ∀ k, Bd (fun i => if i < W then u i (W + k) else 0) := fun k i => by
      show (if i < W then u i (W + k) else 0) < 256
      split
      · rename_i hi; exact h.bd i hi _
      · omega
    refine ⟨hbx, fun j hj k hk => ?_⟩
    rw [dots_one W j _ _ hj fun i hi hne => by rw [hu j hj i hi, if_neg (Ne.symm hne), tm_zero_left], hu j hj j hj, if_pos rfl, tm_one_left _ (hbx k j)]
    show _ = (if j < W then u j (W + k) else 0)
    rw [if_pos hj]
  exact hs.sub h.bd h.from_
/-- A list of unknowns as rows. -/
theorem sol_rows {W S : Nat} {P : Nat → Prop} {f : Nat → V} {x : Nat → V} (hl : ∀ c, c < W → Lead P f c) (hs : Sol W S P f x) : ∃ X, SolveRes W S P f (some X) := by
  refine ⟨(List.range W).map fun i => (List.range S).map fun k => x k i, by simp, fun i hi => by simp [hi], hl, ?_⟩
  have hx : ∀ i k, i < W → k < S → xOf ((List.range W).map fun i => (List.range S).map fun k => x k i) k i = x k i := fun i k hi hk => by
    unfold xOf; simp [hi, hk]
  have hb : ∀ i k, xOf ((List.range W).map fun i => (List.range S).map fun k => x k i) k i < 256 := fun i k => by
    by_cases hi : i < W
    · by_cases hk : k < S
      · rw [hx i k hi hk]; exact hs.1 k i
      · unfold xOf; simp [hi, hk]
    · unfold xOf; simp [hi]
  refine ⟨fun k i => hb i k, fun j hj k hk => ?_⟩
  rw [hs.2 j hj k hk]
  exact dots_congr W _ _ _ _ fun i hi => by rw [hx i k hi hk]
/-- Where l are unlike places: the products with the row that has 1 at these. -/
def ind (l : List Nat) : V := fun i => if i ∈ l then 1 else 0
theorem fold_start (p : List Nat) (f : Nat → Nat) : ∀ s : Nat, p.foldl (fun x q => x ^^^ f q) s = s ^^^ p.foldl (fun x q => x ^^^ f q) 0 := by
  induction p with
  | nil => intro s; simp
  | cons q p ih => intro s; rw [List.foldl_cons, List.foldl_cons, ih, ih (0 ^^^ f q), Nat.zero_xor, Nat.xor_assoc]
theorem dots_ind (n : Nat) (y : V) (hy : Bd y) : ∀ l : List Nat, l.Nodup → (∀ q ∈ l, q < n) → dots n (ind l) y = l.foldl (fun x q => x ^^^ y q) 0
  | [], _, _ => dots_zero n _ _ fun i _ => by
      show tm (if i ∈ ([] : List Nat) then 1 else 0) _ = 0
      rw [if_neg (by simp), tm_zero_left]
  | q :: l, hn, hlt => by
    rw [List.nodup_cons] at hn
    have hb : ∀ l, Bd (ind l) := fun l i => by show (if i ∈ l then 1 else 0) < 256; split <;> omega
    have e : ind (q :: l) = LA.add (ind l) (ind [q]) := funext fun i => by
      show (if i ∈ q :: l then 1 else 0) = (if i ∈ l then 1 else 0) ^^^ (if i ∈ [q] then 1 else 0)
      by_cases h1 : i = q
      · subst h1; rw [if_pos (by simp), if_neg hn.1, if_pos (by simp)]; rfl
      · by_cases h2 : i ∈ l
        · rw [if_pos (by simp [h2]), if_pos h2, if_neg (by simp [h1])]; rfl
        · rw [if_neg (by simp [h1, h2]), if_neg h2, if_neg (by simp [h1])]; rfl
    rw [e, dots_add n _ _ y (hb _) (hb _), dots_ind n y hy l hn.2 (fun p hp => hlt p (by simp [hp])), List.foldl_cons, fold_start l y (0 ^^^ y q), Nat.zero_xor, Nat.xor_comm]
    congr 1
    rw [dots_one n q _ y (hlt q (by simp)) fun i hi hne => by
      show tm (if i ∈ [q] then 1 else 0) _ = 0
      rw [if_neg (by simpa using hne), tm_zero_left]]
    show tm (if q ∈ [q] then 1 else 0) _ = _
    rw [if_pos (by simp), tm_one_left _ (hy q)]
end LA
theorem TM.marks_at (n : Nat) (l : List Nat) (i : Nat) (h : i < n) : (TM.marks n l).getD i 0 = LA.ind l i := by
  have key : ∀ (l r : List Nat), i < r.length → (l.foldl (fun r p => r.set p 1) r).getD i 0 = if i ∈ l then 1 else r.getD i 0 := by
    intro l
    induction l with
    | nil => intro r _; simp
    | cons p l ih =>
      intro r hr
      rw [List.foldl_cons, ih _ (by rw [List.length_set]; exact hr)]
      by_cases h1 : i ∈ l
      · rw [if_pos h1, if_pos (by simp [h1])]
      · rw [if_neg h1]
        by_cases h2 : i = p
        · subst h2; rw [if_pos (by simp)]; simp [hr]
        · rw [if_neg (by simp [h1, h2])]; simp [Ne.symm h2]
  unfold TM.marks
  rw [key l _ (by simpa using h)]
  show _ = (if i ∈ l then 1 else 0)
  split
  · rfl
  · simp [h]
namespace BM
/-- What the rows are to be mixed to: nothing for the low and the high ones, then the source. -/
def mixed (k : Nat) (src : List (List Nat)) : List (List Nat) := List.replicate (PM.s k + 2) [] ++ src
theorem mixed_length (k : Nat) (src : List (List Nat)) : (mixed k src).length = PM.s k + 2 + src.length := by simp [mixed]
theorem mixed_low (k : Nat) (src : List (List Nat)) (i : Nat) (h : i < PM.s k + 2) : (mixed k src).getD i [] = [] := by
  unfold mixed
  rw [List.getD_eq_getElem?_getD, List.getElem?_append_left (by rw [List.length_replicate]; exact h), List.getElem?_replicate, if_pos h]; rfl
theorem mixed_src (k : Nat) (src : List (List Nat)) (i : Nat) : (mixed k src).getD (PM.s k + 2 + i) [] = src.getD i [] := by
  unfold mixed
  rw [List.getD_eq_getElem?_getD, List.getElem?_append_right (by simp), List.getD_eq_getElem?_getD]; simp
theorem mixed_lt (k : Nat) {src : List (List Nat)} (h : ∀ r ∈ src, ∀ x ∈ r, x < 256) : ∀ r ∈ mixed k src, ∀ x ∈ r, x < 256 := by
  intro r hr x hx
  rcases List.mem_append.1 hr with h' | h'
  · rw [(List.mem_replicate.1 h').2] at hx; cases hx
  · exact h r h' x hx
/-- The rows and what they are mixed to, as vectors. -/
def F (k j size : Nat) (src : List (List Nat)) : Nat → LA.V := rowsF (PM.l k) size (SM.rows k j) (mixed k src)
def PartsIs (k j size : Nat) (src c : List (List Nat)) : Prop := SolveRes (PM.l k) size (· < PM.l k) (F k j size src) (some c)
theorem rows_l (k j : Nat) : (SM.rows k j).length = PM.l k := by rw [SM.rows_length]; unfold PM.l PM.w; omega
theorem rows_lt (k j : Nat) : ∀ r ∈ SM.rows k j, ∀ x ∈ r, x < 256 := by
  intro r hr x hx
  unfold SM.rows QM.mat at hr
  rcases List.mem_append.1 hr with h | h
  · rcases List.mem_append.1 h with h | h
    · obtain ⟨i, _, rfl⟩ := List.mem_map.1 h
      exact QM.tab_lt (fun x _ => QM.lowE_lt _ _ _) x hx
    · obtain ⟨i, _, rfl⟩ := List.mem_map.1 h
      exact QM.tab_lt (fun x _ => QM.hiE_lt _ _ _) x hx
  · obtain ⟨e, _, rfl⟩ := List.mem_map.1 h
    exact TM.marks_lt _ _ x hx
theorem F_bd (k j size : Nat) {src : List (List Nat)} (h : ∀ r ∈ src, ∀ x ∈ r, x < 256) (i : Nat) : LA.Bd (F k j size src i) := rowsF_bd _ _ (rows_lt k j) (mixed_lt k h) i
theorem F_low (k j size : Nat) (src : List (List Nat)) (i x : Nat) (h : x < PM.l k) : F k j size src i x = (RM.sum (PM.l k) [(SM.rows k j).getD i []]).getD x 0 := if_pos h
theorem F_high (k j size : Nat) (src : List (List Nat)) (i x : Nat) (h : x < size) : F k j size src i (PM.l k + x) = ((mixed k src).getD i []).getD x 0 := by
  unfold F rowsF
  rw [vec_high]
  exact LA.sum1_getD size _ x h
theorem PartsIs.uniq {k j size : Nat} {src c c' : List (List Nat)} (hs : ∀ r ∈ src, ∀ x ∈ r, x < 256) (h : PartsIs k j size src c) (h' : PartsIs k j size src c') : c = c' :=
  Option.some.inj (SolveRes.uniq (fun i _ => F_bd k j size hs i) h h')
theorem lead_of {k j : Nat} (size : Nat) (src : List (List Nat)) (g : SM.Good k j) : ∀ c, c < PM.l k → LA.Lead (· < PM.l k) (F k j size src) c := fun c hc => by
  unfold SM.Good at g
  rw [rows_l] at g
  exact (LA.lead_trunc (fun i _ => rowsF_trunc (PM.l k) size (SM.rows k j) (mixed k src) i) c hc).2 (g.full c hc)
/-- There are parts. -/
theorem parts_exist {k j : Nat} (size : Nat) {src : List (List Nat)} (g : SM.Good k j) (hs : ∀ r ∈ src, ∀ x ∈ r, x < 256) : ∃ c, PartsIs k j size src c := by
  have hl := lead_of size src g
  obtain ⟨x, hx⟩ := LA.square (S := size) (fun i _ => F_bd k j size hs i) (LA.RankIs.of_full hl)
  exact LA.sol_rows hl hx
/-- Whatever solving answers, it is these. -/
theorem res_some {k j size : Nat} {src : List (List Nat)} {res : Option (List (List Nat))} (g : SM.Good k j) (hs : ∀ r ∈ src, ∀ x ∈ r, x < 256) (h : SolveRes (PM.l k) size (· < PM.l k) (F k j size src) res) : ∃ c, res = some c ∧ PartsIs k j size src c := by
  obtain ⟨c, hc⟩ := parts_exist size g hs
  exact ⟨c, SolveRes.uniq (fun i _ => F_bd k j size hs i) h hc, hc⟩
theorem PartsIs.len {k j size : Nat} {src c : List (List Nat)} (h : PartsIs k j size src c) : c.length = PM.l k := h.1
theorem append_map_at {X : Type} (A : List X) (g : Nat → X) (l : List Int) (n i e : Nat) (d : X) (hA : A.length = n) (hl : l[i]? = some (e : Int)) : (A ++ l.map fun x => g x.toNat).getD (n + i) d = g e := by
  rw [List.getD_eq_getElem?_getD, List.getElem?_append_right (by omega), show n + i - A.length = i by omega, List.getElem?_map, hl]
  rfl
theorem iota_some (k i : Nat) (hi : i < k) : (SM.iota k)[i]? = some (i : Int) := by
  have := SM.iota_at k i hi
  rw [List.getD_eq_getElem?_getD, List.getElem?_eq_getElem (by rw [SM.iota_length]; exact hi)] at this
  rw [List.getElem?_eq_getElem (by rw [SM.iota_length]; exact hi)]
  simpa using this
theorem row_sym (k j i : Nat) (hi : i < k) : (SM.rows k j).getD (PM.s k + 2 + i) [] = TM.row k j i := by
  have hA : (QM.low k ++ QM.high k).length = PM.s k + 2 := by rw [List.length_append]; unfold QM.low QM.high; rw [QM.grid_length, QM.grid_length]
  have hI := iota_some k i hi
  unfold SM.rows QM.mat QM.syms
  generalize QM.low k ++ QM.high k = A at *
  generalize TM.row k j = g at *
  exact append_map_at A g _ _ i i [] hA hI
/-- The symbols of the first numbers are the source. -/
theorem PartsIs.source {k j size : Nat} {src c : List (List Nat)} (h : PartsIs k j size src c) (i : Nat) (hi : i < k) (hl : (src.getD i []).length = size) : DM.drop k j size c i = src.getD i [] := by
  refine RM.list_ext (by rw [DM.drop_length, hl]) fun x hx => ?_
  rw [DM.drop_length] at hx
  have hrow : PM.s k + 2 + i < PM.l k := by unfold PM.l PM.w; omega
  have h1 := h.2.2.2.2 (PM.s k + 2 + i) hrow x hx
  rw [F_high k j size src _ x hx, mixed_src] at h1
  rw [h1]
  unfold DM.drop
  rw [DM.sum_pick_at _ _ _ _ hx]
  have hnd : (TM.parts k j i).Nodup := TM.partsW_once _ _
  have hlt : ∀ q ∈ TM.parts k j i, q < PM.l k := fun q hq => TM.partsW_lt _ _ q hq
  have hr : ∀ q, q < PM.l k → F k j size src (PM.s k + 2 + i) q = LA.ind (TM.parts k j i) q := fun q hq => by
    rw [F_low k j size src _ q hq, LA.sum1_getD _ _ q hq, row_sym k j i hi]
    exact TM.marks_at _ _ _ hq
  generalize TM.parts k j i = p at *
  rw [LA.dots_congr (PM.l k) _ _ (LA.ind p) (xOf c x) (fun q hq => by rw [hr q hq]), LA.dots_ind (PM.l k) _ (h.2.2.2.1 x) p hnd hlt]
  rfl
/-- The reference's rows of 0 say the same. -/
def mixed0 (k size : Nat) (src : List (List Nat)) : List (List Nat) := List.replicate (PM.s k + 2) (RM.zeros size) ++ src
theorem mixed0_at (k size : Nat) (src : List (List Nat)) (i x : Nat) (h : x < size) : ((mixed0 k size src).getD i []).getD x 0 = ((mixed k src).getD i []).getD x 0 := by
  by_cases hi : i < PM.s k + 2
  · rw [mixed_low _ _ _ hi]
    unfold mixed0
    have : (List.replicate (PM.s k + 2) (RM.zeros size) ++ src).getD i [] = RM.zeros size := by
      rw [List.getD_eq_getElem?_getD, List.getElem?_append_left (by rw [List.length_replicate]; exact hi), List.getElem?_replicate, if_pos hi]; rfl
    rw [this, RM.zeros_getD]; simp
  · obtain ⟨q, rfl⟩ : ∃ q, i = PM.s k + 2 + q := ⟨i - (PM.s k + 2), by omega⟩
    rw [mixed_src]
    unfold mixed0
    congr 1
    rw [List.getD_eq_getElem?_getD, List.getElem?_append_right (by simp), List.getD_eq_getElem?_getD]; simp
theorem F_mixed0 (k j size : Nat) (src : List (List Nat)) : rowsF (PM.l k) size (SM.rows k j) (mixed0 k size src) = F k j size src := funext fun i => by
  unfold F rowsF
  congr 2
  refine RM.list_ext (by rw [RM.sum_length, RM.sum_length]) fun x hx => ?_
  rw [RM.sum_length] at hx
  rw [LA.sum1_getD _ _ _ hx, LA.sum1_getD _ _ _ hx, mixed0_at k size src i x hx]
end BM
end Go.Proofs.YtpfmmfapdcbnkaaGreatDoor
namespace Go.Proofs.YtpfmmfapdcbnkaaGreatDoor
set_option maxRecDepth 20000
open Go.RowKit
set_option linter.unusedVariables false
/-- The rank of rows. -/
def Rk (W : Nat) (l : List (List Nat)) (r : Nat) : Prop := LA.RankIs W (· < l.length) (rowsF W 0 l []) r
theorem rows_snoc (W : Nat) (l : List (List Nat)) (t : List Nat) (j : Nat) (h : j < (l ++ [t]).length) : (j < l.length ∧ rowsF W 0 (l ++ [t]) [] j = rowsF W 0 l [] j) ∨ rowsF W 0 (l ++ [t]) [] j = LA.vec W (RM.sum W [t], RM.sum 0 [[]]) := by
  by_cases hj : j < l.length
  · refine .inl ⟨hj, ?_⟩
    unfold rowsF
    rw [show (l ++ [t]).getD j [] = l.getD j [] by simp [List.getD_eq_getElem?_getD, List.getElem?_append_left hj]]
  · refine .inr ?_
    have hj' : j = l.length := by simp at h; omega
    subst hj'
    unfold rowsF
    rw [show (l ++ [t]).getD l.length [] = t by simp]; rfl
theorem rows_bd (W : Nat) {l : List (List Nat)} (h : ∀ r ∈ l, ∀ x ∈ r, x < 256) : ∀ j, j < l.length → LA.Bd (rowsF W 0 l [] j) := fun j _ => rowsF_bd W 0 h (by intro r hr; cases hr) j
theorem span_snoc (W : Nat) (l : List (List Nat)) (t : List Nat) (h : ∀ r ∈ l ++ [t], ∀ x ∈ r, x < 256) (v : LA.V) (hv : LA.Span (· < l.length) (rowsF W 0 l []) v) : LA.Span (· < (l ++ [t]).length) (rowsF W 0 (l ++ [t]) []) v := by
  refine hv.sub (rows_bd W h) fun j hj => ?_
  have hj' : j < (l ++ [t]).length := by simp; omega
  rcases rows_snoc W l t j hj' with ⟨_, he⟩ | he
  · rw [← he]; exact LA.Span.mem (rows_bd W h) hj'
  · have : rowsF W 0 (l ++ [t]) [] j = rowsF W 0 l [] j := by
      unfold rowsF
      rw [show (l ++ [t]).getD j [] = l.getD j [] by simp [List.getD_eq_getElem?_getD, List.getElem?_append_left hj]]
    rw [← this]; exact LA.Span.mem (rows_bd W h) hj'
theorem snoc_lt {l : List (List Nat)} {t : List Nat} (h : ∀ r ∈ l, ∀ x ∈ r, x < 256) (ht : ∀ x ∈ t, x < 256) : ∀ r ∈ l ++ [t], ∀ x ∈ r, x < 256 := by
  intro r hr
  rcases List.mem_append.1 hr with hr | hr
  · exact h r hr
  · simp at hr; subst hr; exact ht
/-- One row more: by one or not. -/
theorem Rk.more {W a b : Nat} {l : List (List Nat)} {t : List Nat} (hl : ∀ r ∈ l, ∀ x ∈ r, x < 256) (ht : ∀ x ∈ t, x < 256) (h : Rk W l a) (h' : Rk W (l ++ [t]) b) : a ≤ b ∧ b ≤ a + 1 :=
  LA.RankIs.one_more (t := LA.vec W (RM.sum W [t], RM.sum 0 [[]])) (rows_bd W hl) (LA.vec_bd (LA.dim_cut W 0 (t, []) ht (by intro x hx; cases hx))) h h' (rows_snoc W l t) (span_snoc W l t (snoc_lt hl ht))
theorem Rk.le {W a : Nat} {l : List (List Nat)} (h : Rk W l a) : a ≤ W := LA.RankIs.le h
theorem cnt_exists (W : Nat) (P : Nat → Prop) (f : Nat → LA.V) : ∃ r, LA.RankIs W P f r := by
  obtain ⟨has, h⟩ : ∃ has : Nat → Bool, ∀ c, has c = true ↔ LA.Lead P f c := ⟨fun c => @decide (LA.Lead P f c) (Classical.propDecidable _), fun c => @decide_eq_true_iff _ (Classical.propDecidable _)⟩
  exact ⟨_, has, fun c _ => h c, rfl⟩
theorem Rk.count {W : Nat} : ∀ (k : Nat) (l : List (List Nat)) (a : Nat), l.length = k → (∀ r ∈ l, ∀ x ∈ r, x < 256) → Rk W l a → a ≤ l.length
  | 0, l, a, hk, _, h => by
    obtain rfl := List.eq_nil_of_length_eq_zero hk
    have := LA.RankIs.uniq h (LA.RankIs.none fun j hj => absurd hj (Nat.not_lt_zero _))
    omega
  | k + 1, l, a, hk, hl, h => by
    have hne : l ≠ [] := by intro e; subst e; simp at hk
    have hsplit := List.dropLast_concat_getLast hne
    have hlen : l.dropLast.length = k := by simp [hk]
    have h1 : ∀ r ∈ l.dropLast, ∀ x ∈ r, x < 256 := fun r hr => hl r (List.dropLast_subset l hr)
    have h2 : ∀ x ∈ l.getLast hne, x < 256 := hl _ (List.getLast_mem hne)
    obtain ⟨b, hb⟩ := cnt_exists W (· < l.dropLast.length) (rowsF W 0 l.dropLast [])
    have ih := Rk.count k l.dropLast b hlen h1 hb
    have h3 := Rk.more h1 h2 hb (by rw [hsplit]; exact h)
    omega
/-- A mixture of the rows is made of them. -/
theorem mix_span (W : Nat) (c : List Nat) (l : List (List Nat)) (hc : ∀ x ∈ c, x < 256) (hl : ∀ r ∈ l, ∀ x ∈ r, x < 256) : LA.Span (· < l.length) (rowsF W 0 l []) (LA.vec W (RM.sum W [RM.mix W c l], RM.sum 0 [[]])) := by
  have h0 : ∀ i : Nat, (RM.sum 0 [[]]).getD i 0 = 0 := fun i => RM.getD_far _ _ (by rw [RM.sum_length]; omega)
  have key : ∀ k, k ≤ l.length → LA.Span (· < l.length) (rowsF W 0 l []) (LA.vec W (RM.sum W [RM.mixTo W k c l], RM.sum 0 [[]])) := by
    intro k
    induction k with
    | zero =>
      intro _
      have : LA.vec W (RM.sum W [RM.mixTo W 0 c l], RM.sum 0 [[]]) = LA.zero := funext fun i => by
        show (if i < W then (RM.sum W [RM.mixTo W 0 c l]).getD i 0 else (RM.sum 0 [[]]).getD (i - W) 0) = 0
        split
        · rename_i hi
          rw [LA.sum1_getD W _ i hi]
          show (RM.zeros W).getD i 0 = 0
          exact RM.zeros_getD W i
        · exact h0 _
      rw [this]; exact .zero
    | succ k ih =>
      intro hk
      have : LA.vec W (RM.sum W [RM.mixTo W (k + 1) c l], RM.sum 0 [[]]) = LA.add (LA.vec W (RM.sum W [RM.mixTo W k c l], RM.sum 0 [[]])) (LA.scl (c.getD k 0) (rowsF W 0 l [] k)) := funext fun i => by
        show (if i < W then (RM.sum W [RM.mixTo W (k + 1) c l]).getD i 0 else (RM.sum 0 [[]]).getD (i - W) 0) = (if i < W then (RM.sum W [RM.mixTo W k c l]).getD i 0 else (RM.sum 0 [[]]).getD (i - W) 0) ^^^ FM.tm (c.getD k 0) (if i < W then (RM.sum W [l.getD k []]).getD i 0 else (RM.sum 0 [[]]).getD (i - W) 0)
        split
        · rename_i hi
          rw [LA.sum1_getD W _ i hi, LA.sum1_getD W _ i hi, LA.sum1_getD W _ i hi, RM.mixTo_succ, RM.xr_at _ _ _ (by rw [RM.mixTo_length]; exact hi), RM.scale_getD]
        · rw [h0, FM.tm_zero_right]; rfl
      rw [this]
      exact .more _ k _ (getD_lt _ hc k) (by omega) (ih (by omega))
  exact key _ (Nat.min_le_right _ _)
theorem mix_lt (W k : Nat) (c : List Nat) (l : List (List Nat)) (hc : ∀ x ∈ c, x < 256) : ∀ x ∈ RM.mixTo W k c l, x < 256 := by
  induction k with
  | zero => intro x hx; rw [(List.mem_replicate.1 (show x ∈ List.replicate W 0 from hx)).2]; decide
  | succ k ih => rw [RM.mixTo_succ]; exact RM.xr_lt _ _ ih (RM.scale_lt _ _ (getD_lt _ hc k))
/-- A row that is made of the others does not raise the rank. -/
theorem Rk.mixed {W a b : Nat} {c : List Nat} {l : List (List Nat)} (hc : ∀ x ∈ c, x < 256) (hl : ∀ r ∈ l, ∀ x ∈ r, x < 256) (h : Rk W l a) (h' : Rk W (l ++ [RM.mix W c l]) b) : b = a := by
  have hm : ∀ x ∈ RM.mix W c l, x < 256 := mix_lt W _ c l hc
  refine LA.RankIs.uniq h' (LA.RankIs.of_span h (span_snoc W l _ (snoc_lt hl hm)) fun v hv => hv.sub (rows_bd W hl) fun j hj => ?_)
  rcases rows_snoc W l (RM.mix W c l) j hj with ⟨hjl, he⟩ | he
  · rw [he]; exact LA.Span.mem (rows_bd W hl) hjl
  · rw [he]; exact mix_span W c l hc hl
end Go.Proofs.YtpfmmfapdcbnkaaGreatDoor
