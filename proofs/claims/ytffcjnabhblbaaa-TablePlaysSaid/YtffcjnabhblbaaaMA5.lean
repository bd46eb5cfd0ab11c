/- In one text: BkRefSee, BkThree. -/
import Derived.Great.BuildSlice
import Derived.Test.YtffcjnabhblbaaaMA3
import Derived.Test.YtffcjnabhblbaaaMA4
namespace Go.Proofs.Ytffcjnabhblbaaa
set_option maxRecDepth 20000
open Go.RowKit Go.Deep
set_option linter.unusedVariables false
/-- A literal of one contact. -/
theorem wp_lit_ct {o : Oper} {a : Act} {K : Act → World → Prop} {Q : Exit → Act → World → Prop} {w : World} (x : Operand) (ho : o.op = .buildSlice 56 1 #[(0, x)]) (c : Ct) (hx : a.eval x = CV c)
    (h : K (a.put o.dst (.slice (some ⟨w.heap.size, 0, none⟩) 1 1)) (w.alloc (.cells (CL c).toArray 47))) : o.wp Try.prog a w K Q := by
  obtain ⟨i, hi, hz0, hz1, hz2⟩ := ctParts
  refine wp_buildSlice 56 47 1 _ ho (CL c).toArray i (CV z21) ctUnder hi hz0 (by rw [hz1]; decide) (by rw [hz1]; decide) ?_ h
  rw [hz1]
  have hsz : (Array.map (fun q => (CV z21).cells[q % (CV z21).cells.size]!) (Array.range (1 * 21))).size = 21 := by simp
  obtain ⟨r, hr, h1, h2⟩ := Great.fill_dense (s := 21) (by decide) [CV c] 0 (Array.map (fun q => (CV z21).cells[q % (CV z21).cells.size]!) (Array.range (1 * 21))) (fun v hv => by
    obtain rfl : v = CV c := by simpa using hv
    show (CL c).toArray.size = 21
    rw [List.size_toArray, CL_length]) (by rw [hsz]; simp)
  have e : r = (CL c).toArray := by
    apply Array.ext_getElem?
    intro k
    rw [h2 k]
    by_cases hk : k < 21
    · rw [if_pos ⟨by omega, by simpa using hk⟩, show k / 21 - 0 = 0 by omega, show k % 21 = k by omega]
      rfl
    · rw [if_neg (by simp; omega), Array.getElem?_eq_none (by rw [hsz]; omega), Array.getElem?_eq_none (by rw [List.size_toArray, CL_length]; omega)]
  subst e
  have hp : (Array.map (fun (q : Nat × Operand) => (q.1, a.eval q.2)) #[(0, x)]).toList = List.map (fun x => (x.snd, x.fst)) [CV c].zipIdx := by
    rw [← hx]; simp
  rw [← hr]
  show Instr.fill _ _ (Array.map (fun (q : Nat × Operand) => (q.1, a.eval q.2)) #[(0, x)]).toList = _
  rw [hp]
/-- What the reference's See leaves, what it answers. -/
def rseeL (l : List Ct) (c : Ct) : List Ct := if ixC c.p l < l.length then l.eraseIdx (ixC c.p l) ++ [c] else if l.length < 3 then l ++ [c] else l
def rseeX (l : List Ct) (c : Ct) : Ct := if ixC c.p l < l.length then z21 else if l.length < 3 then z21 else l.getD 0 z21
def rseeB (l : List Ct) (c : Ct) : Bool := if ixC c.p l < l.length then false else if l.length < 3 then false else true
def RSeeOut (g o : Nat) (T : TypeId) (pre post : List Value) (l : List Ct) (c : Ct) (v : Value) (w : World) (e : Ending) (w' : World) : Prop :=
  e = .returned (.tuple #[CV (rseeX l c), .bool (rseeB l c)]) ∧ ∃ v', RBAt w' g T pre v' post (rseeL l c) ∧ RWrote w g v v' w'
/-- The answer's variable is written last. -/
theorem rsee_end {g o s : Nat} {T : TypeId} {pre post : List Value} {l L : List Ct} {c x : Ct} {b : Bool} {v v' : Value} {w w8 w9 : World} (hs : rseeL l c = L ∧ rseeX l c = x ∧ rseeB l c = b) (h1 : RBAt w8 g T pre v' post L) (h2 : RWrote w g v v' w8) {y : Ct} (h3 : CAt w8 (s + 1) 47 [] [y] []) (hg : w8.grownBy w9 (some (s + 1))) (hw : w.heap.size = s) (hgs : g < s) (hne : v'.ownBlock ≠ some (s + 1)) :
    RSeeOut g o T pre post l c v w (.returned (.tuple #[CV (rseeX l c), .bool b])) w9 := by
  refine ⟨by rw [hs.2.2], v', ?_, hg.os.trans h2.os, hg.tape.trans h2.tape, hg.output.trans h2.output, Nat.le_trans h2.size hg.size, fun i hi hig hv => (hg.block i (Nat.lt_of_lt_of_le hi h2.size) (fun e => by have := Option.some.inj e; omega)).trans (h2.block i hi hig hv), h2.new⟩
  rw [hs.1]
  exact ⟨(hg.block g h1.lt (fun e => by have := Option.some.inj e; omega)).trans h1.row, h1.own.kept hg (.inr hne), h1.ty⟩
/-- One contact alone as a source of append. -/
theorem lit_src {w : World} {y : Nat} {c : Ct} (h : CAt w y 47 [] [c] []) : Src Try.prog 21 56 (.slice (some ⟨y, 0, none⟩) 1 1) 1 (flatC [c]) w := h.src rfl rfl 1
set_option maxHeartbeats 8000000 in
theorem rbsee_any (g o : Nat) (T : TypeId) (pre post : List Value) (l : List Ct) (c : Ct) (v : Value) (w : World) (h : RBAt w g T pre v post l) (ho : pre.length = o) (hl : l.length ≤ 1000) :
    Calls Try.prog 27 #[.pointer (some ⟨g, o, none⟩), CV c] w (RSeeOut g o T pre post l c v w) := by
  have H := Lib.hid h
  have HO := Lib.hid ho
  obtain ⟨n, hn⟩ : ∃ n, l.length = n := ⟨_, rfl⟩
  obtain ⟨va, vc, hv⟩ := h.own.slice
  rw [hn] at hv hl
  subst hv
  have HN := Lib.hid hn
  have HC0 := Lib.hid (h.cell ho)
  have HCT := Lib.hid h.own.cts
  obtain ⟨cp, hcp⟩ : ∃ cp, c.p = cp := ⟨_, rfl⟩
  have HYES : Hid (∀ k, k < n → (∀ m, m < k → decide ((l.getD m z21).p = cp) = false) → decide ((l.getD k z21).p = cp) = true → ixC c.p l = k) := fun k hk h1 h2 => by
    rw [hcp]; exact cfnd_uniq (by omega) h1 (fun _ => h2)
  have HNO : Hid ((∀ m, m < n → decide ((l.getD m z21).p = cp) = false) → ixC c.p l = n) := fun h1 => by
    rw [hcp]; exact cfnd_uniq (by omega) h1 (fun h => absurd h (by omega))
  obtain ⟨s, hs⟩ : ∃ s, w.heap.size = s := ⟨_, rfl⟩
  have HWS : Hid (w.heap.size = s) := hs
  have HGS : Hid (g < s) := by have := h.lt; show g < s; omega
  have HBOX : Hid (∀ w2, w2 = (w.alloc (.cells (CL c).toArray 47)).alloc (.cells (CL z21).toArray 47) → w.Extends w2 ∧ CAt w2 s 47 [] [c] [] ∧ CAt w2 (s + 1) 47 [] [z21] []) := fun w2 e => by
    subst e
    subst hs
    have b1 := CAt.box w 47 c
    have b2 := CAt.box (w.alloc (.cells (CL c).toArray 47)) 47 z21
    have e1 : (w.alloc (.cells (CL c).toArray 47)).heap.size = w.heap.size + 1 := by simp
    rw [e1] at b2
    exact ⟨Gr.ext_trans (ext_alloc _ _) (ext_alloc _ _), b1.ext (ext_alloc _ _), b2⟩
  clear h ho hn
  go_enter Try.func27, Try.ntmps27
  go_upto_region 1 with fail
  generalize hw1 : World.alloc w _ = w1
  generalize hw2 : World.alloc w1 _ = w2
  obtain ⟨hx2, hb1, hb2⟩ := HBOX.out w2 (by rw [← hw2, ← hw1]; rfl)
  clear hw1 hw2 HBOX hs
  have HX2 := Lib.hid hx2
  have HB1 := Lib.hid hb1
  have HB2 := Lib.hid hb2
  have hpr0 := range_peer (hb1.range (o := 0) (k := 0) rfl Nat.zero_lt_one)
  simp only [List.getD_cons_zero] at hpr0
  rw [hcp] at hpr0
  have HPR0 := Lib.hid hpr0
  have HCP := Lib.hid hcp
  clear hx2 hb1 hb2 hpr0 hcp
  go_wp2_with fail
  go_loopw [6] (fun s6 wr => ∃ k : Nat, k ≤ n ∧ s6 = .int .i64 k ∧ Hid (w2.Extends wr) ∧ Hid (∀ m, m < k → decide ((l.getD m z21).p = cp) = false)) (fun s6 _ => n - (intOf s6).toNat)
  case atStart => exact ⟨0, by omega, rfl, Gr.ext_refl _, fun m hm => absurd hm (Nat.not_lt_zero _)⟩
  case round =>
    obtain ⟨k, hk, rfl, HXR, HB⟩ := hrel
    have HX : Hid (w.Extends wr) := Gr.ext_trans HX2.out HXR.out
    have hc0 := HX.out.cell_of HC0.out
    have hpr := HXR.out.cell_of HPR0.out
    have HBX1 : Hid (CAt wr s 47 [] [c] []) := HB1.out.ext HXR.out
    have HBX2 : Hid (CAt wr (s + 1) 47 [] [z21] []) := HB2.out.ext HXR.out
    by_cases h1 : k < n
    · obtain ⟨vg, vo, rfl, hr⟩ := (HCT.out.ext HX.out).at (k := k) (by rw [HN.out]; exact h1)
      have hpe := range_peer hr
      obtain ⟨kp, hkp⟩ : ∃ kp, (l.getD k z21).p = kp := ⟨_, rfl⟩
      rw [hkp] at hpe
      have HKP := Lib.hid hkp
      obtain ⟨q, hq⟩ : ∃ q, decide (kp = cp) = q := ⟨_, rfl⟩
      have hq2 : (kp == cp) = q := by rw [← hq, Bool.eq_iff_iff, beq_iff_eq, decide_eq_true_eq]
      have HQ := Lib.hid hq
      clear hq hr hkp
      go_upto_region 4 with fail
      refine Gr.region 10 [(false,0),(false,1),(false,2),(false,3),(false,4),(false,5),(false,6),(false,7),(false,8),(false,9)] (by kernel_rfl) (by kernel_rfl) (fun d _ _ _ _ h => by cases d <;> exact h) ?_
      simp only [Gr.pick, List.getElem?_cons_zero, List.getElem?_cons_succ, List.drop_succ_cons, List.drop_zero]
      generalize hwd : wr.drew = wd
      have HXD : Hid (wr.Extends wd) := by rw [← hwd]; exact Gr.ext_drew (Gr.ext_refl wr)
      clear hwd
      iterate 3
        refine Gr.walk_t ?_ (Or.inl ⟨by rfl, ?_⟩) ?_
        rotate_left
        · intro w' hw'
          clear hw'
          go_simp
          try with_reducible rfl
        simp only [Act.put, List.setIfInBounds_toArray, List.set_cons_zero, List.set_cons_succ]
      refine Gr.walk_t ?_ (Or.inl ⟨by rfl, ?_⟩) ?_
      rotate_left
      · intro w' hw'
        have b0 := (Gr.ext_trans HXD.out hw').cell_of hc0
        clear hw'
        go_simp
        try with_reducible rfl
      simp only [Act.put, List.setIfInBounds_toArray, List.set_cons_zero, List.set_cons_succ]
      iterate 3
        refine Gr.walk_t ?_ (Or.inl ⟨by rfl, ?_⟩) ?_
        rotate_left
        · intro w' hw'
          clear hw'
          go_simp
          try with_reducible rfl
        simp only [Act.put, List.setIfInBounds_toArray, List.set_cons_zero, List.set_cons_succ]
      refine Gr.walk_t ?_ (Or.inl ⟨by rfl, ?_⟩) ?_
      rotate_left
      · intro w' hw'
        have b1 := (Gr.ext_trans HXD.out hw').cell_of hpe
        clear hw'
        go_simp
        try with_reducible rfl
      simp only [Act.put, List.setIfInBounds_toArray, List.set_cons_zero, List.set_cons_succ]
      refine Gr.walk_t ?_ (Or.inl ⟨by rfl, ?_⟩) ?_
      rotate_left
      · intro w' hw'
        clear hw'
        go_simp
        try with_reducible rfl
      simp only [Act.put, List.setIfInBounds_toArray, List.set_cons_zero, List.set_cons_succ]
      refine Gr.walk_t ?_ (Or.inl ⟨by rfl, ?_⟩) ?_
      rotate_left
      · intro w' hw'
        have b2 := (Gr.ext_trans HXD.out hw').cell_of hpr
        clear hw'
        go_simp
        try with_reducible rfl
      simp only [Act.put, List.setIfInBounds_toArray, List.set_cons_zero, List.set_cons_succ]
      refine Gr.walk_nil ?_
      cases q with
      | false =>
        have HB2' : Hid (∀ m, m < k + 1 → decide ((l.getD m z21).p = cp) = false) := fun m hm => by
          rcases Nat.lt_or_ge m k with h | h
          · exact HB.out m h
          · obtain rfl : m = k := by omega
            rw [HKP.out]; exact HQ.out
        have HXN : Hid (w2.Extends wd) := Gr.ext_trans HXR.out HXD.out
        clear hpe hpr hc0
        go_wp2
        go_roundw
        case rel => exact ⟨k + 1, by omega, by go_num, HXN, HB2'⟩
        case measure => simp [intOf]; omega
      | true =>
        have HK : Hid (ixC c.p l = k) := HYES.out k h1 HB.out (by rw [HKP.out]; exact HQ.out)
        have HSEE : Hid (rseeL l c = l.eraseIdx k ++ [c] ∧ rseeX l c = z21 ∧ rseeB l c = false) := by
          unfold rseeL rseeX rseeB
          rw [HK.out, HN.out, if_pos h1, if_pos h1, if_pos h1]; exact ⟨rfl, rfl, rfl⟩
        have HXWD : Hid (w.Extends wd) := Gr.ext_trans HX.out HXD.out
        have HRX := Lib.hid (H.out.ext HXWD.out)
        have HB1D : Hid (CAt wd s 47 [] [c] []) := HBX1.out.ext HXD.out
        have HB2D : Hid (CAt wd (s + 1) 47 [] [z21] []) := HBX2.out.ext HXD.out
        obtain ⟨x1, y1, x2, y2, q1, s1, q2, s2⟩ := HRX.out.own.cuts (k := k) (by rw [HN.out]; exact h1)
        rw [HN.out] at q2 s2
        rw [show ((k + 1 : Nat) : Int) = (k : Int) + 1 by omega] at q2
        have HQ1 := Lib.hid q1
        have HQ2 := Lib.hid q2
        have HS1 := Lib.hid s1
        have HS2 := Lib.hid s2
        have hwr : IntKind.i64.wrap ((k : Int) + 1) = (k : Int) + 1 := by rw [IntKind.wrap_i64]; omega
        clear q1 q2 s1 s2 HYES HNO HB HBX1 HBX2 HXR HX hpe hpr
        have HCR := Lib.hid (HXD.out.cell_of hc0)
        clear hc0 HXD
        go_upto_region 5 with fail
        obtain ⟨B, hB⟩ : ∃ B, B = wd.heap.size := ⟨_, rfl⟩
        have HEX : Hid (∀ wx, Below B wd.drew wx → wd.Extends wx) := fun wx hx => Gr.ext_trans (Gr.ext_drew (Gr.ext_refl wd)) (ext_below hx hB)
        have HBS : Hid (B ≤ wd.drew.heap.size ∧ w.heap.size ≤ B ∧ g < B ∧ s + 1 < B) := ⟨Nat.le_of_eq hB, by rw [hB]; exact HXWD.out.size, by rw [hB]; exact HRX.out.lt, by rw [hB]; exact HB2D.out.lt⟩
        clear hB
        refine GrL.regionE (B := B) 19 4 [(false,0),(false,1),(false,2),(false,3),(false,4),(false,5),(false,6),(false,8),(false,9),(false,10),(false,11),(false,12),(false,13),(false,14),(false,16)] (by kernel_rfl) (by kernel_rfl) (fun d _ _ _ _ h => by cases d <;> exact h) ?_
        simp only [Gr.pick, List.getElem?_cons_zero, List.getElem?_cons_succ]
        generalize wd.drew = wf at *
        refine GrL.walkE_t ?_ (Or.inl ⟨by rfl, ?_⟩) ?_
        rotate_left
        · intro w' hw'
          clear hw'
          go_simp
          try with_reducible rfl
        simp only [Act.put, List.setIfInBounds_toArray, List.set_cons_zero, List.set_cons_succ]
        refine GrL.walkE_t ?_ (Or.inl ⟨by rfl, ?_⟩) ?_
        rotate_left
        · intro w' hw'
          clear hw'
          go_simp
          try with_reducible rfl
        simp only [Act.put, List.setIfInBounds_toArray, List.set_cons_zero, List.set_cons_succ]
        refine GrL.walkE_t ?_ (Or.inl ⟨by rfl, ?_⟩) ?_
        rotate_left
        · intro w' hw'
          clear hw'
          go_simp
          try with_reducible rfl
        simp only [Act.put, List.setIfInBounds_toArray, List.set_cons_zero, List.set_cons_succ]
        refine GrL.walkE_t ?_ (Or.inl ⟨by rfl, ?_⟩) ?_
        rotate_left
        · intro w' hw'
          clear hw'
          go_simp
          try with_reducible rfl
        simp only [Act.put, List.setIfInBounds_toArray, List.set_cons_zero, List.set_cons_succ]
        refine GrL.walkE_t ?_ (Or.inl ⟨by rfl, ?_⟩) ?_
        rotate_left
        · intro w' hw'
          have b0 := (HEX.out w' hw').cell_of HCR.out
          clear hw'
          go_simp
          try with_reducible rfl
        simp only [Act.put, List.setIfInBounds_toArray, List.set_cons_zero, List.set_cons_succ]
        refine GrL.walkE_t ?_ (Or.inl ⟨by rfl, ?_⟩) ?_
        rotate_left
        · intro w' hw'
          clear hw'
          go_simp
          try with_reducible rfl
        simp only [Act.put, List.setIfInBounds_toArray, List.set_cons_zero, List.set_cons_succ]
        refine GrL.walkE_t ?_ (Or.inl ⟨by rfl, ?_⟩) ?_
        rotate_left
        · intro w' hw'
          have hs1 := HQ1.out w'
          clear hw'
          go_simp
          try with_reducible rfl
        simp only [Act.put, List.setIfInBounds_toArray, List.set_cons_zero, List.set_cons_succ]
        refine GrL.walkE_t ?_ (Or.inl ⟨by rfl, ?_⟩) ?_
        rotate_left
        · intro w' hw'
          clear hw'
          go_simp
          try with_reducible rfl
        simp only [Act.put, List.setIfInBounds_toArray, List.set_cons_zero, List.set_cons_succ]
        refine GrL.walkE_t ?_ (Or.inl ⟨by rfl, ?_⟩) ?_
        rotate_left
        · intro w' hw'
          clear hw'
          go_simp
          try with_reducible rfl
        simp only [Act.put, List.setIfInBounds_toArray, List.set_cons_zero, List.set_cons_succ]
        refine GrL.walkE_t ?_ (Or.inl ⟨by rfl, ?_⟩) ?_
        rotate_left
        · intro w' hw'
          clear hw'
          go_simp
          try with_reducible rfl
        simp only [Act.put, List.setIfInBounds_toArray, List.set_cons_zero, List.set_cons_succ]
        refine GrL.walkE_t ?_ (Or.inl ⟨by rfl, ?_⟩) ?_
        rotate_left
        · intro w' hw'
          have b0 := (HEX.out w' hw').cell_of HCR.out
          clear hw'
          go_simp
          try with_reducible rfl
        simp only [Act.put, List.setIfInBounds_toArray, List.set_cons_zero, List.set_cons_succ]
        refine GrL.walkE_t ?_ (Or.inl ⟨by rfl, ?_⟩) ?_
        rotate_left
        · intro w' hw'
          clear hw'
          go_simp
          try with_reducible rfl
        simp only [Act.put, List.setIfInBounds_toArray, List.set_cons_zero, List.set_cons_succ]
        refine GrL.walkE_t ?_ (Or.inl ⟨by rfl, ?_⟩) ?_
        rotate_left
        · intro w' hw'
          clear hw'
          go_simp
          try with_reducible rfl
        simp only [Act.put, List.setIfInBounds_toArray, List.set_cons_zero, List.set_cons_succ]
        refine GrL.walkE_t ?_ (Or.inl ⟨by rfl, ?_⟩) ?_
        rotate_left
        · intro w' hw'
          have hs2 := HQ2.out w'
          clear hw'
          go_simp
          try with_reducible rfl
        simp only [Act.put, List.setIfInBounds_toArray, List.set_cons_zero, List.set_cons_succ]
        refine GrL.walkE_t _ (Or.inl ⟨by rfl, fun w' hw' => ct_yields ((HB1D.out.ext (HEX.out w' hw')).range (o := 0) (k := 0) rfl Nat.zero_lt_one) rfl rfl rfl⟩) ?_
        simp only [Act.put, List.setIfInBounds_toArray, List.set_cons_zero, List.set_cons_succ]
        simp only [List.getD_cons_zero]
        refine GrL.walkE_nil ?_
        have HB0 : Hid (Below B wf wf) := Below.refl B wf
        refine GrL.Left.two (i := 7) (j := 17) (by kernel_rfl) (by kernel_rfl) (GrL.Step.mk rfl (fun K hK => ?_)) (GrL.Step.mk rfl (fun K hK => ?_))
        · rw [if_pos (by rfl)]
          refine wp_app_cts (.const (.slice none 0 0)) (.tmp 33) rfl B (.slice none 0 0) [] rfl (OwnC.nil _ _) _ k (l.take k) rfl (by rw [List.length_take, HN.out]; omega) (HS1.out wf (HRX.out.own.ext (HEX.out wf HB0.out))) (by rw [List.length_take, HN.out, List.length_nil]; omega) (Nat.le_trans HBS.out.1 HB0.out.size) ?_
          intro v5 w7_1 ho hg hn5
          have hb : Below B wf w7_1 := (Below.refl B wf).grown hg (Nat.le_trans HBS.out.1 HB0.out.size) (fun k hk => nomatch hk)
          have HO5_1 : Hid (OwnC w7_1 B v5 (l.take k)) := ho
          have HB7_1 : Hid (Below B wf w7_1) := HB0.out.trans hb
          simp only [Act.put, List.setIfInBounds_toArray, List.set_cons_zero, List.set_cons_succ]
          refine hK.out _ _ hb ?_
          clear hK K hb ho hg hn5
          refine GrL.Left.two (i := 15) (j := 17) (by kernel_rfl) (by kernel_rfl) (GrL.Step.mk rfl (fun K hK => ?_)) (GrL.Step.mk rfl (fun K hK => ?_))
          · rw [if_pos (by rfl)]
            refine wp_app_cts (.tmp 34) (.tmp 41) rfl B v5 (l.take k) rfl HO5_1.out _ (n - (k + 1)) (l.drop (k + 1)) rfl (by rw [List.length_drop, HN.out]) (HS2.out w7_1 (HRX.out.own.ext (HEX.out w7_1 HB7_1.out))) (by rw [List.length_take, List.length_drop, HN.out]; omega) (Nat.le_trans HBS.out.1 HB7_1.out.size) ?_
            intro v6 w15_2 ho hg hn6
            have hb : Below B w7_1 w15_2 := (Below.refl B w7_1).grown hg (Nat.le_trans HBS.out.1 HB7_1.out.size) (fun k hk => (HO5_1.out.block hk).1)
            rw [← List.eraseIdx_eq_take_drop_succ] at ho
            have HO6_2 : Hid (OwnC w15_2 B v6 (l.eraseIdx k)) := ho
            have HB15_2 : Hid (Below B wf w15_2) := HB7_1.out.trans hb
            simp only [Act.put, List.setIfInBounds_toArray, List.set_cons_zero, List.set_cons_succ]
            refine hK.out _ _ hb ?_
            clear hK K hb ho hg hn6
            refine GrL.Left.one (i := 17) (by kernel_rfl) (by kernel_rfl) (GrL.Step.mk rfl (fun K hK => ?_))
            rw [if_pos (by rfl)]
            refine wp_lit_ct (.tmp 43) rfl c rfl ?_
            generalize hw : World.alloc w15_2 _ = w17_3
            have hx : w15_2.Extends w17_3 := by subst hw; exact ext_alloc _ _
            have hlt : CAt w17_3 w15_2.heap.size 47 [] [c] [] := by subst hw; exact CAt.box w15_2 _ c
            have hyB : B ≤ w15_2.heap.size := Nat.le_trans HBS.out.1 HB15_2.out.size
            have hb : Below B w15_2 w17_3 := (Gr.below_of hx).mono hyB
            have hav : v6.ownBlock ≠ some w15_2.heap.size := fun e => by have := (HO6_2.out.block e).2.1; omega
            have HNv6_3 : Hid (OwnC w17_3 B v6 (l.eraseIdx k)) := HO6_2.out.ext hx
            obtain ⟨y, hy⟩ : ∃ y, w15_2.heap.size = y := ⟨_, rfl⟩
            rw [hy] at hlt hyB hav ⊢
            have HL_3 : Hid (CAt w17_3 y 47 [] [c] [] ∧ B ≤ y) := ⟨hlt, hyB⟩
            have HA_3 := Lib.hid hav
            have HB17_3 : Hid (Below B wf w17_3) := HB15_2.out.trans hb
            simp only [Act.put, List.setIfInBounds_toArray, List.set_cons_zero, List.set_cons_succ]
            refine hK.out _ _ hb ?_
            clear hK K hb hw hx hlt hyB hy hav
            refine GrL.Left.one (i := 18) (by kernel_rfl) (by kernel_rfl) (GrL.Step.mk rfl (fun K hK => ?_))
            rw [if_pos (by rfl)]
            refine wp_app_cts (.tmp 42) (.tmp 44) rfl B v6 (l.eraseIdx k) rfl HNv6_3.out _ 1 [c] rfl rfl (lit_src HL_3.out.1) (by rw [List.length_eraseIdx, HN.out, if_pos h1]; show n - 1 + 1 ≤ 10000; omega) (Nat.le_trans HBS.out.1 HB17_3.out.size) ?_
            intro v7 w18_4 ho hg _
            have hb : Below B w17_3 w18_4 := (Below.refl B w17_3).grown hg (Nat.le_trans HBS.out.1 HB17_3.out.size) (fun k hk => (HNv6_3.out.block hk).1)
            obtain ⟨xa, xc, rfl⟩ := ho.slice
            have HO7 : Hid (OwnC w18_4 B (.slice xa (l.eraseIdx k ++ [c]).length xc) (l.eraseIdx k ++ [c])) := ho
            have HB18_4 : Hid (Below B wf w18_4) := HB17_3.out.trans hb
            simp only [Act.put, List.setIfInBounds_toArray, List.set_cons_zero, List.set_cons_succ]
            refine hK.out _ _ hb ?_
            clear hK K hb ho hg
            refine GrL.Left.done (by kernel_rfl) ?_
            have HX6 : Hid (wd.Extends w18_4) := HEX.out w18_4 HB18_4.out
            have b6 := HX6.out.cell_of HCR.out
            have f6 := (HRX.out.ext HX6.out).frozen o
            have HPUT : Hid (∀ w8, w8 = w18_4.setCell ⟨g, o, none⟩ (.slice xa (l.eraseIdx k ++ [c]).length xc) → RBAt w8 g T pre (.slice xa (l.eraseIdx k ++ [c]).length xc) post (l.eraseIdx k ++ [c]) ∧ RWrote w g (.slice (some ⟨vg, vo, none⟩) n vc) (.slice xa (l.eraseIdx k ++ [c]).length xc) w8 ∧ CAt w8 (s + 1) 47 [] [z21] []) := fun w8 e8 => by
              have hne := own_new HO7.out HBS.out.2.2.1
              have h8 := (HRX.out.ext HX6.out).put HO.out (HO7.out.mono (Nat.zero_le _)) hne e8
              have hg8 : w18_4.grownBy w8 (some g) := by rw [e8]; exact cgrown_set _ _ _
              have hxw := Gr.ext_trans HXWD.out HX6.out
              refine ⟨h8, ⟨hg8.os.trans hxw.os, hg8.tape.trans hxw.tape, hg8.output.trans hxw.output, Nat.le_trans hxw.size hg8.size, fun i hi hig _ => (hg8.block i (Nat.lt_of_lt_of_le hi hxw.size) (by simpa using hig)).trans (hxw.block i hi), .inr fun k hk => Nat.le_trans HBS.out.2.1 (HO7.out.block hk).1⟩, ?_⟩
              have h2 := HB2D.out.ext HX6.out
              exact h2.kept (hg8.block _ h2.lt (fun e => by have := HGS.out; have := Option.some.inj e; omega))
            have HNE := Lib.hid (own_new HO7.out HBS.out.2.2.2)
            clear HO7 HB18_4 HBS HEX HS1 HS2 HQ1 HQ2 HX6 HRX
            generalize (l.eraseIdx k ++ [c]).length = el at *
            go_upto_region 6 with fail
            generalize hw8 : World.setCell w18_4 _ _ = w8
            obtain ⟨hp1, hp2, hp3⟩ := HPUT.out w8 hw8.symm
            have HP1 := Lib.hid hp1
            have HP2 := Lib.hid hp2
            have HP3 := Lib.hid hp3
            have HW8 : Hid (w.heap.size ≤ w8.heap.size) := hp2.size
            clear hw8 HPUT b6 f6 hp1 hp2 hp3
            go_wp2_with (first | (refine wpList_store_ct rfl (.tmp 4) (.tmp 48) rfl (s + 1) 0 0 z21 47 [] [] [z21] rfl (by rfl) HP3.out rfl (Nat.zero_lt_one) ?_) | fail)
            intro w9 ha9 hg9
            have HP := Lib.hid (rsee_end (o := o) HSEE.out HP1.out HP2.out HP3.out hg9 HWS.out HGS.out HNE.out)
            have HR9 : Hid (w9.rangeAt (s + 1) 0 (CL (rseeX l c))) := by rw [HSEE.out.2.1]; exact ha9.range (o := 0) (k := 0) rfl Nat.zero_lt_one
            clear ha9 hg9
            repeat (first | go_values | go_skip | go_guarded | go_step)
            refine bodyPost_ret (results_ct rfl _ _ (s + 1) (rseeX l c) false (by rfl) (by rfl) HR9.out) rfl ?_
            exact HP.out
          · rw [if_pos (by rfl)]
            refine wp_lit_ct (.tmp 43) rfl c rfl ?_
            generalize hw : World.alloc w7_1 _ = w17_2
            have hx : w7_1.Extends w17_2 := by subst hw; exact ext_alloc _ _
            have hlt : CAt w17_2 w7_1.heap.size 47 [] [c] [] := by subst hw; exact CAt.box w7_1 _ c
            have hyB : B ≤ w7_1.heap.size := Nat.le_trans HBS.out.1 HB7_1.out.size
            have hb : Below B w7_1 w17_2 := (Gr.below_of hx).mono hyB
            have hav : v5.ownBlock ≠ some w7_1.heap.size := fun e => by have := (HO5_1.out.block e).2.1; omega
            have HNv5_2 : Hid (OwnC w17_2 B v5 (l.take k)) := HO5_1.out.ext hx
            obtain ⟨y, hy⟩ : ∃ y, w7_1.heap.size = y := ⟨_, rfl⟩
            rw [hy] at hlt hyB hav ⊢
            have HL_2 : Hid (CAt w17_2 y 47 [] [c] [] ∧ B ≤ y) := ⟨hlt, hyB⟩
            have HA_2 := Lib.hid hav
            have HB17_2 : Hid (Below B wf w17_2) := HB7_1.out.trans hb
            simp only [Act.put, List.setIfInBounds_toArray, List.set_cons_zero, List.set_cons_succ]
            refine hK.out _ _ hb ?_
            clear hK K hb hw hx hlt hyB hy hav
            refine GrL.Left.one (i := 15) (by kernel_rfl) (by kernel_rfl) (GrL.Step.mk rfl (fun K hK => ?_))
            rw [if_pos (by rfl)]
            refine wp_app_cts (.tmp 34) (.tmp 41) rfl B v5 (l.take k) rfl HNv5_2.out _ (n - (k + 1)) (l.drop (k + 1)) rfl (by rw [List.length_drop, HN.out]) (HS2.out w17_2 (HRX.out.own.ext (HEX.out w17_2 HB17_2.out))) (by rw [List.length_take, List.length_drop, HN.out]; omega) (Nat.le_trans HBS.out.1 HB17_2.out.size) ?_
            intro v6 w15_3 ho hg hn6
            have hb : Below B w17_2 w15_3 := (Below.refl B w17_2).grown hg (Nat.le_trans HBS.out.1 HB17_2.out.size) (fun k hk => (HNv5_2.out.block hk).1)
            rw [← List.eraseIdx_eq_take_drop_succ] at ho
            have HO6_3 : Hid (OwnC w15_3 B v6 (l.eraseIdx k)) := ho
            have HL_3 : Hid (CAt w15_3 y 47 [] [c] [] ∧ B ≤ y) := ⟨HL_2.out.1.kept (hg.block y HL_2.out.1.lt (fun e => HA_2.out e.symm)), HL_2.out.2⟩
            have HA_3 : Hid (v6.ownBlock ≠ some y) := fun e => by
              rcases hn6 with h | ⟨g', h, h'⟩
              · rw [h] at e; exact HA_2.out e
              · rw [h] at e; have := Option.some.inj e; have := HL_2.out.1.lt; omega
            have HB15_3 : Hid (Below B wf w15_3) := HB17_2.out.trans hb
            simp only [Act.put, List.setIfInBounds_toArray, List.set_cons_zero, List.set_cons_succ]
            refine hK.out _ _ hb ?_
            clear hK K hb ho hg hn6
            refine GrL.Left.one (i := 18) (by kernel_rfl) (by kernel_rfl) (GrL.Step.mk rfl (fun K hK => ?_))
            rw [if_pos (by rfl)]
            refine wp_app_cts (.tmp 42) (.tmp 44) rfl B v6 (l.eraseIdx k) rfl HO6_3.out _ 1 [c] rfl rfl (lit_src HL_3.out.1) (by rw [List.length_eraseIdx, HN.out, if_pos h1]; show n - 1 + 1 ≤ 10000; omega) (Nat.le_trans HBS.out.1 HB15_3.out.size) ?_
            intro v7 w18_4 ho hg _
            have hb : Below B w15_3 w18_4 := (Below.refl B w15_3).grown hg (Nat.le_trans HBS.out.1 HB15_3.out.size) (fun k hk => (HO6_3.out.block hk).1)
            obtain ⟨xa, xc, rfl⟩ := ho.slice
            have HO7 : Hid (OwnC w18_4 B (.slice xa (l.eraseIdx k ++ [c]).length xc) (l.eraseIdx k ++ [c])) := ho
            have HB18_4 : Hid (Below B wf w18_4) := HB15_3.out.trans hb
            simp only [Act.put, List.setIfInBounds_toArray, List.set_cons_zero, List.set_cons_succ]
            refine hK.out _ _ hb ?_
            clear hK K hb ho hg
            refine GrL.Left.done (by kernel_rfl) ?_
            have HX6 : Hid (wd.Extends w18_4) := HEX.out w18_4 HB18_4.out
            have b6 := HX6.out.cell_of HCR.out
            have f6 := (HRX.out.ext HX6.out).frozen o
            have HPUT : Hid (∀ w8, w8 = w18_4.setCell ⟨g, o, none⟩ (.slice xa (l.eraseIdx k ++ [c]).length xc) → RBAt w8 g T pre (.slice xa (l.eraseIdx k ++ [c]).length xc) post (l.eraseIdx k ++ [c]) ∧ RWrote w g (.slice (some ⟨vg, vo, none⟩) n vc) (.slice xa (l.eraseIdx k ++ [c]).length xc) w8 ∧ CAt w8 (s + 1) 47 [] [z21] []) := fun w8 e8 => by
              have hne := own_new HO7.out HBS.out.2.2.1
              have h8 := (HRX.out.ext HX6.out).put HO.out (HO7.out.mono (Nat.zero_le _)) hne e8
              have hg8 : w18_4.grownBy w8 (some g) := by rw [e8]; exact cgrown_set _ _ _
              have hxw := Gr.ext_trans HXWD.out HX6.out
              refine ⟨h8, ⟨hg8.os.trans hxw.os, hg8.tape.trans hxw.tape, hg8.output.trans hxw.output, Nat.le_trans hxw.size hg8.size, fun i hi hig _ => (hg8.block i (Nat.lt_of_lt_of_le hi hxw.size) (by simpa using hig)).trans (hxw.block i hi), .inr fun k hk => Nat.le_trans HBS.out.2.1 (HO7.out.block hk).1⟩, ?_⟩
              have h2 := HB2D.out.ext HX6.out
              exact h2.kept (hg8.block _ h2.lt (fun e => by have := HGS.out; have := Option.some.inj e; omega))
            have HNE := Lib.hid (own_new HO7.out HBS.out.2.2.2)
            clear HO7 HB18_4 HBS HEX HS1 HS2 HQ1 HQ2 HX6 HRX
            generalize (l.eraseIdx k ++ [c]).length = el at *
            go_upto_region 6 with fail
            generalize hw8 : World.setCell w18_4 _ _ = w8
            obtain ⟨hp1, hp2, hp3⟩ := HPUT.out w8 hw8.symm
            have HP1 := Lib.hid hp1
            have HP2 := Lib.hid hp2
            have HP3 := Lib.hid hp3
            have HW8 : Hid (w.heap.size ≤ w8.heap.size) := hp2.size
            clear hw8 HPUT b6 f6 hp1 hp2 hp3
            go_wp2_with (first | (refine wpList_store_ct rfl (.tmp 4) (.tmp 48) rfl (s + 1) 0 0 z21 47 [] [] [z21] rfl (by rfl) HP3.out rfl (Nat.zero_lt_one) ?_) | fail)
            intro w9 ha9 hg9
            have HP := Lib.hid (rsee_end (o := o) HSEE.out HP1.out HP2.out HP3.out hg9 HWS.out HGS.out HNE.out)
            have HR9 : Hid (w9.rangeAt (s + 1) 0 (CL (rseeX l c))) := by rw [HSEE.out.2.1]; exact ha9.range (o := 0) (k := 0) rfl Nat.zero_lt_one
            clear ha9 hg9
            repeat (first | go_values | go_skip | go_guarded | go_step)
            refine bodyPost_ret (results_ct rfl _ _ (s + 1) (rseeX l c) false (by rfl) (by rfl) HR9.out) rfl ?_
            exact HP.out
        · rw [if_pos (by rfl)]
          refine wp_lit_ct (.tmp 43) rfl c rfl ?_
          generalize hw : World.alloc wf _ = w17_1
          have hx : wf.Extends w17_1 := by subst hw; exact ext_alloc _ _
          have hlt : CAt w17_1 wf.heap.size 47 [] [c] [] := by subst hw; exact CAt.box wf _ c
          have hyB : B ≤ wf.heap.size := Nat.le_trans HBS.out.1 HB0.out.size
          have hb : Below B wf w17_1 := (Gr.below_of hx).mono hyB
          obtain ⟨y, hy⟩ : ∃ y, wf.heap.size = y := ⟨_, rfl⟩
          rw [hy] at hlt hyB ⊢
          have HL_1 : Hid (CAt w17_1 y 47 [] [c] [] ∧ B ≤ y) := ⟨hlt, hyB⟩
          have HB17_1 : Hid (Below B wf w17_1) := HB0.out.trans hb
          simp only [Act.put, List.setIfInBounds_toArray, List.set_cons_zero, List.set_cons_succ]
          refine hK.out _ _ hb ?_
          clear hK K hb hw hx hlt hyB hy
          refine GrL.Left.one (i := 7) (by kernel_rfl) (by kernel_rfl) (GrL.Step.mk rfl (fun K hK => ?_))
          rw [if_pos (by rfl)]
          refine wp_app_cts (.const (.slice none 0 0)) (.tmp 33) rfl B (.slice none 0 0) [] rfl (OwnC.nil _ _) _ k (l.take k) rfl (by rw [List.length_take, HN.out]; omega) (HS1.out w17_1 (HRX.out.own.ext (HEX.out w17_1 HB17_1.out))) (by rw [List.length_take, HN.out, List.length_nil]; omega) (Nat.le_trans HBS.out.1 HB17_1.out.size) ?_
          intro v5 w7_2 ho hg hn5
          have hb : Below B w17_1 w7_2 := (Below.refl B w17_1).grown hg (Nat.le_trans HBS.out.1 HB17_1.out.size) (fun k hk => nomatch hk)
          have HO5_2 : Hid (OwnC w7_2 B v5 (l.take k)) := ho
          have HL_2 : Hid (CAt w7_2 y 47 [] [c] [] ∧ B ≤ y) := ⟨HL_1.out.1.kept (hg.block y HL_1.out.1.lt (fun e => nomatch e)), HL_1.out.2⟩
          have HA_2 : Hid (v5.ownBlock ≠ some y) := fun e => by
            rcases hn5 with h | ⟨g', h, h'⟩
            · rw [h] at e; cases e
            · rw [h] at e; have := Option.some.inj e; have := HL_1.out.1.lt; omega
          have HB7_2 : Hid (Below B wf w7_2) := HB17_1.out.trans hb
          simp only [Act.put, List.setIfInBounds_toArray, List.set_cons_zero, List.set_cons_succ]
          refine hK.out _ _ hb ?_
          clear hK K hb ho hg hn5
          refine GrL.Left.one (i := 15) (by kernel_rfl) (by kernel_rfl) (GrL.Step.mk rfl (fun K hK => ?_))
          rw [if_pos (by rfl)]
          refine wp_app_cts (.tmp 34) (.tmp 41) rfl B v5 (l.take k) rfl HO5_2.out _ (n - (k + 1)) (l.drop (k + 1)) rfl (by rw [List.length_drop, HN.out]) (HS2.out w7_2 (HRX.out.own.ext (HEX.out w7_2 HB7_2.out))) (by rw [List.length_take, List.length_drop, HN.out]; omega) (Nat.le_trans HBS.out.1 HB7_2.out.size) ?_
          intro v6 w15_3 ho hg hn6
          have hb : Below B w7_2 w15_3 := (Below.refl B w7_2).grown hg (Nat.le_trans HBS.out.1 HB7_2.out.size) (fun k hk => (HO5_2.out.block hk).1)
          rw [← List.eraseIdx_eq_take_drop_succ] at ho
          have HO6_3 : Hid (OwnC w15_3 B v6 (l.eraseIdx k)) := ho
          have HL_3 : Hid (CAt w15_3 y 47 [] [c] [] ∧ B ≤ y) := ⟨HL_2.out.1.kept (hg.block y HL_2.out.1.lt (fun e => HA_2.out e.symm)), HL_2.out.2⟩
          have HA_3 : Hid (v6.ownBlock ≠ some y) := fun e => by
            rcases hn6 with h | ⟨g', h, h'⟩
            · rw [h] at e; exact HA_2.out e
            · rw [h] at e; have := Option.some.inj e; have := HL_2.out.1.lt; omega
          have HB15_3 : Hid (Below B wf w15_3) := HB7_2.out.trans hb
          simp only [Act.put, List.setIfInBounds_toArray, List.set_cons_zero, List.set_cons_succ]
          refine hK.out _ _ hb ?_
          clear hK K hb ho hg hn6
          refine GrL.Left.one (i := 18) (by kernel_rfl) (by kernel_rfl) (GrL.Step.mk rfl (fun K hK => ?_))
          rw [if_pos (by rfl)]
          refine wp_app_cts (.tmp 42) (.tmp 44) rfl B v6 (l.eraseIdx k) rfl HO6_3.out _ 1 [c] rfl rfl (lit_src HL_3.out.1) (by rw [List.length_eraseIdx, HN.out, if_pos h1]; show n - 1 + 1 ≤ 10000; omega) (Nat.le_trans HBS.out.1 HB15_3.out.size) ?_
          intro v7 w18_4 ho hg _
          have hb : Below B w15_3 w18_4 := (Below.refl B w15_3).grown hg (Nat.le_trans HBS.out.1 HB15_3.out.size) (fun k hk => (HO6_3.out.block hk).1)
          obtain ⟨xa, xc, rfl⟩ := ho.slice
          have HO7 : Hid (OwnC w18_4 B (.slice xa (l.eraseIdx k ++ [c]).length xc) (l.eraseIdx k ++ [c])) := ho
          have HB18_4 : Hid (Below B wf w18_4) := HB15_3.out.trans hb
          simp only [Act.put, List.setIfInBounds_toArray, List.set_cons_zero, List.set_cons_succ]
          refine hK.out _ _ hb ?_
          clear hK K hb ho hg
          refine GrL.Left.done (by kernel_rfl) ?_
          have HX6 : Hid (wd.Extends w18_4) := HEX.out w18_4 HB18_4.out
          have b6 := HX6.out.cell_of HCR.out
          have f6 := (HRX.out.ext HX6.out).frozen o
          have HPUT : Hid (∀ w8, w8 = w18_4.setCell ⟨g, o, none⟩ (.slice xa (l.eraseIdx k ++ [c]).length xc) → RBAt w8 g T pre (.slice xa (l.eraseIdx k ++ [c]).length xc) post (l.eraseIdx k ++ [c]) ∧ RWrote w g (.slice (some ⟨vg, vo, none⟩) n vc) (.slice xa (l.eraseIdx k ++ [c]).length xc) w8 ∧ CAt w8 (s + 1) 47 [] [z21] []) := fun w8 e8 => by
            have hne := own_new HO7.out HBS.out.2.2.1
            have h8 := (HRX.out.ext HX6.out).put HO.out (HO7.out.mono (Nat.zero_le _)) hne e8
            have hg8 : w18_4.grownBy w8 (some g) := by rw [e8]; exact cgrown_set _ _ _
            have hxw := Gr.ext_trans HXWD.out HX6.out
            refine ⟨h8, ⟨hg8.os.trans hxw.os, hg8.tape.trans hxw.tape, hg8.output.trans hxw.output, Nat.le_trans hxw.size hg8.size, fun i hi hig _ => (hg8.block i (Nat.lt_of_lt_of_le hi hxw.size) (by simpa using hig)).trans (hxw.block i hi), .inr fun k hk => Nat.le_trans HBS.out.2.1 (HO7.out.block hk).1⟩, ?_⟩
            have h2 := HB2D.out.ext HX6.out
            exact h2.kept (hg8.block _ h2.lt (fun e => by have := HGS.out; have := Option.some.inj e; omega))
          have HNE := Lib.hid (own_new HO7.out HBS.out.2.2.2)
          clear HO7 HB18_4 HBS HEX HS1 HS2 HQ1 HQ2 HX6 HRX
          generalize (l.eraseIdx k ++ [c]).length = el at *
          go_upto_region 6 with fail
          generalize hw8 : World.setCell w18_4 _ _ = w8
          obtain ⟨hp1, hp2, hp3⟩ := HPUT.out w8 hw8.symm
          have HP1 := Lib.hid hp1
          have HP2 := Lib.hid hp2
          have HP3 := Lib.hid hp3
          have HW8 : Hid (w.heap.size ≤ w8.heap.size) := hp2.size
          clear hw8 HPUT b6 f6 hp1 hp2 hp3
          go_wp2_with (first | (refine wpList_store_ct rfl (.tmp 4) (.tmp 48) rfl (s + 1) 0 0 z21 47 [] [] [z21] rfl (by rfl) HP3.out rfl (Nat.zero_lt_one) ?_) | fail)
          intro w9 ha9 hg9
          have HP := Lib.hid (rsee_end (o := o) HSEE.out HP1.out HP2.out HP3.out hg9 HWS.out HGS.out HNE.out)
          have HR9 : Hid (w9.rangeAt (s + 1) 0 (CL (rseeX l c))) := by rw [HSEE.out.2.1]; exact ha9.range (o := 0) (k := 0) rfl Nat.zero_lt_one
          clear ha9 hg9
          repeat (first | go_values | go_skip | go_guarded | go_step)
          refine bodyPost_ret (results_ct rfl _ _ (s + 1) (rseeX l c) false (by rfl) (by rfl) HR9.out) rfl ?_
          exact HP.out
    · obtain rfl : k = n := by omega
      have HK : Hid (ixC c.p l = k) := HNO.out HB.out
      have HRX := Lib.hid (H.out.ext HX.out)
      have HOL : Hid (∀ i, (Value.slice va k vc).ownBlock = some i → i < s) := fun i hi => by have := (H.out.own.block hi).2.1; have := HWS.out; show i < s; omega
      clear HYES HNO HB hpr
      by_cases h3 : k < 3
      · have HSEE : Hid (rseeL l c = l ++ [c] ∧ rseeX l c = z21 ∧ rseeB l c = false) := by
          unfold rseeL rseeX rseeB
          rw [HK.out, HN.out, if_neg (Nat.lt_irrefl _), if_pos h3, if_neg (Nat.lt_irrefl _), if_pos h3, if_neg (Nat.lt_irrefl _), if_pos h3]; exact ⟨rfl, rfl, rfl⟩
        have h3i : ((k : Nat) : Int) < 3 := by omega
        go_upto_region 8 with fail
        have HCR := Lib.hid hc0
        have HXD : Hid (wr.Extends wr.drew) := Gr.ext_drew (Gr.ext_refl wr)
        have HRD : Hid (RBAt wr.drew g T pre (.slice va k vc) post l) := HRX.out.ext HXD.out
        have HCG : Hid (∀ wx, wr.drew.grownBy wx (Value.slice va k vc).ownBlock → wx.cell? ⟨g, o, none⟩ = some (.slice va k vc) ∧ CAt wx s 47 [] [c] [] ∧ CAt wx (s + 1) 47 [] [z21] []) := fun wx hx => by
          have hrow := (hx.block g HRD.out.lt (fun e => HRD.out.ne e.symm)).trans HRD.out.row
          refine ⟨?_, ?_, ?_⟩
          · rw [cell_of_row _ _ _ _ _ _ hrow, List.getElem?_toArray, List.getElem?_append_right (by rw [HO.out]; exact Nat.le_refl _), HO.out, Nat.sub_self]; rfl
          · have h := HBX1.out.ext HXD.out
            exact h.kept (hx.block _ h.lt (fun e => by have := HOL.out s e.symm; omega))
          · have h := HBX2.out.ext HXD.out
            exact h.kept (hx.block _ h.lt (fun e => by have := HOL.out (s + 1) e.symm; omega))
        have HWD : Hid (w.Extends wr.drew) := Gr.ext_trans HX.out HXD.out
        clear hc0 HBX1 HBX2 HXR HXD HRX
        refine GrR.region ((Value.slice va k vc).ownBlock) 8 [(false,0),(false,1),(false,2),(false,3),(false,4),(false,5),(true,6),(true,7)] (by kernel_rfl) (by kernel_rfl) (fun d _ _ _ _ h => by cases d <;> exact h) ?_
        simp only [Gr.pick, List.getElem?_cons_zero, List.getElem?_cons_succ, List.drop_succ_cons, List.drop_zero]
        generalize wr.drew = wf at *
        iterate 4
          refine GrR.walk_t ?_ (Or.inl ⟨by rfl, ?_⟩) ?_
          rotate_left
          · intro w' hw'
            clear hw'
            go_simp
            try with_reducible rfl
          simp only [Act.put, List.setIfInBounds_toArray, List.set_cons_zero, List.set_cons_succ]
        refine GrR.walk_t ?_ (Or.inl ⟨by rfl, ?_⟩) ?_
        rotate_left
        · intro w' hw'
          have b0 := (HCG.out w' hw').1
          clear hw'
          go_simp
          try with_reducible rfl
        simp only [Act.put, List.setIfInBounds_toArray, List.set_cons_zero, List.set_cons_succ]
        refine GrR.walk_t _ (Or.inl ⟨by rfl, fun w' hw' => ct_yields ((HCG.out w' hw').2.1.range (o := 0) (k := 0) rfl Nat.zero_lt_one) rfl rfl rfl⟩) ?_
        simp only [Act.put, List.setIfInBounds_toArray, List.set_cons_zero, List.set_cons_succ]
        simp only [List.getD_cons_zero]
        refine GrR.walk_c (fun K hK => ?_)
        rw [if_pos (by rfl)]
        refine wp_lit_ct (.tmp 60) rfl c rfl ?_
        generalize hw : World.alloc wf _ = wl
        have HXL : Hid (wf.Extends wl ∧ CAt wl wf.heap.size 47 [] [c] []) := by subst hw; exact ⟨ext_alloc _ _, CAt.box wf _ c⟩
        have hgl : wf.grownBy wl (Value.slice va k vc).ownBlock := by subst hw; exact World.grownBy_alloc _ _ _
        have HGL := Lib.hid hgl
        simp only [Act.put, List.setIfInBounds_toArray, List.set_cons_zero, List.set_cons_succ]
        refine hK.out _ _ hgl ?_
        clear hK K hw hgl
        refine GrR.walk_c (fun K hK => ?_)
        rw [if_pos (by rfl)]
        refine wp_app_cts (.tmp 59) (.tmp 61) rfl 0 (.slice va k vc) l rfl (HRD.out.own.ext HXL.out.1) _ 1 [c] rfl rfl (lit_src HXL.out.2) (by rw [HN.out]; show k + 1 ≤ 10000; omega) (Nat.zero_le _) ?_
        intro v7 w7 ho hg hn7
        obtain ⟨xa, xc, rfl⟩ := ho.slice
        have HO7 : Hid (OwnC w7 0 (.slice xa (l ++ [c]).length xc) (l ++ [c])) := ho
        have HG7 : Hid (wf.grownBy w7 (Value.slice va k vc).ownBlock) := grown_trans HGL.out hg
        have HN7 : Hid ((Value.slice xa (l ++ [c]).length xc).ownBlock = (Value.slice va k vc).ownBlock ∨ ∃ g', (Value.slice xa (l ++ [c]).length xc).ownBlock = some g' ∧ wl.heap.size ≤ g') := hn7
        simp only [Act.put, List.setIfInBounds_toArray, List.set_cons_zero, List.set_cons_succ]
        refine hK.out _ _ hg ?_
        clear hK K ho hg hn7
        refine GrR.walk_nil ?_
        obtain ⟨b6, _, hc7⟩ := HCG.out w7 HG7.out
        have HC7 := Lib.hid hc7
        have hrow7 := (HG7.out.block g HRD.out.lt (fun e => HRD.out.ne e.symm)).trans HRD.out.row
        have HROW7 := Lib.hid hrow7
        have f6 : w7.frozen? ⟨g, o, none⟩ = false := frozen_of_row _ _ _ _ _ hrow7
        have HLS : Hid (s + 1 < wl.heap.size ∧ g < wl.heap.size ∧ w.heap.size ≤ wl.heap.size) := by
          have h1 := HC7.out
          have h2 := (HCG.out wf (grown_refl _ _)).2.2.lt
          have h3 := HXL.out.1.size
          have h4 := HRD.out.lt
          have h5 := HWD.out.size
          exact ⟨by omega, by omega, by omega⟩
        have HNEG : Hid ((Value.slice xa (l ++ [c]).length xc).ownBlock ≠ some g ∧ (Value.slice xa (l ++ [c]).length xc).ownBlock ≠ some (s + 1)) := by
          rcases HN7.out with e | ⟨g', e, h⟩
          · rw [e]; exact ⟨HRD.out.ne, fun e' => by have := HOL.out _ e'; omega⟩
          · rw [e]; have := HLS.out; exact ⟨fun e' => by have := Option.some.inj e'; omega, fun e' => by have := Option.some.inj e'; omega⟩
        have HPUT : Hid (∀ w8, w8 = w7.setCell ⟨g, o, none⟩ (.slice xa (l ++ [c]).length xc) → RBAt w8 g T pre (.slice xa (l ++ [c]).length xc) post (l ++ [c]) ∧ RWrote w g (.slice va k vc) (.slice xa (l ++ [c]).length xc) w8 ∧ CAt w8 (s + 1) 47 [] [z21] []) := fun w8 e8 => by
          have hg8 : w7.grownBy w8 (some g) := by rw [e8]; exact cgrown_set _ _ _
          refine ⟨?_, ⟨hg8.os.trans (HG7.out.os.trans HWD.out.os), hg8.tape.trans (HG7.out.tape.trans HWD.out.tape), hg8.output.trans (HG7.out.output.trans HWD.out.output), Nat.le_trans HWD.out.size (Nat.le_trans HG7.out.size hg8.size), fun i hi hig hv => ?_, ?_⟩, ?_⟩
          · refine ⟨?_, HO7.out.kept hg8 (.inr HNEG.out.1), HRD.out.ty⟩
            rw [e8, heap_setCell_same _ _ _ _ _ _ HROW7.out]
            have := HO.out
            subst this
            simp
          · have h1 := Nat.lt_of_lt_of_le hi HWD.out.size
            exact (hg8.block i (Nat.lt_of_lt_of_le h1 HG7.out.size) (by simpa using hig)).trans ((HG7.out.block i h1 (fun e => hv e.symm)).trans (HWD.out.block i hi))
          · rcases HN7.out with e | ⟨g', e, h⟩
            · exact .inl e
            · exact .inr fun k' hk' => by rw [e] at hk'; have := Option.some.inj hk'; have := HLS.out; omega
          · exact HC7.out.kept (hg8.block _ HC7.out.lt (fun e => by have := HGS.out; have := Option.some.inj e; omega))
        clear HO7 HG7 HN7 HC7 HROW7 hrow7 hc7 HCG HXL HGL HRD HWD HLS
        generalize (l ++ [c]).length = el at *
        go_upto_region 9 with fail
        generalize hw8 : World.setCell w7 _ _ = w8
        obtain ⟨hp1, hp2, hp3⟩ := HPUT.out w8 hw8.symm
        have HP1 := Lib.hid hp1
        have HP2 := Lib.hid hp2
        have HP3 := Lib.hid hp3
        clear hw8 HPUT b6 f6 hp1 hp2 hp3
        go_wp2_with (first | (refine wpList_store_ct rfl (.tmp 4) (.tmp 65) rfl (s + 1) 0 0 z21 47 [] [] [z21] rfl (by rfl) HP3.out rfl (Nat.zero_lt_one) ?_) | fail)
        intro w9 ha9 hg9
        have HP := Lib.hid (rsee_end (o := o) HSEE.out HP1.out HP2.out HP3.out hg9 HWS.out HGS.out HNEG.out.2)
        have HR9 : Hid (w9.rangeAt (s + 1) 0 (CL (rseeX l c))) := by rw [HSEE.out.2.1]; exact ha9.range (o := 0) (k := 0) rfl Nat.zero_lt_one
        clear ha9 hg9
        repeat (first | go_values | go_skip | go_guarded | go_step)
        refine bodyPost_ret (results_ct rfl _ _ (s + 1) (rseeX l c) false (by rfl) (by rfl) HR9.out) rfl ?_
        exact HP.out
      · have HSEE : Hid (rseeL l c = l ∧ rseeX l c = l.getD 0 z21 ∧ rseeB l c = true) := by
          unfold rseeL rseeX rseeB
          rw [HK.out, HN.out, if_neg (Nat.lt_irrefl _), if_neg h3, if_neg (Nat.lt_irrefl _), if_neg h3, if_neg (Nat.lt_irrefl _), if_neg h3]; exact ⟨rfl, rfl, rfl⟩
        have h3i : ¬ ((k : Nat) : Int) < 3 := by omega
        have h30 : 0 < k := by omega
        obtain ⟨vg, vo, rfl, hr⟩ := (HCT.out.ext HX.out).at (k := 0) (by rw [HN.out]; exact h30)
        rw [Nat.zero_mul, Nat.add_zero] at hr
        obtain ⟨x, hx⟩ : ∃ x, CV (l.getD 0 z21) = x := ⟨_, rfl⟩
        have HXV := Lib.hid hx
        clear hx
        go_wp2_with (first | (refine wpList_load_ct rfl (.tmp 70) rfl vg vo (l.getD 0 z21) x HXV.out rfl hr ?_) | (refine wpList_store_ct rfl (.tmp 4) (.tmp 71) rfl (s + 1) 0 0 (l.getD 0 z21) 47 [] [] [z21] rfl HXV.out.symm HBX2.out rfl (Nat.zero_lt_one) ?_) | fail)
        intro w9 ha9 hg9
        have HP := Lib.hid (rsee_end (o := o) (v := .slice (some ⟨vg, vo, none⟩) k vc) HSEE.out HRX.out ⟨HX.out.os, HX.out.tape, HX.out.output, HX.out.size, fun i hi _ _ => HX.out.block i hi, .inl rfl⟩ HBX2.out hg9 HWS.out HGS.out (fun e => by have := HOL.out _ e; omega))
        have HR9 : Hid (w9.rangeAt (s + 1) 0 (CL (rseeX l c))) := by rw [HSEE.out.2.1]; exact ha9.range (o := 0) (k := 0) rfl Nat.zero_lt_one
        clear ha9 hg9 hr
        repeat (first | go_values | go_skip | go_guarded | go_step)
        refine bodyPost_ret (results_ct rfl _ _ (s + 1) (rseeX l c) true (by rfl) (by rfl) HR9.out) rfl ?_
        exact HP.out
end Go.Proofs.Ytffcjnabhblbaaa
namespace Go.Proofs.Ytffcjnabhblbaaa
set_option maxRecDepth 20000
open Go.RowKit Go.Deep
set_option linter.unusedVariables false
/-- No two of one peer. -/
def Dst (l : List Ct) : Prop := l.Pairwise fun a b => a.p ≠ b.p
theorem Dst.nil : Dst [] := List.Pairwise.nil
theorem dropC_none {p : Int} : ∀ {l : List Ct}, (∀ c ∈ l, c.p ≠ p) → dropC p l = l := fun {l} h => by
  unfold dropC cfilt
  rw [List.filter_eq_self]
  intro c hc
  simp [h c hc]
theorem dropC_erase {p : Int} : ∀ {l : List Ct}, Dst l → dropC p l = l.eraseIdx (ixC p l)
  | [], _ => rfl
  | c :: l, h => by
    obtain ⟨h1, h2⟩ := List.pairwise_cons.1 h
    by_cases e : c.p = p
    · have e1 : ixC p (c :: l) = 0 := by unfold ixC cfnd; rw [if_pos (decide_eq_true e)]
      have e2 : dropC p (c :: l) = dropC p l := by unfold dropC cfilt; rw [List.filter_cons]; simp [e]
      rw [e1, e2, List.eraseIdx_cons_zero]
      exact dropC_none fun d hd hp => h1 d hd (by rw [e, hp])
    · have e1 : ixC p (c :: l) = ixC p l + 1 := by unfold ixC; rw [cfnd, if_neg (by simpa using e)]
      have e2 : dropC p (c :: l) = c :: dropC p l := by unfold dropC cfilt; rw [List.filter_cons]; simp [e]
      rw [e1, e2, List.eraseIdx_cons_succ, dropC_erase h2]
theorem isIn_ix {p : Int} {l : List Ct} (h : Dst l) : isIn p l = decide (ixC p l < l.length) := by
  have hle := cfnd_le (fun c => decide (c.p = p)) l
  unfold isIn
  rw [dropC_erase h, List.length_eraseIdx]
  by_cases e : ixC p l < l.length
  · rw [if_pos e]; simp [e]; omega
  · rw [if_neg e]; simp [e]
theorem see_same {l : List Ct} {c : Ct} (h : Dst l) (hl : l.length ≤ 3) : seeL l c = rseeL l c ∧ seeX l c = rseeX l c ∧ seeB l c = rseeB l c := by
  have hd := dropC_erase (p := c.p) h
  by_cases e : ixC c.p l < l.length
  · have h3 : ¬ (dropC c.p l).length = 3 := by rw [hd, List.length_eraseIdx, if_pos e]; omega
    unfold seeL seeX seeB rseeL rseeX rseeB
    rw [if_neg h3, if_neg h3, decide_eq_false h3, if_pos e, if_pos e, if_pos e, hd]
    exact ⟨rfl, rfl, rfl⟩
  · have he : dropC c.p l = l := by rw [hd, List.eraseIdx_of_length_le (by omega)]
    unfold seeL seeX seeB rseeL rseeX rseeB
    rw [he, if_neg e, if_neg e, if_neg e]
    by_cases h3 : l.length = 3
    · rw [if_pos h3, if_pos h3, decide_eq_true h3, if_neg (by omega), if_neg (by omega), if_neg (by omega)]; exact ⟨rfl, rfl, rfl⟩
    · rw [if_neg h3, if_neg h3, decide_eq_false h3, if_pos (by omega), if_pos (by omega), if_pos (by omega)]; exact ⟨rfl, rfl, rfl⟩
theorem Dst.drop {l : List Ct} (h : Dst l) (p : Int) : Dst (dropC p l) := List.Pairwise.filter _ h
theorem dropC_ne {l : List Ct} {p : Int} : ∀ c ∈ dropC p l, c.p ≠ p := fun c hc => by
  unfold dropC cfilt at hc
  simpa using (List.mem_filter.1 hc).2
theorem Dst.see {l : List Ct} (h : Dst l) (c : Ct) : Dst (seeL l c) := by
  unfold seeL
  split
  · exact h.drop _
  · refine List.pairwise_append.2 ⟨h.drop _, List.pairwise_singleton _ _, fun a ha b hb => ?_⟩
    obtain rfl : b = c := by simpa using hb
    exact dropC_ne a ha
/-- What stands where a statement holds bucket b, bucket o and a bucket r of the reference in the blocks sb, sb + 1, sb + 2. -/
structure Three (W wr : World) (sb : Nat) (lb lo lr : List Ct) (v : Value) : Prop where
  below : Below W.heap.size W wr
  hs : W.heap.size ≤ sb
  b : BAt wr sb 50 [] lb []
  o : BAt wr (sb + 1) 50 [] lo []
  r : RBAt wr (sb + 2) 58 [] v [] lr
  own : ∀ i, v.ownBlock = some i → W.heap.size ≤ i
section
variable {W wr w' : World} {sb : Nat} {lb lo lr : List Ct} {v v' : Value}
theorem Three.nb (h : Three W wr sb lb lo lr v) : v.ownBlock ≠ some sb ∧ v.ownBlock ≠ some (sb + 1) := by
  refine ⟨fun e => ?_, fun e => ?_⟩
  · obtain ⟨_, _, cs, hc⟩ := h.r.own.block e
    rw [show wr.heap[sb]? = _ from h.b.at_] at hc
    simp only [Option.some.injEq, Obj.cells.injEq] at hc
    exact absurd hc.2.1 (by decide)
  · obtain ⟨_, _, cs, hc⟩ := h.r.own.block e
    rw [show wr.heap[sb + 1]? = _ from h.o.at_] at hc
    simp only [Option.some.injEq, Obj.cells.injEq] at hc
    exact absurd hc.2.1 (by decide)
theorem below_own {B g : Nat} {a b c : World} (h : Below B a b) (hg : b.grownBy c (some g)) (hB : B ≤ g) (hb : B ≤ b.heap.size) : Below B a c := h.grown hg hb (fun k hk => by have := Option.some.inj hk; omega)
theorem Three.size (h : Three W wr sb lb lo lr v) : W.heap.size ≤ wr.heap.size := h.below.size
theorem Three.ext (h : Three W wr sb lb lo lr v) (hx : wr.Extends w') : Three W w' sb lb lo lr v :=
  ⟨h.below.trans ((Gr.below_of hx).mono h.size), h.hs, h.b.ext hx, h.o.ext hx, h.r.ext hx, h.own⟩
theorem Three.b' {l : List Ct} (h : Three W wr sb lb lo lr v) (hg : wr.grownBy w' (some sb)) (hb : BAt w' sb 50 [] l []) : Three W w' sb l lo lr v :=
  ⟨below_own h.below hg h.hs h.size, h.hs, hb, h.o.grown hg (by simp), ⟨(hg.block _ h.r.lt (by simp)).trans h.r.row, h.r.own.kept hg (.inr h.nb.1), h.r.ty⟩, h.own⟩
theorem Three.o' {l : List Ct} (h : Three W wr sb lb lo lr v) (hg : wr.grownBy w' (some (sb + 1))) (hb : BAt w' (sb + 1) 50 [] l []) : Three W w' sb lb l lr v :=
  ⟨below_own h.below hg (Nat.le_succ_of_le h.hs) h.size, h.hs, h.b.grown hg (by simp), hb, ⟨(hg.block _ h.r.lt (by simp)).trans h.r.row, h.r.own.kept hg (.inr h.nb.2), h.r.ty⟩, h.own⟩
theorem RWrote.below {B g : Nat} (h : RWrote wr g v v' w') (hB : B ≤ g) (hv : ∀ i, v.ownBlock = some i → B ≤ i) (hs : B ≤ wr.heap.size) : Below B wr w' :=
  ⟨h.os, h.tape, h.output, h.size, fun i hi => h.block i (by omega) (by omega) (fun e => by have := hv i e; omega)⟩
theorem Three.r' {l : List Ct} (h : Three W wr sb lb lo lr v) (hg : RWrote wr (sb + 2) v v' w') (hr : RBAt w' (sb + 2) 58 [] v' [] l) : Three W w' sb lb lo l v' :=
  ⟨h.below.trans (hg.below (Nat.le_add_right_of_le h.hs) h.own h.size), h.hs, h.b.kept (hg.block _ h.b.lt (by omega) h.nb.1), h.o.kept (hg.block _ h.o.lt (by omega) h.nb.2), hr, fun i hi => by
    rcases hg.new with e | e
    · exact h.own i (by rw [← e]; exact hi)
    · exact Nat.le_trans h.size (e i hi)⟩
end
theorem cell_same {w w' : World} {b : Nat} (h : w'.heap[b]? = w.heap[b]?) (o : Nat) : w'.cell? ⟨b, o, none⟩ = w.cell? ⟨b, o, none⟩ := by simp [World.cell?, h]
end Go.Proofs.Ytffcjnabhblbaaa
