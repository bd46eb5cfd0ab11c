/- In one text: ObjLive, MntLive, StoNum, MntTells. -/
import Derived.Handy
import Derived.Lib.Hide
import Derived.Lib.SlBytesConst
import Derived.Test.YtpfmmfapdcbnkaaGreatDoorMA3
import Derived.Test.YtpfmmfapdcbnkaaGreatDoorMA12
import Derived.Test.YtpfmmfapdcbnkaaGreatDoorMA13
import Derived.Test.YtpfmmfapdcbnkaaGreatDoorMA17
import Derived.Test.YtpfmmfapdcbnkaaGreatDoorMA25
namespace Go.Proofs.YtpfmmfapdcbnkaaGreatDoor
set_option maxRecDepth 20000
open Go.RowKit Go.Deep
set_option linter.unusedVariables false
/-- Decode of symbols of an object: its bytes if they are enough of each block, else that they are too little. -/
theorem dec_back (B S M : Nat) (hR : CM.Right B S M) (xs : List Nat) (hl : xs.length = B) (bs : List Bk) (hfull : bs.length = CM.bl B S M) (hB : Bks S S (CM.cut B S M xs) bs 5) (l : List Rc) (hll : l.length ≤ 1000000) (Lf : Nat → List Int) (fb : Nat → Bool)
    (hLl : ∀ c, c < CM.bl B S M → (Lf c).length ≤ 1000) (hok : ∀ c, c < CM.bl B S M → ∀ e ∈ Lf c, EsiOk e)
    (hp : ∀ c, c < CM.bl B S M → OM.pick B S M c l = DC.pairs (Lf c) ((Lf c).map (DC.dr (bs.getD c Bk.zero).k (bs.getD c Bk.zero).j S (bs.getD c Bk.zero).c)))
    (hf : ∀ c, c < CM.bl B S M → (fb c = true ↔ DC.Full (bs.getD c Bk.zero).k (bs.getD c Bk.zero).j (Lf c))) (er : Nat) (ys : List Nat) (hes : (∀ c, c < CM.bl B S M → fb c = true) ∧ er = 0 ∧ ys = xs ∨ (∃ c, c < CM.bl B S M ∧ fb c = false) ∧ er = 4 ∧ ys = []) (v : Value) (w : World) (hv : Recs w v l) (hT : Tab w) :
    Calls Tryz.prog 21 #[PV B S M, v] w (JoinOut w er ys) := by
  obtain ⟨h1, h2, h3, h4, h5, h6⟩ := CM.right_of hR
  have hn : CM.bl B S M ≤ 4000 := by have := CM.bl_le B S M; have := CM.sy_le B S h1; omega
  have hlen := CM.cut_length B S M xs
  obtain ⟨c0, e1, e2, e3⟩ := least_stop (CM.bl B S M) fun c => if fb c = true then 0 else 4
  have hb : ∀ c, c < CM.bl B S M → B10 S ((CM.cut B S M xs).getD c []) (bs.getD c Bk.zero).k (bs.getD c Bk.zero).j S (bs.getD c Bk.zero).c := fun c hc => hB.yes c (by omega)
  have hkk : ∀ c, c < CM.bl B S M → CM.kk B S M c = (bs.getD c Bk.zero).k := fun c hc => by
    have := (hb c hc).hk
    rw [((CM.cut_fit B S M xs).2 c (by omega)).1] at this
    exact this
  have hdn : ∀ c, c < CM.bl B S M → Dense ((CM.cut B S M xs).getD c []) := fun c hc => by
    have h := hb c hc
    refine ⟨by rw [h.hk]; exact h.k1, fun j hj e => ?_⟩
    have := h.all j hj
    rw [e] at this
    simp at this; omega
  have hz : ∀ c, c < c0 → (((if fb c = true then 0 else 4 : Nat) : Nat) : Int) = 0 ∧ Dense (if fb c = true then (CM.cut B S M xs).getD c [] else []) := fun c hc => by
    have h := e2 c hc
    by_cases hb' : fb c = true
    · simp only [if_pos hb']; exact ⟨rfl, hdn c (by omega)⟩
    · simp only [if_neg hb'] at h; cases h
  refine odec_any B S M v l (CM.bl B S M) c0 er (CM.kk B S M) (fun c => if fb c = true then (CM.cut B S M xs).getD c [] else []) (fun c => ((if fb c = true then 0 else 4 : Nat) : Nat)) ys w hT hn hll hv (fun w => right_yes _ _ _ w hR) (fun w => blocks_yes _ _ _ w hR) (fun c hc w => k_in B S M c w hR hc) (fun c hc u w hu hT => ?_) e1 hz (fun h => ?_) (fun h => ?_)
  · have h := hb c hc
    have ht := back_told (Lf c) h.seed h.parts h.hk fun i hi => by have := h.all i (by rw [h.hk]; exact hi); omega
    rw [← hp c hc] at ht
    have hpl : (OM.pick B S M c l).length ≤ 1000 := by rw [hp c hc, DC.pairs_length]; exact hLl c hc
    have hok' : ∀ p ∈ OM.pick B S M c l, EsiOk p.1 := by
      rw [hp c hc]
      exact DC.pairs_mem fun i hi => hok c hc _ (by rw [List.getD_eq_getElem?_getD, List.getElem?_eq_getElem hi]; exact List.getElem_mem hi)
    rw [hkk c hc]
    by_cases hb' : fb c = true
    · simp only [if_pos hb']
      rcases ht with ⟨_, ht⟩ | ⟨hn, _⟩
      · exact block_told _ S u _ w h.k1 h.k2 h3 h4 hu hpl hok' hT _ _ ht
      · exact absurd ((hf c hc).1 hb') hn
    · simp only [if_neg hb']
      rcases ht with ⟨hy, _⟩ | ⟨_, ht⟩
      · exact absurd ((hf c hc).2 hy) hb'
      · exact block_told _ S u _ w h.k1 h.k2 h3 h4 hu hpl hok' hT _ _ ht
  · have h' := e3 h
    rcases hes with ⟨ha, _⟩ | ⟨_, rfl, rfl⟩
    · rw [if_pos (ha c0 h)] at h'; exact absurd rfl h'
    · by_cases hb' : fb c0 = true
      · rw [if_pos hb'] at h'; exact absurd rfl h'
      · exact ⟨by simp [hb'], by decide, rfl⟩
  · rcases hes with ⟨ha, rfl, rfl⟩ | ⟨⟨c, hc, hcb⟩, _⟩
    · intro v w hv
      have hX : (List.range (CM.bl B S M)).map (fun c => if fb c = true then (CM.cut B S M ys).getD c [] else []) = CM.cut B S M ys := by
        apply List.ext_getElem (by simp [hlen])
        intro i i1 i2
        have hi : i < CM.bl B S M := by simpa using i1
        simp [ha i hi, i2]
      rw [hX] at hv
      have h := (join_any B S M v _ w hR hv).mono fun e w' h => h.1 (CM.cut_fit _ _ _ _)
      subst hl
      rw [CM.join_cut S M ys h3] at h
      exact h
    · have := e2 c (by omega)
      simp [hcb] at this
theorem small13_any (b s m : Int) (w : World) : ∃ sm : Bool, ∀ w, Calls Tryz.prog 6 #[PV b s m] w fun e w' => e = .returned (.bool sm) ∧ w.Extends w' := by
  obtain ⟨r, y, n, k, ha⟩ := asked12 b s m 0
  have HN := Lib.hid ha.nr
  clear ha
  refine ⟨decide (b ≤ 300 ∧ m ≤ 10 ∧ n ≤ 20), fun w => ?_⟩
  have hc : (¬ b ≤ 300) ∨ (b ≤ 300 ∧ ¬ m ≤ 10) ∨ (b ≤ 300 ∧ m ≤ 10) := by omega
  rcases hc with c1 | ⟨c1, c2⟩ | ⟨c1, c2⟩
  all_goals
    go_enter Tryz.func6, Tryz.ntmps6
    go_upto_region 1 with fail
    generalize hw1 : World.alloc w _ = w1
    have hx1 : w.Extends w1 := by subst hw1; exact prm_ext_alloc _ _
    have hp : PAt w1 w.heap.size b s m := by subst hw1; exact PAt.new w 25 b s m
    generalize w.heap.size = bx at hp ⊢
    have HX1 := Lib.hid hx1
    have hb1 := hp.lt
    clear hw1 hx1
    obtain ⟨p0, p1, p2⟩ := hp
  · go_wp2
    go_ret
    exact ⟨by simp; omega, HX1.out⟩
  · go_wp2
    go_ret
    exact ⟨by simp; omega, HX1.out⟩
  · go_wp2_with fail
    refine (HN.out w1).mono ?_
    rintro e w2 ⟨rfl, hx⟩
    have HX2 := Lib.hid (Gr.ext_trans HX1.out hx)
    clear hx p0 p1 p2
    go_wp2
    go_ret
    exact ⟨by simp [c1, c2]; omega, HX2.out⟩
/-! The example. -/
end Go.Proofs.YtpfmmfapdcbnkaaGreatDoor
namespace Go.Proofs.YtpfmmfapdcbnkaaGreatDoor
set_option maxRecDepth 20000
open Go.RowKit Go.Deep
set_option linter.unusedVariables false
theorem mineOf_length (p n : Int) (l : List Rc) : (mineOf p n l).length ≤ l.length := List.length_filter_le _ _
/-- What both programs make of any records. -/
theorem asked24 (p n b s m blk esi un : Int) (l : List Rc) (hl : l.length ≤ 1000) : ∃ (r : Rc) (er : Int),
    (∀ v w, Tab w → Recs w v l → Calls Tryz.prog 8 #[.agg #[.int .i64 p, .int .i64 n], PV b s m, .int .i64 blk, .int .i64 esi, .int .i64 un, v] w (FreshOut w r er)) ∧
    (∀ v w, Recs w v l → Calls Tryz.prog 9 #[.agg #[.int .i64 p, .int .i64 n], PV b s m, .int .i64 blk, .int .i64 esi, .int .i64 un, v] w (FreshOut w r er)) := by
  obtain ⟨e1, xs, d1, d2⟩ := asked13_dec b s m (mineOf p n l) (Nat.le_trans (mineOf_length p n l) hl)
  obtain ⟨e2, e3, d, OP, OR, n1, n2, s1, s2⟩ := ingr_new b s m blk esi xs
  exact ⟨_, _, fun v w hT hv => pfresh_any p n b s m blk esi un v l w w (Gr.ext_refl _) hT hv (by omega) e1 xs (fun v w' hx hv => d1 v w' hv (hT.ext hx)) e2 OP (fun _ v w' hx hu => n1 v w' hu (hT.ext hx)) e3 d (fun _ h2 o w' hx ho => s1 h2 o w' (hT.ext hx) ho),
    fun v w hv => rfresh_any p n b s m blk esi un v l w w (Gr.ext_refl _) hv (by omega) e1 xs (fun v w' hx hv => d2 v w' hv) e2 OR (fun _ v w' hx hu => n2 v w' hu) e3 d (fun _ h2 o w' hx ho => s2 h2 o w' ho)⟩
theorem one_right : CM.Right (1 : Nat) (1 : Nat) (1 : Nat) := by decide
theorem one_bl : CM.bl 1 1 1 = 1 := by decide
theorem one_cut : CM.cut 1 1 1 [97] = [[[97]]] := by decide
theorem one_lt : ∀ r ∈ ([[97]] : List (List Nat)), ∀ x ∈ r, x < 256 := by decide
theorem one_bks : ∃ c, Bks (1 : Nat) 1 (CM.cut 1 1 1 [97]) [⟨1, 0, c⟩] 5 := by
  rw [one_cut]
  rcases blk_fit 1 [[97]] one_lt (by omega) (by omega) (by simp) (by simp) (fun k hk => by
    have hk : k < 1 := hk
    match k, hk with
    | 0, _ => rfl) with ⟨h, _⟩ | ⟨j, c, h⟩
  · have := h.of_good SM.good_one
    omega
  · obtain ⟨rfl, _⟩ := h.seed.of_good SM.good_one
    exact ⟨c, ⟨Nat.le_refl _, fun i hi => by
      obtain rfl : i = 0 := by simp at hi; omega
      exact h, fun h => absurd h (Nat.lt_irrefl _), by decide⟩⟩
theorem dec_none (v : Value) (w : World) (hv : Recs w v []) (hT : Tab w) : Calls Tryz.prog 21 #[PV 1 1 1, v] w (JoinOut w 4 []) := by
  obtain ⟨c, hB⟩ := one_bks
  have hcl : ∀ i, i < CM.bl 1 1 1 → i = 0 := fun i hi => by rw [one_bl] at hi; omega
  exact dec_back 1 1 1 one_right [97] rfl [⟨1, 0, c⟩] one_bl.symm hB [] (by simp) (fun _ => []) (fun _ => false) (fun c hc => by simp) (fun c hc e he => by cases he) (fun i hi => rfl) (fun i hi => by
      obtain rfl := hcl i hi
      exact ⟨fun h => (by cases h), fun h => absurd h (DC.full_few (by show (0 : Nat) < 1; omega))⟩) 4 [] (.inr ⟨⟨0, by rw [one_bl]; omega, rfl⟩, rfl, rfl⟩) v w hv hT
theorem fresh_none (w : World) (hT : Tab w) : Calls Tryz.prog 8 #[.agg #[.int .i64 0, .int .i64 0], PV 1 1 1, .int .i64 0, .int .i64 0, .int .i64 0, .slice none 0 0] w (FreshOut w Rc.zero 4) :=
  pfresh_any 0 0 1 1 1 0 0 0 _ [] w w (Gr.ext_refl _) hT (Recs.nil _ _ _) (by simp) 4 [] (fun v w' hx hv => dec_none v w' hv (hT.ext hx)) 0 (fun _ _ => False) (fun h => absurd h (by decide)) 0 [] (fun h => absurd h (by decide))
theorem num24_any (n : Int) (w : World) : Calls Tryz.prog 13 #[.int .i64 n] w fun e w' => e = .returned (.int .i64 n) ∧ w = w' := by
  go_enter Tryz.func13, Tryz.ntmps13
  go_wp2
  go_ret
  exact ⟨rfl, rfl⟩
set_option maxHeartbeats 1000000 in
theorem alive24_any (w : World) (hT : Tab w) : Calls Tryz.prog 5 #[] w fun e w' => e = .returned (.bool true) ∧ w.Extends w' := by
  have HF := Lib.hid (fresh_none w hT)
  have hin := esiOf_in 1 1
  have HE := Lib.hid (fun w => esi_any 1 1 w)
  have HN := Lib.hid (fun w => num24_any 4 w)
  generalize esiOf 1 1 = z at *
  clear hT
  go_enter Tryz.func5, Tryz.ntmps5
  go_wp2_with fail
  refine HF.out.mono ?_
  rintro e w1 ⟨a, c, rfl, hx1, hu⟩
  have HX1 := Lib.hid hx1
  clear hx1 hu HF
  have hv : Rc.zero.val (.slice a Rc.zero.d.length c) = .agg #[.int .i64 0, .int .i64 0, .int .i64 0, .int .i64 0, .int .i64 0, .int .i64 0, .int .i64 0, .bool false, .int .i64 0, .slice a 0 c] := rfl
  rw [hv]
  clear hv
  go_wp2_with fail
  generalize hw : World.alloc _ _ = w2
  have hx : w1.Extends w2 := by subst hw; exact ext_alloc _ _
  have HX2 := Lib.hid (Gr.ext_trans HX1.out hx)
  clear hw hx
  refine (HE.out w2).mono ?_
  rintro e w3 ⟨rfl, rfl⟩
  have hd : decide (40 ≤ z) = true := decide_eq_true hin.1
  go_wp2_with fail
  refine (HN.out w2).mono ?_
  rintro e w4 ⟨rfl, rfl⟩
  go_wp2
  go_ret
  exact ⟨rfl, HX2.out⟩
end Go.Proofs.YtpfmmfapdcbnkaaGreatDoor
namespace Go.Proofs.YtpfmmfapdcbnkaaGreatDoor
set_option maxRecDepth 20000
open Go.RowKit Go.Deep
set_option linter.unusedVariables false
/-- Are records few and short enough? -/
def FewL (l : List Rc) : Prop := (∀ r ∈ l, r.d.length ≤ 100) ∧ l.length ≤ 60
instance (l : List Rc) : Decidable (FewL l) := by unfold FewL; infer_instance
set_option maxHeartbeats 1000000 in
theorem few16_any (v : Value) (l : List Rc) (w : World) (h : Recs w v l) :
    Calls Tryz.prog 7 #[v] w fun e w' => e = .returned (.bool (decide (FewL l))) ∧ w.Extends w' := by
  obtain ⟨a, cap, rfl⟩ := h.slice
  have HLM := h.len
  have HAT : Hid (∀ k, k < l.length → ∃ b off, a = some ⟨b, off, none⟩ ∧ RCell w b (off + k * 10) (l.getD k Rc.zero)) := fun k hk => by
    obtain ⟨_, h2⟩ := h.at
    obtain ⟨b, off, e, _, h3⟩ := h2 (by omega)
    exact ⟨b, off, e, h3 k hk⟩
  have HNO : Hid (∀ k, k < l.length → ¬ (l.getD k Rc.zero).d.length ≤ 100 → decide (FewL l) = false) := fun k hk hn => decide_eq_false fun hf => hn (hf.1 _ (by rw [List.getD_eq_getElem?_getD, List.getElem?_eq_getElem hk]; exact List.getElem_mem hk))
  have HYES : Hid ((∀ k, k < l.length → (l.getD k Rc.zero).d.length ≤ 100) → decide (FewL l) = decide (l.length ≤ 60)) := fun hy => by
    have : FewL l ↔ l.length ≤ 60 := ⟨fun hf => hf.2, fun h6 => ⟨fun r hr => by
      obtain ⟨k, hk, rfl⟩ := List.mem_iff_getElem.1 hr
      have := hy k hk
      rwa [List.getD_eq_getElem?_getD, List.getElem?_eq_getElem hk] at this, h6⟩⟩
    exact decide_eq_decide.2 this
  unfold maxLen at HLM
  clear h
  generalize decide (FewL l) = B at *
  generalize l.length = n at *
  go_enter Tryz.func7, Tryz.ntmps7
  go_wp2_with fail
  go_loopw [3] (fun s3 wr => ∃ k : Nat, k ≤ n ∧ s3 = .int .i64 k ∧ Hid (∀ j, j < k → (l.getD j Rc.zero).d.length ≤ 100) ∧ Hid (w.Extends wr)) (fun s3 _ => n - (intOf s3).toNat)
  case atStart => exact ⟨0, by omega, by rfl, Lib.hid (fun j hj => absurd hj (Nat.not_lt_zero _)), Lib.hid (Gr.ext_refl _)⟩
  case round =>
    obtain ⟨k, hk, rfl, HN, HX⟩ := hrel
    by_cases h1 : k < n
    · obtain ⟨b, off, rfl, ua, uc, hr, hu⟩ := HAT.out k h1
      have hr := rangeAt_ext hr HX.out
      have HNK := Lib.hid (HNO.out k h1)
      have HN2 : Hid ((l.getD k Rc.zero).d.length ≤ 100 → ∀ j, j < k + 1 → (l.getD j Rc.zero).d.length ≤ 100) := fun h j hj => by
        by_cases e : j = k
        · subst e; exact h
        · exact HN.out j (by omega)
      clear hu
      generalize l.getD k Rc.zero = p at *
      obtain ⟨xp, xn, xb, xs, xm, xk, xe, xg, xu, xd⟩ := p
      obtain ⟨c0, c1, c2, c3, c4, c5, c6, c7, c8, c9⟩ := RCell.ten hr
      simp only at c0 c1 c2 c3 c4 c5 c6 c7 c8 c9 HNK HN2
      clear hr c0 c1 c2 c3 c4 c5 c6 c7 c8
      generalize xd.length = q at *
      by_cases hq : q ≤ 100
      · have HNN := Lib.hid (HN2.out hq)
        clear HN2 HNK
        go_wp2
        go_roundw
        case rel => exact ⟨k + 1, by omega, by go_num, HNN, HX⟩
        case measure => simp [intOf]; omega
      · have hB := HNK.out hq
        clear HN2 HNK
        subst hB
        go_wp2
        go_ret
        exact ⟨rfl, HX.out⟩
    · obtain rfl : k = n := by omega
      have HB := Lib.hid (HYES.out HN.out)
      by_cases h6 : k ≤ 60
      · have hB : B = true := by rw [HB.out]; exact decide_eq_true h6
        clear HB
        go_wp2
        go_ret
        exact ⟨by rw [hB]; show Ending.returned (.bool (decide ((k : Int) ≤ 60))) = _; rw [decide_eq_true (show (k : Int) ≤ 60 by omega)], HX.out⟩
      · have hB : B = false := by rw [HB.out]; exact decide_eq_false h6
        clear HB
        go_wp2
        go_ret
        exact ⟨by rw [hB]; show Ending.returned (.bool (decide ((k : Int) ≤ 60))) = _; rw [decide_eq_false (show ¬ (k : Int) ≤ 60 by omega)], HX.out⟩
end Go.Proofs.YtpfmmfapdcbnkaaGreatDoor
namespace Go.Proofs.YtpfmmfapdcbnkaaGreatDoor
set_option maxRecDepth 20000
open Go.RowKit Go.Deep
set_option linter.unusedVariables false
/-- What stands where a statement has boxed an id and a shape. -/
structure IB (w w1 : World) (y : Nat) (p n b s m : Int) : Prop where
  x : w.Extends w1
  i : ∀ w', w1.Extends w' → w'.cell? ⟨y, 0, none⟩ = some (.int .i64 p) ∧ w'.cell? ⟨y, 1, none⟩ = some (.int .i64 n)
  s : ∀ w', w1.Extends w' → w'.cell? ⟨y + 1, 0, none⟩ = some (.int .i64 b) ∧ w'.cell? ⟨y + 1, 1, none⟩ = some (.int .i64 s) ∧ w'.cell? ⟨y + 1, 2, none⟩ = some (.int .i64 m)
theorem IB.made (w : World) (p n b s m : Int) : IB w ((w.alloc (.cells #[.int .i64 p, .int .i64 n] 23)).alloc (.cells #[.int .i64 b, .int .i64 s, .int .i64 m] 25)) w.heap.size p n b s m := by
  have e : ∀ (w : World) (o : Obj), (w.alloc o).heap.size = w.heap.size + 1 := fun w o => by simp
  refine ⟨Gr.ext_trans (ext_alloc _ _) (ext_alloc _ _), fun w' hx => ?_, fun w' hx => ?_⟩
  · have h : w'.heap[w.heap.size]? = some (.cells #[.int .i64 p, .int .i64 n] 23) := by
      rw [hx.block _ (by simp; omega), (ext_alloc _ _).block _ (by simp)]
      exact heap_alloc_new _ _
    exact ⟨by rw [cell_of_row _ _ _ _ _ _ h]; rfl, by rw [cell_of_row _ _ _ _ _ _ h]; rfl⟩
  · have h0 := PAt.new (w.alloc (.cells #[.int .i64 p, .int .i64 n] 23)) 25 b s m
    rw [e] at h0
    exact h0.ext hx
set_option maxHeartbeats 8000000 in
theorem mtells_walk (pe nn p n b s m blk esi un : Int) (v : Value) (l : List Rc) (w : World) (hv : Recs w v l) (hT : Tab w) :
    Calls Tryz.prog 3 #[.int .i64 pe, .int .i64 nn, .agg #[.int .i64 p, .int .i64 n], PV b s m, .int .i64 blk, .int .i64 esi, .int .i64 un, v] w fun e w' => e = .returned (.bool true) ∧ w.Extends w' := by
  have HRI := Lib.hid hv
  obtain ⟨ra, rc, rfl⟩ := hv.slice
  have HFEW : Hid (∀ w', w.Extends w' → Calls Tryz.prog 7 #[.slice ra l.length rc] w' fun e w2 => e = .returned (.bool (decide (FewL l))) ∧ w'.Extends w2) := fun w' hx => few16_any _ l w' (HRI.out.ext hx)
  obtain ⟨sm, hsm⟩ := small13_any b s m w
  have HSM := Lib.hid hsm
  have HT := Lib.hid hT
  have HA := Lib.hid (fun w hT => alive24_any w hT)
  have HFR : Hid (decide (FewL l) = true → ∃ (r : Rc) (er : Int),
      (∀ w', w.Extends w' → Calls Tryz.prog 8 #[.agg #[.int .i64 p, .int .i64 n], PV b s m, .int .i64 blk, .int .i64 esi, .int .i64 un, .slice ra l.length rc] w' (FreshOut w' r er)) ∧
      (∀ w', w.Extends w' → Calls Tryz.prog 9 #[.agg #[.int .i64 p, .int .i64 n], PV b s m, .int .i64 blk, .int .i64 esi, .int .i64 un, .slice ra l.length rc] w' (FreshOut w' r er))) := fun hf => by
    have hf := of_decide_eq_true hf
    obtain ⟨r, er, h1, h2⟩ := asked24 p n b s m blk esi un l (by have := hf.2; omega)
    exact ⟨r, er, fun w' hx => h1 _ w' (HT.out.ext hx) (HRI.out.ext hx), fun w' hx => h2 _ w' (HRI.out.ext hx)⟩
  have HE1 := Lib.hid (fun w => esi_any pe nn w)
  have HE2 := Lib.hid (fun w => resi_any pe nn w)
  clear hv hT hsm
  generalize esiOf pe nn = z at *
  generalize decide (FewL l) = few at *
  generalize l.length = q at *
  obtain ⟨y, hy⟩ : ∃ y, y = w.heap.size := ⟨_, rfl⟩
  have HIB := Lib.hid (IB.made w p n b s m)
  go_enter Tryz.func3, Tryz.ntmps3
  go_upto_region 1 with fail
  generalize hw1 : World.alloc _ _ = w1 at *
  rw [← hy] at HIB ⊢
  clear hw1 hy
  go_wp2_with fail
  refine (HA.out w1 (HT.out.ext HIB.out.x)).mono ?_
  rintro e w2 ⟨rfl, hx⟩
  have HX2 := Lib.hid hx
  obtain ⟨s0, s1, s2⟩ := HIB.out.s w2 hx
  clear hx HA
  go_wp2_with fail
  clear s0 s1 s2
  refine (HSM.out w2).mono ?_
  rintro e w3 ⟨rfl, hx⟩
  have HX3 := Lib.hid (Gr.ext_trans HX2.out hx)
  have HW3 := Lib.hid (Gr.ext_trans HIB.out.x HX3.out)
  clear hx HX2 HSM
  cases sm with
  | false =>
    go_wp2
    go_ret
    exact ⟨rfl, HW3.out⟩
  | true =>
    go_wp2_with fail
    refine (HFEW.out w3 HW3.out).mono ?_
    rintro e w4 ⟨rfl, hx⟩
    have HX4 := Lib.hid (Gr.ext_trans HX3.out hx)
    have HW4 := Lib.hid (Gr.ext_trans HIB.out.x HX4.out)
    clear hx HX3 HW3 HFEW
    cases few with
    | false =>
      go_wp2
      go_ret
      exact ⟨rfl, HW4.out⟩
    | true =>
      obtain ⟨r, er, hF1, hF2⟩ := HFR.out rfl
      have HF1 := Lib.hid hF1
      have HF2 := Lib.hid hF2
      obtain ⟨s0, s1, s2⟩ := HIB.out.s w4 HX4.out
      obtain ⟨i0, i1⟩ := HIB.out.i w4 HX4.out
      clear HFR hF1 hF2
      go_wp2_with fail
      clear s0 s1 s2 i0 i1
      refine (HF1.out w4 HW4.out).mono ?_
      rintro e w5 ⟨a5, c5, rfl, hx, hu⟩
      have HX5 := Lib.hid (Gr.ext_trans HX4.out hx)
      have HU5 := Lib.hid hu
      clear hx hu HX4 HW4 HF1
      obtain ⟨xp, xn, xb, xs, xm, xk, xe, xg, xu, xd⟩ := r
      have hrv : ∀ u : Value, (⟨xp, xn, xb, xs, xm, xk, xe, xg, xu, xd⟩ : Rc).val u = .agg #[.int .i64 xp, .int .i64 xn, .int .i64 xb, .int .i64 xs, .int .i64 xm, .int .i64 xk, .int .i64 xe, .bool xg, .int .i64 xu, u] := fun _ => rfl
      rw [hrv]
      obtain ⟨dl, hdl⟩ : ∃ dl, dl = xd.length := ⟨_, rfl⟩
      have HD2 : Hid ((⟨xp, xn, xb, xs, xm, xk, xe, xg, xu, xd⟩ : Rc).d.length = dl) := hdl.symm
      rw [HD2.out] at HU5 ⊢
      have HRV := Lib.hid hrv
      clear hdl hrv
      go_upto_region 5 with fail
      generalize hw : World.alloc w5 _ = w6
      have hx : w5.Extends w6 := by subst hw; exact ext_alloc _ _
      have hb6 : RB w6 w5.heap.size ⟨xp, xn, xb, xs, xm, xk, xe, xg, xu, xd⟩ (.slice a5 dl c5) := by subst hw; exact heap_alloc_new _ _
      obtain ⟨g1, hg1⟩ : ∃ g, g = w5.heap.size := ⟨_, rfl⟩
      rw [← hg1] at hb6 ⊢
      have HX6 := Lib.hid (Gr.ext_trans HX5.out hx)
      have HW6 := Lib.hid (Gr.ext_trans HIB.out.x HX6.out)
      have HU6 := Lib.hid (HU5.out.ext hx)
      have HB6 := Lib.hid hb6
      obtain ⟨s0, s1, s2⟩ := HIB.out.s w6 HX6.out
      obtain ⟨i0, i1⟩ := HIB.out.i w6 HX6.out
      clear hw hx hb6 hg1 HX5 HU5
      go_wp2_with fail
      clear s0 s1 s2 i0 i1
      refine (HF2.out w6 HW6.out).mono ?_
      rintro e w7 ⟨a7, c7, rfl, hx, hu⟩
      have HX7 := Lib.hid (Gr.ext_trans HX6.out hx)
      have HU7 := Lib.hid hu
      have HV7 := Lib.hid (HU6.out.ext hx)
      have HB7 := Lib.hid (HB6.out.ext hx)
      clear hx hu HX6 HW6 HF2 HU6 HB6
      rw [HRV.out, HD2.out]
      rw [HD2.out] at HU7
      go_upto_region 6 with fail
      generalize hw : World.alloc w7 _ = w8
      have hx : w7.Extends w8 := by subst hw; exact ext_alloc _ _
      have hb8 : RB w8 w7.heap.size ⟨xp, xn, xb, xs, xm, xk, xe, xg, xu, xd⟩ (.slice a7 dl c7) := by subst hw; exact heap_alloc_new _ _
      obtain ⟨g2, hg2⟩ : ∃ g, g = w7.heap.size := ⟨_, rfl⟩
      rw [← hg2] at hb8 ⊢
      have HX8 := Lib.hid (Gr.ext_trans HX7.out hx)
      have HW8 := Lib.hid (Gr.ext_trans HIB.out.x HX8.out)
      have HU8 := Lib.hid (HU7.out.ext hx)
      have HV8 := Lib.hid (HV7.out.ext hx)
      have hb1 := HB7.out.ext hx
      have HSA : Hid (Calls Tryz.prog 12 #[.agg #[.int .i64 xp, .int .i64 xn, .int .i64 xb, .int .i64 xs, .int .i64 xm, .int .i64 xk, .int .i64 xe, .bool xg, .int .i64 xu, .slice a5 dl c5], .agg #[.int .i64 xp, .int .i64 xn, .int .i64 xb, .int .i64 xs, .int .i64 xm, .int .i64 xk, .int .i64 xe, .bool xg, .int .i64 xu, .slice a7 dl c7]] w8 fun e w' => e = .returned (.bool true) ∧ w8.Extends w') := by
        have h := same_rec ⟨xp, xn, xb, xs, xm, xk, xe, xg, xu, xd⟩ a5 a7 c5 c7 w8 (by rw [HD2.out]; exact HV8.out) (by rw [HD2.out]; exact HU8.out)
        rw [HD2.out] at h
        exact h
      obtain ⟨c0, c1, c2, c3, c4, c5', c6, c7', c8, c9⟩ := RCell.ten hb1.range
      obtain ⟨d0, d1, d2, d3, d4, d5, d6, d7, d8, d9⟩ := RCell.ten hb8.range
      simp only [Nat.zero_add] at c0 c1 c2 c3 c4 c5' c6 c7' c8 c9 d0 d1 d2 d3 d4 d5 d6 d7 d8 d9
      have hl1 := hb1.lt
      have hl2 := hb8.lt
      clear hw hx hb1 hb8 hg2 HX7 HU7 HV7 HB7 HU8 HV8 HD2 HRV HIB
      go_wp2_with fail
      refine (HE1.out w8).mono ?_
      rintro e w9 ⟨rfl, rfl⟩
      go_wp2_with fail
      refine (HE2.out w8).mono ?_
      rintro e w9 ⟨rfl, rfl⟩
      have hz : (z == z) = true := beq_self_eq_true z
      go_wp2_with fail
      refine HSA.out.mono ?_
      rintro e w9 ⟨rfl, hx⟩
      have HW9 := Lib.hid (Gr.ext_trans HW8.out hx)
      clear hx c0 c1 c2 c3 c4 c5' c6 c7' c8 c9 d0 d1 d2 d3 d4 d5 d6 d7 d8 d9 hl1 hl2 HSA HE1 HE2 hz
      have HN := Lib.hid (fun w => num24_any er w)
      have he : (er == er) = true := beq_self_eq_true er
      go_wp2_with fail
      refine (HN.out w9).mono ?_
      rintro e w10 ⟨rfl, rfl⟩
      go_wp2
      go_ret
      exact ⟨rfl, HW9.out⟩
theorem MintTells_walk (pe nn p n b s m blk esi un : Int) (v : Value) (l : List Rc) (w : World) (h0 : -9223372036854775808 ≤ pe ∧ pe ≤ 9223372036854775807) (h1 : -9223372036854775808 ≤ nn ∧ nn ≤ 9223372036854775807) (h2 : (Lit.int .i64 p).wf = true ∧ (Lit.int .i64 n).wf = true) (h3 : (Lit.int .i64 b).wf = true ∧ (Lit.int .i64 s).wf = true ∧ (Lit.int .i64 m).wf = true)
    (h4 : -9223372036854775808 ≤ blk ∧ blk ≤ 9223372036854775807) (h5 : -9223372036854775808 ≤ esi ∧ esi ≤ 9223372036854775807) (h6 : -9223372036854775808 ≤ un ∧ un ≤ 9223372036854775807) (hv : Recs w v l) (hT : Tab w) :
    Calls Tryz.prog 3 #[.int .i64 pe, .int .i64 nn, .agg #[.int .i64 p, .int .i64 n], PV b s m, .int .i64 blk, .int .i64 esi, .int .i64 un, v] w fun e w' => e = .returned (.bool true) ∧ Below w.heap.size w w' :=
  (mtells_walk pe nn p n b s m blk esi un v l w hv hT).mono fun _ _ h => ⟨h.1, Gr.below_of h.2⟩
end Go.Proofs.YtpfmmfapdcbnkaaGreatDoor
