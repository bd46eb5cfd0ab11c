/- The reference's log: All, Crash. -/
import Derived.Test.YteogahofcmgddaaLogWhole
namespace Go.Proofs.Yteogahofcmgddaa
set_option maxRecDepth 20000
open Go.RowKit Go.Deep
set_option linter.unusedVariables false
theorem cut15_any (k : Int) (u : Nat) (w : World) (hk : -9223372036854775808 ≤ k ∧ k ≤ 9223372036854775807) (hu : u ≤ 1000000000) :
    Calls Try.prog 19 #[.int .i64 k, .int .i64 0, .int .i64 ((u : Nat) : Int)] w fun e w' => e = .returned (.int .i64 ((min k.toNat u : Nat) : Int)) ∧ w = w' := by
  by_cases h1 : k < 0
  · rw [show min k.toNat u = 0 by omega]
    go_enter Try.func19, Try.ntmps19
    go_wp2
    go_ret
    exact ⟨rfl, rfl⟩
  · obtain ⟨j, rfl⟩ := Int.eq_ofNat_of_zero_le (show 0 ≤ k by omega)
    rw [Int.toNat_natCast]
    by_cases h2 : u < j
    · rw [Nat.min_eq_right (by omega)]
      go_enter Try.func19, Try.ntmps19
      go_wp2
      go_ret
      exact ⟨rfl, rfl⟩
    · rw [Nat.min_eq_left (by omega)]
      go_enter Try.func19, Try.ntmps19
      go_wp2
      go_ret
      exact ⟨rfl, rfl⟩
theorem rall15_any (t s : Nat) (D : Nat → Prop) (l : List (List Nat)) (w : World) (h : RAt w t D (LM.spell l) s) (hf : LM.Fine l) (hz : LM.size l ≤ 1000000000) :
    Calls Try.prog 16 #[.pointer (some ⟨t, 0, none⟩)] w (MadeList w l) := by
  obtain ⟨a, c, h0, h1, f0, f1, ho, hD, hb⟩ := h.cells
  have hu := owns_u8s ho hf.spell_lt
  have hw : Calls Try.prog 20 #[.slice a (LM.spell l).length c] w (WholeOut w l) := by
    have := whole15_any (.slice a (LM.spell l).length c) l (LM.size l) w (by rw [← LM.spell_length, List.take_length]; exact hu) (Nat.le_refl _) hf hz
    rwa [LM.upto_all (Nat.le_refl _)] at this
  have HW := Lib.hid hw
  clear h1 f0 f1 ho hD hb hu hw h
  generalize (LM.spell l).length = n at *
  unfold WholeOut at HW
  generalize LM.size l = z at *
  go_enter Try.func16, Try.ntmps16
  go_wp2_with fail
  refine HW.out.mono ?_
  rintro e w2 ⟨v, rfl, hr, hx⟩
  obtain ⟨va, vc, rfl, _⟩ := hr.slice
  have HP : Hid (MadeList w l (.returned (.slice va l.length vc)) w2) := ⟨_, rfl, hx, hr⟩
  clear hr hx HW
  generalize l.length = q at *
  go_wp2
  go_ret
  exact HP.out
set_option maxHeartbeats 1000000 in
theorem rcrash15_any (t s : Nat) (D : Nat → Prop) (l : List (List Nat)) (keep : Int) (w : World) (h : RAt w t D (LM.spell l) s) (hs : s ≤ LM.size l) (hf : LM.Fine l) (hz : LM.size l ≤ 1000000) (hk : -9223372036854775808 ≤ keep ∧ keep ≤ 9223372036854775807) (hnew : ∀ g, w.heap.size ≤ g → D g) :
    Calls Try.prog 13 #[.pointer (some ⟨t, 0, none⟩), .int .i64 keep] w fun e w' => e = .returned (.tuple #[]) ∧ RAt w' t D (LM.spell (LM.upto (LM.keep s keep (LM.size l)) l)) (LM.size (LM.upto (LM.keep s keep (LM.size l)) l)) ∧ w.grownBy w' (some t) := by
  obtain ⟨a, c, h0, h1, f0, f1, ho, hD, hb⟩ := h.cells
  have hlt := h.lt
  have hu := owns_u8s ho hf.spell_lt
  rw [LM.spell_length] at h0 ho hD hb hu
  obtain ⟨m, hm⟩ : ∃ m, m = LM.keep s keep (LM.size l) := ⟨_, rfl⟩
  have hmz : m ≤ LM.size l := hm ▸ LM.keep_le keep hs
  have hmk : m = s + min keep.toNat (LM.size l - s) := hm
  rw [← hm]
  obtain ⟨n, hn⟩ : ∃ n, n = LM.size (LM.upto m l) := ⟨_, rfl⟩
  rw [← hn]
  have hnm : n ≤ m := hn ▸ LM.upto_size m l
  obtain ⟨z, hzz⟩ : ∃ z, z = LM.size l := ⟨_, rfl⟩
  rw [← hzz] at h0 ho hD hb hu hs hz hmz hmk
  have hzl : z = (LM.spell l).length := by rw [LM.spell_length]; exact hzz
  obtain ⟨a2, c2, hsl, hu2⟩ := cut_to hu m (by omega)
  have HW : Hid (∀ w1, w1 = w.drew.setCell ⟨t, 0, none⟩ (.slice a2 m c2) → Calls Try.prog 20 #[.slice a2 m c2] w1 (WholeOut w1 (LM.upto m l))) := fun w1 e => by
    subst e
    exact whole15_any _ l m _ (hu2.drew.beside hb (rlog_cells _ _ _ _) (grown_set _ _ _ _)) (by omega) hf (by omega)
  -- what lies there behind the first store
  have HB1 : Hid (∀ w1 w2, w1 = w.drew.setCell ⟨t, 0, none⟩ (.slice a2 m c2) → w1.Extends w2 → w2.heap[t]? = some (.cells #[.slice a2 m c2, .int .i64 ((s : Nat) : Int)] 31 (0, 0)) ∧ w.grownBy w2 (some t) ∧ ∃ a3 c3, (∀ w', (Instr.slice 29 (.slice a2 m c2) none (some (.int .i64 (n : Nat))) none).run Try.prog w' = .ok (.slice a3 n c3) w') ∧ U8s w2 (.slice a3 n c3) (LM.spell (LM.upto m l))) := fun w1 w2 e hx => by
    subst e
    have hb' : w.drew.heap[t]? = some (.cells #[.slice a z c, .int .i64 ((s : Nat) : Int)] 31 (0, 0)) := hb
    have hb1 : (w.drew.setCell ⟨t, 0, none⟩ (.slice a2 m c2)).heap[t]? = some (.cells #[.slice a2 m c2, .int .i64 ((s : Nat) : Int)] 31 (0, 0)) := by
      rw [heap_setCell_same _ _ _ _ _ _ hb']; rfl
    have hg1 : w.grownBy (w.drew.setCell ⟨t, 0, none⟩ (.slice a2 m c2)) (some t) := grown_setCell (grown_drew (grown_refl _ _)) _ _
    refine ⟨(hx.block t (by simpa using hlt)).trans hb1, grown_trans hg1 (grown_below (Gr.below_of hx) (Nat.le_refl _)), ?_⟩
    have hu3 : U8s (w.drew.setCell ⟨t, 0, none⟩ (.slice a2 m c2)) (.slice a2 m c2) ((LM.spell l).take m) := hu2.drew.beside hb' (rlog_cells _ _ _ _) (grown_set _ _ _ _)
    have hle : ((LM.spell l).take m).length = m := by rw [List.length_take]; omega
    obtain ⟨a3, c3, h3, h4⟩ := cut_to (hu3.ext hx) n (by omega)
    refine ⟨a3, c3, h3, ?_⟩
    rw [List.take_take, Nat.min_eq_left hnm, hn, LM.spell_upto] at h4
    rw [hn]; exact h4
  have HLS : Hid ((LM.spell (LM.upto m l)).length = n) := by rw [LM.spell_length]; exact hn.symm
  have HFIN : Hid (∀ (w2 w3 w5 : World) (a3 : Option Addr) (c3 : Nat), w2.heap[t]? = some (.cells #[.slice a2 m c2, .int .i64 ((s : Nat) : Int)] 31 (0, 0)) → w.grownBy w2 (some t) → w2.Extends w3 → w3.ownsRow 0 5 1 (.slice a3 n c3) n (u8vs (LM.spell (LM.upto m l))) →
      ((Value.slice a3 n c3).ownBlock = none ∨ ∃ g, (Value.slice a3 n c3).ownBlock = some g ∧ w2.heap.size ≤ g) → w5 = (w3.setCell ⟨t, 0, none⟩ (.slice a3 n c3)).setCell ⟨t, 1, none⟩ (.int .i64 ((n : Nat) : Int)) → RAt w5 t D (LM.spell (LM.upto m l)) n ∧ w.grownBy w5 (some t)) := fun w2 w3 w5 a3 c3 hb2 hg2 hx3 ho3 hn3 e5 => by
    have hl2 : t < w2.heap.size := Nat.lt_of_lt_of_le hlt hg2.size
    have hb3 : w3.heap[t]? = some (.cells #[.slice a2 m c2, .int .i64 ((s : Nat) : Int)] 31 (0, 0)) := (hx3.block t hl2).trans hb2
    have hg5 : w3.grownBy w5 (some t) := by subst e5; exact grown_setCell (grown_set _ _ _ _) _ _
    refine ⟨⟨a3, c3, ?_, ?_, fun g hg => ?_⟩, grown_trans hg2 (grown_trans (grown_below (Gr.below_of hx3) (Nat.le_refl _)) hg5)⟩
    · rw [HLS.out]
      subst e5
      rw [heap_setCell_same _ _ _ _ _ _ (heap_setCell_same _ _ _ _ _ _ hb3)]; rfl
    · rw [HLS.out]
      refine ho3.kept hg5 ?_
      rcases hn3 with e | ⟨g, e, hge⟩
      · exact .inl e
      · refine .inr ?_
        rw [e]; simp; omega
    · rw [HLS.out] at hg
      rcases hn3 with e | ⟨g', e, hge⟩
      · rw [e] at hg; cases hg
      · rw [e] at hg
        have := Option.some.inj hg
        subst this
        exact hnew _ (Nat.le_trans hg2.size hge)
  have HC : Hid (∀ w', w.drew.Extends w' → w'.cell? ⟨t, 0, none⟩ = some (.slice a z c) ∧ w'.cell? ⟨t, 1, none⟩ = some (.int .i64 ((s : Nat) : Int))) := fun w' hw' => ⟨(Gr.of_drew hw').cell_of h0, (Gr.of_drew hw').cell_of h1⟩
  have HSL := Lib.hid hsl
  have HF0 : Hid (w.drew.frozen? ⟨t, 0, none⟩ = false) := f0
  obtain ⟨y, hy⟩ : ∃ y, y = z - s := ⟨_, rfl⟩
  have HCUT := Lib.hid (fun w' => cut15_any keep y w' hk (by omega))
  have hw1 : IntKind.i64.wrap (((z : Nat) : Int) - ((s : Nat) : Int)) = ((y : Nat) : Int) := by rw [IntKind.wrap_i64]; omega
  rw [← hy] at hmk
  generalize min keep.toNat y = ck at *
  obtain ⟨iu, hiu, hi0, hi1, hi2⟩ := info_parts byteinfo
  have HI := Lib.hid hiu
  have HZ0 := Lib.hid hi0
  have HZ1 := Lib.hid hi1
  have HZ2 := Lib.hid hi2
  have hw2 : IntKind.i64.wrap (((s : Nat) : Int) + ((ck : Nat) : Int)) = ((m : Nat) : Int) := by rw [IntKind.wrap_i64]; omega
  have HWO : Hid (∀ w1 e w2, WholeOut w1 (LM.upto m l) e w2 → ∃ a9 n9 c9, e = .returned (.tuple #[.int .i64 ((n : Nat) : Int), .slice a9 n9 c9]) ∧ w1.Extends w2) := fun w1 e w2 ⟨v, h1, h2, h3⟩ => by
    obtain ⟨a9, c9, rfl, _⟩ := h2.slice
    exact ⟨a9, _, c9, by rw [hn]; exact h1, h3⟩
  clear h0 h1 f0 f1 ho hD hb hu hu2 hsl hzl h hnew hmk hy hzz hiu hi0 hi1 hi2 hlt hn hm
  go_enter Try.func13, Try.ntmps13
  go_wp2_with fail
  refine Gr.region 23 [(false,0),(false,1),(false,2),(false,3),(false,4),(false,5),(false,6),(false,7),(false,8),(false,9),(false,10),(false,11),(false,12),(false,13),(false,14),(false,15),(false,16),(false,17),(false,18),(false,19),(true,20),(false,21),(false,22)] (by kernel_rfl) (by kernel_rfl) (fun d _ _ _ _ h => by cases d <;> exact h) ?_
  simp only [Gr.pick, List.getElem?_cons_zero, List.getElem?_cons_succ, List.drop_succ_cons, List.drop_zero]
  generalize w.drew = wd at *
  iterate 20
    refine Gr.walk_t ?_ (Or.inl ⟨by rfl, ?_⟩) ?_
    rotate_left
    · intro w' hw'
      obtain ⟨hc0, hc1⟩ := HC.out w' hw'
      clear hw'
      go_simp
      try with_reducible rfl
    simp only [Act.put, List.setIfInBounds_toArray, List.set_cons_zero, List.set_cons_succ]
  refine Gr.walk_c (fun K hK => ?_)
  go_simp
  refine (HCUT.out wd).mono ?_
  rintro e w2 ⟨rfl, rfl⟩
  try go_simp
  refine hK.out _ _ ((Gr.ext_refl _)) ?_
  clear hK K
  refine Gr.walk_t ?_ (Or.inl ⟨by rfl, ?_⟩) ?_
  rotate_left
  · intro w' hw'
    clear hw'
    go_simp
    try with_reducible rfl
  simp only [Act.put, List.setIfInBounds_toArray, List.set_cons_zero, List.set_cons_succ]
  refine Gr.walk_t ?_ (Or.inl ⟨by rfl, ?_⟩) ?_
  rotate_left
  · intro w' hw'
    have hs0 := HSL.out w'
    clear hw'
    go_simp
    try with_reducible rfl
  simp only [Act.put, List.setIfInBounds_toArray, List.set_cons_zero, List.set_cons_succ]
  refine Gr.walk_nil ?_
  obtain ⟨hc0, hc1⟩ := HC.out wd (Gr.ext_refl _)
  have hf0 := HF0.out
  clear HCUT HSL HC HF0 hw1 hw2
  go_wp2_with fail
  refine (HW.out _ rfl).mono ?_
  rintro e w2 hwo
  obtain ⟨a9, n9, c9, rfl, hx2⟩ := HWO.out _ _ _ hwo
  obtain ⟨hb2, hg2, a3, c3, hs3, hu3⟩ := HB1.out _ w2 rfl hx2
  have hd0 : w2.cell? ⟨t, 0, none⟩ = some (.slice a2 m c2) := by rw [cell_of_row _ _ _ _ _ _ hb2]; rfl
  have HS3 := Lib.hid hs3
  have HU3 : Hid (Src Try.prog 1 29 (.slice a3 n c3) n (u8vs (LM.spell (LM.upto m l))) w2) := by
    have h := hu3.src (P := Try.prog) (tx := 29) Try.underlying29
    rw [HLS.out] at h; exact h
  have HB2 := Lib.hid hb2
  have HG2 := Lib.hid hg2
  clear hwo hx2 hb2 hg2 hs3 hu3 HW HB1 HWO hc0 hc1 hf0
  go_wp2_with (first | refine wpList_slice rfl 29 (.tmp 43) none (some (.tmp 44)) rfl elemBytes _ _ _ rfl rfl rfl (HS3.out _) ?_ | at_builtin; refine wpList_append_own_src3 _ rfl _ _ 29 29 rfl 0 5 iu (.int .u8 0) 1 1 Try.underlying29 HI.out HZ0.out HZ1.out HZ2.out rfl _ _ _ rfl (World.ownsRow_nil _ _ _ _) _ n (u8vs (LM.spell (LM.upto m l))) rfl HU3.out (by unfold maxLen; omega) (by omega) (Nat.zero_le _) (fun _ => True) (clean_any _ _) (fun _ _ => trivial) (fun _ _ => trivial) ?_)
  intro v3 w3 ho3 hg3 hn3 _
  obtain ⟨a4, c4, rfl⟩ := owns_slice ho3
  have hx3 : w2.Extends w3 := grown_none hg3
  have hb3 : w3.heap[t]? = some (.cells #[.slice a2 m c2, .int .i64 ((s : Nat) : Int)] 31 (0, 0)) := (hx3.block t (Array.getElem?_eq_some_iff.1 HB2.out).1).trans HB2.out
  have hk0 : w3.cell? ⟨t, 0, none⟩ = some (.slice a2 m c2) := by rw [cell_of_row _ _ _ _ _ _ hb3]; rfl
  have hk1 : w3.cell? ⟨t, 1, none⟩ = some (.int .i64 ((s : Nat) : Int)) := by rw [cell_of_row _ _ _ _ _ _ hb3]; rfl
  have hz0 := frozen_of_row w3 t 0 _ _ hb3
  have hz1 := frozen_of_row w3 t 1 _ _ hb3
  have HP := Lib.hid (fun w5 => HFIN.out w2 w3 w5 a4 c4 HB2.out HG2.out hx3 ho3 hn3)
  clear ho3 hg3 hn3 hx3 hb3 hd0 HFIN HS3 HU3
  go_wp2
  go_end0
  exact ⟨rfl, HP.out _ rfl⟩
end Go.Proofs.Yteogahofcmgddaa
