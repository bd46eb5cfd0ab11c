/- In one text: LogRefCrash, RefAt, StoExp. -/
import Derived.Laws.IdiomRangeMap
import Derived.Test.YtohonjhfmmhgdaaMC8
import Derived.Test.YtohonjhfmmhgdaaMC13
namespace Go.Proofs.Ytohonjhfmmhgdaa
set_option maxRecDepth 20000
open Go.RowKit Go.Deep
set_option linter.unusedVariables false
theorem cut15_any (k : Int) (u : Nat) (w : World) (hk : -9223372036854775808 ≤ k ∧ k ≤ 9223372036854775807) (hu : u ≤ 1000000000) :
    Calls Try.prog 33 #[.int .i64 k, .int .i64 0, .int .i64 ((u : Nat) : Int)] w fun e w' => e = .returned (.int .i64 ((min k.toNat u : Nat) : Int)) ∧ w = w' := by
  by_cases h1 : k < 0
  · rw [show min k.toNat u = 0 by omega]
    go_enter Try.func33, Try.ntmps33
    go_wp2
    go_ret
    exact ⟨rfl, rfl⟩
  · obtain ⟨j, rfl⟩ := Int.eq_ofNat_of_zero_le (show 0 ≤ k by omega)
    rw [Int.toNat_natCast]
    by_cases h2 : u < j
    · rw [Nat.min_eq_right (by omega)]
      go_enter Try.func33, Try.ntmps33
      go_wp2
      go_ret
      exact ⟨rfl, rfl⟩
    · rw [Nat.min_eq_left (by omega)]
      go_enter Try.func33, Try.ntmps33
      go_wp2
      go_ret
      exact ⟨rfl, rfl⟩
theorem rall15_loc (t s : Nat) {o : Nat} {L : List Value} {T : TypeId} (D : Nat → Prop) (l : List (List Nat)) (w : World) (h : RAt w t o L T D (LM.spell l) s) (hf : LM.Fine l) (hz : LM.size l ≤ 1000000000) :
    Calls Try.prog 45 #[.pointer (some ⟨t, o, none⟩)] w (LLoc w l) := by
  obtain ⟨a, c, h0, h1, f0, f1, ho, hD, hb, hLo, hT8⟩ := h.cells
  have hu := owns_u8s ho hf.spell_lt
  have hw : Calls Try.prog 64 #[.slice a (LM.spell l).length c] w (WholeOut w l) := by
    have := whole15_any (.slice a (LM.spell l).length c) l (LM.size l) w (by rw [← LM.spell_length, List.take_length]; exact hu) (Nat.le_refl _) hf hz
    rwa [LM.upto_all (Nat.le_refl _)] at this
  have HW := Lib.hid hw
  clear h1 f0 f1 ho hD hb hu hw h hLo hT8
  generalize (LM.spell l).length = n at *
  unfold WholeOut at HW
  generalize LM.size l = z at *
  go_enter Try.func45, Try.ntmps45
  go_wp2_with fail
  refine HW.out.mono ?_
  rintro e w2 ⟨v, rfl, hr, hx, hlo⟩
  obtain ⟨va, vc, rfl, _⟩ := hr.old.slice
  have HP : Hid (LLoc w l (.returned (.slice va l.length vc)) w2) := ⟨_, rfl, hx, hr, hlo⟩
  clear hr hx HW hlo
  generalize l.length = q at *
  go_wp2
  go_ret
  exact HP.out
set_option maxHeartbeats 1000000 in
theorem rcrash15_any (t s : Nat) {o : Nat} {L : List Value} {T : TypeId} (hL8 : ∀ y ∈ L, ∀ n, y ≠ .int .u8 n) (D : Nat → Prop) (l : List (List Nat)) (keep : Int) (w : World) (h : RAt w t o L T D (LM.spell l) s) (hs : s ≤ LM.size l) (hf : LM.Fine l) (hz : LM.size l ≤ 1000000) (hk : -9223372036854775808 ≤ keep ∧ keep ≤ 9223372036854775807) (hnew : ∀ g, w.heap.size ≤ g → D g) :
    Calls Try.prog 44 #[.pointer (some ⟨t, o, none⟩), .int .i64 keep] w fun e w' => e = .returned (.tuple #[]) ∧ RAt w' t o L T D (LM.spell (LM.upto (LM.keep s keep (LM.size l)) l)) (LM.size (LM.upto (LM.keep s keep (LM.size l)) l)) ∧ w.grownBy w' (some t) := by
  obtain ⟨a, c, h0, h1, f0, f1, ho, hD, hb, hLo, hT8⟩ := h.cells
  have hlt := h.lt
  have hu := owns_u8s ho hf.spell_lt
  rw [LM.spell_length] at h0 ho hD hb hu
  obtain ⟨m, hm⟩ : ∃ m, m = LM.keep s keep (LM.size l) := ⟨_, rfl⟩
  have hmz : m ≤ LM.size l := hm ▸ LM.keep_le keep hs
  have hmk : m = s + min keep.toNat (LM.size l - s) := hm
  rw [← hm]
  obtain ⟨n, hn⟩ : ∃ n, n = LM.size (LM.upto m l) := ⟨_, rfl⟩
  rw [← hn]
  have hnm : n ≤ m := hn ▸ LM.upto_size m l
  obtain ⟨z, hzz⟩ : ∃ z, z = LM.size l := ⟨_, rfl⟩
  rw [← hzz] at h0 ho hD hb hu hs hz hmz hmk
  have hzl : z = (LM.spell l).length := by rw [LM.spell_length]; exact hzz
  obtain ⟨a2, c2, hsl, hu2⟩ := cut_to hu m (by omega)
  have HW : Hid (∀ w1, w1 = w.drew.setCell ⟨t, o, none⟩ (.slice a2 m c2) → Calls Try.prog 64 #[.slice a2 m c2] w1 (WholeOut w1 (LM.upto m l))) := fun w1 e => by
    subst e
    exact whole15_any _ l m _ (hu2.drew.beside hb (rlog_cells L hL8 _ _ _ _) (grown_set _ _ _ _)) (by omega) hf (by omega)
  -- what lies there behind the first store
  have HB1 : Hid (∀ w1 w2, w1 = w.drew.setCell ⟨t, o, none⟩ (.slice a2 m c2) → w1.Extends w2 → w2.heap[t]? = some (.cells (L ++ [Value.slice a2 m c2, Value.int .i64 ((s : Nat) : Int)]).toArray T (0, 0)) ∧ w.grownBy w2 (some t) ∧ ∃ a3 c3, (∀ w', (Instr.slice 41 (.slice a2 m c2) none (some (.int .i64 (n : Nat))) none).run Try.prog w' = .ok (.slice a3 n c3) w') ∧ U8s w2 (.slice a3 n c3) (LM.spell (LM.upto m l))) := fun w1 w2 e hx => by
    subst e
    have hb' : w.drew.heap[t]? = some (.cells (L ++ [Value.slice a z c, Value.int .i64 ((s : Nat) : Int)]).toArray T (0, 0)) := hb
    have hb1 : (w.drew.setCell ⟨t, o, none⟩ (.slice a2 m c2)).heap[t]? = some (.cells (L ++ [Value.slice a2 m c2, Value.int .i64 ((s : Nat) : Int)]).toArray T (0, 0)) := by
      rw [heap_setCell_same _ _ _ _ _ _ hb', last_set0 _ _ _ _ hLo]
    have hg1 : w.grownBy (w.drew.setCell ⟨t, o, none⟩ (.slice a2 m c2)) (some t) := grown_setCell (grown_drew (grown_refl _ _)) _ _
    refine ⟨(hx.block t (by simpa using hlt)).trans hb1, grown_trans hg1 (grown_below (Gr.below_of hx) (Nat.le_refl _)), ?_⟩
    have hu3 : U8s (w.drew.setCell ⟨t, o, none⟩ (.slice a2 m c2)) (.slice a2 m c2) ((LM.spell l).take m) := hu2.drew.beside hb' (rlog_cells L hL8 _ _ _ _) (grown_set _ _ _ _)
    have hle : ((LM.spell l).take m).length = m := by rw [List.length_take]; omega
    obtain ⟨a3, c3, h3, h4⟩ := cut_to (hu3.ext hx) n (by omega)
    refine ⟨a3, c3, h3, ?_⟩
    rw [List.take_take, Nat.min_eq_left hnm, hn, LM.spell_upto] at h4
    rw [hn]; exact h4
  have HLL : Hid (L.length = o) := hLo
  have HLS : Hid ((LM.spell (LM.upto m l)).length = n) := by rw [LM.spell_length]; exact hn.symm
  have HFIN : Hid (∀ (w2 w3 w5 : World) (a3 : Option Addr) (c3 : Nat), w2.heap[t]? = some (.cells (L ++ [Value.slice a2 m c2, Value.int .i64 ((s : Nat) : Int)]).toArray T (0, 0)) → w.grownBy w2 (some t) → w2.Extends w3 → w3.ownsRow 0 5 1 (.slice a3 n c3) n (u8vs (LM.spell (LM.upto m l))) →
      ((Value.slice a3 n c3).ownBlock = none ∨ ∃ g, (Value.slice a3 n c3).ownBlock = some g ∧ w2.heap.size ≤ g) → w5 = (w3.setCell ⟨t, o, none⟩ (.slice a3 n c3)).setCell ⟨t, o + 1, none⟩ (.int .i64 ((n : Nat) : Int)) → RAt w5 t o L T D (LM.spell (LM.upto m l)) n ∧ w.grownBy w5 (some t)) := fun w2 w3 w5 a3 c3 hb2 hg2 hx3 ho3 hn3 e5 => by
    have hl2 : t < w2.heap.size := Nat.lt_of_lt_of_le hlt hg2.size
    have hb3 : w3.heap[t]? = some (.cells (L ++ [Value.slice a2 m c2, Value.int .i64 ((s : Nat) : Int)]).toArray T (0, 0)) := (hx3.block t hl2).trans hb2
    have hg5 : w3.grownBy w5 (some t) := by subst e5; exact grown_setCell (grown_set _ _ _ _) _ _
    refine ⟨⟨a3, c3, ?_, hLo, hT8, ?_, fun g hg => ?_⟩, grown_trans hg2 (grown_trans (grown_below (Gr.below_of hx3) (Nat.le_refl _)) hg5)⟩
    · rw [HLS.out]
      subst e5
      rw [heap_setCell_same _ _ _ _ _ _ (heap_setCell_same _ _ _ _ _ _ hb3), last_set0 _ _ _ _ hLo, last_set1 _ _ _ _ hLo]
    · rw [HLS.out]
      refine ho3.kept hg5 ?_
      rcases hn3 with e | ⟨g, e, hge⟩
      · exact .inl e
      · refine .inr ?_
        rw [e]; simp; omega
    · rw [HLS.out] at hg
      rcases hn3 with e | ⟨g', e, hge⟩
      · rw [e] at hg; cases hg
      · rw [e] at hg
        have := Option.some.inj hg
        subst this
        exact hnew _ (Nat.le_trans hg2.size hge)
  have HC : Hid (∀ w', w.drew.Extends w' → w'.cell? ⟨t, o, none⟩ = some (.slice a z c) ∧ w'.cell? ⟨t, o + 1, none⟩ = some (.int .i64 ((s : Nat) : Int))) := fun w' hw' => ⟨(Gr.of_drew hw').cell_of h0, (Gr.of_drew hw').cell_of h1⟩
  have HSL := Lib.hid hsl
  have HF0 : Hid (w.drew.frozen? ⟨t, o, none⟩ = false) := f0
  obtain ⟨y, hy⟩ : ∃ y, y = z - s := ⟨_, rfl⟩
  have HCUT := Lib.hid (fun w' => cut15_any keep y w' hk (by omega))
  have hw1 : IntKind.i64.wrap (((z : Nat) : Int) - ((s : Nat) : Int)) = ((y : Nat) : Int) := by rw [IntKind.wrap_i64]; omega
  rw [← hy] at hmk
  generalize min keep.toNat y = ck at *
  obtain ⟨iu, hiu, hi0, hi1, hi2⟩ := info_parts byteinfo
  have HI := Lib.hid hiu
  have HZ0 := Lib.hid hi0
  have HZ1 := Lib.hid hi1
  have HZ2 := Lib.hid hi2
  have hw2 : IntKind.i64.wrap (((s : Nat) : Int) + ((ck : Nat) : Int)) = ((m : Nat) : Int) := by rw [IntKind.wrap_i64]; omega
  have HWO : Hid (∀ w1 e w2, WholeOut w1 (LM.upto m l) e w2 → ∃ a9 n9 c9, e = .returned (.tuple #[.int .i64 ((n : Nat) : Int), .slice a9 n9 c9]) ∧ w1.Extends w2) := fun w1 e w2 ⟨v, h1, h2, h3, _⟩ => by
    obtain ⟨a9, c9, rfl, _⟩ := h2.old.slice
    exact ⟨a9, _, c9, by rw [hn]; exact h1, h3⟩
  clear h0 h1 f0 f1 ho hD hb hu hu2 hsl hzl h hnew hmk hy hzz hiu hi0 hi1 hi2 hlt hn hm hLo hT8 hL8
  go_enter Try.func44, Try.ntmps44
  go_wp2_with fail
  refine Gr.region 23 [(false,0),(false,1),(false,2),(false,3),(false,4),(false,5),(false,6),(false,7),(false,8),(false,9),(false,10),(false,11),(false,12),(false,13),(false,14),(false,15),(false,16),(false,17),(false,18),(false,19),(true,20),(false,21),(false,22)] (by kernel_rfl) (by kernel_rfl) (fun d _ _ _ _ h => by cases d <;> exact h) ?_
  simp only [Gr.pick, List.getElem?_cons_zero, List.getElem?_cons_succ, List.drop_succ_cons, List.drop_zero]
  generalize w.drew = wd at *
  iterate 20
    refine Gr.walk_t ?_ (Or.inl ⟨by rfl, ?_⟩) ?_
    rotate_left
    · intro w' hw'
      obtain ⟨hc0, hc1⟩ := HC.out w' hw'
      clear hw'
      go_simp
      try with_reducible rfl
    simp only [Act.put, List.setIfInBounds_toArray, List.set_cons_zero, List.set_cons_succ]
  refine Gr.walk_c (fun K hK => ?_)
  go_simp
  refine (HCUT.out wd).mono ?_
  rintro e w2 ⟨rfl, rfl⟩
  try go_simp
  refine hK.out _ _ ((Gr.ext_refl _)) ?_
  clear hK K
  refine Gr.walk_t ?_ (Or.inl ⟨by rfl, ?_⟩) ?_
  rotate_left
  · intro w' hw'
    clear hw'
    go_simp
    try with_reducible rfl
  simp only [Act.put, List.setIfInBounds_toArray, List.set_cons_zero, List.set_cons_succ]
  refine Gr.walk_t ?_ (Or.inl ⟨by rfl, ?_⟩) ?_
  rotate_left
  · intro w' hw'
    have hs0 := HSL.out w'
    clear hw'
    go_simp
    try with_reducible rfl
  simp only [Act.put, List.setIfInBounds_toArray, List.set_cons_zero, List.set_cons_succ]
  refine Gr.walk_nil ?_
  obtain ⟨hc0, hc1⟩ := HC.out wd (Gr.ext_refl _)
  have hf0 := HF0.out
  clear HCUT HSL HC HF0 hw1 hw2
  go_wp2_with fail
  refine (HW.out _ rfl).mono ?_
  rintro e w2 hwo
  obtain ⟨a9, n9, c9, rfl, hx2⟩ := HWO.out _ _ _ hwo
  obtain ⟨hb2, hg2, a3, c3, hs3, hu3⟩ := HB1.out _ w2 rfl hx2
  have hd0 : w2.cell? ⟨t, o, none⟩ = some (.slice a2 m c2) := by rw [cell_of_row _ _ _ _ _ _ hb2]; exact (two_last _ _ _ HLL.out).1
  have HS3 := Lib.hid hs3
  have HU3 : Hid (Src Try.prog 1 41 (.slice a3 n c3) n (u8vs (LM.spell (LM.upto m l))) w2) := by
    have h := hu3.src (P := Try.prog) (tx := 41) Try.underlying41
    rw [HLS.out] at h; exact h
  have HB2 := Lib.hid hb2
  have HG2 := Lib.hid hg2
  clear hwo hx2 hb2 hg2 hs3 hu3 HW HB1 HWO hc0 hc1 hf0
  go_wp2_with (first | refine wpList_slice rfl 41 (.tmp 43) none (some (.tmp 44)) rfl elemBytes _ _ _ rfl rfl rfl (HS3.out _) ?_ | at_builtin; refine wpList_append_own_src3 _ rfl _ _ 41 41 rfl 0 5 iu (.int .u8 0) 1 1 Try.underlying41 HI.out HZ0.out HZ1.out HZ2.out rfl _ _ _ rfl (World.ownsRow_nil _ _ _ _) _ n (u8vs (LM.spell (LM.upto m l))) rfl HU3.out (by unfold maxLen; omega) (by omega) (Nat.zero_le _) (fun _ => True) (clean_any _ _) (fun _ _ => trivial) (fun _ _ => trivial) ?_)
  intro v3 w3 ho3 hg3 hn3 _
  obtain ⟨a4, c4, rfl⟩ := owns_slice ho3
  have hx3 : w2.Extends w3 := grown_none hg3
  have hb3 : w3.heap[t]? = some (.cells (L ++ [Value.slice a2 m c2, Value.int .i64 ((s : Nat) : Int)]).toArray T (0, 0)) := (hx3.block t (Array.getElem?_eq_some_iff.1 HB2.out).1).trans HB2.out
  have hk0 : w3.cell? ⟨t, o, none⟩ = some (.slice a2 m c2) := by rw [cell_of_row _ _ _ _ _ _ hb3]; exact (two_last _ _ _ HLL.out).1
  have hk1 : w3.cell? ⟨t, o + 1, none⟩ = some (.int .i64 ((s : Nat) : Int)) := by rw [cell_of_row _ _ _ _ _ _ hb3]; exact (two_last _ _ _ HLL.out).2
  have hz0 := frozen_of_row w3 t o _ _ hb3
  have hz1 := frozen_of_row w3 t (o + 1) _ _ hb3
  have HP := Lib.hid (fun w5 => HFIN.out w2 w3 w5 a4 c4 HB2.out HG2.out hx3 ho3 hn3)
  clear ho3 hg3 hn3 hx3 hb3 hd0 HFIN HS3 HU3
  go_wp2
  go_end0
  exact ⟨rfl, HP.out _ rfl⟩
end Go.Proofs.Ytohonjhfmmhgdaa
namespace Go.Proofs.Ytohonjhfmmhgdaa
set_option maxRecDepth 20000
open Go.RowKit Go.Deep Go.Maps
set_option linter.unusedVariables false
theorem RAt.least {w : World} {t o s : Nat} {L : List Value} {T : TypeId} {D : Nat → Prop} {bs : List Nat} (h : RAt w t o L T D bs s) : ∃ DB : Nat → Prop, RAt w t o L T DB bs s ∧ ∀ g, DB g → D g ∧ ∃ cs, w.heap[g]? = some (.cells cs 5 (0, 0)) := by
  obtain ⟨a, c, h1, h2, h3, h4, h5⟩ := h
  exact ⟨fun g => (Value.slice a bs.length c).ownBlock = some g, ⟨a, c, h1, h2, h3, h4, fun g hg => hg⟩, fun g hg => ⟨h5 g hg, owns_at h4 hg⟩⟩
/-- A store of the reference lies at block t, in blocks of D; DB: the block of its log's bytes; v1, v2: its symbols' and its tombstones' slices; ps, qs: these and their data. -/
structure RSX (w : World) (t : Nat) (D DB : Nat → Prop) (st : Sto) (v1 v2 : Value) (ps qs : List Pr) : Prop where
  log : RAt w t 3 [.int .i64 ((st.m : Nat) : Int), v1, v2] 54 DB (LM.spell st.lg) st.s
  here : D t
  own1 : OwnR w v1 ps
  own2 : OwnR w v2 qs
  recs1 : recs ps = st.l
  recs2 : recs qs = st.t
  in1 : ∀ g, v1.ownBlock = some g → D g
  in2 : ∀ g, v2.ownBlock = some g → D g
  inB : ∀ g, DB g → D g ∧ ∃ cs, w.heap[g]? = some (.cells cs 5 (0, 0))
  apart : ∀ g, v1.ownBlock = some g → v2.ownBlock ≠ some g
  data : Reads w D ps
  dataB : ∀ p ∈ ps, p.1.d = [] ∨ ∀ g, p.2.ownBlock = some g → ¬ DB g
def RSt (w : World) (t : Nat) (D : Nat → Prop) (st : Sto) : Prop := ∃ DB v1 v2 ps qs, RSX w t D DB st v1 v2 ps qs
theorem OwnR.at_ {w : World} {v : Value} {ps : List Pr} (h : OwnR w v ps) : ∀ k, k < ps.length → ∃ g, (∃ cap, v = .slice (some ⟨g, 0, none⟩) ps.length cap) ∧ w.rangeAt g (k * 10) ((ps.getD k zp).1.cells (ps.getD k zp).2) := fun k hk => by
  rcases h.kinds with ⟨rfl, rfl⟩ | ⟨g, cap, rfl⟩
  · simp at hk
  · exact ⟨g, ⟨cap, rfl⟩, h.arr.1.range hk⟩
theorem OwnR.block {w : World} {v : Value} {ps : List Pr} (h : OwnR w v ps) : ∀ g, v.ownBlock = some g → ∃ cs, w.heap[g]? = some (.cells cs 43 (0, 0)) := fun g hg => by
  rcases h.1.2 with ⟨rfl, _⟩ | ⟨g', cap, cur, rfl, _, hh, _⟩
  · cases hg
  · simp only [Value.ownBlock, Option.some.injEq] at hg
    subst hg
    exact ⟨cur, hh⟩
theorem OwnR.same {w w' : World} {v : Value} {ps : List Pr} (h : OwnR w v ps) (hb : ∀ g cs, v.ownBlock = some g → w.heap[g]? = some (.cells cs 43 (0, 0)) → w'.heap[g]? = w.heap[g]?) : OwnR w' v ps := by
  refine ⟨⟨h.1.1, ?_⟩, h.2⟩
  rcases h.1.2 with h4 | ⟨g, cap, cur, rfl, h1, hh, hrest⟩
  · exact .inl h4
  · exact .inr ⟨g, cap, cur, rfl, h1, (hb g cur rfl hh).trans hh, hrest⟩
section
variable {w w' : World} {t : Nat} {D D' DB : Nat → Prop} {st : Sto} {v1 v2 : Value} {ps qs : List Pr}
theorem RSX.lt (h : RSX w t D DB st v1 v2 ps qs) : t < w.heap.size := h.log.lt
theorem RSX.len1 (h : RSX w t D DB st v1 v2 ps qs) : ps.length = st.l.length := by rw [← h.recs1, recs_length]
theorem RSX.len2 (h : RSX w t D DB st v1 v2 ps qs) : qs.length = st.t.length := by rw [← h.recs2, recs_length]
theorem RSX.mono (h : RSX w t D DB st v1 v2 ps qs) (hD : ∀ i, D i → D' i) : RSX w t D' DB st v1 v2 ps qs :=
  ⟨h.log, hD _ h.here, h.own1, h.own2, h.recs1, h.recs2, fun g hg => hD g (h.in1 g hg), fun g hg => hD g (h.in2 g hg), fun g hg => ⟨hD g (h.inB g hg).1, (h.inB g hg).2⟩, h.apart, h.data.mono hD, h.dataB⟩
theorem RSt.mono (h : RSt w t D st) (hD : ∀ i, D i → D' i) : RSt w t D' st := by
  obtain ⟨DB, v1, v2, ps, qs, h⟩ := h
  exact ⟨DB, v1, v2, ps, qs, h.mono hD⟩
/-- It stays where none of its blocks is written. -/
theorem RSX.away (h : RSX w t D DB st v1 v2 ps qs) (hs : w.heap.size ≤ w'.heap.size) (hb : ∀ g, D g → g < w.heap.size → w'.heap[g]? = w.heap[g]?) : RSX w' t D DB st v1 v2 ps qs := by
  have hlt : ∀ g cs (T : TypeId) f, w.heap[g]? = some (.cells cs T f) → g < w.heap.size := fun g cs T f hg => (Array.getElem?_eq_some_iff.1 hg).1
  refine ⟨h.log.keep (hb t h.here h.lt) (fun g cs hg hc => hb g (h.inB g hg).1 (hlt g _ _ _ hc)), h.here, h.own1.same (fun g cs hg hc => hb g (h.in1 g hg) (hlt g _ _ _ hc)), h.own2.same (fun g cs hg hc => hb g (h.in2 g hg) (hlt g _ _ _ hc)), h.recs1, h.recs2, h.in1, h.in2, fun g hg => ?_, h.apart, fun p hp' => (h.data p hp').same hs fun g cs f hg hc => hb g hg (hlt g _ _ _ hc), h.dataB⟩
  obtain ⟨h1, cs, h2⟩ := h.inB g hg
  exact ⟨h1, cs, (hb g h1 (hlt g _ _ _ h2)).trans h2⟩
theorem RSt.away (h : RSt w t D st) (hs : w.heap.size ≤ w'.heap.size) (hb : ∀ g, D g → g < w.heap.size → w'.heap[g]? = w.heap[g]?) : RSt w' t D st := by
  obtain ⟨DB, v1, v2, ps, qs, h⟩ := h
  exact ⟨DB, v1, v2, ps, qs, h.away hs hb⟩
theorem RSX.ext (h : RSX w t D DB st v1 v2 ps qs) (hx : w.Extends w') : RSX w' t D DB st v1 v2 ps qs := h.away hx.size fun g _ hg => hx.block g hg
theorem RSt.ext (h : RSt w t D st) (hx : w.Extends w') : RSt w' t D st := by
  obtain ⟨DB, v1, v2, ps, qs, h⟩ := h
  exact ⟨DB, v1, v2, ps, qs, h.ext hx⟩
theorem RSX.cells (h : RSX w t D DB st v1 v2 ps qs) : ∃ a c, w.heap[t]? = some (.cells #[.int .i64 ((st.m : Nat) : Int), v1, v2, .slice a (LM.spell st.lg).length c, .int .i64 ((st.s : Nat) : Int)] 54 (0, 0)) ∧ w.cell? ⟨t, 0, none⟩ = some (.int .i64 ((st.m : Nat) : Int)) ∧ w.cell? ⟨t, 1, none⟩ = some v1 ∧ w.cell? ⟨t, 2, none⟩ = some v2 ∧ w.cell? ⟨t, 3, none⟩ = some (.slice a (LM.spell st.lg).length c) ∧ w.frozen? ⟨t, 1, none⟩ = false ∧ w.frozen? ⟨t, 2, none⟩ = false := by
  obtain ⟨a, c, h1, _⟩ := h.log
  exact ⟨a, c, h1, by rw [cell_of_row _ _ _ _ _ _ h1]; rfl, by rw [cell_of_row _ _ _ _ _ _ h1]; rfl, by rw [cell_of_row _ _ _ _ _ _ h1]; rfl, by rw [cell_of_row _ _ _ _ _ _ h1]; rfl, frozen_of_row _ _ _ _ _ h1, frozen_of_row _ _ _ _ _ h1⟩
/-- Another slice of symbols, or of tombstones. -/
theorem RAt.front {w w' : World} {t s i : Nat} {a b c x : Value} {T : TypeId} {DB : Nat → Prop} {bs : List Nat} (h : RAt w t 3 [a, b, c] T DB bs s) (hi : i < 3) (hw : w' = w.setCell ⟨t, i, none⟩ x) : RAt w' t 3 ([a, b, c].set i x) T DB bs s ∧ w.grownBy w' (some t) := by
  obtain ⟨sa, sc, h1, h2, h3, h4, h5⟩ := h
  have hg : w.grownBy w' (some t) := by subst hw; exact grown_set _ _ _ _
  refine ⟨⟨sa, sc, ?_, by simp, h3, h4.kept hg ?_, h5⟩, hg⟩
  · subst hw
    rw [heap_setCell_same _ _ _ _ _ _ h1]
    obtain rfl | rfl | rfl : i = 0 ∨ i = 1 ∨ i = 2 := by omega
    all_goals rfl
  · cases hv : (Value.slice sa bs.length sc).ownBlock with
    | none => exact .inl rfl
    | some g =>
      refine .inr fun e => ?_
      obtain ⟨cs, hc⟩ := owns_at h4 hv
      have e' := Option.some.inj e
      subst e'
      rw [h1] at hc
      simp only [Option.some.injEq, Obj.cells.injEq] at hc
      exact absurd hc.2.1 h3
end
theorem cut1000_any (k : Int) (w : World) (hk : -9223372036854775808 ≤ k ∧ k ≤ 9223372036854775807) :
    Calls Try.prog 33 #[.int .i64 k, .int .i64 0, .int .i64 1000] w fun e w' => e = .returned (.int .i64 ((SM.cut k : Nat) : Int)) ∧ w = w' := by
  refine (cut15_any k 1000 w hk (by omega)).mono ?_
  rintro e w' ⟨rfl, rfl⟩
  refine ⟨?_, rfl⟩
  have : min k.toNat 1000 = SM.cut k := by unfold SM.cut; split <;> (try split) <;> omega
  rw [this]
theorem rnew16_any (x : Int) (w : World) (hx : -9223372036854775808 ≤ x ∧ x ≤ 9223372036854775807) :
    Calls Try.prog 9 #[.int .i64 x] w fun e w' => ∃ t, e = .returned (.pointer (some ⟨t, 0, none⟩)) ∧ w.Extends w' ∧ RSt w' t (fun i => w.heap.size ≤ i ∧ i < w'.heap.size) (SM.new x) := by
  have HC : Hid (∀ w', Calls Try.prog 33 #[.int .i64 x, .int .i64 0, .int .i64 1000] w' fun e w2 => e = .returned (.int .i64 ((SM.cut x : Nat) : Int)) ∧ w' = w2) := fun w' => cut1000_any x w' hx
  have HP : Hid (∀ w', w' = w.alloc (.cells #[.int .i64 ((SM.cut x : Nat) : Int), .slice none 0 0, .slice none 0 0, .slice none 0 0, .int .i64 0] 54) → w.Extends w' ∧ RSt w' w.heap.size (fun i => w.heap.size ≤ i ∧ i < w'.heap.size) (SM.new x)) := fun w' e => by
    subst e
    exact ⟨ext_alloc _ _, fun _ => False, .slice none 0 0, .slice none 0 0, [], [], ⟨⟨none, 0, heap_alloc_new _ _, rfl, by decide, World.ownsRow_nil _ _ _ _, fun g hg => (nomatch hg)⟩, by simp, OwnR.nil _, OwnR.nil _, rfl, rfl, fun g hg => (nomatch hg), fun g hg => (nomatch hg), fun g hg => hg.elim, fun g hg => (nomatch hg), fun p hp => (nomatch hp), fun p hp => (nomatch hp)⟩⟩
  generalize SM.cut x = q at *
  go_enter Try.func9, Try.ntmps9
  go_wp2_with fail
  refine (HC.out w).mono ?_
  rintro e w2 ⟨rfl, rfl⟩
  go_wp2
  go_ret
  exact ⟨_, rfl, HP.out _ rfl⟩
end Go.Proofs.Ytohonjhfmmhgdaa
namespace Go.Proofs.Ytohonjhfmmhgdaa
set_option maxRecDepth 20000
open Go.RowKit Go.Deep Go.Maps
set_option linter.unusedVariables false
/-- Is a record forgotten at this time? -/
def isOld (now : Int) (x : Rc) : Bool := decide (x.u < now)
namespace SM
def expire (st : Sto) (now : Int) : Sto := { st with l := st.l.filter (fun x => !isOld now x), t := st.t.filter (fun x => !isOld now x) }
end SM
/-- The tombstones that stay, and those that are still to be looked at. -/
def leftT (now : Int) (left : Lit → Bool) (t : List Rc) : List Rc := t.filter (fun x => !isOld now x || left (idLit x))
theorem leftT_all {now : Int} {left : Lit → Bool} {t : List Rc} (h : ∀ x ∈ t, left (idLit x) = true) : leftT now left t = t := by
  refine List.filter_eq_self.2 fun x hx => ?_
  rw [h x hx]; simp
theorem leftT_none {now : Int} {left : Lit → Bool} {t : List Rc} (h : ∀ k, left k = false) : leftT now left t = t.filter (fun x => !isOld now x) := by
  unfold leftT
  congr 1
  funext x
  rw [h]; simp
/-- An entry that stays. -/
theorem leftT_keep {now c : Int} {left : Lit → Bool} {t : List Rc} {kl : Lit} (hc : ¬ c < now) (hu : ∀ x ∈ t, idLit x = kl → x.u = c) : leftT now (fun z => left z && !z.sameKey kl) t = leftT now left t := by
  unfold leftT
  refine List.filter_congr fun x hx => ?_
  by_cases e : idLit x = kl
  · have ho : isOld now x = false := by unfold isOld; rw [hu x hx e]; simpa using hc
    rw [ho]; simp
  · show (!isOld now x || (left (idLit x) && !(idLit x).sameKey kl)) = (!isOld now x || left (idLit x))
    rw [sameKey_ne e]; simp
/-- An entry that goes. -/
theorem leftT_drop {now c : Int} {left : Lit → Bool} {t : List Rc} {kl : Lit} (hc : c < now) (hu : ∀ x ∈ t, idLit x = kl → x.u = c) : leftT now (fun z => left z && !z.sameKey kl) t = (leftT now left t).filter (fun r => !(idLit r).sameKey kl) := by
  unfold leftT
  rw [List.filter_filter]
  refine List.filter_congr fun x hx => ?_
  by_cases e : idLit x = kl
  · have ho : isOld now x = true := by unfold isOld; rw [hu x hx e]; simpa using hc
    have hs : (idLit x).sameKey kl = true := by rw [← e]; exact same_self x
    show (!isOld now x || (left (idLit x) && !(idLit x).sameKey kl)) = ((!(idLit x).sameKey kl) && (!isOld now x || left (idLit x)))
    rw [ho, hs]; cases left (idLit x) <;> rfl
  · show (!isOld now x || (left (idLit x) && !(idLit x).sameKey kl)) = ((!(idLit x).sameKey kl) && (!isOld now x || left (idLit x)))
    rw [sameKey_ne e]; simp
theorem ranges_left {w : World} {b r n : Nat} {E : DataW Unit} {left : Lit → Bool} {cnt : Nat} (h : w.ranges Try.prog 38 (plainElem Try.prog 3) b r n E left cnt) {kl : Lit} (hi : WideAt.IsKeyLit kl) (hk : left kl = true) : Maps.has E kl = true := by
  obtain ⟨es, clock, since, seen, c0, _, _, _, hE, _, _, _, _, h9, _⟩ := h
  obtain ⟨x, hx, e⟩ := h9 kl hk
  rw [hE, has_eq, List.any_eq_true]
  have hm : (WideElems.rg Try.prog 38 (plainElem (H := Unit) Try.prog 3) x) ∈ (es.toList.map (WideElems.rg Try.prog 38 (plainElem (H := Unit) Try.prog 3))).foldr DataW.insert [] := mem_sorted.2 (List.mem_map.2 ⟨x, hx, rfl⟩)
  refine ⟨_, hm, ?_⟩
  rw [e]
  exact WideAt.sameKey_self hi
/-- What the range's step meets: a tombstone of these, or several of one Until (there is one alone). -/
theorem Ties.meet {now c : Int} {left : Lit → Bool} {E : DataW Unit} {t : List Rc} (h : Ties E (leftT now left t)) {kl : Lit} (hl : left kl = true) (hk : Maps.has E kl = true) (hat : ∀ zd, E.atKey kl zd = .lit (.int .i64 c)) : (∃ x ∈ leftT now left t, idLit x = kl) ∧ ∀ x ∈ t, idLit x = kl → x.u = c := by
  refine ⟨?_, fun x hx e => ?_⟩
  · rw [h.has, List.any_eq_true] at hk
    obtain ⟨x, hx, hs⟩ := hk
    refine ⟨x, hx, ?_⟩
    by_cases e : idLit x = kl
    · exact e
    · rw [sameKey_ne e] at hs; cases hs
  · have hm : x ∈ leftT now left t := List.mem_filter.2 ⟨hx, by rw [e, hl]; simp⟩
    have h1 := h.at_ x hm (.map [])
    rw [e, hat] at h1
    simpa using h1.symm
theorem id_inv {key : Value} {kl : Lit} (h : keyOf Try.prog 38 key = some kl) : ∃ x : Int × Int, key = .agg #[.int .i64 x.1, .int .i64 x.2] := by
  have hu : ∃ f g : Field, Try.prog.underlying 38 = some (.struct #[f, g]) ∧ f.offset = 0 ∧ g.offset = 1 ∧ f.type = 3 ∧ g.type = 3 := ⟨_, _, Try.underlying38, rfl, rfl, rfl, rfl⟩
  obtain ⟨f, g, hu, hf0, hg0, hft, hgt⟩ := hu
  have hC : Try.prog.cellsOf 38 = 2 := by kernel_rfl
  have hCi : Try.prog.cellsOf 3 = 1 := by kernel_rfl
  have hts : ∃ m, Try.prog.types.size = m + 1 := by
    have h : 38 < Try.prog.types.size := of_decide_eq_true (by kernel_rfl)
    exact ⟨Try.prog.types.size - 1, by omega⟩
  obtain ⟨m, hts⟩ := hts
  have hki : ∀ v l, Try.prog.keyLits (m + 1) 3 [v] = some l → ∃ x, v = .int .i64 x := fun v l hh => by
    unfold Program.keyLits at hh
    simp only [Try.underlying3] at hh
    split at hh <;> simp_all
  unfold keyOf at h
  simp only [hu] at h
  split at h
  · rename_i hc
    rw [Bool.and_eq_true] at hc
    have hf := hc.2
    unfold Value.formed at hf
    cases key <;> simp [hu, hC] at hf
    rename_i cs
    rw [hts] at h
    have hcs : ∃ a b, cs.toList = [a, b] := by
      have hl : cs.toList.length = 2 := by simpa using hf
      match cs.toList, hl with
      | [a, b], _ => exact ⟨a, b, rfl⟩
    obtain ⟨a, b, hcs⟩ := hcs
    have e2 : (Value.agg cs).cells.toList = [a, b] := hcs
    rw [e2] at h
    unfold Program.keyLits at h
    simp only [hu] at h
    split at h
    · simp [hf0, hg0, hft, hgt, hCi] at h
      cases ha : Try.prog.keyLits (m + 1) 3 [a] with
      | none => rw [ha] at h; simp at h
      | some la =>
        cases hb : Try.prog.keyLits (m + 1) 3 [b] with
        | none => rw [ha, hb] at h; simp at h
        | some lb =>
          obtain ⟨x, rfl⟩ := hki a la ha
          obtain ⟨y, rfl⟩ := hki b lb hb
          refine ⟨(x, y), ?_⟩
          have : cs = #[.int .i64 x, .int .i64 y] := Array.toList_inj.1 hcs
          rw [this]
    · simp at h
  · simp at h
theorem enters_exp : Enters 40 := enters_of Try.func40 (by kernel_rfl) (by kernel_rfl)
theorem tells_exp (y : Nat) (now : Int) (w : World) (h : w.cell? ⟨y, 0, none⟩ = some (.int .i64 now)) : Tells 40 y (isOld now) w := fun p w' hs hb => by
  have h0 : w'.cell? ⟨y, 0, none⟩ = some (.int .i64 now) := by rw [World.cell?_of_block (w := w) (w' := w') (a := ⟨y, 0, none⟩) hb]; exact h
  have HQ : Hid (isOld now p.1 = decide (p.1.u < now)) := rfl
  obtain ⟨⟨xp, xn, xb, xs, xm, xk, xe, xg, xu, xd⟩, v⟩ := p
  obtain ⟨ua, uc, hu⟩ := hs
  simp only at hu
  subst hu
  generalize isOld now (⟨xp, xn, xb, xs, xm, xk, xe, xg, xu, xd⟩, Value.slice ua xd.length uc).1 = b at *
  clear hb h
  show Calls Try.prog 40 #[.agg #[.int .i64 xp, .int .i64 xn, .int .i64 xb, .int .i64 xs, .int .i64 xm, .int .i64 xk, .int .i64 xe, .bool xg, .int .i64 xu, .slice ua xd.length uc], _] w' _
  go_enter Try.func40, Try.ntmps40
  go_upto_region 1 with fail
  generalize hw1 : World.alloc w' _ = w1
  have hx1 : w'.Extends w1 := by subst hw1; exact ext_alloc _ _
  have hb1 : w1.rangeAt w'.heap.size 0 (Rc.cells ⟨xp, xn, xb, xs, xm, xk, xe, xg, xu, xd⟩ (.slice ua xd.length uc)) := by subst hw1; exact box_rec w' 43 ⟨xp, xn, xb, xs, xm, xk, xe, xg, xu, xd⟩ _
  have d8 : w1.cell? ⟨w'.heap.size, 8, none⟩ = some (.int .i64 xu) := by simpa using hb1 8 _ rfl
  have e0 := hx1.cell_of h0
  have HX := Lib.hid hx1
  clear hw1 hx1 hb1 h0
  generalize w'.heap.size = z at *
  have HQ2 := HQ.out
  simp only at HQ2
  clear HQ
  by_cases h1 : xu < now
  · rw [decide_eq_true h1] at HQ2
    go_wp2
    go_ret
    first | exact ⟨rfl, HX.out⟩ | exact ⟨by rw [HQ2]; rfl, HX.out⟩
  · rw [decide_eq_false h1] at HQ2
    go_wp2
    go_ret
    first | exact ⟨rfl, HX.out⟩ | exact ⟨by rw [HQ2]; rfl, HX.out⟩
set_option maxHeartbeats 2000000 in
theorem expire_map (t : Nat) (D : Nat → Prop) (st : Sto) (now : Int) (w : World) (v : Value) (b : Nat) (ps : List Pr) (h : SAtX w t D st v (some b) ps) (hl : st.l.length ≤ 1000) (htl : st.t.length ≤ 1000000) :
    Calls Try.prog 15 #[.pointer (some ⟨t, 0, none⟩), .int .i64 now] w fun e w' => e = .returned (.int .i64 ((st.l.length : Nat) + (st.t.length : Nat) - ((SM.expire st now).l.length : Nat) - ((SM.expire st now).t.length : Nat))) ∧ Left w t D (SM.expire st now) w' := by
  obtain ⟨p, hb, c2, c3, c4, f3, f4⟩ := h.cells
  have hln : ps.length ≤ 1000 := by rw [h.len]; exact hl
  have HLEN : Hid (∀ w', w.Extends w' → ∀ ty, (Builtin.len_ #[48] ty #[.map (some b)]).run Try.prog w' = .ok (.int .i64 ((st.t.length : Nat) : Int)) w') := fun w' hx ty => by
    rcases (h.ext hx).tombs with ⟨e, _⟩ | ⟨b', E, e, _, h5, h6⟩
    · cases e
    · cases e
      rw [h5.len Try.underlying48 ty, h6.size]
  have HC : Hid (∀ w', w.Extends w' → w'.cell? ⟨t, 3, none⟩ = some v ∧ w'.cell? ⟨t, 4, none⟩ = some (.map (some b)) ∧ w'.frozen? ⟨t, 3, none⟩ = false) := fun w' hx => ⟨hx.cell_of c3, hx.cell_of c4, (hx.frozen ⟨t, 3, none⟩ h.lt).trans f3⟩
  have HDEL : Hid (∀ (y : Nat) (w1 : World), w.Extends w1 → y = w.heap.size → w1.cell? ⟨y, 0, none⟩ = some (.int .i64 now) → Calls Try.prog 39 #[v, .func (.func 40) #[] #[.pointer (some ⟨y, 0, none⟩)]] w1 (DelOut w1 v (ps.filter (fun p => !isOld now p.1)))) := fun y w1 hx hy hbx => by
    have hyl : y < w1.heap.size := World.block_lt_of_cell? w1 _ hbx
    refine del_all _ y enters_exp (isOld now) v ps w1 (h.own.ext hx) hln (tells_exp y now w1 hbx) hyl (fun e => ?_)
    have := (h.own.1.lt y e).2
    omega
  have HPUT : Hid (∀ w1 w2 w3 a' c', w.Extends w1 → OwnR w2 (.slice a' (ps.filter (fun p => !isOld now p.1)).length c') (ps.filter (fun p => !isOld now p.1)) → w1.grownBy w2 v.ownBlock → (Value.slice a' (ps.filter (fun p => !isOld now p.1)).length c').ownBlock = v.ownBlock → w3 = w2.setCell ⟨t, 3, none⟩ (.slice a' (ps.filter (fun p => !isOld now p.1)).length c') →
      SAtX w3 t (Nx D w w3) { st with l := st.l.filter (fun x => !isOld now x) } (.slice a' (ps.filter (fun p => !isOld now p.1)).length c') (some b) (ps.filter (fun p => !isOld now p.1)) ∧ PFr D w w3) := fun w1 w2 w3 a' c' hx1 ho hg hn hw3 => by
    have h1 := h.ext hx1
    have hst8 : Still 5 w1 w2 := h1.still_own hg (by decide)
    have := h1.put_slice hg ho (.inl hn) (Reads.still (Reads.mono (D := D) (fun p hp => h1.data p (List.mem_filter.1 hp).1) fun i hi => .inl hi) hg.size hst8) hw3
    rw [recs_filter ps (fun x => !isOld now x), h1.recs] at this
    refine ⟨this.1.mono fun i hi => ?_, (PFr.ext hx1).trans this.2⟩
    rcases hi with hi | hi
    · exact .inl hi
    · have := hx1.size; exact .inr (by omega)
  have HST : Hid (∀ w1 w2 : World, w.Extends w1 → w1.grownBy w2 v.ownBlock → w2.frozen? ⟨t, 3, none⟩ = false ∧ w2.cell? ⟨t, 3, none⟩ = some v ∧ w2.cell? ⟨t, 4, none⟩ = some (.map (some b))) := fun w1 w2 hx hg => by
    have h1 := h.ext hx
    have e : w2.heap[t]? = w1.heap[t]? := hg.block t h1.lt (fun e => (h1.apart.1 t e.symm).1 rfl)
    obtain ⟨e0, e1, e2⟩ := HC.out w1 hx
    exact ⟨by rw [World.frozen?_of_block (w := w1) (w' := w2) (a := ⟨t, 3, none⟩) e]; exact e2, by rw [World.cell?_of_block (w := w1) (w' := w2) (a := ⟨t, 3, none⟩) e]; exact e0, by rw [World.cell?_of_block (w := w1) (w' := w2) (a := ⟨t, 4, none⟩) e]; exact e1⟩
  have HYK : Hid (∀ (y : Nat) (w1 w2 w3 : World) (x : Value), w.Extends w1 → y = w.heap.size → w1.cell? ⟨y, 0, none⟩ = some (.int .i64 now) → w1.grownBy w2 v.ownBlock → w3 = w2.setCell ⟨t, 3, none⟩ x → w3.cell? ⟨y, 0, none⟩ = some (.int .i64 now) ∧ y < w3.heap.size) := fun y w1 w2 w3 x hx hy hbx hg hw3 => by
    have hyl : y < w1.heap.size := World.block_lt_of_cell? w1 _ hbx
    have htl := h.lt
    have e : w3.heap[y]? = w1.heap[y]? := by
      subst hw3
      refine ((grown_set w2 t 3 x).block y (Nat.lt_of_lt_of_le hyl hg.size) (by simp; omega)).trans (hg.block y hyl (fun e => ?_))
      have := (h.own.1.lt y e.symm).2
      omega
    refine ⟨?_, ?_⟩
    · rw [World.cell?_of_block (w := w1) (w' := w3) (a := ⟨y, 0, none⟩) e]; exact hbx
    · subst hw3; simp; exact Nat.lt_of_lt_of_le hyl hg.size
  have HFIN : Hid (∀ w3 w4 E' n v' qs, SAtX w3 t (Nx D w w3) { st with l := st.l.filter (fun x => !isOld now x) } v' (some b) qs → PFr D w w3 → w3.grownBy w4 (some b) → w4.ownsMap Try.prog 38 (plainElem Try.prog 3) b n E' → Ties E' (st.t.filter (fun x => !isOld now x)) → Left w t D (SM.expire st now) w4) := fun w3 w4 E' n v' qs hs hf hg ho hE => by
    obtain ⟨h1, h2⟩ := hs.upd_map hg ho hE
    refine ⟨⟨_, _, _, h1.mono fun i hi => ?_⟩, hf.next h2⟩
    rcases hi with hi | hi
    · exact .inl hi
    · have := hg.size; exact .inr (by omega)
  have HQL : Hid ((ps.filter (fun p => !isOld now p.1)).length = (SM.expire st now).l.length) := by
    have := recs_filter ps (fun x => !isOld now x)
    rw [h.recs] at this
    show _ = (st.l.filter (fun x => !isOld now x)).length
    rw [← this, recs_length]
  have HTL : Hid ((st.t.filter (fun x => !isOld now x)).length = (SM.expire st now).t.length) := rfl
  have HPL := Lib.hid h.len
  have hbt := (h.apart.2 b rfl).1
  have hqp : (ps.filter (fun p => !isOld now p.1)).length ≤ ps.length := List.length_filter_le _ _
  have hlb : t < w.heap.size := h.lt
  obtain ⟨va, vc, hv⟩ := h.own.slice
  subst hv
  rw [← h.len]
  clear h hb c2 c3 c4 f3 f4 hl
  have HT1 : Hid (({ st with l := st.l.filter (fun x => !isOld now x) } : Sto).t = st.t) := rfl
  unfold DelOut at HDEL
  generalize (ps.filter (fun p => !isOld now p.1)) = qs at *
  generalize { st with l := st.l.filter (fun x => !isOld now x) } = st1 at *
  rw [← HQL.out, ← HTL.out]
  generalize SM.expire st now = st' at *
  generalize st.t = ts at *
  have HBOX : Hid (∀ w1, w.alloc (.cells #[.int .i64 now] 3) = w1 → w1.cell? ⟨w.heap.size, 0, none⟩ = some (.int .i64 now) ∧ w.heap.size < w1.heap.size) := fun w1 e => by subst e; exact ⟨by simp, by simp⟩
  clear HQL HTL HPL
  generalize hpl : ps.length = pn at *
  generalize hql : qs.length = qn at *
  clear hpl hql
  have HMET : Hid (∀ (E : DataW Unit) (left : Lit → Bool), Ties E ts → (∀ kl, left kl = Maps.has E kl) → leftT now left ts = ts) := fun E left hE hl => leftT_all fun x hx => by rw [hl, hE.has, List.any_eq_true]; exact ⟨x, hx, same_self x⟩
  generalize htn : ts.length = tn at *
  generalize htn2 : (ts.filter (fun x => !isOld now x)).length = tn2 at *
  have HTN := Lib.hid htn
  have HTN2 := Lib.hid htn2
  have htn3 : tn2 ≤ tn := by rw [← htn, ← htn2]; exact List.length_filter_le _ _
  clear htn htn2
  have hwr : IntKind.i64.wrap ((pn : Int) + (tn : Int)) = (pn : Int) + (tn : Int) := by rw [IntKind.wrap_i64]; omega
  go_enter Try.func15, Try.ntmps15
  go_wp2_with fail
  generalize hw1 : World.alloc w _ = w1
  have hx1 : w.Extends w1 := by subst hw1; exact ext_alloc _ _
  obtain ⟨hb1, hy1⟩ := HBOX.out w1 hw1
  have HX1 := Lib.hid hx1
  have HB1 := Lib.hid hb1
  have HXD := Lib.hid (Gr.ext_drew hx1)
  have HBD : Hid (w1.drew.cell? ⟨w.heap.size, 0, none⟩ = some (.int .i64 now)) := hb1
  have hy1d : w.heap.size < w1.drew.heap.size := hy1
  clear hw1 hx1 hb1 hy1 HBOX
  obtain ⟨y, hy⟩ : ∃ y, y = w.heap.size := ⟨_, rfl⟩
  rw [← hy] at HB1 HBD hy1d ⊢
  have HYW := Lib.hid hy
  clear hy
  refine Gr.region 11 [(false,0),(false,1),(false,2),(false,3),(false,4),(false,5),(false,6),(false,7),(false,8),(false,9),(false,10)] (by kernel_rfl) (by kernel_rfl) (fun d _ _ _ _ h => by cases d <;> exact h) ?_
  simp only [Gr.pick, List.getElem?_cons_zero, List.getElem?_cons_succ, List.drop_succ_cons, List.drop_zero]
  generalize w1.drew = wd at *
  iterate 11
    refine Gr.walk_t ?_ (Or.inl ⟨by rfl, ?_⟩) ?_
    rotate_left
    · intro w' hw'
      obtain ⟨e0, e1, e2⟩ := HC.out w' (Gr.ext_trans HXD.out hw')
      have hlm := HLEN.out w' (Gr.ext_trans HXD.out hw')
      clear hw'
      go_simp
      try with_reducible rfl
    simp only [Act.put, List.setIfInBounds_toArray, List.set_cons_zero, List.set_cons_succ]
  refine Gr.walk_nil ?_
  obtain ⟨e0, e1, e2⟩ := HC.out wd HXD.out
  have hF := enters_exp
  go_wp2_with fail
  refine (HDEL.out y wd HXD.out HYW.out HBD.out).mono ?_
  rintro e w2 ⟨a', c', rfl, ho, hg, hn⟩
  obtain ⟨f3', g3', g4'⟩ := HST.out wd w2 HXD.out hg
  have HP3 := Lib.hid (fun w3 hw3 => HPUT.out wd w2 w3 a' c' HXD.out ho hg hn hw3)
  have HY3 := Lib.hid (fun w3 x hw3 => HYK.out y wd w2 w3 x HXD.out HYW.out HBD.out hg hw3)
  clear ho hg hn HDEL HPUT HST HYK e0 e1 e2 HBD HLEN HC hF
  go_upto_region 5 with fail
  generalize hw3 : World.setCell w2 _ _ = w3
  obtain ⟨hs3, hf3⟩ := HP3.out w3 hw3.symm
  obtain ⟨hr3, hy3⟩ := HY3.out w3 _ hw3.symm
  obtain ⟨n, E0, hown, hE⟩ : ∃ n E, w3.ownsMap Try.prog 38 (plainElem (H := Unit) Try.prog 3) b n E ∧ Ties E ts := by
    rcases hs3.tombs with ⟨e, _⟩ | ⟨b', E, e, _, h5, h6⟩
    · cases e
    · cases e; exact ⟨_, E, h5, HT1.out ▸ h6⟩
  obtain ⟨p3, ht3, _, c33, c34, _, _⟩ := hs3.cells
  have HCK : Hid (∀ w', w3.grownBy w' (some b) → w'.cell? ⟨t, 3, none⟩ = some (.slice a' qn c') ∧ w'.cell? ⟨t, 4, none⟩ = some (.map (some b)) ∧ w'.cell? ⟨y, 0, none⟩ = some (.int .i64 now)) := fun w' hg => by
    have htl : t < w3.heap.size := hs3.lt
    have hyb : y ≠ b := fun e => by
      subst e
      obtain ⟨es, ck, hh, _⟩ := hown
      unfold World.cell? at hr3
      rw [hh] at hr3
      simp at hr3
    have e1 := hg.block t htl (by simpa using fun e => hbt e.symm)
    have e2 := hg.block y hy3 (by simpa using hyb)
    exact ⟨by rw [World.cell?_of_block (w := w3) (w' := w') (a := ⟨t, 3, none⟩) e1]; exact c33, by rw [World.cell?_of_block (w := w3) (w' := w') (a := ⟨t, 4, none⟩) e1]; exact c34, by rw [World.cell?_of_block (w := w3) (w' := w') (a := ⟨y, 0, none⟩) e2]; exact hr3⟩
  have HFN : Hid (∀ w4 E' n, w3.grownBy w4 (some b) → w4.ownsMap Try.prog 38 (plainElem (H := Unit) Try.prog 3) b n E' → Ties E' (ts.filter (fun x => !isOld now x)) → Left w t D st' w4) := fun w4 E' n hg ho hE => HFIN.out w3 w4 E' n _ _ hs3 hf3 hg ho hE
  have hb3 : b < w3.heap.size := hown.lt
  have HOWN := Lib.hid hown
  have HE0 := Lib.hid hE
  clear hw3 HP3 HY3 f3' g3' g4' hs3 hf3 hr3 hy3 ht3 c33 c34 HFIN hE hown HX1 HB1 HXD HYW hy1d hlb
  obtain ⟨g3, g4, gy⟩ := HCK.out w3 ⟨rfl, rfl, rfl, Nat.le_refl _, fun _ _ _ => rfl⟩
  go_wp2_with (first | (at_range; refine wpList_range_own _ rfl _ 48 rfl 38 3 idKeyed Try.underlying48 (plainElem (H := Unit) Try.prog 3) b n E0 rfl HOWN.out ?_) | fail)
  intro w0 hrg0 hg0 hs0
  try go_frame
  clear g3 g4 gy
  have HRG0 := Lib.hid hrg0
  have HG0 := Lib.hid hg0
  have HRB : Hid (w3.heap.size ≠ b) := by have : w3.heap.size ≠ b := by omega
                                          exact this
  clear hrg0 hg0 hs0 hb3
  obtain ⟨r, hr⟩ : ∃ r, r = w3.heap.size := ⟨_, rfl⟩
  rw [← hr] at HRG0 HRB ⊢
  have HRW := Lib.hid hr
  clear hr
  go_wp2_with fail
  go_loopw [] (fun wr => ∃ E left cnt, Hid (wr.ranges Try.prog 38 (plainElem (H := Unit) Try.prog 3) b r n E left cnt) ∧ Hid (Ties E (leftT now left ts)) ∧ Hid (w3.grownBy wr (some b))) (fun wr => wr.rangeLeft b r)
  case atStart => exact ⟨E0, _, _, HRG0, Lib.hid (by rw [HMET.out E0 _ HE0.out (fun _ => rfl)]; exact HE0.out), Lib.hid (HG0.out.but _)⟩
  case round =>
    obtain ⟨E, left, cnt, HR, HT, HG⟩ := hrel
    obtain ⟨g3, g4, gy⟩ := HCK.out wr HG.out
    go_wp2_with (first | (at_next; refine wpList_next_ranges _ rfl _ rfl 38 idKeyed (plainElem (H := Unit) Try.prog 3) (fun x : Int × Int => .agg #[.int .i64 x.1, .int .i64 x.2]) (Value.int .i64) (fun key kl hk => id_inv hk) (fun v y hv => by obtain ⟨c, rfl, _⟩ := plainElem_int_inv Try.underlying3 hv; exact ⟨c, rfl⟩) b r n _ _ _ rfl HR.out ?_ ?_) | fail)
    · intro hc0 hl0
      have hTF : Ties E (ts.filter (fun x => !isOld now x)) := by rw [← leftT_none hl0]; exact HT.out
      have hown := HR.out.owns
      have HLN : Hid (∀ w', wr.Extends w' → ∀ ty, (Builtin.len_ #[48] ty #[.map (some b)]).run Try.prog w' = .ok (.int .i64 ((tn2 : Nat) : Int)) w') := fun w' hx ty => by
        have hlb := hown.lt
        have ho : w'.ownsMap Try.prog 38 (plainElem (H := Unit) Try.prog 3) b n E := by
          obtain ⟨es, ck, hh, hrest⟩ := hown
          exact ⟨es, ck, (hx.block b hlb).trans hh, hrest⟩
        rw [ho.len Try.underlying48 ty, hTF.size, HTN2.out]
      have HP := Lib.hid (HFN.out wr E n HG.out hown hTF)
      clear hTF hown hc0 hl0 HR HT
      have hwr1 : IntKind.i64.wrap ((pn : Int) + (tn : Int) - (qn : Int)) = (pn : Int) + (tn : Int) - (qn : Int) := by rw [IntKind.wrap_i64]; omega
      have hwr2 : IntKind.i64.wrap ((pn : Int) + (tn : Int) - (qn : Int) - (tn2 : Int)) = (pn : Int) + (tn : Int) - (qn : Int) - (tn2 : Int) := by rw [IntKind.wrap_i64]; omega
      have HCR : Hid (∀ w', wr.Extends w' → w'.cell? ⟨t, 3, none⟩ = some (.slice a' qn c') ∧ w'.cell? ⟨t, 4, none⟩ = some (.map (some b))) := fun w' hx => ⟨hx.cell_of g3, hx.cell_of g4⟩
      clear g3 g4 gy
      go_wp2_with fail
      refine Gr.region 13 [(false,0),(false,1),(false,2),(false,3),(false,4),(false,5),(false,6),(false,7),(false,8),(false,9),(false,10),(false,11),(false,12)] (by kernel_rfl) (by kernel_rfl) (fun d _ _ _ _ h => by cases d <;> exact h) ?_
      simp only [Gr.pick, List.getElem?_cons_zero, List.getElem?_cons_succ, List.drop_succ_cons, List.drop_zero]
      have HXR := Lib.hid (Gr.ext_drew (Gr.ext_refl wr))
      have HPD : Hid (Left w t D st' wr.drew) := Left.next HP.out (Left.ext HP.out.1 (Gr.ext_drew (Gr.ext_refl wr)))
      generalize wr.drew = wd at *
      iterate 13
        refine Gr.walk_t ?_ (Or.inl ⟨by rfl, ?_⟩) ?_
        rotate_left
        · intro w' hw'
          obtain ⟨g3, g4⟩ := HCR.out w' (Gr.ext_trans HXR.out hw')
          have hln := HLN.out w' (Gr.ext_trans HXR.out hw')
          clear hw'
          go_simp
          try with_reducible rfl
        simp only [Act.put, List.setIfInBounds_toArray, List.set_cons_zero, List.set_cons_succ]
      refine Gr.walk_nil ?_
      go_wp2
      go_ret
      exact ⟨rfl, HPD.out⟩
    · intro xp xn c kl z zl w1 cnt1 hkey hlk hv hat hrg1 hlt hg1 hs1 hen
      have hz : z = .lit (.int .i64 c) := by
        obtain ⟨c', hc', hz', _⟩ := plainElem_int_inv Try.underlying3 hv
        cases hc'
        exact (Prod.mk.inj hz').1
      rw [hz] at hat
      have hik := idKeyed.key hkey
      have HMT := Lib.hid (HT.out.meet hlk (ranges_left HR.out hik hlk) hat)
      have HKEY := Lib.hid hkey
      have HTR := HT
      have HR1 := Lib.hid hrg1
      have HG1 : Hid (w3.grownBy w1 (some b)) := HG.out.andThen hg1 (fun j hj => by have := Option.some.inj hj; subst this; exact .inl (by rw [HRW.out]; exact Nat.le_refl _))
      have HLT : Hid (cnt1 < wr.rangeLeft b r) := by rw [HR.out.left_eq]; exact hlt
      clear hkey hlk hat hrg1 hlt hg1 hs1 hik hz hv g3 g4 gy HR HT HG
      go_upto_region 8 with fail
      generalize hw2 : World.alloc w1 _ = w2
      have hx2 : w1.Extends w2 := by subst hw2; exact ext_alloc _ _
      have hg12 : w1.grownBy w2 none := by subst hw2; exact World.grownBy_alloc _ _ none
      have c0 : w2.cell? ⟨w1.heap.size, 0, none⟩ = some (.int .i64 xp) := by subst hw2; simp
      have c1 : w2.cell? ⟨w1.heap.size, 1, none⟩ = some (.int .i64 xn) := by subst hw2; simp
      have HR2 : Hid (w2.ranges Try.prog 38 (plainElem (H := Unit) Try.prog 3) b r n E (fun z => left z && !z.sameKey kl) cnt1) := by have := HR1.out.alloc (.cells #[.int .i64 xp, .int .i64 xn] 38); subst hw2; exact this
      have HG2 : Hid (w3.grownBy w2 (some b)) := HG1.out.andThen hg12 (fun j hj => by cases hj)
      have HXK : Hid (∀ w', w2.Extends w' → w'.cell? ⟨t, 4, none⟩ = some (.map (some b)) ∧ w'.cell? ⟨w1.heap.size, 0, none⟩ = some (.int .i64 xp) ∧ w'.cell? ⟨w1.heap.size, 1, none⟩ = some (.int .i64 xn)) := fun w' hx => ⟨hx.cell_of (HCK.out w2 HG2.out).2.1, hx.cell_of c0, hx.cell_of c1⟩
      obtain ⟨g3, g4, gy⟩ := HCK.out w2 HG2.out
      clear hw2 hx2 hg12 c0 c1 HR1 HG1
      generalize w1.heap.size = q at *
      by_cases h1 : c < now
      · clear g3 g4
        go_wp2_with fail
        refine Gr.region 5 [(false,0),(false,1),(false,2),(false,3),(false,4)] (by kernel_rfl) (by kernel_rfl) (fun d _ _ _ _ h => by cases d <;> exact h) ?_
        simp only [Gr.pick, List.getElem?_cons_zero, List.getElem?_cons_succ, List.drop_succ_cons, List.drop_zero]
        have HXD2 := Lib.hid (Gr.ext_drew (Gr.ext_refl w2))
        have HRD : Hid (w2.drew.ranges Try.prog 38 (plainElem (H := Unit) Try.prog 3) b r n E (fun z => left z && !z.sameKey kl) cnt1) := HR2.out
        have HGD : Hid (w3.grownBy w2.drew (some b)) := ⟨HG2.out.os, HG2.out.tape, HG2.out.output, HG2.out.size, HG2.out.block⟩
        generalize w2.drew = wd at *
        iterate 5
          refine Gr.walk_t ?_ (Or.inl ⟨by rfl, ?_⟩) ?_
          rotate_left
          · intro w' hw'
            obtain ⟨g4, c0, c1⟩ := HXK.out w' (Gr.ext_trans HXD2.out hw')
            clear hw'
            go_simp
            try with_reducible rfl
          simp only [Act.put, List.setIfInBounds_toArray, List.set_cons_zero, List.set_cons_succ]
        refine Gr.walk_nil ?_
        go_wp2_with (at_delete; refine wpList_delete_ranges _ rfl _ _ 48 38 rfl 3 idKeyed Try.underlying48 (plainElem (H := Unit) Try.prog 3) b r n _ _ _ rfl HRD.out _ kl rfl HKEY.out ?_)
        intro w5 cnt2 hrg2 hle hturn
        try rw [Maps.strike_twice] at hrg2
        have hnew : (∃ E left cnt, Hid (w5.ranges Try.prog 38 (plainElem (H := Unit) Try.prog 3) b r n E left cnt) ∧ Hid (Ties E (leftT now left ts)) ∧ Hid (w3.grownBy w5 (some b))) ∧ w5.rangeLeft b r < wr.rangeLeft b r := by
          obtain ⟨⟨x, hx, hxe⟩, hux⟩ := HMT.out
          refine ⟨⟨_, _, _, Lib.hid hrg2, Lib.hid ?_, Lib.hid (HGD.out.andThen hturn.grown (fun j hj => .inr hj))⟩, ?_⟩
          · rw [leftT_drop h1 hux, ← hxe]
            exact HTR.out.del hx
          · rw [hrg2.left_eq]; have := HLT.out; omega
        clear hrg2 hle hturn
        go_wp2_with fail
        exact hnew
      · go_wp2_with fail
        refine ⟨⟨_, _, _, HR2, Lib.hid ?_, HG2⟩, ?_⟩
        · rw [leftT_keep h1 HMT.out.2]; exact HTR.out
        · rw [HR2.out.left_eq]; exact HLT.out
set_option maxHeartbeats 2000000 in
theorem expire_none (t : Nat) (D : Nat → Prop) (st : Sto) (now : Int) (w : World) (v : Value) (ps : List Pr) (h : SAtX w t D st v none ps) (hl : st.l.length ≤ 1000) (htl : st.t.length ≤ 1000000) :
    Calls Try.prog 15 #[.pointer (some ⟨t, 0, none⟩), .int .i64 now] w fun e w' => e = .returned (.int .i64 ((st.l.length : Nat) + (st.t.length : Nat) - ((SM.expire st now).l.length : Nat) - ((SM.expire st now).t.length : Nat))) ∧ Left w t D (SM.expire st now) w' := by
  obtain ⟨p, hb, c2, c3, c4, f3, f4⟩ := h.cells
  have ht0 : st.t = [] := by
    rcases h.tombs with ⟨_, e⟩ | ⟨b, E, e, _⟩
    · exact e
    · cases e
  have hln : ps.length ≤ 1000 := by rw [h.len]; exact hl
  have HLEN : Hid (∀ w', w.Extends w' → ∀ ty, (Builtin.len_ #[48] ty #[.map none]).run Try.prog w' = .ok (.int .i64 ((st.t.length : Nat) : Int)) w') := fun w' hx ty => by
    rw [ht0]; exact Maps.len_nil Try.underlying48 ty
  have HC : Hid (∀ w', w.Extends w' → w'.cell? ⟨t, 3, none⟩ = some v ∧ w'.cell? ⟨t, 4, none⟩ = some (.map none) ∧ w'.frozen? ⟨t, 3, none⟩ = false) := fun w' hx => ⟨hx.cell_of c3, hx.cell_of c4, (hx.frozen ⟨t, 3, none⟩ h.lt).trans f3⟩
  have HDEL : Hid (∀ (y : Nat) (w1 : World), w.Extends w1 → y = w.heap.size → w1.cell? ⟨y, 0, none⟩ = some (.int .i64 now) → Calls Try.prog 39 #[v, .func (.func 40) #[] #[.pointer (some ⟨y, 0, none⟩)]] w1 (DelOut w1 v (ps.filter (fun p => !isOld now p.1)))) := fun y w1 hx hy hbx => by
    have hyl : y < w1.heap.size := World.block_lt_of_cell? w1 _ hbx
    refine del_all _ y enters_exp (isOld now) v ps w1 (h.own.ext hx) hln (tells_exp y now w1 hbx) hyl (fun e => ?_)
    have := (h.own.1.lt y e).2
    omega
  have HPUT : Hid (∀ w1 w2 w3 a' c', w.Extends w1 → OwnR w2 (.slice a' (ps.filter (fun p => !isOld now p.1)).length c') (ps.filter (fun p => !isOld now p.1)) → w1.grownBy w2 v.ownBlock → (Value.slice a' (ps.filter (fun p => !isOld now p.1)).length c').ownBlock = v.ownBlock → w3 = w2.setCell ⟨t, 3, none⟩ (.slice a' (ps.filter (fun p => !isOld now p.1)).length c') →
      SAtX w3 t (Nx D w w3) { st with l := st.l.filter (fun x => !isOld now x) } (.slice a' (ps.filter (fun p => !isOld now p.1)).length c') none (ps.filter (fun p => !isOld now p.1)) ∧ PFr D w w3) := fun w1 w2 w3 a' c' hx1 ho hg hn hw3 => by
    have h1 := h.ext hx1
    have hst8 : Still 5 w1 w2 := h1.still_own hg (by decide)
    have := h1.put_slice hg ho (.inl hn) (Reads.still (Reads.mono (D := D) (fun p hp => h1.data p (List.mem_filter.1 hp).1) fun i hi => .inl hi) hg.size hst8) hw3
    rw [recs_filter ps (fun x => !isOld now x), h1.recs] at this
    refine ⟨this.1.mono fun i hi => ?_, (PFr.ext hx1).trans this.2⟩
    rcases hi with hi | hi
    · exact .inl hi
    · have := hx1.size; exact .inr (by omega)
  have HST : Hid (∀ w1 w2 : World, w.Extends w1 → w1.grownBy w2 v.ownBlock → w2.frozen? ⟨t, 3, none⟩ = false ∧ w2.cell? ⟨t, 3, none⟩ = some v ∧ w2.cell? ⟨t, 4, none⟩ = some (.map none)) := fun w1 w2 hx hg => by
    have h1 := h.ext hx
    have e : w2.heap[t]? = w1.heap[t]? := hg.block t h1.lt (fun e => (h1.apart.1 t e.symm).1 rfl)
    obtain ⟨e0, e1, e2⟩ := HC.out w1 hx
    exact ⟨by rw [World.frozen?_of_block (w := w1) (w' := w2) (a := ⟨t, 3, none⟩) e]; exact e2, by rw [World.cell?_of_block (w := w1) (w' := w2) (a := ⟨t, 3, none⟩) e]; exact e0, by rw [World.cell?_of_block (w := w1) (w' := w2) (a := ⟨t, 4, none⟩) e]; exact e1⟩
  have HYK : Hid (∀ (y : Nat) (w1 w2 w3 : World) (x : Value), w.Extends w1 → y = w.heap.size → w1.cell? ⟨y, 0, none⟩ = some (.int .i64 now) → w1.grownBy w2 v.ownBlock → w3 = w2.setCell ⟨t, 3, none⟩ x → w3.cell? ⟨y, 0, none⟩ = some (.int .i64 now) ∧ y < w3.heap.size) := fun y w1 w2 w3 x hx hy hbx hg hw3 => by
    have hyl : y < w1.heap.size := World.block_lt_of_cell? w1 _ hbx
    have htl := h.lt
    have e : w3.heap[y]? = w1.heap[y]? := by
      subst hw3
      refine ((grown_set w2 t 3 x).block y (Nat.lt_of_lt_of_le hyl hg.size) (by simp; omega)).trans (hg.block y hyl (fun e => ?_))
      have := (h.own.1.lt y e.symm).2
      omega
    refine ⟨?_, ?_⟩
    · rw [World.cell?_of_block (w := w1) (w' := w3) (a := ⟨y, 0, none⟩) e]; exact hbx
    · subst hw3; simp; exact Nat.lt_of_lt_of_le hyl hg.size
  have HFIN : Hid (∀ w3 w4 v' qs, SAtX w3 t (Nx D w w3) { st with l := st.l.filter (fun x => !isOld now x) } v' none qs → PFr D w w3 → w3.Extends w4 → Left w t D (SM.expire st now) w4) := fun w3 w4 v' qs hs hf hx => by
    have e : ({ st with l := st.l.filter (fun x => !isOld now x) } : Sto) = SM.expire st now := by
      unfold SM.expire
      have : st.t.filter (fun x => !isOld now x) = st.t := by rw [ht0]; rfl
      rw [this]
    rw [e] at hs
    exact Left.next ⟨⟨_, _, _, hs⟩, hf⟩ (Left.ext ⟨_, _, _, hs⟩ hx)
  have HQL : Hid ((ps.filter (fun p => !isOld now p.1)).length = (SM.expire st now).l.length) := by
    have := recs_filter ps (fun x => !isOld now x)
    rw [h.recs] at this
    show _ = (st.l.filter (fun x => !isOld now x)).length
    rw [← this, recs_length]
  have HTL : Hid ((st.t.filter (fun x => !isOld now x)).length = (SM.expire st now).t.length) := rfl
  have HPL := Lib.hid h.len
  have hqp : (ps.filter (fun p => !isOld now p.1)).length ≤ ps.length := List.length_filter_le _ _
  have hlb : t < w.heap.size := h.lt
  obtain ⟨va, vc, hv⟩ := h.own.slice
  subst hv
  rw [← h.len]
  clear h hb c2 c3 c4 f3 f4 hl
  unfold DelOut at HDEL
  generalize (ps.filter (fun p => !isOld now p.1)) = qs at *
  generalize { st with l := st.l.filter (fun x => !isOld now x) } = st1 at *
  rw [← HQL.out, ← HTL.out]
  generalize SM.expire st now = st' at *
  generalize st.t = ts at *
  have HBOX : Hid (∀ w1, w.alloc (.cells #[.int .i64 now] 3) = w1 → w1.cell? ⟨w.heap.size, 0, none⟩ = some (.int .i64 now) ∧ w.heap.size < w1.heap.size) := fun w1 e => by subst e; exact ⟨by simp, by simp⟩
  clear HQL HTL HPL
  generalize hpl : ps.length = pn at *
  generalize hql : qs.length = qn at *
  clear hpl hql
  generalize htn : ts.length = tn at *
  generalize htn2 : (ts.filter (fun x => !isOld now x)).length = tn2 at *
  have HTN := Lib.hid htn
  have HTN2 := Lib.hid htn2
  have htn3 : tn = 0 ∧ tn2 = 0 := by rw [← htn, ← htn2, ht0]; exact ⟨rfl, rfl⟩
  obtain ⟨rfl, rfl⟩ := htn3
  clear htn htn2 HTN HTN2 ht0
  have hwr : IntKind.i64.wrap (pn : Int) = (pn : Int) := by rw [IntKind.wrap_i64]; omega
  go_enter Try.func15, Try.ntmps15
  go_wp2_with fail
  generalize hw1 : World.alloc w _ = w1
  have hx1 : w.Extends w1 := by subst hw1; exact ext_alloc _ _
  obtain ⟨hb1, hy1⟩ := HBOX.out w1 hw1
  have HX1 := Lib.hid hx1
  have HB1 := Lib.hid hb1
  have HXD := Lib.hid (Gr.ext_drew hx1)
  have HBD : Hid (w1.drew.cell? ⟨w.heap.size, 0, none⟩ = some (.int .i64 now)) := hb1
  have hy1d : w.heap.size < w1.drew.heap.size := hy1
  clear hw1 hx1 hb1 hy1 HBOX
  obtain ⟨y, hy⟩ : ∃ y, y = w.heap.size := ⟨_, rfl⟩
  rw [← hy] at HB1 HBD hy1d ⊢
  have HYW := Lib.hid hy
  clear hy
  refine Gr.region 11 [(false,0),(false,1),(false,2),(false,3),(false,4),(false,5),(false,6),(false,7),(false,8),(false,9),(false,10)] (by kernel_rfl) (by kernel_rfl) (fun d _ _ _ _ h => by cases d <;> exact h) ?_
  simp only [Gr.pick, List.getElem?_cons_zero, List.getElem?_cons_succ, List.drop_succ_cons, List.drop_zero]
  generalize w1.drew = wd at *
  iterate 11
    refine Gr.walk_t ?_ (Or.inl ⟨by rfl, ?_⟩) ?_
    rotate_left
    · intro w' hw'
      obtain ⟨e0, e1, e2⟩ := HC.out w' (Gr.ext_trans HXD.out hw')
      have hlm := HLEN.out w' (Gr.ext_trans HXD.out hw')
      clear hw'
      go_simp
      try with_reducible rfl
    simp only [Act.put, List.setIfInBounds_toArray, List.set_cons_zero, List.set_cons_succ]
  refine Gr.walk_nil ?_
  obtain ⟨e0, e1, e2⟩ := HC.out wd HXD.out
  have hF := enters_exp
  go_wp2_with fail
  refine (HDEL.out y wd HXD.out HYW.out HBD.out).mono ?_
  rintro e w2 ⟨a', c', rfl, ho, hg, hn⟩
  obtain ⟨f3', g3', g4'⟩ := HST.out wd w2 HXD.out hg
  have HP3 := Lib.hid (fun w3 hw3 => HPUT.out wd w2 w3 a' c' HXD.out ho hg hn hw3)
  have HY3 := Lib.hid (fun w3 x hw3 => HYK.out y wd w2 w3 x HXD.out HYW.out HBD.out hg hw3)
  clear ho hg hn HDEL HPUT HST HYK e0 e1 e2 HBD HLEN HC hF
  go_upto_region 5 with fail
  generalize hw3 : World.setCell w2 _ _ = w3
  obtain ⟨hs3, hf3⟩ := HP3.out w3 hw3.symm
  obtain ⟨hr3, hy3⟩ := HY3.out w3 _ hw3.symm
  obtain ⟨p3, ht3, _, c33, c34, _, _⟩ := hs3.cells
  have HCK : Hid (∀ w', w3.Extends w' → w'.cell? ⟨t, 3, none⟩ = some (.slice a' qn c') ∧ w'.cell? ⟨t, 4, none⟩ = some (.map none)) := fun w' hg => ⟨hg.cell_of c33, hg.cell_of c34⟩
  have HFN : Hid (∀ w4, w3.Extends w4 → Left w t D st' w4) := fun w4 hx => HFIN.out w3 w4 _ _ hs3 hf3 hx
  clear hw3 HP3 HY3 f3' g3' g4' hs3 hf3 hr3 hy3 ht3 c33 HFIN HX1 HB1 HXD HYW hy1d hlb
  have hrr := run_range_nilMap (P := Try.prog) w3 48 38 3 Try.underlying48
  have hnn : ∀ ty, (Instr.next (.pointer (some ⟨w3.heap.size, 0, none⟩)) false ty).run Try.prog (w3.alloc (.mapIter none 0 #[] 0)) = .ok (.tuple #[.bool false]) (w3.alloc (.mapIter none 0 #[] 0)) := fun ty => run_next_nilMap w3 ty 0 0 #[]
  go_wp2_with fail
  go_loopw [] (fun wr => wr = w3.alloc (.mapIter none 0 #[] 0)) (fun _ => 0)
  case atStart => rfl
  case round =>
    subst hrel
    go_wp2_with fail
    have hx4 : w3.Extends (w3.alloc (.mapIter none 0 #[] 0)) := ext_alloc _ _
    have HP := Lib.hid (HFN.out _ hx4)
    have HCR : Hid (∀ w', (w3.alloc (.mapIter none 0 #[] 0)).Extends w' → w'.cell? ⟨t, 3, none⟩ = some (.slice a' qn c') ∧ w'.cell? ⟨t, 4, none⟩ = some (.map none)) := fun w' hx => HCK.out w' (Gr.ext_trans hx4 hx)
    clear hx4 hrr hnn HCK HFN
    generalize World.alloc w3 _ = wr at *
    have hln : ∀ w' ty, (Builtin.len_ #[48] ty #[.map none]).run Try.prog w' = .ok (.int .i64 0) w' := fun w' ty => Maps.len_nil Try.underlying48 ty
    have hwr1 : IntKind.i64.wrap ((pn : Int) - (qn : Int)) = (pn : Int) - (qn : Int) := by rw [IntKind.wrap_i64]; omega
    refine Gr.region 13 [(false,0),(false,1),(false,2),(false,3),(false,4),(false,5),(false,6),(false,7),(false,8),(false,9),(false,10),(false,11),(false,12)] (by kernel_rfl) (by kernel_rfl) (fun d _ _ _ _ h => by cases d <;> exact h) ?_
    simp only [Gr.pick, List.getElem?_cons_zero, List.getElem?_cons_succ, List.drop_succ_cons, List.drop_zero]
    have HXR := Lib.hid (Gr.ext_drew (Gr.ext_refl wr))
    have HPD : Hid (Left w t D st' wr.drew) := Left.next HP.out (Left.ext HP.out.1 (Gr.ext_drew (Gr.ext_refl wr)))
    generalize wr.drew = wd at *
    iterate 13
      refine Gr.walk_t ?_ (Or.inl ⟨by rfl, ?_⟩) ?_
      rotate_left
      · intro w' hw'
        obtain ⟨g3, g4⟩ := HCR.out w' (Gr.ext_trans HXR.out hw')
        clear hw'
        go_simp
        try with_reducible rfl
      simp only [Act.put, List.setIfInBounds_toArray, List.set_cons_zero, List.set_cons_succ]
    refine Gr.walk_nil ?_
    go_wp2
    go_ret
    exact ⟨by show Ending.returned (Value.int .i64 ((pn : Int) - (qn : Int))) = _; simp, HPD.out⟩
theorem expire_any (t : Nat) (D : Nat → Prop) (st : Sto) (now : Int) (w : World) (h : SAt w t D st) (hl : st.l.length ≤ 1000) (htl : st.t.length ≤ 1000000) :
    Calls Try.prog 15 #[.pointer (some ⟨t, 0, none⟩), .int .i64 now] w fun e w' => e = .returned (.int .i64 ((st.l.length : Nat) + (st.t.length : Nat) - ((SM.expire st now).l.length : Nat) - ((SM.expire st now).t.length : Nat))) ∧ Left w t D (SM.expire st now) w' := by
  obtain ⟨v, mp, ps, h⟩ := h
  cases mp with
  | none => exact expire_none t D st now w v ps h hl htl
  | some b => exact expire_map t D st now w v b ps h hl htl
end Go.Proofs.Ytohonjhfmmhgdaa
