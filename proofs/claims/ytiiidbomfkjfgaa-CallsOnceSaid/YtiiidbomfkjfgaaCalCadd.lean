/- Calls: Add. Written by gen_cadd.py out of cadd.src. -/
import Derived.Test.YtiiidbomfkjfgaaCalCs
namespace Go.Proofs.Ytiiidbomfkjfgaa
set_option maxRecDepth 20000
open Go.RowKit Go.Deep Go.Maps
set_option linter.unusedVariables false
/-- Until when a call waits that is made now. -/
def untilOf (now : Int) : Int := min now 1099511627776 + 6
/-- Block c is as it was but for offset o. -/
def ButAt (w : World) (c o : Nat) (w' : World) : Prop := ∀ row T, w.heap[c]? = some (.cells row T (0, 0)) → ∃ y, w'.heap[c]? = some (.cells (row.setIfInBounds o y) T (0, 0))
def CAddOut (c o : Nat) (D : Nat → Prop) (last : Nat) (cs : List Cl) (op pr now : Int) (w : World) (e : Ending) (w' : World) : Prop :=
  e = .returned (.int .i64 ((last : Int) + 1)) ∧ Fr (fun i => i = c ∨ D i) w w' ∧ ButAt w c o w' ∧ CsAt w' c o (Nx D w w') (last + 1) (cs ++ [⟨(last : Int) + 1, op, pr, untilOf now⟩])
/-- No calls yet. -/
theorem OX.made {w : World} {t mt mo : Nat} (hb : w.heap[t]? = some (.cells #[.int .i64 0, .map (some mt), .map (some mo), .slice none 0 0] 43 (0, 0))) (h1 : BM true w mt 0 fun _ => none) (h2 : BM false w mo 0 fun _ => none) (hne : mt ≠ mo) :
    OAt w t (fun i => i = t ∨ i = mt ∨ i = mo) 0 [] := by
  refine ⟨mt, mo, .slice none 0 0, [], fun _ => none, fun _ => none, fun _ => [], ⟨⟨hb, ⟨⟨_, _, hb, rfl⟩, World.ownsRow_nil _ _ _ _, fun k hk => absurd hk (Nat.not_lt_zero _), List.nodup_nil, fun e => (nomatch e), fun e => (nomatch e)⟩, h1, h2, fun o b e => (nomatch e), hne, fun o b e => (nomatch e), fun o o' b e => (nomatch e)⟩, ?_, HM.Heap.empty _, fun i hi => ?_⟩, List.Perm.refl _⟩
  · exact ⟨fun x b => ⟨fun e => (nomatch e), fun ⟨y, hy, _⟩ => (nomatch hy)⟩, fun o => ⟨fun ⟨b, e⟩ => (nomatch e), fun ⟨y, hy, _⟩ => (nomatch hy)⟩, fun _ => List.nodup_nil, fun _ => Nat.le_refl _, fun o x => ⟨fun e => (nomatch e), fun ⟨y, hy, _⟩ => (nomatch hy)⟩, fun y hy => (nomatch hy), fun y hy => (nomatch hy), fun y hy => (nomatch hy), Nat.le_refl _, by omega, List.nodup_nil⟩
  · rcases hi with (rfl | e | e) | rfl | rfl | ⟨o, e⟩
    · exact .inl rfl
    · cases e
    · cases e
    · exact .inr (.inl rfl)
    · exact .inr (.inr rfl)
    · cases e
set_option maxHeartbeats 2000000 in
theorem cadd_low (c o : Nat) (D : Nat → Prop) (last : Nat) (cs : List Cl) (op pr now : Int) (w : World) (h : CsAt w c o D last cs) (hl : last + 1 ≤ 8000) (hop : In64 op) (hnow : In64 now) (hcut : now ≤ 1099511627776) :
    Calls Try.prog 6 #[.pointer (some ⟨c, o, none⟩), .int .i64 op, .int .i64 pr, .int .i64 now] w (CAddOut c o D last cs op pr now w) := by
  have hm1 : -9223372036854775808 ≤ now := hnow.1
  have HU : Hid ((now + 6) = untilOf now) := by show _ = _; unfold untilOf; omega
  have HADD : Hid (∀ D' t w1, OAt w1 t D' last cs → Calls Try.prog 10 #[.pointer (some ⟨t, 0, none⟩), .agg #[.int .i64 0, .int .i64 op, .int .i64 pr, .int .i64 (now + 6)]] w1 (OAddOut t D' last cs op pr (now + 6) w1)) := fun D' t w1 h1 => oadd_any t D' last cs op pr (now + 6) 0 w1 h1 hl hop
  have H := Lib.hid h
  obtain ⟨y, hc, hf, ⟨rfl, rfl, rfl⟩ | ⟨t, rfl, ho⟩⟩ := h.cell
  · have hlt := h.lt
    have HLT := Lib.hid hlt
    obtain ⟨w3, hw3⟩ : ∃ w3, w3 = ((w.alloc (.map #[] 0)).alloc (.map #[] 0)).alloc (.cells #[.int .i64 0, .map (some w.heap.size), .map (some (w.heap.size + 1)), .slice none 0 0] 43) := ⟨_, rfl⟩
    have hx : w.Extends w3 := by rw [hw3]; exact Gr.ext_trans (Gr.ext_trans (ext_alloc _ _) (ext_alloc _ _)) (ext_alloc _ _)
    have hc3 : (((w.alloc (.map #[] 0)).alloc (.map #[] 0)).alloc (.cells #[.int .i64 0, .map (some w.heap.size), .map (some (w.heap.size + 1)), .slice none 0 0] 43)).cell? ⟨c, o, none⟩ = some (.pointer none) := by rw [← hw3]; exact hx.cell_of hc
    have hf3 : (((w.alloc (.map #[] 0)).alloc (.map #[] 0)).alloc (.cells #[.int .i64 0, .map (some w.heap.size), .map (some (w.heap.size + 1)), .slice none 0 0] 43)).frozen? ⟨c, o, none⟩ = false := by rw [← hw3, hx.frozen ⟨c, o, none⟩ hlt]; exact hf
    have HS3 : Hid (w3.heap.size = w.heap.size + 3) := by
      show _ = _
      rw [hw3]; simp
    have HO3 : Hid (OAt w3 (w.heap.size + 1 + 1) (fun i => i = w.heap.size + 1 + 1 ∨ i = w.heap.size ∨ i = w.heap.size + 1) 0 []) := by
      refine OX.made ?_ ?_ ?_ (by omega)
      · rw [hw3]
        have := heap_alloc_new ((w.alloc (.map #[] 0)).alloc (.map #[] 0)) (.cells #[.int .i64 0, .map (some w.heap.size), .map (some (w.heap.size + 1)), .slice none 0 0] 43)
        simpa using this
      · rw [hw3]
        exact ((BM.new true w).ext (ext_alloc _ _)).ext (ext_alloc _ _)
      · rw [hw3]
        have := BM.new false (w.alloc (.map #[] 0))
        rw [World.size_alloc] at this
        exact this.ext (ext_alloc _ _)
    have HX := Lib.hid hx
    clear h hnow hop hl hx
    have hk1 := run_mkmap 38
    have hk2 := run_mkmap 39
    go_enter Try.func6, Try.ntmps6
    go_upto_region 5 with fail
    rw [← hw3]
    generalize hw4 : World.setCell w3 _ _ = w4
    have HG4 : Hid (w3.grownBy w4 (some c)) := by rw [← hw4]; exact grown_setCell (grown_refl _ _) o _
    have hnc : ∀ i, (i = w.heap.size + 1 + 1 ∨ i = w.heap.size ∨ i = w.heap.size + 1) → i ≠ c := fun i hi => by have := HLT.out; omega
    have HO4 := Lib.hid (HO3.out.away (w' := w4) (D' := fun i => i = c) (Fr.grown HG4.out fun g e => by rw [← Option.some.inj e]) hnc)
    have hc4 : w4.cell? ⟨c, o, none⟩ = some (pv (w.heap.size + 1 + 1)) := by
      rw [← hw4]
      exact World.cell?_setCell_same _ _ _ (HX.out.cell_of hc)
    have hrow : ∀ row T, w.heap[c]? = some (.cells row T (0, 0)) → w4.heap[c]? = some (.cells (row.setIfInBounds o (pv (w.heap.size + 1 + 1))) T (0, 0)) := fun row T hr => by
      rw [← hw4]
      exact heap_setCell_same _ _ _ _ _ _ ((HX.out.block c HLT.out).trans hr)
    have HROW := Lib.hid hrow
    have HNC := Lib.hid hnc
    have HOUT := Lib.hid (HADD.out _ _ w4 HO4.out)
    generalize hs : w.heap.size + 1 + 1 = t at *
    have HSZ : Hid (w4.heap.size = t + 1 ∧ w.heap.size < t) := ⟨by rw [← hw4, World.size_setCell]; have := HS3.out; omega, by omega⟩
    have HD0 : Hid (∀ i, (i = t ∨ i = w.heap.size ∨ i = w.heap.size + 1) → w.heap.size ≤ i ∧ i < w4.heap.size) := fun i hi => by have := HSZ.out; omega
    clear hw3 hc3 hf3 hk1 hk2 hw4 hrow hnc hs hlt
    generalize hD0 : (fun i => i = t ∨ i = w.heap.size ∨ i = w.heap.size + 1) = D0 at *
    have HD0' : Hid (∀ i, D0 i → w.heap.size ≤ i ∧ i < w4.heap.size) := fun i hi => HD0.out i (by rw [← hD0] at hi; exact hi)
    have HNC' : Hid (∀ i, D0 i → i ≠ c) := fun i hi => HNC.out i (by rw [← hD0] at hi; exact hi)
    clear HD0 HNC hD0
    go_wp2_with fail
    refine HOUT.out.mono ?_
    rintro e w5 ⟨rfl, hf5, ho5⟩
    have HFIN : Hid (CAddOut c o D 0 [] op pr now w (.returned (.int .i64 (((0 : Nat) : Int) + 1))) w5) := by
      have hf : Fr (fun i => i = c ∨ D i) w w5 := by
        refine ((Fr.ext HX.out).trans (D' := fun i => i = c) (Fr.grown HG4.out fun g e => by rw [← Option.some.inj e]) (fun i _ e => .inl e)).trans hf5 fun i hi hd => ?_
        have := HD0'.out i hd
        omega
      obtain ⟨hd, row, T, y, h1, h2, _⟩ := H.out
      have hc5 : w5.heap[c]? = w4.heap[c]? := hf5.away c (by have := HSZ.out; have := HLT.out; omega) (fun hd => HNC'.out c hd rfl)
      refine ⟨rfl, hf, fun row T hr => ⟨_, hc5.trans (HROW.out row T hr)⟩, fun hh => ?_, _, T, pv t, hc5.trans (HROW.out row T h1), ?_, .inr ⟨t, rfl, ?_⟩⟩
      · rcases hh with hh | hh
        · exact hd hh
        · have := HLT.out; omega
      · have := (Array.getElem?_eq_some_iff.1 h2).1
        simp [this]
      · rw [HU.out] at ho5
        refine ho5.mono fun i hi => .inr ?_
        have hs5 := hf5.size
        rcases hi with hi | hi
        · have := HD0'.out i hi; omega
        · have := HSZ.out; omega
    clear hf5 ho5 HOUT hc4
    go_wp2
    go_ret
    exact HFIN.out
  · have HOUT := Lib.hid (HADD.out D t w ho)
    clear h hnow hop hl ho HADD
    go_enter Try.func6, Try.ntmps6
    go_wp2_with fail
    refine HOUT.out.mono ?_
    rintro e w5 ⟨rfl, hf5, ho5⟩
    have HFIN : Hid (CAddOut c o D last cs op pr now w (.returned (.int .i64 ((last : Int) + 1))) w5) := by
      obtain ⟨hd, row, T, y, h1, h2, h3⟩ := H.out
      have hlt := H.out.lt
      have hc5 : w5.heap[c]? = w.heap[c]? := hf5.away c hlt hd
      have hy : y = pv t := by
        have h4 := cell_of_row _ _ o _ _ _ h1
        rw [hc] at h4
        rw [h2] at h4
        exact (Option.some.inj h4).symm
      subst hy
      refine ⟨rfl, hf5.mono fun i hi => .inr hi, fun row' T' hr => ⟨pv t, ?_⟩, fun hh => ?_, row, T, pv t, hc5.trans h1, h2, .inr ⟨t, rfl, ?_⟩⟩
      · rw [hc5, hr]
        rw [hr] at h1
        simp only [Option.some.injEq, Obj.cells.injEq] at h1
        obtain ⟨rfl, rfl, _⟩ := h1
        congr 2
        obtain ⟨h4, h5⟩ := Array.getElem?_eq_some_iff.1 h2
        apply Array.ext_getElem?
        intro k
        rw [Array.getElem?_setIfInBounds]
        split
        · rename_i e; subst e; simp [h4, h5]
        · rfl
      · rcases hh with hh | hh
        · exact hd hh
        · omega
      · rw [HU.out] at ho5
        exact ho5
    clear hf5 ho5 HOUT
    go_wp2
    go_ret
    exact HFIN.out
set_option maxHeartbeats 2000000 in
theorem cadd_high (c o : Nat) (D : Nat → Prop) (last : Nat) (cs : List Cl) (op pr now : Int) (w : World) (h : CsAt w c o D last cs) (hl : last + 1 ≤ 8000) (hop : In64 op) (hnow : In64 now) (hcut : ¬ now ≤ 1099511627776) :
    Calls Try.prog 6 #[.pointer (some ⟨c, o, none⟩), .int .i64 op, .int .i64 pr, .int .i64 now] w (CAddOut c o D last cs op pr now w) := by
  have hm1 : -9223372036854775808 ≤ now := hnow.1
  have HU : Hid (1099511627782 = untilOf now) := by show _ = _; unfold untilOf; omega
  have HADD : Hid (∀ D' t w1, OAt w1 t D' last cs → Calls Try.prog 10 #[.pointer (some ⟨t, 0, none⟩), .agg #[.int .i64 0, .int .i64 op, .int .i64 pr, .int .i64 1099511627782]] w1 (OAddOut t D' last cs op pr 1099511627782 w1)) := fun D' t w1 h1 => oadd_any t D' last cs op pr 1099511627782 0 w1 h1 hl hop
  have H := Lib.hid h
  obtain ⟨y, hc, hf, ⟨rfl, rfl, rfl⟩ | ⟨t, rfl, ho⟩⟩ := h.cell
  · have hlt := h.lt
    have HLT := Lib.hid hlt
    obtain ⟨w3, hw3⟩ : ∃ w3, w3 = ((w.alloc (.map #[] 0)).alloc (.map #[] 0)).alloc (.cells #[.int .i64 0, .map (some w.heap.size), .map (some (w.heap.size + 1)), .slice none 0 0] 43) := ⟨_, rfl⟩
    have hx : w.Extends w3 := by rw [hw3]; exact Gr.ext_trans (Gr.ext_trans (ext_alloc _ _) (ext_alloc _ _)) (ext_alloc _ _)
    have hc3 : (((w.alloc (.map #[] 0)).alloc (.map #[] 0)).alloc (.cells #[.int .i64 0, .map (some w.heap.size), .map (some (w.heap.size + 1)), .slice none 0 0] 43)).cell? ⟨c, o, none⟩ = some (.pointer none) := by rw [← hw3]; exact hx.cell_of hc
    have hf3 : (((w.alloc (.map #[] 0)).alloc (.map #[] 0)).alloc (.cells #[.int .i64 0, .map (some w.heap.size), .map (some (w.heap.size + 1)), .slice none 0 0] 43)).frozen? ⟨c, o, none⟩ = false := by rw [← hw3, hx.frozen ⟨c, o, none⟩ hlt]; exact hf
    have HS3 : Hid (w3.heap.size = w.heap.size + 3) := by
      show _ = _
      rw [hw3]; simp
    have HO3 : Hid (OAt w3 (w.heap.size + 1 + 1) (fun i => i = w.heap.size + 1 + 1 ∨ i = w.heap.size ∨ i = w.heap.size + 1) 0 []) := by
      refine OX.made ?_ ?_ ?_ (by omega)
      · rw [hw3]
        have := heap_alloc_new ((w.alloc (.map #[] 0)).alloc (.map #[] 0)) (.cells #[.int .i64 0, .map (some w.heap.size), .map (some (w.heap.size + 1)), .slice none 0 0] 43)
        simpa using this
      · rw [hw3]
        exact ((BM.new true w).ext (ext_alloc _ _)).ext (ext_alloc _ _)
      · rw [hw3]
        have := BM.new false (w.alloc (.map #[] 0))
        rw [World.size_alloc] at this
        exact this.ext (ext_alloc _ _)
    have HX := Lib.hid hx
    clear h hnow hop hl hx
    have hk1 := run_mkmap 38
    have hk2 := run_mkmap 39
    go_enter Try.func6, Try.ntmps6
    go_upto_region 5 with fail
    rw [← hw3]
    generalize hw4 : World.setCell w3 _ _ = w4
    have HG4 : Hid (w3.grownBy w4 (some c)) := by rw [← hw4]; exact grown_setCell (grown_refl _ _) o _
    have hnc : ∀ i, (i = w.heap.size + 1 + 1 ∨ i = w.heap.size ∨ i = w.heap.size + 1) → i ≠ c := fun i hi => by have := HLT.out; omega
    have HO4 := Lib.hid (HO3.out.away (w' := w4) (D' := fun i => i = c) (Fr.grown HG4.out fun g e => by rw [← Option.some.inj e]) hnc)
    have hc4 : w4.cell? ⟨c, o, none⟩ = some (pv (w.heap.size + 1 + 1)) := by
      rw [← hw4]
      exact World.cell?_setCell_same _ _ _ (HX.out.cell_of hc)
    have hrow : ∀ row T, w.heap[c]? = some (.cells row T (0, 0)) → w4.heap[c]? = some (.cells (row.setIfInBounds o (pv (w.heap.size + 1 + 1))) T (0, 0)) := fun row T hr => by
      rw [← hw4]
      exact heap_setCell_same _ _ _ _ _ _ ((HX.out.block c HLT.out).trans hr)
    have HROW := Lib.hid hrow
    have HNC := Lib.hid hnc
    have HOUT := Lib.hid (HADD.out _ _ w4 HO4.out)
    generalize hs : w.heap.size + 1 + 1 = t at *
    have HSZ : Hid (w4.heap.size = t + 1 ∧ w.heap.size < t) := ⟨by rw [← hw4, World.size_setCell]; have := HS3.out; omega, by omega⟩
    have HD0 : Hid (∀ i, (i = t ∨ i = w.heap.size ∨ i = w.heap.size + 1) → w.heap.size ≤ i ∧ i < w4.heap.size) := fun i hi => by have := HSZ.out; omega
    clear hw3 hc3 hf3 hk1 hk2 hw4 hrow hnc hs hlt
    generalize hD0 : (fun i => i = t ∨ i = w.heap.size ∨ i = w.heap.size + 1) = D0 at *
    have HD0' : Hid (∀ i, D0 i → w.heap.size ≤ i ∧ i < w4.heap.size) := fun i hi => HD0.out i (by rw [← hD0] at hi; exact hi)
    have HNC' : Hid (∀ i, D0 i → i ≠ c) := fun i hi => HNC.out i (by rw [← hD0] at hi; exact hi)
    clear HD0 HNC hD0
    go_wp2_with fail
    refine HOUT.out.mono ?_
    rintro e w5 ⟨rfl, hf5, ho5⟩
    have HFIN : Hid (CAddOut c o D 0 [] op pr now w (.returned (.int .i64 (((0 : Nat) : Int) + 1))) w5) := by
      have hf : Fr (fun i => i = c ∨ D i) w w5 := by
        refine ((Fr.ext HX.out).trans (D' := fun i => i = c) (Fr.grown HG4.out fun g e => by rw [← Option.some.inj e]) (fun i _ e => .inl e)).trans hf5 fun i hi hd => ?_
        have := HD0'.out i hd
        omega
      obtain ⟨hd, row, T, y, h1, h2, _⟩ := H.out
      have hc5 : w5.heap[c]? = w4.heap[c]? := hf5.away c (by have := HSZ.out; have := HLT.out; omega) (fun hd => HNC'.out c hd rfl)
      refine ⟨rfl, hf, fun row T hr => ⟨_, hc5.trans (HROW.out row T hr)⟩, fun hh => ?_, _, T, pv t, hc5.trans (HROW.out row T h1), ?_, .inr ⟨t, rfl, ?_⟩⟩
      · rcases hh with hh | hh
        · exact hd hh
        · have := HLT.out; omega
      · have := (Array.getElem?_eq_some_iff.1 h2).1
        simp [this]
      · rw [HU.out] at ho5
        refine ho5.mono fun i hi => .inr ?_
        have hs5 := hf5.size
        rcases hi with hi | hi
        · have := HD0'.out i hi; omega
        · have := HSZ.out; omega
    clear hf5 ho5 HOUT hc4
    go_wp2
    go_ret
    exact HFIN.out
  · have HOUT := Lib.hid (HADD.out D t w ho)
    clear h hnow hop hl ho HADD
    go_enter Try.func6, Try.ntmps6
    go_wp2_with fail
    refine HOUT.out.mono ?_
    rintro e w5 ⟨rfl, hf5, ho5⟩
    have HFIN : Hid (CAddOut c o D last cs op pr now w (.returned (.int .i64 ((last : Int) + 1))) w5) := by
      obtain ⟨hd, row, T, y, h1, h2, h3⟩ := H.out
      have hlt := H.out.lt
      have hc5 : w5.heap[c]? = w.heap[c]? := hf5.away c hlt hd
      have hy : y = pv t := by
        have h4 := cell_of_row _ _ o _ _ _ h1
        rw [hc] at h4
        rw [h2] at h4
        exact (Option.some.inj h4).symm
      subst hy
      refine ⟨rfl, hf5.mono fun i hi => .inr hi, fun row' T' hr => ⟨pv t, ?_⟩, fun hh => ?_, row, T, pv t, hc5.trans h1, h2, .inr ⟨t, rfl, ?_⟩⟩
      · rw [hc5, hr]
        rw [hr] at h1
        simp only [Option.some.injEq, Obj.cells.injEq] at h1
        obtain ⟨rfl, rfl, _⟩ := h1
        congr 2
        obtain ⟨h4, h5⟩ := Array.getElem?_eq_some_iff.1 h2
        apply Array.ext_getElem?
        intro k
        rw [Array.getElem?_setIfInBounds]
        split
        · rename_i e; subst e; simp [h4, h5]
        · rfl
      · rcases hh with hh | hh
        · exact hd hh
        · omega
      · rw [HU.out] at ho5
        exact ho5
    clear hf5 ho5 HOUT
    go_wp2
    go_ret
    exact HFIN.out
theorem cadd_any (c o : Nat) (D : Nat → Prop) (last : Nat) (cs : List Cl) (op pr now : Int) (w : World) (h : CsAt w c o D last cs) (hl : last + 1 ≤ 8000) (hop : In64 op) (hnow : In64 now) :
    Calls Try.prog 6 #[.pointer (some ⟨c, o, none⟩), .int .i64 op, .int .i64 pr, .int .i64 now] w (CAddOut c o D last cs op pr now w) := by
  by_cases hc : now ≤ 1099511627776
  · exact cadd_low c o D last cs op pr now w h hl hop hnow hc
  · exact cadd_high c o D last cs op pr now w h hl hop hnow hc
end Go.Proofs.Ytiiidbomfkjfgaa
