/- Calls: Take. -/
import Derived.Test.YtiiidbomfkjfgaaCalCs
import Derived.Handy
import Derived.Laws.ResultCell
import Derived.Laws.Tables
namespace Go.Proofs.Ytiiidbomfkjfgaa
set_option maxRecDepth 20000
open Go.RowKit Go.Deep Go.Maps
set_option linter.unusedVariables false
abbrev CVL (x : Cl) : Value := .agg (CCL x).toArray
def CTakeOut (c o : Nat) (D : Nat → Prop) (last : Nat) (cs : List Cl) (tag pr : Int) (w : World) (e : Ending) (w' : World) : Prop :=
  (∃ x cs', x.t = tag ∧ x.p = pr ∧ (x :: cs').Perm cs ∧ e = .returned (.tuple #[CVL x, .bool true]) ∧ Fr D w w' ∧ CsAt w' c o D last cs') ∨
  ((∀ x ∈ cs, x.t = tag → x.p ≠ pr) ∧ e = .returned (.tuple #[CVL zc, .bool false]) ∧ w.Extends w')
theorem CL_info4 : (Try.prog.info? 30).map (·.size) = some 4 := by kernel_rfl
theorem CCL_one (x : Cl) : (CCL x).toArray.all (·.oneCell') = true := all_oneCell_toArray fun v hv => by
  simp only [CCL, List.mem_cons, List.not_mem_nil, or_false] at hv
  rcases hv with rfl | rfl | rfl | rfl <;> rfl
theorem results_call {fn : Func} {p u : Tmp} (h : fn.results = #[.cell p 30, .tmp u]) (tmps : Array Value) (w : World) (g : Nat) (T : TypeId) (fr : Nat × Nat) (x : Cl) (b : Value)
    (hp : tmps.getD p undef = .pointer (some ⟨g, 0, none⟩)) (hu : tmps.getD u undef = b) (hg : w.heap[g]? = some (.cells (CCL x).toArray T fr)) :
    (results fn tmps).run Try.prog w = .ok (.tuple #[CVL x, b]) w := by
  rw [results_cell_tmp h, hp, hu]
  have hl := run_loadVar_row (P := Try.prog) w g T 30 (CCL x).toArray fr _ hg Try.underlying30 rfl CL_info4
  simp only [asAddr, Sem.run_pure, Result.andThen_ok, hl]
theorem grown_row (w : World) (g : Nat) (cs : Array Value) : w.grownBy (w.setRow g cs) (some g) := ⟨rfl, rfl, rfl, by simp [World.setRow], fun k _ hk => setRow_other w g k cs (fun e => hk (by rw [e]))⟩
theorem CsAt.took {w w' : World} {c o t last mt mo : Nat} {D : Nat → Prop} {cs' : List Cl} {v : Value} {q : List Wt} {ft fo : Int → Option Nat} {sl : Int → List Int} (hd : ¬ D c) (hr : ∃ row T, w.heap[c]? = some (.cells row T (0, 0)) ∧ row[o]? = some (pv t))
    (hf : Fr D w w') (hx : OX w' t D last mt mo v q ft fo sl) (hp : (q.map Wt.c).Perm cs') : CsAt w' c o D last cs' := by
  obtain ⟨row, T, h1, h2⟩ := hr
  exact ⟨hd, row, T, pv t, (hf.away c (Array.getElem?_eq_some_iff.1 h1).1 hd).trans h1, h2, .inr ⟨t, rfl, mt, mo, v, q, ft, fo, sl, hx, hp⟩⟩
set_option maxHeartbeats 2000000 in
theorem ctake_any (c o : Nat) (D : Nat → Prop) (last : Nat) (cs : List Cl) (tag pr : Int) (w : World) (h : CsAt w c o D last cs) (htag : In64 tag) :
    Calls Try.prog 7 #[.pointer (some ⟨c, o, none⟩), .int .i64 tag, .int .i64 pr] w (CTakeOut c o D last cs tag pr w) := by
  have HLN : Hid (∀ w1, w.Extends w1 → Calls Try.prog 8 #[.pointer (some ⟨c, o, none⟩)] w1 fun e w' => e = .returned (.int .i64 ((cs.length : Nat) : Int)) ∧ w1 = w') := fun w1 hx => clen_any c o D last cs w1 (h.ext hx)
  have HLT := Lib.hid h.lt
  obtain ⟨y, hc, hf, ⟨rfl, rfl, rfl⟩ | ⟨t, rfl, ho⟩⟩ := h.cell
  · have HP : Hid (∀ w1, w.Extends w1 → CTakeOut c o D 0 [] tag pr w (.returned (.tuple #[CVL zc, .bool false])) w1) := fun w1 hx => .inr ⟨fun x hx => (nomatch hx), rfl, hx⟩
    clear h hc hf
    simp only [List.length_nil, Int.cast_ofNat_Int] at HLN
    go_enter Try.func7, Try.ntmps7
    go_upto_region 1 with fail
    generalize hw1 : World.alloc w _ = w1
    have HX1 : Hid (w.Extends w1) := by rw [← hw1]; exact ext_alloc _ _
    have hb1 : w1.heap[w.heap.size]? = some (.cells #[.int .i64 0, .int .i64 0, .int .i64 0, .int .i64 0] 30 (0, 0)) := by rw [← hw1]; exact heap_alloc_new _ _
    obtain ⟨s, hs⟩ : ∃ s, w.heap.size = s := ⟨_, rfl⟩
    have HSS : Hid (w.heap.size ≤ s) := Nat.le_of_eq hs
    have HSE := Lib.hid hs
    rw [hs] at hb1 ⊢
    clear hw1 hs
    go_wp2_with fail
    refine (HLN.out w1 HX1.out).mono ?_
    rintro e w2 ⟨rfl, rfl⟩
    go_wp2_with (refine wpList_store_row rfl 30 (.tmp 6) (.tmp 13) rfl s (CCL zc).toArray rfl rfl 30 _ hb1 CL_info4 rfl (CCL_one zc) ?_)
    have hb2 : (w1.setRow s (CCL zc).toArray).heap[s]? = some (.cells (CCL zc).toArray 30 (0, 0)) := setRow_heap w1 s _ _ _ _ hb1
    have HF := Lib.hid (HP.out (w1.setRow s (CCL zc).toArray) (ext_grown HX1.out (grown_row _ _ _) HSS.out))
    generalize World.setRow w1 s _ = w2 at *
    go_wp2
    refine bodyPost_ret (v := .tuple #[CVL zc, .bool false]) (results_call rfl _ _ s _ _ zc _ rfl rfl hb2) rfl HF.out
  · obtain ⟨mt, mo, v, q, ft, fo, sl, hX, hp⟩ := ho
    have HX := Lib.hid hX
    have HPM := Lib.hid hp
    have HC := Lib.hid hc
    have HNR : Hid (¬ D c ∧ ∃ row T, w.heap[c]? = some (.cells row T (0, 0)) ∧ row[o]? = some (pv t)) := by
      obtain ⟨hd, row, T, y, h1, h2, _⟩ := h
      refine ⟨hd, row, T, h1, ?_⟩
      rw [cell_of_row _ _ _ _ _ _ h1, h2] at hc
      rw [h2]; exact hc
    have HMQ : Hid (∀ x ∈ cs, ∃ y ∈ q, y.c = x) := fun x hx => List.mem_map.1 (hp.mem_iff.2 hx)
    have HT := Lib.hid htag
    obtain ⟨n, hn⟩ : ∃ n, cs.length = n := ⟨_, rfl⟩
    have HN := Lib.hid hn
    rw [hn] at HLN
    clear h hc hf hX hp htag hn
    by_cases h0 : n = 0
    · subst h0
      have HP : Hid (∀ w1, w.Extends w1 → CTakeOut c o D last cs tag pr w (.returned (.tuple #[CVL zc, .bool false])) w1) := fun w1 hx => .inr ⟨fun x hx => (by rw [List.eq_nil_of_length_eq_zero HN.out] at hx; cases hx), rfl, hx⟩
      simp only [Int.cast_ofNat_Int] at HLN
      go_enter Try.func7, Try.ntmps7
      go_upto_region 1 with fail
      generalize hw1 : World.alloc w _ = w1
      have HX1 : Hid (w.Extends w1) := by rw [← hw1]; exact ext_alloc _ _
      have hb1 : w1.heap[w.heap.size]? = some (.cells #[.int .i64 0, .int .i64 0, .int .i64 0, .int .i64 0] 30 (0, 0)) := by rw [← hw1]; exact heap_alloc_new _ _
      obtain ⟨s, hs⟩ : ∃ s, w.heap.size = s := ⟨_, rfl⟩
      have HSS : Hid (w.heap.size ≤ s) := Nat.le_of_eq hs
      have HSE := Lib.hid hs
      rw [hs] at hb1 ⊢
      clear hw1 hs
      go_wp2_with fail
      refine (HLN.out w1 HX1.out).mono ?_
      rintro e w2 ⟨rfl, rfl⟩
      go_wp2_with (refine wpList_store_row rfl 30 (.tmp 6) (.tmp 13) rfl s (CCL zc).toArray rfl rfl 30 _ hb1 CL_info4 rfl (CCL_one zc) ?_)
      have hb2 : (w1.setRow s (CCL zc).toArray).heap[s]? = some (.cells (CCL zc).toArray 30 (0, 0)) := setRow_heap w1 s _ _ _ _ hb1
      have HF := Lib.hid (HP.out (w1.setRow s (CCL zc).toArray) (ext_grown HX1.out (grown_row _ _ _) HSS.out))
      generalize World.setRow w1 s _ = w2 at *
      go_wp2
      refine bodyPost_ret (v := .tuple #[CVL zc, .bool false]) (results_call rfl _ _ s _ _ zc _ rfl rfl hb2) rfl HF.out
    · have hn0 : ((n : Int) == 0) = false := by
        have : ¬ (n : Int) = 0 := by omega
        simpa using this
      go_enter Try.func7, Try.ntmps7
      go_upto_region 1 with fail
      generalize hw1 : World.alloc w _ = w1
      have HX1 : Hid (w.Extends w1) := by rw [← hw1]; exact ext_alloc _ _
      have hb1 : w1.heap[w.heap.size]? = some (.cells #[.int .i64 0, .int .i64 0, .int .i64 0, .int .i64 0] 30 (0, 0)) := by rw [← hw1]; exact heap_alloc_new _ _
      obtain ⟨s, hs⟩ : ∃ s, w.heap.size = s := ⟨_, rfl⟩
      have HSS : Hid (w.heap.size ≤ s) := Nat.le_of_eq hs
      have HSE := Lib.hid hs
      rw [hs] at hb1 ⊢
      clear hw1 hs
      go_wp2_with fail
      refine (HLN.out w1 HX1.out).mono ?_
      rintro e w2 ⟨rfl, rfl⟩
      have hc1 : w1.cell? ⟨c, o, none⟩ = some (pv t) := HX1.out.cell_of HC.out
      have hX1 := HX.out.p.ext HX1.out
      have hct := hX1.cells.2.1
      have hk : (Instr.lookup 38 (.map (some mt)) (.int .i64 tag) true).run Try.prog w1 = .ok (.tuple #[bval true (ft tag), .bool (ft tag).isSome]) w1 := hX1.tags.look_ok Try.underlying38 (wptr_zero _) HT.out
      have HX1P := Lib.hid hX1
      clear hX1
      cases hft : ft tag with
      | none =>
        have HP : Hid (∀ w1, w.Extends w1 → CTakeOut c o D last cs tag pr w (.returned (.tuple #[CVL zc, .bool false])) w1) := fun w1 hx => .inr ⟨fun x hx e => (by
          obtain ⟨y, hy, rfl⟩ := HMQ.out x hx
          have := (HX.out.r.tag tag y.b).2 ⟨y, hy, e, rfl⟩
          rw [hft] at this; cases this), rfl, hx⟩
        rw [hft] at hk
        replace hk : (Instr.lookup 38 (.map (some mt)) (.int .i64 tag) true).run Try.prog w1 = .ok (.tuple #[.pointer none, .bool false]) w1 := hk
        clear hft
        go_wp2_with (refine wpList_store_row rfl 30 (.tmp 6) (.tmp 37) rfl s (CCL zc).toArray rfl rfl 30 _ hb1 CL_info4 rfl (CCL_one zc) ?_)
        have hb2 : (w1.setRow s (CCL zc).toArray).heap[s]? = some (.cells (CCL zc).toArray 30 (0, 0)) := setRow_heap w1 s _ _ _ _ hb1
        have HF := Lib.hid (HP.out (w1.setRow s (CCL zc).toArray) (ext_grown HX1.out (grown_row _ _ _) HSS.out))
        generalize World.setRow w1 s _ = w2 at *
        go_wp2
        refine bodyPost_ret (v := .tuple #[CVL zc, .bool false]) (results_call rfl _ _ s _ _ zc _ rfl rfl hb2) rfl HF.out
      | some b =>
        rw [hft] at hk
        replace hk : (Instr.lookup 38 (.map (some mt)) (.int .i64 tag) true).run Try.prog w1 = .ok (.tuple #[pv b, .bool true]) w1 := hk
        obtain ⟨y, hy, hyt, hyb⟩ := (HX.out.r.tag tag b).1 hft
        obtain ⟨i, hi, hiy⟩ := List.mem_iff_getElem.1 hy
        have hgd : q.getD i zw = y := by rw [List.getD_eq_getElem?_getD, List.getElem?_eq_getElem hi]; exact hiy
        have hwy : WAt w1 y.b y.c i := by have := HX1P.out.que.each i hi; rwa [hgd] at this
        have hpc := hwy.cells.2.2.1
        rw [hyb] at hpc
        have HYT := Lib.hid hyt
        have HYB := Lib.hid hyb
        have HYM := Lib.hid hy
        have HX1 : Hid (w.Extends w1) := HX1.out
        have HOV : Hid (∀ wz, w1.Extends wz → Calls Try.prog 11 #[.pointer (some ⟨t, 0, none⟩), pv b] wz (OOverOut t (OD t mt mo v q fo) last mt mo q y wz)) := fun wz hz => by
          have := oover_any t (OD t mt mo v q fo) last mt mo i v q ft fo sl wz ⟨HX1P.out.ext hz, HX.out.r, HX.out.hp, fun _ h => h⟩ hi
          rw [hgd, hyb] at this
          exact this
        clear hft hy hyt hyb hi hiy hgd hwy
        by_cases hpp : y.c.p = pr
        · have hne : (pr != pr) = false := by simp
          have HPP := Lib.hid hpp
          rw [hpp] at hpc
          have HBS : Hid (w1.heap[s]? = some (.cells #[.int .i64 0, .int .i64 0, .int .i64 0, .int .i64 0] 30 (0, 0))) := hb1
          have hov := HOV.out w1 (Gr.ext_refl _)
          have HO2 := Lib.hid hov
          clear hpp HOV hb1 hov
          go_wp2_with fail
          refine HO2.out.mono ?_
          rintro e w3 ⟨rfl, hf3, ⟨k3, hk3⟩, v3, q3, ft3, fo3, sl3, hX3, hp3⟩
          have HD0 : Hid (∀ i, OD t mt mo v q fo i → D i ∧ i < s) := fun i hi => ⟨HX.out.d i hi, by have := HX.out.p.odlt hi; have := HSE.out; omega⟩
          generalize OD t mt mo v q fo = D0 at *
          have hns : ¬ D0 s := fun hd => absurd (HD0.out s hd).2 (Nat.lt_irrefl _)
          have hb3 : w3.heap[s]? = some (.cells #[.int .i64 0, .int .i64 0, .int .i64 0, .int .i64 0] 30 (0, 0)) := (hf3.away s (Array.getElem?_eq_some_iff.1 HBS.out).1 hns).trans HBS.out
          rw [HYB.out] at hk3
          obtain ⟨k0, k1, k2, k4, _⟩ := hk3.cells
          obtain ⟨xv, hxv⟩ : ∃ xv, xv = (w3.setRow s (CCL y.c).toArray) := ⟨_, rfl⟩
          have hb4 : xv.heap[s]? = some (.cells (CCL y.c).toArray 30 (0, 0)) := by rw [hxv]; exact setRow_heap w3 s _ _ _ _ hb3
          have HFIN : Hid (CTakeOut c o D last cs tag pr w (.returned (.tuple #[CVL y.c, .bool true])) xv) := by
            have hg : w3.grownBy xv (some s) := by rw [hxv]; exact grown_row _ _ _
            have hfr : Fr D w xv := ((Fr.ext HX1.out).trans hf3 fun i _ hi => (HD0.out i hi).1).trans (D' := fun i => i = s) (Fr.grown hg fun g e => by rw [← Option.some.inj e]) fun i hi e => by have := HSE.out; omega
            refine .inl ⟨y.c, q3.map Wt.c, HYT.out, HPP.out, ?_, rfl, hfr, ?_⟩
            · have := (hp3.map Wt.c).trans HPM.out
              rwa [List.map_cons] at this
            · refine CsAt.took HNR.out.1 HNR.out.2 hfr ((hX3.away (w' := xv) (D' := fun i => i = s) (Fr.grown hg fun g e => by rw [← Option.some.inj e]) fun i hi e => hns (e ▸ hi)).mono fun i hi => (HD0.out i hi).1) (List.Perm.refl _)
          have HXV := Lib.hid hxv
          clear hX3 hp3 hf3 hk3 HD0 hns HX1P HO2 hxv
          go_wp2_with (refine wpList_store_row rfl 30 (.tmp 6) (.tmp 47) rfl s (CCL y.c).toArray rfl rfl 30 _ hb3 CL_info4 rfl (CCL_one y.c) ?_)
          rw [← HXV.out]
          go_wp2
          refine bodyPost_ret (v := .tuple #[CVL y.c, .bool true]) (results_call rfl _ _ s _ _ y.c _ rfl rfl hb4) rfl HFIN.out
        · have hne : (y.c.p != pr) = true := by simpa [bne] using hpp
          have HP : Hid (∀ w1, w.Extends w1 → CTakeOut c o D last cs tag pr w (.returned (.tuple #[CVL zc, .bool false])) w1) := fun w1 hx => .inr ⟨fun x hx e => (by
            obtain ⟨y', hy', rfl⟩ := HMQ.out x hx
            rw [HX.out.r.tags y' hy' y HYM.out (by rw [e, HYT.out])]
            exact hpp), rfl, hx⟩
          go_wp2_with (refine wpList_store_row rfl 30 (.tmp 6) (.tmp 37) rfl s (CCL zc).toArray rfl rfl 30 _ hb1 CL_info4 rfl (CCL_one zc) ?_)
          have hb2 : (w1.setRow s (CCL zc).toArray).heap[s]? = some (.cells (CCL zc).toArray 30 (0, 0)) := setRow_heap w1 s _ _ _ _ hb1
          have HF := Lib.hid (HP.out (w1.setRow s (CCL zc).toArray) (ext_grown HX1.out (grown_row _ _ _) HSS.out))
          generalize World.setRow w1 s _ = w2 at *
          go_wp2
          refine bodyPost_ret (v := .tuple #[CVL zc, .bool false]) (results_call rfl _ _ s _ _ zc _ rfl rfl hb2) rfl HF.out
end Go.Proofs.Ytiiidbomfkjfgaa
