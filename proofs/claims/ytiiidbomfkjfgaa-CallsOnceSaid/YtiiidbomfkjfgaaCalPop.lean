/- A queue of calls: Pop, container/heap.Remove, drop. -/
import Derived.Test.YtiiidbomfkjfgaaCalPush
namespace Go.Proofs.Ytiiidbomfkjfgaa
set_option maxRecDepth 20000
open Go.RowKit Go.Deep
set_option linter.unusedVariables false
theorem wqElem : Try.prog.elem 41 = 45 := by kernel_rfl
theorem wqSlice : Try.prog.underlying 41 = some (.slice (Try.prog.elem 41)) := by rw [wqElem]; exact wqUnder
theorem wqSize (w : World) : (sizeOf (Try.prog.elem 41)).run Try.prog w = .ok 1 w := by
  rw [wqElem]
  obtain ⟨i, hi, _, h, _⟩ := wqParts
  simp [sizeOf, typeInfo, hi, h]
theorem cutw_to (g len cap h : Nat) (hh : h ≤ cap) (w' : World) : (Instr.slice 41 (.slice (some ⟨g, 0, none⟩) len cap) none (some (.int .i64 (h : Nat))) none).run Try.prog w' = .ok (.slice (some ⟨g, 0, none⟩) h cap) w' := by
  rw [run_slice_h (P := Try.prog) w' 41 _ len cap wqSlice .i64 ((h : Nat) : Int) (by omega) (by omega), wqSize]
  simp only [Result.andThen_ok, Int.toNat_natCast, sliced, Nat.sub_zero, Nat.zero_mul]
  split <;> simp [Addr.add_mid]
def WPopOut (t o : Nat) (l : List Wt) (x : Wt) (y : Value) (v : Value) (w : World) (e : Ending) (w' : World) : Prop :=
  e = .returned y ∧ ∃ v', WQ w' t o v' l ∧ WW w t o v [] v' w' ∧ (∃ k, WAt w' x.b x.c k) ∧ v'.ownBlock = v.ownBlock
theorem getD_snoc (l : List Wt) (x : Wt) : (l ++ [x]).getD l.length zw = x := by simp
/-- The last one goes. -/
theorem WQ.pop {w : World} {t o g n cap : Nat} {l : List Wt} {x : Wt} (h : WQ w t o (.slice (some ⟨g, 0, none⟩) (n + 1) cap) (l ++ [x])) (hn : l.length = n) :
    WPopOut t o l x (.iface 45 (pv x.b)) (.slice (some ⟨g, 0, none⟩) (n + 1) cap) w (.returned (.iface 45 (pv x.b))) ((w.setCell ⟨g, n, none⟩ (.pointer none)).setCell ⟨t, o, none⟩ (.slice (some ⟨g, 0, none⟩) n cap)) := by
  have hgt : g ≠ t := fun e => h.ne (by rw [e]; rfl)
  have hget : ∀ k, k < l.length → (l ++ [x]).getD k zw = l.getD k zw := fun k hk => by rw [List.getD_eq_getElem?_getD, List.getElem?_append_left hk, ← List.getD_eq_getElem?_getD]
  have hnb : ∀ i, i ∈ bsOf (l ++ [x]) → i ≠ g ∧ i ≠ t := fun i hi => ⟨fun e => by
    subst e
    obtain ⟨cs, h1⟩ := each_type h.each hi
    obtain ⟨_, cs', h2⟩ := h.own.block (g := i) rfl
    rw [h1] at h2
    simp only [Option.some.injEq, Obj.cells.injEq] at h2
    exact absurd h2.2.1 (by decide), fun e => h.nt (e ▸ hi)⟩
  have hkeep : ∀ i, i ≠ g → i ≠ t → ((w.setCell ⟨g, n, none⟩ (.pointer none)).setCell ⟨t, o, none⟩ (.slice (some ⟨g, 0, none⟩) n cap)).heap[i]? = w.heap[i]? := fun i h1 h2 => by
    rw [Below.heap_setCell _ _ _ _ h2, Below.heap_setCell _ _ _ _ h1]
  have hw : ∀ k, k < (l ++ [x]).length → WAt ((w.setCell ⟨g, n, none⟩ (.pointer none)).setCell ⟨t, o, none⟩ (.slice (some ⟨g, 0, none⟩) n cap)) ((l ++ [x]).getD k zw).b ((l ++ [x]).getD k zw).c k := fun k hk => by
    obtain ⟨h1, h2⟩ := hnb _ (bs_get hk)
    exact (h.each k hk).kept (hkeep _ h1 h2)
  obtain ⟨cs, T, h1, h2⟩ := h.row
  have h1' : (w.setCell ⟨g, n, none⟩ (.pointer none)).heap[t]? = some (.cells cs T (0, 0)) := (Below.heap_setCell _ _ _ _ (Ne.symm hgt)).trans h1
  refine ⟨rfl, .slice (some ⟨g, 0, none⟩) n cap, ⟨⟨cs.setIfInBounds o (.slice (some ⟨g, 0, none⟩) n cap), T, heap_setCell_same _ _ _ _ _ _ h1', ?_⟩, ?_, fun k hk => ?_, ?_, fun e => hgt (Option.some.inj e), fun e => h.nt (by simp only [bsOf, List.map_append, List.mem_append]; exact .inl e)⟩, ⟨?_, fun cs' T' h3 => ?_, .inl rfl⟩, ⟨n, ?_⟩, rfl⟩
  · have := (Array.getElem?_eq_some_iff.1 h2).1
    simp [this]
  · rcases h.own.2 with ⟨e, _⟩ | ⟨g', cap', cur, e, hB, hg, hnc, hcm, hcs, htake⟩
    · cases e
    · simp only [Value.slice.injEq, Option.some.injEq, Addr.mk.injEq] at e
      obtain ⟨⟨rfl, _⟩, _, rfl⟩ := e
      rw [List.length_append, List.length_singleton, hn] at hnc htake
      refine ⟨by rw [PL_length, Nat.mul_one], .inr ⟨g, cap, cur.setIfInBounds n (.pointer none), by rw [hn], hB, ?_, by rw [hn]; omega, hcm, by simpa using hcs, ?_⟩⟩
      · rw [Below.heap_setCell _ _ _ _ hgt]
        exact heap_setCell_same _ _ _ _ _ _ hg
      · rw [hn, Nat.mul_one, Array.toList_setIfInBounds, List.take_set_of_le (Nat.le_refl _)]
        have h5 := congrArg (List.take n) htake
        rw [List.take_take, Nat.mul_one, Nat.min_eq_left (by omega), PL_append, List.take_append_of_le_length (by rw [PL_length, hn]; exact Nat.le_refl _), show List.take n (PL l) = PL l from List.take_of_length_le (by rw [PL_length, hn]; exact Nat.le_refl _)] at h5
        exact h5
  · have := hw k (by rw [List.length_append]; omega)
    rwa [hget k hk] at this
  · have := h.nd
    unfold bsOf at this ⊢
    rw [List.map_append, List.nodup_append] at this
    exact this.1
  · exact Fr.set (Fr.set (Fr.refl _ _) (.inr (.inl rfl)) _) (.inl rfl) _
  · exact heap_setCell_same _ _ _ _ _ _ (((Below.heap_setCell w ⟨g, n, none⟩ (.pointer none) t (Ne.symm hgt))).trans h3)
  · have := hw n (by rw [List.length_append, List.length_singleton]; omega)
    have e : (l ++ [x]).getD n zw = x := by rw [← hn, getD_snoc]
    rwa [e] at this
set_option maxHeartbeats 1000000 in
theorem wqpop_any (t o : Nat) (v : Value) (l : List Wt) (x : Wt) (w : World) (h : WQ w t o v (l ++ [x])) (hl : l.length ≤ 9000) :
    Calls Try.prog 60 #[.pointer (some ⟨t, o, none⟩)] w (WPopOut t o l x (.iface 45 (pv x.b)) v w) := by
  obtain ⟨n, hn⟩ : ∃ n, l.length = n := ⟨_, rfl⟩
  have hn1 : (l ++ [x]).length = n + 1 := by rw [List.length_append, List.length_singleton, hn]
  obtain ⟨g, cap, post, rfl, hcap, hgt, hd⟩ := h.array (by omega)
  rw [hn1] at h hcap ⊢
  have HF := Lib.hid (h.pop hn)
  have hca : w.cell? ⟨g, n, none⟩ = some (pv x.b) := by
    have := hd.cell (k := n) (by omega)
    rwa [← hn, getD_snoc, hn] at this
  have hfa := hd.frozen n
  have hcell := h.cell
  have hfr := h.frozen o
  have hcut := cutw_to g (n + 1) cap n (by omega)
  have hnb : n ≤ 9000 := by omega
  have htg : ¬ t = g := fun e => hgt e.symm
  clear h hd hn hn1 hl hgt
  go_enter Try.func60, Try.ntmps60
  go_wp2
  go_ret
  exact HF.out
def WRemOut (t o : Nat) (l : List Wt) (x : Wt) (y : Value) (v : Value) (w : World) (e : Ending) (w' : World) : Prop :=
  e = .returned y ∧ ∃ v' l', (x :: l').Perm l ∧ HM.Heap wlt zw l'.length l' ∧ WQ w' t o v' l' ∧ WW w t o v l v' w' ∧ (∃ k, WAt w' x.b x.c k) ∧ v'.ownBlock = v.ownBlock
theorem perm_lastw {l : List Wt} {n : Nat} (hl : l.length = n + 1) : l = l.take n ++ [l.getD n zw] := by
  apply List.ext_getElem?
  intro k
  rcases Nat.lt_trichotomy k n with h | h | h
  · rw [List.getElem?_append_left (by rw [List.length_take]; omega), List.getElem?_take_of_lt h]
  · subst h
    rw [List.getElem?_append_right (by rw [List.length_take]; omega), List.length_take, show k - min k l.length = 0 by omega, List.getD_eq_getElem?_getD, List.getElem?_eq_getElem (by omega)]
    rfl
  · rw [List.getElem?_eq_none (by omega), List.getElem?_eq_none (by rw [List.length_append, List.length_take, List.length_singleton]; omega)]
/-- What is left to do behind the moves: Pop. -/
theorem WQ.last {w w1 : World} {t o g n cap : Nat} {l l2 : List Wt} {x : Wt} (hq : WQ w1 t o (.slice (some ⟨g, 0, none⟩) (n + 1) cap) l2) (hw : WW w t o (.slice (some ⟨g, 0, none⟩) (n + 1) cap) l (.slice (some ⟨g, 0, none⟩) (n + 1) cap) w1)
    (hp : l2.Perm l) (hl : l.length = n + 1) (hx : l2.getD n zw = x) (hh : HM.Heap wlt zw n l2) (hnb : n ≤ 9000) :
    Calls Try.prog 60 #[.pointer (some ⟨t, o, none⟩)] w1 (WRemOut t o l x (.iface 45 (pv x.b)) (.slice (some ⟨g, 0, none⟩) (n + 1) cap) w) := by
  have hl2 : l2.length = n + 1 := by rw [hp.length_eq, hl]
  have hsplit := perm_lastw hl2
  rw [hx] at hsplit
  have hpm : (x :: l2.take n).Perm l := by
    refine (List.perm_append_singleton _ _).symm.trans ?_
    rw [← hsplit]
    exact hp
  have hht : HM.Heap wlt zw (l2.take n).length (l2.take n) := by
    rw [List.length_take, Nat.min_eq_left (by omega)]
    exact hh.take (Nat.le_refl _)
  refine (wqpop_any t o _ (l2.take n) x w1 (hsplit ▸ hq) (by rw [List.length_take]; omega)).mono ?_
  rintro e w2 ⟨rfl, v', h1, h2, h3⟩
  exact ⟨rfl, v', _, hpm, hht, h1, hw.trans h2 fun i _ h => (nomatch h), h3⟩
set_option maxHeartbeats 1000000 in
theorem whrem_any (t o i : Nat) (v : Value) (l : List Wt) (w : World) (h : WQ w t o v l) (hi : i < l.length) (hl : l.length ≤ 9000) (hh : HM.Heap wlt zw l.length l) :
    Calls Try.prog 21 #[.iface 60 (.pointer (some ⟨t, o, none⟩)), .int .i64 (i : Nat)] w (WRemOut t o l (l.getD i zw) (.iface 45 (pv (l.getD i zw).b)) v w) := by
  obtain ⟨n, hn⟩ : ∃ n, l.length = n + 1 := ⟨l.length - 1, by omega⟩
  obtain ⟨g, cap, post, rfl, hcap, hgt, hd⟩ := h.array (by omega)
  rw [hn] at h hh hl hi ⊢
  have hcell := h.cell
  have hm1 := qm_len hcell
  have hm2 := qm_swap hcell
  have hm3 := fun w1 => qm_pop w1 ⟨t, o, none⟩
  have HM3 := Lib.hid hm3
  have HLN := Lib.hid (wqlen_any (some ⟨g, 0, none⟩) (n + 1) cap w)
  have e1 : ((n + 1 : Nat) : Int) - 1 = (n : Int) := by omega
  have HN := Lib.hid hn
  have HQ := Lib.hid h
  have HD := Lib.hid hd
  have HH := Lib.hid hh
  have hnb : n ≤ 9000 := by omega
  clear hm3 hcap
  by_cases hin : i = n
  · subst hin
    have HPO := Lib.hid (WQ.last h (WW.ext h (Gr.ext_refl w)) (List.Perm.refl _) hn rfl (fun k h0 hk => hh k h0 (by omega)) hnb)
    have hm3 := HM3.out w
    generalize hx : l.getD i zw = x at *
    clear h hd hh hn hx hm2 HQ HD HH hcell
    go_enter Try.func21, Try.ntmps21
    go_wp2_with fail
    refine HLN.out.mono ?_
    rintro e w1 ⟨rfl, rfl⟩
    clear HLN hm1
    go_wp2_with fail
    refine HPO.out.mono ?_
    rintro e w3 h3
    have H3 := Lib.hid h3
    obtain ⟨rfl, _⟩ := h3
    clear HPO hm3
    go_wp2
    go_ret
    exact H3.out
  · have hilt : i < n := by omega
    have HSW := Lib.hid (wqswap_any g (n + 1) cap i n l post w hd hn (by omega) (by omega) hin)
    have HBO : Hid (HM.Bo wlt zw n (HM.swap zw l i n) i) := HM.Bo.start wlt_wk hh hn hilt
    have HLA : Hid ((HM.swap zw l i n).getD n zw = l.getD i zw) := by
      show _ = _
      rw [HM.swap_get l (by omega) (by omega), if_pos rfl]
    have HSL : Hid ((HM.swap zw l i n).length = n + 1) := by
      show _ = _
      rw [HM.swap_length, hn]
    have HPS := Lib.hid (HM.swap_perm (z := zw) l (i := i) (j := n) (by omega) (by omega))
    generalize HM.swap zw l i n = ls at *
    generalize hx : l.getD i zw = x at *
    have hne : ((n : Int) = (i : Int)) = False := by simp; omega
    clear h hd hh hn hx hcell hi
    go_enter Try.func21, Try.ntmps21
    go_wp2_with fail
    refine HLN.out.mono ?_
    rintro e w1 ⟨rfl, rfl⟩
    clear HLN hm1
    go_wp2_with fail
    refine HSW.out.mono ?_
    rintro e w1 ⟨rfl, hd1, hf1⟩
    have HR1 : Hid (ReOut g (n + 1) l post w ls w1) := ⟨HPS.out, hd1, hf1, fun q hq => by
      rw [List.getD_eq_getElem?_getD, List.getD_eq_getElem?_getD, List.getElem?_eq_none (by rw [HSL.out]; exact hq), List.getElem?_eq_none (by rw [HN.out]; exact hq)]⟩
    have HQ1 := Lib.hid (HQ.out.reo HD.out HR1.out)
    have HW1 := Lib.hid (WW.reo HQ.out HR1.out)
    have HDW := Lib.hid (wdown_any t o g cap n (n + 1) i ls post w1 HQ1.out.cell HQ1.out.qd HQ1.out.lt hd1 HSL.out (by omega) (by omega) hilt HBO.out)
    have HD1 := Lib.hid hd1
    clear hd1 hf1 hm2 HSW
    go_wp2_with fail
    refine HDW.out.mono ?_
    rintro e w2 ⟨b, rfl, l2, hr2, hb1, hb2⟩
    have HR2 := Lib.hid hr2
    have HQ2 := Lib.hid (HQ1.out.reo HD1.out hr2)
    have HW2 : Hid (WW w t o (.slice (some ⟨g, 0, none⟩) (n + 1) cap) l (.slice (some ⟨g, 0, none⟩) (n + 1) cap) w2) := HW1.out.trans (WW.reo HQ1.out hr2) fun i _ hd => (bs_perm HPS.out).1 hd
    have HP2 : Hid (l2.Perm l) := hr2.1.trans HPS.out
    have HX2 : Hid (l2.getD n zw = x) := by
      show _ = _
      rw [hr2.2.2.2 n (Nat.le_refl _), HLA.out]
    clear hr2 HDW
    cases b
    · have HUP := Lib.hid (wup_any t o g cap n (n + 1) i l2 post w2 HQ2.out.cell HQ2.out.qd HQ2.out.lt HR2.out.2.1 (by rw [HP2.out.length_eq, HN.out]) (by omega) (by omega) hilt (hb2 rfl))
      clear hb1 hb2
      go_wp2_with fail
      refine HUP.out.mono ?_
      rintro e w3 ⟨rfl, l3, hh3, hr3⟩
      have HPO := Lib.hid (WQ.last (x := x) (HQ2.out.reo HR2.out.2.1 hr3) (HW2.out.trans (WW.reo HQ2.out hr3) fun i _ hd => (bs_perm HP2.out).1 hd) (hr3.1.trans HP2.out) HN.out (by rw [hr3.2.2.2 n (Nat.le_refl _)]; exact HX2.out) hh3 hnb)
      have hm3 := HM3.out w3
      clear hh3 hr3 HUP
      go_wp2_with fail
      refine HPO.out.mono ?_
      rintro e w4 h3
      have H3 := Lib.hid h3
      obtain ⟨rfl, _⟩ := h3
      clear HPO hm3
      go_wp2
      go_ret
      exact H3.out
    · have HPO := Lib.hid (WQ.last (x := x) HQ2.out HW2.out HP2.out HN.out HX2.out (hb1 rfl) hnb)
      have hm3 := HM3.out w2
      clear hb1 hb2
      go_wp2_with fail
      refine HPO.out.mono ?_
      rintro e w4 h3
      have H3 := Lib.hid h3
      obtain ⟨rfl, _⟩ := h3
      clear HPO hm3
      go_wp2
      go_ret
      exact H3.out
def WDropOut (t o : Nat) (l : List Wt) (x : Wt) (v : Value) (w : World) (e : Ending) (w' : World) : Prop := WRemOut t o l x (.tuple #[]) v w e w'
set_option maxHeartbeats 1000000 in
theorem wdrop_any (t o i : Nat) (v : Value) (l : List Wt) (w : World) (h : WQ w t o v l) (hi : i < l.length) (hl : l.length ≤ 9000) (hh : HM.Heap wlt zw l.length l) :
    Calls Try.prog 16 #[.pointer (some ⟨t, o, none⟩), pv (l.getD i zw).b] w (WDropOut t o l (l.getD i zw) v w) := by
  have HP := Lib.hid (whrem_any t o i v l w h hi hl hh)
  have hk := h.each i hi
  have hc4 := hk.cells.2.2.2.2
  clear hk h hi hl hh
  generalize l.getD i zw = x at *
  go_enter Try.func16, Try.ntmps16
  go_wp2_with fail
  refine HP.out.mono ?_
  rintro e w2 h2
  have H2 : Hid (WDropOut t o l x v w (.returned (.tuple #[])) w2) := ⟨rfl, h2.2⟩
  obtain ⟨rfl, _⟩ := h2
  go_wp2
  go_end0
  exact H2.out
end Go.Proofs.Ytiiidbomfkjfgaa
