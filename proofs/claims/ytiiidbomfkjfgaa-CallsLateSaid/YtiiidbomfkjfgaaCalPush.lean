/- A queue of calls: Push, container/heap.Push, add. -/
import Derived.Test.YtiiidbomfkjfgaaCalOwn
import Derived.Deep.DeepCutAuto
namespace Go.Proofs.Ytiiidbomfkjfgaa
set_option maxRecDepth 20000
open Go.RowKit Go.Deep
set_option linter.unusedVariables false
theorem run_assert_w (x : Value) (w : World) : (Instr.typeAssert (.iface 45 x) 20 45 false).run Try.prog w = .ok x w := by
  simp [Instr.typeAssert, run_underlying Try.underlying45]
/-- Block b, a call that waits for a place in this queue. -/
structure Comes (w : World) (t : Nat) (l : List Wt) (x : Wt) : Prop where
  at_ : ∃ k, WAt w x.b x.c k
  no : x.b ∉ bsOf l
  nt : x.b ≠ t
theorem Comes.ext {w w' : World} {t : Nat} {l : List Wt} {x : Wt} (h : Comes w t l x) (hx : w.Extends w') : Comes w' t l x := by
  obtain ⟨k, hk⟩ := h.at_
  exact ⟨⟨k, hk.ext hx⟩, h.no, h.nt⟩
def WPushOut (t o : Nat) (l : List Wt) (x : Wt) (v : Value) (w : World) (e : Ending) (w' : World) : Prop := e = .returned (.tuple #[]) ∧ ∃ v', WQ w' t o v' (l ++ [x]) ∧ WW w t o v (l ++ [x]) v' w'
theorem nodup_snoc {l : List Wt} {x : Wt} (h : (bsOf l).Nodup) (hx : x.b ∉ bsOf l) : (bsOf (l ++ [x])).Nodup := by
  unfold bsOf at *
  rw [List.map_append, List.nodup_append]
  refine ⟨h, by simp, fun a ha b hb => ?_⟩
  simp only [List.map_cons, List.map_nil, List.mem_singleton] at hb
  subst hb
  exact fun e => hx (e ▸ ha)
set_option maxHeartbeats 1000000 in
theorem wqpush_any (t o : Nat) (v : Value) (l : List Wt) (x : Wt) (w : World) (h : WQ w t o v l) (hl : l.length ≤ 9000) (hx : Comes w t l x) :
    Calls Try.prog 61 #[.pointer (some ⟨t, o, none⟩), .iface 45 (pv x.b)] w (WPushOut t o l x v w) := by
  obtain ⟨va, vc, hv⟩ := h.own.slice
  obtain ⟨kx, hk⟩ := hx.at_
  obtain ⟨n, hn⟩ : ∃ n, l.length = n := ⟨_, rfl⟩
  have hnb : n ≤ 9000 := by omega
  rw [hn] at hv
  subst hv
  have hta := run_assert_w (pv x.b)
  have hc0 := h.cell
  have hc4 := hk.cells.2.2.2.2
  have hf4 := hk.frozen 4
  have HBW : Hid (∀ g, (Value.slice va n vc).ownBlock = some g → g ≠ x.b) := fun g hg e => by
    obtain ⟨_, cs, h1⟩ := h.own.block hg
    rw [e, show w.heap[x.b]? = _ from hk] at h1
    simp only [Option.some.injEq, Obj.cells.injEq] at h1
    exact absurd h1.2.1 (by decide)
  have H1 : Hid (WQ (w.setCell ⟨x.b, 4, none⟩ (.int .i64 (n : Nat))) t o (.slice va n vc) l ∧ WAt (w.setCell ⟨x.b, 4, none⟩ (.int .i64 (n : Nat))) x.b x.c n ∧ WW w t o (.slice va n vc) (l ++ [x]) (.slice va n vc) (w.setCell ⟨x.b, 4, none⟩ (.int .i64 (n : Nat)))) := by
    have hne : ∀ i, WD t (.slice va n vc) l i → x.b ≠ i := fun i hi e => by
      rcases hi with rfl | hi | hi
      · exact hx.nt e
      · exact HBW.out i hi e.symm
      · exact hx.no (e ▸ hi)
    refine ⟨h.kept fun i hi => Below.heap_setCell _ _ _ _ (Ne.symm (hne i hi)), hk.put n, ?_⟩
    exact WW.of_fr h (Fr.set (Fr.refl _ _) (.inr (.inr (by simp [bsOf]))) _) (Below.heap_setCell _ _ _ _ (Ne.symm hx.nt))
  have HN := Lib.hid hn
  have HX := Lib.hid hx
  clear h hn hk hx
  go_enter Try.func61, Try.ntmps61
  go_upto_region 2 with fail
  have HA := Lib.hid H1.out.1
  generalize hw1 : World.setCell w _ _ = w1 at *
  have hca := HA.out.cell
  have hfa := HA.out.frozen o
  clear hc0 hc4 hf4 hw1
  go_wp2_with (at_builtin; refine wpList_app_w rfl _ _ rfl _ l rfl (HA.out.own.kept fun g hg => Below.heap_alloc _ _ _ (HA.out.own.block hg).1) _ x rfl (src_one Try.underlying41 _ _ rfl rfl) (by have := HN.out; omega) ?_)
  intro v2 w2 ho hg hnw
  have HFIN : Hid (WPushOut t o l x (.slice va n vc) w (.returned (.tuple #[])) (w2.setCell ⟨t, o, none⟩ v2)) := by
    obtain ⟨hq1, hk1, hw1⟩ := H1.out
    have hg1 : w1.grownBy w2 (Value.slice va n vc).ownBlock := grown_trans (World.grownBy_alloc w1 _ _) hg
    obtain ⟨cs, T, h1, h2⟩ := hq1.row
    have h1' := (hg1.block t hq1.lt (fun e => hq1.ne e.symm)).trans h1
    have hvt : v2.ownBlock ≠ some t := by
      rcases hnw with e | ⟨g, e, h⟩
      · rw [e]; exact hq1.ne
      · intro e'; rw [e] at e'; have := Option.some.inj e'; have := hq1.lt; omega
    have hkeep : ∀ b c k, b < w1.heap.size → b ≠ t → WAt w1 b c k → WAt (w2.setCell ⟨t, o, none⟩ v2) b c k := fun b c k hb hbt hk => by
      refine hk.kept ((Below.heap_setCell _ _ _ _ hbt).trans (hg1.block b hb fun e => ?_))
      obtain ⟨_, cs', h3⟩ := hq1.own.block e.symm
      rw [show w1.heap[b]? = _ from hk] at h3
      simp only [Option.some.injEq, Obj.cells.injEq] at h3
      exact absurd h3.2.1 (by decide)
    have hgt : ∀ i, i < w1.heap.size → (Value.slice va n vc).ownBlock ≠ some i → i ≠ t → (w2.setCell ⟨t, o, none⟩ v2).heap[i]? = w1.heap[i]? := fun i hi hv ht => (Below.heap_setCell _ _ _ _ ht).trans (hg1.block i hi (fun e => hv e.symm))
    refine ⟨rfl, v2, ⟨⟨cs.setIfInBounds o v2, T, heap_setCell_same _ _ _ _ _ _ h1', ?_⟩, ho.kept fun g hg' => Below.heap_setCell _ _ _ _ (fun e => hvt (by rw [hg', e])), fun k hk => ?_, nodup_snoc hq1.nd HX.out.no, hvt, ?_⟩, ?_⟩
    · have := (Array.getElem?_eq_some_iff.1 h2).1
      simp [this]
    · rcases Nat.lt_or_ge k l.length with hk1' | hk1'
      · have e : (l ++ [x]).getD k zw = l.getD k zw := by rw [List.getD_eq_getElem?_getD, List.getElem?_append_left hk1', ← List.getD_eq_getElem?_getD]
        rw [e]
        exact hkeep _ _ _ (hq1.each k hk1').lt (fun e => hq1.nt (e ▸ bs_get hk1')) (hq1.each k hk1')
      · have e : k = l.length := by rw [List.length_append, List.length_singleton] at hk; omega
        subst e
        rw [show (l ++ [x]).getD l.length zw = x by simp, HN.out]
        exact hkeep _ _ _ hk1.lt HX.out.nt hk1
    · simp only [bsOf, List.map_append, List.mem_append, not_or]
      exact ⟨hq1.nt, by simpa using Ne.symm HX.out.nt⟩
    · refine hw1.trans (r' := []) ⟨⟨?_, ?_, ?_, ?_, fun i hi hd => ?_⟩, fun cs' T' h3 => ?_, ?_⟩ (fun i _ h => (nomatch h))
      · exact hg1.os
      · exact hg1.tape
      · exact hg1.output
      · have := hg1.size; simpa using this
      · exact hgt i hi (fun e => hd (.inr (.inl e))) (fun e => hd (.inl e))
      · exact heap_setCell_same _ _ _ _ _ _ ((hg1.block t hq1.lt (fun e => hq1.ne e.symm)).trans h3)
      · rcases hnw with e | ⟨g, e, h⟩
        · exact .inl e
        · exact .inr ⟨g, e, by omega⟩
  have hc2 : w2.cell? ⟨t, o, none⟩ = some (.slice va n vc) ∧ w2.frozen? ⟨t, o, none⟩ = false := by
    have hg1 : w1.grownBy w2 (Value.slice va n vc).ownBlock := grown_trans (World.grownBy_alloc w1 _ _) hg
    obtain ⟨cs, T, h1, h2⟩ := HA.out.row
    have h1' := (hg1.block t HA.out.lt (fun e => HA.out.ne e.symm)).trans h1
    exact ⟨by rw [cell_of_row _ _ _ _ _ _ h1']; exact h2, frozen_of_row _ _ _ _ _ h1'⟩
  obtain ⟨hc2, hf2⟩ := hc2
  obtain ⟨xa, xcp, hx7⟩ := ho.slice
  subst hx7
  clear ho hg hnw H1 HA hca hfa
  generalize (l ++ [x]).length = el at *
  go_wp2
  go_end0
  exact HFIN.out
def WAddOut (t o : Nat) (l : List Wt) (x : Wt) (v : Value) (w : World) (e : Ending) (w' : World) : Prop :=
  e = .returned (.tuple #[]) ∧ ∃ v' l', l'.Perm (l ++ [x]) ∧ HM.Heap wlt zw l'.length l' ∧ WQ w' t o v' l' ∧ WW w t o v (l ++ [x]) v' w'
set_option maxHeartbeats 1000000 in
theorem whpush_any (t o : Nat) (v : Value) (l : List Wt) (x : Wt) (w : World) (h : WQ w t o v l) (hl : l.length ≤ 9000) (hh : HM.Heap wlt zw l.length l) (hx : Comes w t l x) :
    Calls Try.prog 20 #[.iface 60 (.pointer (some ⟨t, o, none⟩)), .iface 45 (pv x.b)] w (WAddOut t o l x v w) := by
  have HP := Lib.hid (wqpush_any t o v l x w h hl hx)
  have HH := Lib.hid hh
  have hm1 := qm_push w ⟨t, o, none⟩
  have HL := Lib.hid hl
  clear h hl hh hx
  go_enter Try.func20, Try.ntmps20
  go_wp2_with fail
  refine HP.out.mono ?_
  rintro e w1 ⟨rfl, v1, hq1, hw1⟩
  obtain ⟨n, hn⟩ : ∃ n, l.length = n := ⟨_, rfl⟩
  have hn1 : (l ++ [x]).length = n + 1 := by rw [List.length_append, List.length_singleton, hn]
  obtain ⟨g, cap, post, rfl, hcap, hgt, hd⟩ := hq1.array (by omega)
  rw [hn1] at hq1 hw1
  have hnb : n ≤ 9000 := by rw [← hn]; exact HL.out
  have hcell := hq1.cell
  have hm2 := qm_len hcell
  have HLN := Lib.hid (wqlen_any (some ⟨g, 0, none⟩) (n + 1) cap w1)
  have HUP := Lib.hid (wup_any t o g cap (n + 1) (n + 1) n (l ++ [x]) post w1 hcell hq1.qd hq1.lt hd hn1 (Nat.le_refl _) (by omega) (by omega) (by
    have := HM.Up.start (x := x) HH.out
    rwa [hn] at this))
  have HQ1 := Lib.hid hq1
  have HW1 := Lib.hid hw1
  have HD1 := Lib.hid hd
  have HN := Lib.hid hn
  have HN1 := Lib.hid hn1
  have e1 : ((n + 1 : Nat) : Int) - 1 = (n : Int) := by omega
  clear hm1 HP hq1 hw1 hd hn hn1 hcell hcap
  go_wp2_with fail
  refine HLN.out.mono ?_
  rintro e w2 ⟨rfl, rfl⟩
  go_wp2_with fail
  refine HUP.out.mono ?_
  rintro e w2 ⟨rfl, l', hh, hr⟩
  have HF : Hid (WAddOut t o l x v w (.returned (.tuple #[])) w2) := by
    have hq2 := HQ1.out.reo HD1.out hr
    refine ⟨rfl, _, l', hr.1, by rw [hr.len, HN1.out]; exact hh, hq2, HW1.out.trans (WW.reo HQ1.out hr) fun i _ h => h⟩
  clear hh hr HUP HLN hm2
  go_wp2
  go_end0
  exact HF.out
set_option maxHeartbeats 1000000 in
theorem wadd_any (t o : Nat) (v : Value) (l : List Wt) (x : Wt) (w : World) (h : WQ w t o v l) (hl : l.length ≤ 9000) (hh : HM.Heap wlt zw l.length l) (hx : Comes w t l x) :
    Calls Try.prog 15 #[.pointer (some ⟨t, o, none⟩), pv x.b] w (WAddOut t o l x v w) := by
  have HP : Hid (∀ w1, w.Extends w1 → Calls Try.prog 20 #[.iface 60 (.pointer (some ⟨t, o, none⟩)), .iface 45 (pv x.b)] w1 (WAddOut t o l x v w)) := fun w1 hx1 =>
    (whpush_any t o v l x w1 (h.ext hx1) hl hh (hx.ext hx1)).mono fun e w2 ⟨he, v', l', h1, h2, h3, h4⟩ => ⟨he, v', l', h1, h2, h3, (WW.ext h hx1).trans h4 fun i _ h => h⟩
  have HP1 := Lib.hid (HP.out w (Gr.ext_refl w))
  clear h hl hh hx
  go_enter Try.func15, Try.ntmps15
  go_wp2_with fail
  refine HP1.out.mono ?_
  rintro e w2 h2
  have H2 := Lib.hid h2
  obtain ⟨rfl, _⟩ := h2
  go_wp2
  go_end0
  exact H2.out
end Go.Proofs.Ytiiidbomfkjfgaa
