/- In one text: StoIns, LogMath, StoMath, StoMap. -/
import Derived.Lib.Overlaps
import Derived.Laws.Externs
import Derived.Maps.OwnSet
import Derived.Maps.RangeWalk
import Derived.DeepKeys4
import Derived.Test.YtdbdnfjgmdkneaaMA1
import Derived.Test.YtdbdnfjgmdkneaaMA2
import Derived.Test.YtdbdnfjgmdkneaaMA3
namespace Go.Proofs.Ytdbdnfjgmdkneaa
set_option maxRecDepth 20000
open Go.RowKit Go.Deep
set_option linter.unusedVariables false
/-- The record at i of a row; what is answered lies in v's array or in a new one. -/
def insAt (ps : List Pr) (i : Nat) (p : Pr) : List Pr := ps.take i ++ p :: ps.drop i
def InsOut (w : World) (v : Value) (qs : List Pr) (e : Ending) (w' : World) : Prop := ∃ a c, e = .returned (.slice a qs.length c) ∧ OwnR w' (.slice a qs.length c) qs ∧ w.grownBy w' v.ownBlock ∧ ((Value.slice a qs.length c).ownBlock = v.ownBlock ∨ ∃ g, (Value.slice a qs.length c).ownBlock = some g ∧ w.heap.size ≤ g)
theorem insAt_length (ps : List Pr) (i : Nat) (p : Pr) (h : i ≤ ps.length) : (insAt ps i p).length = ps.length + 1 := by simp [insAt]; omega
theorem insAt_slc {ps : List Pr} {i : Nat} {p : Pr} (h : ∀ q ∈ ps, Slc q) (hp : Slc p) : ∀ q ∈ insAt ps i p, Slc q := fun q hq => by
  unfold insAt at hq
  rw [List.mem_append, List.mem_cons] at hq
  rcases hq with hq | rfl | hq
  · exact h q (List.mem_of_mem_take hq)
  · exact hp
  · exact h q (List.mem_of_mem_drop hq)
theorem insAt_at {ps : List Pr} {i : Nat} {p : Pr} (h : i ≤ ps.length) (k : Nat) : (insAt ps i p).getD k zp = if k < i then ps.getD k zp else if k = i then p else ps.getD (k - 1) zp := by
  unfold insAt
  have hl : (ps.take i).length = i := by rw [List.length_take]; omega
  rw [List.getD_eq_getElem?_getD]
  split
  · rename_i hk
    rw [List.getElem?_append_left (by omega), List.getElem?_take, if_pos hk, ← List.getD_eq_getElem?_getD]
  · rw [List.getElem?_append_right (by omega), hl]
    split
    · rename_i hk; subst hk; simp
    · obtain ⟨j, hj⟩ : ∃ j, k - i = j + 1 := ⟨k - i - 1, by omega⟩
      rw [hj, List.getElem?_cons_succ, List.getElem?_drop, ← List.getD_eq_getElem?_getD]
      congr 1; omega
/-- copy of records onto a place of an array. -/
theorem Arr.copied {w : World} {g cap n a n' : Nat} {f : Nat → Pr} (h : Arr w g cap n f) (ps : List Pr) (hs : ∀ p ∈ ps, Slc p) (h1 : a + ps.length ≤ cap) (h2 : n' ≤ cap) (h3 : ∀ k, k < n' → k < n ∨ (a ≤ k ∧ k < a + ps.length)) (x : Addr) (hx : ∀ j v, (flat ps)[j]? = some v → w.cell? (x.add j) = some v) :
    ∃ w', (∀ ty dLen dCap sLen sCap, Nat.min sLen dLen = ps.length → (Builtin.copy_ #[47, 47] ty #[.slice (some ⟨g, a * 10, none⟩) dLen dCap, .slice (some x) sLen sCap]).run Try.prog w = .ok (goInt ps.length) w') ∧
      Arr w' g cap n' (fun k => if a ≤ k ∧ k < a + ps.length then ps.getD (k - a) zp else f k) ∧ w.grownBy w' (some g) := by
  obtain ⟨cur, c1, c2, _⟩ := id h
  have hfl := flat_length ps
  refine ⟨_, fun ty dLen dCap sLen sCap hm => ?_, h.over ps n' h1 h2 h3 c1, grown_setRow _ _ _⟩
  have := run_copy_wide (P := Try.prog) w 47 47 ty 28 10 g (a * 10) dLen dCap x sLen sCap cur.toArray _ (flat ps) recUnder recsize c1 (by rw [hfl, hm]) hx (by rw [hfl]; simp; omega) (slc_flat hs)
  rw [hm] at this
  exact this
theorem Arr.seg_cells {w : World} {g cap n : Nat} {f : Nat → Pr} (h : Arr w g cap n f) (a k : Nat) (ha : a + k ≤ n) : ∀ j v, (flat (seg f a k))[j]? = some v → w.cell? ((⟨g, a * 10, none⟩ : Addr).add j) = some v := fun j v hv => by
  rw [Addr.add_mid]
  have hj : j < k * 10 := by
    have := (List.getElem?_eq_some_iff.1 hv).1
    rwa [flat_length, seg_length] at this
  have e : j = j / 10 * 10 + j % 10 := by omega
  rw [e, flat_at _ _ _ (by rw [seg_length]; omega) (by omega), seg_at _ _ _ _ (by omega)] at hv
  have := h.range (k := a + j / 10) (by omega) (j % 10) v hv
  rw [show a * 10 + j = (a + j / 10) * 10 + j % 10 by omega]
  exact this
/-- A record alone in a block: the variadic argument. -/
theorem one_cells {w : World} {b : Nat} {p : Pr} (hb : w.rangeAt b 0 (p.1.cells p.2)) : ∀ j v, (flat [p])[j]? = some v → w.cell? ((⟨b, 0, none⟩ : Addr).add j) = some v := fun j v hv => by
  rw [Addr.add_mid]
  have e : flat [p] = p.1.cells p.2 := by simp [flat]
  rw [e] at hv
  exact hb j v hv
/-- slices.overlaps of the one record's slice and of the array's. -/
theorem apart_any {w : World} {b g : Nat} {csb csg : Array Value} {T : TypeId} (hb : w.heap[b]? = some (.cells csb T (0, 0))) (hg : w.heap[g]? = some (.cells csg 28 (0, 0))) (hk : csg.size ≠ 0) (hne : b ≠ g) (o lb cb : Nat) :
    (callFunc 112 #[.slice (some ⟨b, 0, none⟩) 1 1, .slice (some ⟨g, o, none⟩) lb cb]).run Try.prog w = .ok (.value (.bool false)) w := by
  rw [run_callFunc_extern Try.func112 (by kernel_rfl) (by kernel_rfl) (by kernel_rfl) (e := Extern.SlicesOverlaps.overlaps #[47, 47] #[4]) (by kernel_rfl),
    Lib.run_overlaps_apart w 47 4 28 recUnder 10 (fun w => by obtain ⟨i, hi, _, hs, _⟩ := info_parts recinfo; simp [sizeOf, typeInfo, hi, hs]) ⟨b, 0, none⟩ ⟨g, o, none⟩ 1 1 lb cb hne T 28 csb.size csg.size (by simp [World.shape?, hb]) (by simp [World.shape?, hg]) hk (frozen_of_row _ _ _ _ _ hb) (frozen_of_row _ _ _ _ _ hb)]
  rfl
/-- At the end. -/
theorem ins_end (v : Value) (ps : List Pr) (b : Nat) (p : Pr) (w : World) (hv : OwnR w v ps) (hl : ps.length ≤ 1000) (hb : w.rangeAt b 0 (p.1.cells p.2)) (hp : Slc p) :
    Calls Try.prog 106 #[v, .int .i64 ((ps.length : Nat) : Int), .slice (some ⟨b, 0, none⟩) 1 1] w (InsOut w v (insAt ps ps.length p)) := by
  obtain ⟨ti, hti, htz, hts, htb⟩ := recInfo10
  have HSRC : Hid (Src Try.prog 10 47 (.slice (some ⟨b, 0, none⟩) 1 1) 1 (flat [p]) w) := Src.ofSlice w recUnder ⟨b, 0, none⟩ 1 1 (flat [p]) (by rw [flat_length]; rfl) (one_cells hb) (slc_flat (by simpa using hp))
  have HPOST : Hid (∀ v' w', w'.ownsRow 0 28 10 v' (ps.length + 1) (flat ps ++ flat [p]) → w.grownBy w' v.ownBlock → (v'.ownBlock = v.ownBlock ∨ ∃ g, v'.ownBlock = some g ∧ w.heap.size ≤ g) → ∃ a c, v' = .slice a (ps.length + 1) c ∧ InsOut w v (insAt ps ps.length p) (.returned v') w') := fun v' w' ho hg hn => by
    have e : insAt ps ps.length p = ps ++ [p] := by simp [insAt]
    have hl : (ps ++ [p]).length = ps.length + 1 := by simp
    have hR : OwnR w' v' (ps ++ [p]) := ⟨by rw [hl, flat_append]; exact ho, fun q hq => by
      rcases List.mem_append.1 hq with hq | hq
      · exact hv.2 q hq
      · rw [List.mem_singleton] at hq; subst hq; exact hp⟩
    obtain ⟨a, c, rfl⟩ := hR.slice
    rw [hl] at hR ⊢
    exact ⟨a, c, rfl, by rw [e]; exact ⟨a, c, by rw [hl], by rw [hl]; exact hR, hg, by rw [hl] at *; exact hn⟩⟩
  have HOWN := Lib.hid hv.1
  have hnc : ∃ a c, v = .slice a ps.length c ∧ ps.length ≤ c ∧ c ≤ 9223372036854775807 := by
    rcases hv.1.2 with ⟨rfl, h0⟩ | ⟨g, cap, cur, rfl, _, _, h1, h2, _⟩
    · exact ⟨_, _, by rw [h0], by omega, by omega⟩
    · exact ⟨_, _, rfl, h1, by unfold maxLen at h2; omega⟩
  obtain ⟨a, c, rfl, hnc⟩ := hnc
  clear hv hb hp
  generalize insAt ps ps.length p = qs at *
  generalize flat ps = fps at *
  generalize ps.length = n at *
  rcases Nat.eq_or_lt_of_le hnc.1 with hcn | hcn
  · subst hcn
    go_enter Try.func106, Try.ntmps106
    go_wp2_with (at_builtin; refine wpList_append_own_src3 _ rfl _ _ 47 47 rfl 0 28 ti (Rc.zero.val (.slice none 0 0)) 10 96 recUnder hti htz hts htb rfl _ _ _ rfl HOWN.out _ 1 (flat [p]) rfl HSRC.out (by unfold maxLen; omega) (by omega) (Nat.zero_le _) (fun _ => True) (fun _ _ _ _ _ _ _ _ => trivial) (fun _ _ => trivial) (fun _ _ => trivial) ?_)
    intro v' w' ho hg hn _
    obtain ⟨a', c', rfl, HP⟩ := HPOST.out v' w' ho hg hn
    have HP := Lib.hid HP
    clear ho hg hn HPOST HSRC HOWN
    go_wp2
    go_ret
    exact HP.out
  · have hcn' : ¬ c = n := by omega
    go_enter Try.func106, Try.ntmps106
    go_wp2_with (at_builtin; refine wpList_append_own_src3 _ rfl _ _ 47 47 rfl 0 28 ti (Rc.zero.val (.slice none 0 0)) 10 96 recUnder hti htz hts htb rfl _ _ _ rfl HOWN.out _ 1 (flat [p]) rfl HSRC.out (by unfold maxLen; omega) (by omega) (Nat.zero_le _) (fun _ => True) (fun _ _ _ _ _ _ _ _ => trivial) (fun _ _ => trivial) (fun _ _ => trivial) ?_)
    intro v' w' ho hg hn _
    obtain ⟨a', c', rfl, HP⟩ := HPOST.out v' w' ho hg hn
    have HP := Lib.hid HP
    clear ho hg hn HPOST HSRC HOWN
    go_wp2
    go_ret
    exact HP.out
set_option maxHeartbeats 1000000 in
/-- There is room: in place. -/
theorem ins_room (g cap n i : Nat) (ps : List Pr) (b : Nat) (p : Pr) (T : TypeId) (w : World) (hv : OwnR w (.slice (some ⟨g, 0, none⟩) n cap) ps) (hl : n ≤ 1000) (hi : i < n) (hroom : n + 1 ≤ cap) (hb : w.heap[b]? = some (.cells (p.1.cells p.2).toArray T (0, 0))) (hbg : b ≠ g) (hp : Slc p) :
    Calls Try.prog 106 #[.slice (some ⟨g, 0, none⟩) n cap, .int .i64 i, .slice (some ⟨b, 0, none⟩) 1 1] w (InsOut w (.slice (some ⟨g, 0, none⟩) n cap) (insAt ps i p)) := by
  obtain ⟨harr, hn⟩ := hv.arr
  have hcm : cap ≤ 9223372036854775807 := by
    obtain ⟨cur, _, _, _, h4, _⟩ := harr
    unfold maxLen at h4
    omega
  have hov : ∀ lb cb, (callFunc 112 #[.slice (some ⟨b, 0, none⟩) 1 1, .slice (some ⟨g, (i + 1) * 10, none⟩) lb cb]).run Try.prog w = .ok (.value (.bool false)) w := fun lb cb => by
    obtain ⟨cur, h1, h2, _⟩ := harr
    exact apart_any hb h1 (by rw [List.size_toArray]; omega) hbg _ _ _
  have hrb : ∀ w' : World, w'.heap[b]? = w.heap[b]? → w'.rangeAt b 0 (p.1.cells p.2) := fun w' e j v hj => by
    rw [cell_of_row _ _ _ _ _ _ (e.trans hb), List.getElem?_toArray, Nat.zero_add]; exact hj
  have hblt : b < w.heap.size := (Array.getElem?_eq_some_iff.1 hb).1
  have hs1 : ∀ q ∈ seg (fun k => ps.getD k zp) i (n - i), Slc q := fun q hq => by
    obtain ⟨j, hj, rfl⟩ := List.mem_map.1 hq
    rw [List.mem_range] at hj
    exact hv.2 _ (getD_mem (by omega))
  have hd : Arr w.drew g cap n (fun k => ps.getD k zp) := harr.ext (Gr.ext_drew (Gr.ext_refl w))
  obtain ⟨w1, hc1, ha1, hg1⟩ := hd.copied (a := i + 1) (n' := n + 1) (seg (fun k => ps.getD k zp) i (n - i)) hs1 (by rw [seg_length]; omega) hroom (fun k hk => by rw [seg_length]; omega) ⟨g, i * 10, none⟩ (hd.seg_cells i (n - i) (by omega))
  rw [seg_length] at hc1
  have hb1 : w1.heap[b]? = w.heap[b]? := hg1.block b hblt (by simpa using hbg)
  obtain ⟨w2, hc2, ha2, hg2⟩ := ha1.copied (a := i) (n' := n + 1) [p] (by simpa using hp) (by simp; omega) hroom (fun k hk => .inl hk) ⟨b, 0, none⟩ (one_cells (hrb w1 hb1))
  rw [show ([p] : List Pr).length = 1 from rfl] at hc2
  have HP : Hid (InsOut w (.slice (some ⟨g, 0, none⟩) n cap) (insAt ps i p) (.returned (.slice (some ⟨g, 0, none⟩) (n + 1) cap)) w2) := by
    have e := insAt_length ps i p (by omega)
    rw [← hn] at e
    refine ⟨some ⟨g, 0, none⟩, cap, by rw [e], ?_, grown_trans (grown_trans (grown_drew (grown_refl _ _)) hg1) hg2, .inl rfl⟩
    rw [e]
    refine ha2.own (Nat.le_refl _) e (fun k hk => ?_) (insAt_slc hv.2 hp)
    rw [insAt_at (by omega), seg_length, show ([p] : List Pr).length = 1 from rfl]
    by_cases h1 : k < i
    · rw [if_neg (by omega), if_neg (by omega), if_pos h1]
    · by_cases h2 : k = i
      · rw [if_pos (by omega), if_neg (by omega), if_pos h2, h2, Nat.sub_self]; rfl
      · rw [if_neg (by omega), if_pos (by omega), if_neg (by omega), if_neg h2, seg_at _ _ _ _ (by omega)]
        congr 1; omega
  have hcp1 := hc1 3 (n - i) (cap - (i + 1)) (n + 1 - i) (cap - i) (by simp only [Nat.min_def]; split <;> omega)
  have hcp2 := hc2 3 (n + 1 - i) (cap - i) 1 1 (by simp only [Nat.min_def]; split <;> omega)
  obtain ⟨o1, hf1, ho1⟩ := cutr_from g (n + 1) cap (i + 1) (by omega) hroom
  obtain ⟨o2, hf2, ho2⟩ := cutr_from g (n + 1) cap i (by omega) hroom
  obtain rfl : o1 = (i + 1) * 10 := by omega
  obtain rfl : o2 = i * 10 := by omega
  rw [show ((i + 1 : Nat) : Int) = (i : Int) + 1 by omega] at hf1
  have HF1 := Lib.hid hf1
  have HF2 := Lib.hid hf2
  have hw1 : IntKind.i64.wrap ((i : Int) + 1) = (i : Int) + 1 := by rw [IntKind.wrap_i64]; omega
  have hw2 : IntKind.i64.wrap ((n : Int) + 1) = (n : Int) + 1 := by rw [IntKind.wrap_i64]; omega
  have k1 : (0 : Int) ≤ (i : Int) + 1 := by omega
  have k2 : ¬ cap = i + 1 := by omega
  have k3 : ¬ cap = i := by omega
  have k4 : ¬ cap = 0 := by omega
  have k5 : ¬ ((i : Nat) : Int) = (n : Int) := by omega
  have k6 : ¬ ((cap : Nat) : Int) < (n : Int) + 1 := by omega
  have k7 : (n : Int) + 1 ≤ (cap : Int) := by omega
  have k8 : (0 : Int) ≤ (n : Int) + 1 := by omega
  have k9 : (i : Int) + 1 ≤ (n : Int) + 1 := by omega
  have k10 : (i : Int) ≤ (n : Int) + 1 := by omega
  clear harr hn hv hb hrb hs1 hd hc1 ha1 hg1 hc2 ha2 hg2 hb1 hf1 hf2 ho1 ho2 hblt
  go_enter Try.func106, Try.ntmps106
  go_wp2_with fail
  refine Gr.region 8 [(false,0),(false,1),(false,2),(false,3),(false,4),(false,5),(false,6),(false,7)] (by kernel_rfl) (by kernel_rfl) (fun d _ _ _ _ h => by cases d <;> exact h) ?_
  simp only [Gr.pick, List.getElem?_cons_zero, List.getElem?_cons_succ, List.drop_succ_cons, List.drop_zero]
  generalize w.drew = wd at *
  iterate 4
    refine Gr.walk_t ?_ (Or.inl ⟨by rfl, ?_⟩) ?_
    rotate_left
    · intro w' hw'
      clear hw'
      go_simp
      try with_reducible rfl
    simp only [Act.put, List.setIfInBounds_toArray, List.set_cons_zero, List.set_cons_succ]
  refine Gr.walk_t ?_ (Or.inl ⟨by rfl, ?_⟩) ?_
  rotate_left
  · intro w' hw'
    have hs1 := HF1.out w'
    clear hw'
    go_simp
    try with_reducible rfl
  simp only [Act.put, List.setIfInBounds_toArray, List.set_cons_zero, List.set_cons_succ]
  iterate 2
    refine Gr.walk_t ?_ (Or.inl ⟨by rfl, ?_⟩) ?_
    rotate_left
    · intro w' hw'
      clear hw'
      go_simp
      try with_reducible rfl
    simp only [Act.put, List.setIfInBounds_toArray, List.set_cons_zero, List.set_cons_succ]
  refine Gr.walk_t ?_ (Or.inl ⟨by rfl, ?_⟩) ?_
  rotate_left
  · intro w' hw'
    have hs2 := HF2.out w'
    clear hw'
    go_simp
    try with_reducible rfl
  simp only [Act.put, List.setIfInBounds_toArray, List.set_cons_zero, List.set_cons_succ]
  refine Gr.walk_nil ?_
  go_wp2
  go_ret
  exact HP.out
theorem Arr.fresh {w : World} {g cap n i q : Nat} {f : Nat → Pr} (h : Arr w g cap n f) (hs : ∀ k, k < n → Slc (f k)) (hi : i ≤ n) (hq : 0 < q) (hc : cap < i + q) (hm : i + q ≤ 2000) :
    ∃ w1 cap', (∀ ty, (Builtin.append_ #[47, 3] ty #[.slice (some ⟨g, 0, none⟩) i cap, .int .i64 (q : Nat)]).run Try.prog w = .ok (.slice (some ⟨w.heap.size, 0, none⟩) (i + q) cap') w1) ∧ Arr w1 w.heap.size cap' i f ∧ w.Extends w1 ∧ i + q ≤ cap' ∧ cap' ≤ 9223372036854775807 ∧ w.heap.size < w1.heap.size := by
  obtain ⟨ti, hti, htz, hts, htb⟩ := recInfo10
  have hS := h.src hs 0 i cap (by omega)
  have hge := grownCap_ge w (i + q) cap 28
  have hcm : grownCap w (i + q) cap 28 ≤ maxLen := grownCap_le_maxLen w (i + q) cap 28 (by unfold maxLen; omega)
  have hz10 : (Rc.zero.val (.slice none 0 0)).cells.size = 10 := rfl
  have hfl : (flat (seg f 0 i)).length = i * 10 := by rw [flat_length, seg_length]
  refine ⟨_, grownCap w (i + q) cap 28, fun ty => run_append_zeros (P := Try.prog) w 47 3 ty 28 ti (Rc.zero.val (.slice none 0 0)) .i64 .i64 recUnder Try.underlying3 hti htz (some ⟨g, 0, none⟩) i cap q (flat (seg f 0 i)) (by rw [hts]; exact hS.cellsD) hq (by omega) hc (by omega) (growslice_fits (by omega) (by rw [htb]; omega)) (by rw [htb]; omega), ?_, Gr.ext_trans (Gr.ext_drew (Gr.ext_refl w)) (ext_alloc _ _), hge, by unfold maxLen at hcm; omega, by simp⟩
  refine ⟨(flat (seg f 0 i)) ++ ((Builtin.zeroCells (Rc.zero.val (.slice none 0 0)).cells q).toList ++ (Builtin.zeroCells (Rc.zero.val (.slice none 0 0)).cells (grownCap w (i + q) cap 28 - (i + q))).toList), ?_, ?_, by omega, hcm, fun k hk j hj => ?_⟩
  · have := heap_alloc_new w.drew (.cells ((flat (seg f 0 i)).toArray ++ (Builtin.zeroCells (Rc.zero.val (.slice none 0 0)).cells q ++ Builtin.zeroCells (Rc.zero.val (.slice none 0 0)).cells (grownCap w (i + q) cap 28 - (i + q)))) 28)
    refine this.trans ?_
    congr 2
    apply Array.ext'
    simp
  · simp only [List.length_append, Array.length_toList, size_zeroCells, hz10, hfl]; omega
  · rw [List.getElem?_append_left (by omega), flat_at _ _ _ (by rw [seg_length]; exact hk) hj, seg_at _ _ _ _ hk, Nat.zero_add]
set_option maxHeartbeats 1000000 in
/-- There is none: a new array. -/
theorem ins_grow (g n i : Nat) (ps : List Pr) (b : Nat) (p : Pr) (T : TypeId) (w : World) (hv : OwnR w (.slice (some ⟨g, 0, none⟩) n n) ps) (hl : n ≤ 1000) (hi : i < n) (hb : w.heap[b]? = some (.cells (p.1.cells p.2).toArray T (0, 0))) (hp : Slc p) :
    Calls Try.prog 106 #[.slice (some ⟨g, 0, none⟩) n n, .int .i64 i, .slice (some ⟨b, 0, none⟩) 1 1] w (InsOut w (.slice (some ⟨g, 0, none⟩) n n) (insAt ps i p)) := by
  obtain ⟨harr, hn⟩ := hv.arr
  obtain ⟨q, hq⟩ : ∃ q, i + q = n + 1 := ⟨n + 1 - i, by omega⟩
  have hrb : ∀ w' : World, w'.heap[b]? = w.heap[b]? → w'.rangeAt b 0 (p.1.cells p.2) := fun w' e j v hj => by
    rw [cell_of_row _ _ _ _ _ _ (e.trans hb), List.getElem?_toArray, Nat.zero_add]; exact hj
  have hblt : b < w.heap.size := (Array.getElem?_eq_some_iff.1 hb).1
  have hsl : ∀ k, k < n → Slc (ps.getD k zp) := fun k hk => hv.2 _ (getD_mem (by omega))
  obtain ⟨w1, cap, hap, ha1, hx1, hc1, hc2, hsz⟩ := harr.fresh (i := i) (q := q) hsl (by omega) (by omega) (by omega) (by omega)
  rw [hq] at hap hc1
  have hb1 : w1.heap[b]? = w.heap[b]? := hx1.block b hblt
  obtain ⟨w2, hcp2, ha2, hg2⟩ := ha1.copied (a := i) (n' := i + 1) [p] (by simpa using hp) (by simp; omega) (by omega) (fun k hk => by simp; omega) ⟨b, 0, none⟩ (one_cells (hrb w1 hb1))
  rw [show ([p] : List Pr).length = 1 from rfl] at hcp2
  have hs1 : ∀ r ∈ seg (fun k => ps.getD k zp) i (n - i), Slc r := fun r hr => by
    obtain ⟨j, hj, rfl⟩ := List.mem_map.1 hr
    rw [List.mem_range] at hj
    exact hsl _ (by omega)
  have hlt : g < w.heap.size := harr.lt
  have hg2d : w2.drew.heap[g]? = w.heap[g]? := (hg2.block g (Nat.lt_trans hlt hsz) (by simp; omega)).trans (hx1.block g hlt)
  have hd : Arr w2.drew g n n (fun k => ps.getD k zp) := harr.kept hg2d
  have ha2d : Arr w2.drew w.heap.size cap (i + 1) _ := ha2.kept rfl
  obtain ⟨w3, hcp3, ha3, hg3⟩ := ha2d.copied (a := i + 1) (n' := n + 1) (seg (fun k => ps.getD k zp) i (n - i)) hs1 (by rw [seg_length]; omega) hc1 (fun k hk => by rw [seg_length]; omega) ⟨g, i * 10, none⟩ (hd.seg_cells i (n - i) (by omega))
  rw [seg_length] at hcp3
  have HP : Hid (InsOut w (.slice (some ⟨g, 0, none⟩) n n) (insAt ps i p) (.returned (.slice (some ⟨w.heap.size, 0, none⟩) (n + 1) cap)) w3) := by
    have e := insAt_length ps i p (by omega)
    rw [← hn] at e
    have hgg : w.grownBy w3 none := by
      have h1 : w.Extends w3 := (hx1.grown (grown_trans (grown_drew hg2) hg3) (fun k hk => by have := Option.some.inj hk; omega))
      exact grown_below (Gr.below_of h1) (Nat.le_refl _)
    refine ⟨some ⟨w.heap.size, 0, none⟩, cap, by rw [e], ?_, ⟨hgg.os, hgg.tape, hgg.output, hgg.size, fun i hi _ => hgg.block i hi (by simp)⟩, .inr ⟨w.heap.size, rfl, Nat.le_refl _⟩⟩
    rw [e]
    refine ha3.own (Nat.le_refl _) e (fun k hk => ?_) (insAt_slc hv.2 hp)
    rw [insAt_at (by omega), seg_length, show ([p] : List Pr).length = 1 from rfl]
    by_cases h1 : k < i
    · rw [if_neg (by omega), if_neg (by omega), if_pos h1]
    · by_cases h2 : k = i
      · rw [if_neg (by omega), if_pos (by omega), if_neg (by omega), if_pos h2, h2, Nat.sub_self]; rfl
      · rw [if_pos (by omega), if_neg (by omega), if_neg h2, seg_at _ _ _ _ (by omega)]
        congr 1; omega
  have hcq2 := hcp2 3 (n + 1 - i) (cap - i) 1 1 (by simp only [Nat.min_def]; split <;> omega)
  have hcq3 := hcp3 3 (n - i) (cap - (i + 1)) (n - i) (n - i) (by simp only [Nat.min_def]; split <;> omega)
  obtain ⟨o1, hf1, ho1⟩ := cutr_from w.heap.size (n + 1) cap (i + 1) (by omega) hc1
  obtain ⟨o2, hf2, ho2⟩ := cutr_from g n n i (by omega) (Nat.le_refl _)
  obtain rfl : o1 = (i + 1) * 10 := by omega
  obtain rfl : o2 = i * 10 := by omega
  rw [show ((i + 1 : Nat) : Int) = (i : Int) + 1 by omega] at hf1
  have HF1 := Lib.hid hf1
  have HF2 := Lib.hid hf2
  have HAP := Lib.hid (hap 47)
  have hw1 : IntKind.i64.wrap ((i : Int) + 1) = (i : Int) + 1 := by rw [IntKind.wrap_i64]; omega
  have hw2 : IntKind.i64.wrap ((n : Int) + 1) = (n : Int) + 1 := by rw [IntKind.wrap_i64]; omega
  have hw3 : IntKind.i64.wrap ((n : Int) + 1 - (i : Int)) = ((q : Nat) : Int) := by rw [IntKind.wrap_i64]; omega
  have k1 : (0 : Int) ≤ (i : Int) + 1 := by omega
  have k2 : ¬ cap = i + 1 := by omega
  have k3 : ¬ cap = i := by omega
  have k4 : ¬ n = 0 := by omega
  have k5 : ¬ ((i : Nat) : Int) = (n : Int) := by omega
  have k6 : (n : Int) < (n : Int) + 1 := by omega
  have k8 : (0 : Int) ≤ (n : Int) + 1 := by omega
  have k9 : (i : Int) + 1 ≤ (n : Int) + 1 := by omega
  have k10 : (i : Int) ≤ (n : Int) + 1 := by omega
  have k11 : ¬ n = i := by omega
  clear harr hn hv hb hrb hs1 hd ha1 hap hcp2 ha2 hg2 hb1 hf1 hf2 ho1 ho2 hblt hsl hq hx1 hlt hg2d ha2d hcp3 ha3 hg3 hsz
  generalize w.heap.size = G at *
  go_enter Try.func106, Try.ntmps106
  go_wp2_with (at_builtin; refine wpList_append_run1 _ rfl _ _ 47 3 rfl _ _ rfl rfl _ _ HAP.out ?_)
  refine Gr.region 8 [(false,0),(false,1),(false,2),(false,3),(false,4),(false,5),(false,6),(false,7)] (by kernel_rfl) (by kernel_rfl) (fun d _ _ _ _ h => by cases d <;> exact h) ?_
  simp only [Gr.pick, List.getElem?_cons_zero, List.getElem?_cons_succ, List.drop_succ_cons, List.drop_zero]
  generalize w2.drew = wd at *
  iterate 4
    refine Gr.walk_t ?_ (Or.inl ⟨by rfl, ?_⟩) ?_
    rotate_left
    · intro w' hw'
      clear hw'
      go_simp
      try with_reducible rfl
    simp only [Act.put, List.setIfInBounds_toArray, List.set_cons_zero, List.set_cons_succ]
  refine Gr.walk_t ?_ (Or.inl ⟨by rfl, ?_⟩) ?_
  rotate_left
  · intro w' hw'
    have hs1 := HF1.out w'
    clear hw'
    go_simp
    try with_reducible rfl
  simp only [Act.put, List.setIfInBounds_toArray, List.set_cons_zero, List.set_cons_succ]
  iterate 2
    refine Gr.walk_t ?_ (Or.inl ⟨by rfl, ?_⟩) ?_
    rotate_left
    · intro w' hw'
      clear hw'
      go_simp
      try with_reducible rfl
    simp only [Act.put, List.setIfInBounds_toArray, List.set_cons_zero, List.set_cons_succ]
  refine Gr.walk_t ?_ (Or.inl ⟨by rfl, ?_⟩) ?_
  rotate_left
  · intro w' hw'
    have hs2 := HF2.out w'
    clear hw'
    go_simp
    try with_reducible rfl
  simp only [Act.put, List.setIfInBounds_toArray, List.set_cons_zero, List.set_cons_succ]
  refine Gr.walk_nil ?_
  go_wp2
  go_ret
  exact HP.out
end Go.Proofs.Ytdbdnfjgmdkneaa
namespace Go.Proofs.Ytdbdnfjgmdkneaa
set_option maxRecDepth 20000
set_option linter.unusedVariables false
namespace LM
/-- How many bytes pieces have in a log. -/
def size : List (List Nat) → Nat
  | [] => 0
  | p :: l => 2 + p.length + size l
theorem size_append : ∀ (a b : List (List Nat)), size (a ++ b) = size a + size b
  | [], b => by simp [size]
  | p :: a, b => by simp only [List.cons_append, size, size_append a b]; omega
theorem size_snoc (l : List (List Nat)) (p : List Nat) : size (l ++ [p]) = size l + 2 + p.length := by
  rw [size_append]; simp only [size]; omega
theorem size_reverse : ∀ (l : List (List Nat)), size l.reverse = size l
  | [] => rfl
  | p :: l => by rw [List.reverse_cons, size_snoc, size_reverse l]; simp only [size]; omega
/-- A piece's bytes: its length, then it. -/
def enc (p : List Nat) : List Nat := KM.nb 2 p.length ++ p
def spell : List (List Nat) → List Nat
  | [] => []
  | p :: l => enc p ++ spell l
/-- Pieces that may be: no longer than 65535, of bytes. -/
def Fine (l : List (List Nat)) : Prop := ∀ p ∈ l, p.length ≤ 65535 ∧ ∀ y ∈ p, y < 256
theorem Fine.nil : Fine [] := fun p h => by cases h
theorem Fine.snoc {l : List (List Nat)} {p : List Nat} (h : Fine l) (hp : p.length ≤ 65535) (hb : ∀ y ∈ p, y < 256) : Fine (l ++ [p]) := fun q hq => by
  rcases List.mem_append.1 hq with hq | hq
  · exact h q hq
  · obtain rfl : q = p := by simpa using hq
    exact ⟨hp, hb⟩
theorem Fine.left {a b : List (List Nat)} (h : Fine (a ++ b)) : Fine a := fun p hp => h p (List.mem_append_left _ hp)
/-- How many bytes a crash leaves ahead of the cut to whole pieces. -/
def keep (s : Nat) (k : Int) (z : Nat) : Nat := s + min k.toNat (z - s)
end LM
end Go.Proofs.Ytdbdnfjgmdkneaa
namespace Go.Proofs.Ytdbdnfjgmdkneaa
set_option maxRecDepth 20000
set_option linter.unusedVariables false
namespace SM
/-- Symbols' order: by id, block, number. -/
def Lt (a b : Rc) : Prop := a.p < b.p ∨ (a.p = b.p ∧ (a.n < b.n ∨ (a.n = b.n ∧ (a.k < b.k ∨ (a.k = b.k ∧ a.e < b.e)))))
instance (a b : Rc) : Decidable (Lt a b) := by unfold Lt; infer_instance
def Same (a b : Rc) : Prop := a.p = b.p ∧ a.n = b.n ∧ a.k = b.k ∧ a.e = b.e
instance (a b : Rc) : Decidable (Same a b) := by unfold Same; infer_instance
theorem Lt.trans {a b c : Rc} (h : Lt a b) (k : Lt b c) : Lt a c := by unfold Lt at *; omega
theorem same_iff (a b : Rc) : Same a b ↔ ¬ Lt a b ∧ ¬ Lt b a := by unfold Same Lt; omega
theorem Lt.not_trans {a b r : Rc} (h : Lt a b) (k : ¬ Lt a r) : ¬ Lt b r := by unfold Lt at *; omega
/-- Of one id. -/
def Of (x r : Rc) : Prop := x.p = r.p ∧ x.n = r.n
instance (a b : Rc) : Decidable (Of a b) := by unfold Of; infer_instance
/-- How many are ahead of r. -/
def pos (r : Rc) : List Rc → Nat
  | [] => 0
  | x :: l => if Lt x r then pos r l + 1 else 0
theorem pos_le (r : Rc) : ∀ l, pos r l ≤ l.length
  | [] => Nat.le_refl _
  | x :: l => by
    have := pos_le r l
    unfold pos
    split
    · rw [List.length_cons]; omega
    · exact Nat.zero_le _
theorem pos_lt (r : Rc) : ∀ (l : List Rc) (m : Nat), m < pos r l → Lt (l.getD m Rc.zero) r
  | [], m, h => by simp [pos] at h
  | x :: l, m, h => by
    unfold pos at h
    split at h
    · rename_i hx
      cases m with
      | zero => exact hx
      | succ m => exact pos_lt r l m (by omega)
    · omega
theorem pos_at (r : Rc) : ∀ (l : List Rc), pos r l < l.length → ¬ Lt (l.getD (pos r l) Rc.zero) r
  | [], h => by simp [pos] at h
  | x :: l, h => by
    unfold pos at h ⊢
    split
    · rename_i hx
      rw [if_pos hx, List.length_cons] at h
      exact pos_at r l (by omega)
    · rename_i hx
      exact hx
/-- The first number from which on nothing is ahead of r. -/
theorem pos_uniq {r : Rc} {l : List Rc} {k : Nat} (hk : k ≤ l.length) (h1 : ∀ m, m < k → Lt (l.getD m Rc.zero) r) (h2 : k < l.length → ¬ Lt (l.getD k Rc.zero) r) : pos r l = k := by
  rcases Nat.lt_trichotomy (pos r l) k with h | h | h
  · exact absurd (h1 _ h) (pos_at r l (by omega))
  · exact h
  · exact absurd (pos_lt r l k h) (h2 (by have := pos_le r l; omega))
def Sorted (l : List Rc) : Prop := l.Pairwise Lt
theorem Sorted.lt {l : List Rc} (h : Sorted l) {i j : Nat} (hij : i < j) (hj : j < l.length) : Lt (l.getD i Rc.zero) (l.getD j Rc.zero) := by
  have := List.pairwise_iff_getElem.1 h i j (by omega) hj hij
  simpa [List.getD_eq_getElem?_getD, List.getElem?_eq_getElem hj, List.getElem?_eq_getElem (Nat.lt_trans hij hj)] using this
theorem Sorted.pos_iff {l : List Rc} (h : Sorted l) (r : Rc) {m : Nat} (hm : m < l.length) : Lt (l.getD m Rc.zero) r ↔ m < pos r l := by
  refine ⟨fun hl => ?_, fun hl => pos_lt r l m hl⟩
  rcases Nat.lt_or_ge m (pos r l) with h1 | h1
  · exact h1
  · have h2 := pos_at r l (by omega)
    rcases Nat.lt_or_ge (pos r l) m with h3 | h3
    · exact absurd hl (Lt.not_trans (h.lt h3 hm) h2)
    · have : m = pos r l := by omega
      subst this
      exact absurd hl h2
/-- r among them. -/
def ins (r : Rc) (l : List Rc) : List Rc := l.take (pos r l) ++ r :: l.drop (pos r l)
theorem ins_length (r : Rc) (l : List Rc) : (ins r l).length = l.length + 1 := by
  have := pos_le r l
  simp [ins]; omega
theorem mem_ins {r x : Rc} {l : List Rc} : x ∈ ins r l ↔ x = r ∨ x ∈ l := by
  unfold ins
  rw [List.mem_append, List.mem_cons]
  constructor
  · rintro (h | h | h)
    · exact .inr (List.mem_of_mem_take h)
    · exact .inl h
    · exact .inr (List.mem_of_mem_drop h)
  · rintro (h | h)
    · exact .inr (.inl h)
    · rw [← List.take_append_drop (pos r l) l, List.mem_append] at h
      rcases h with h | h
      · exact .inl h
      · exact .inr (.inr h)
theorem Sorted.ins {l : List Rc} (h : Sorted l) {r : Rc} (hn : pos r l < l.length → Lt r (l.getD (pos r l) Rc.zero)) : Sorted (ins r l) := by
  unfold Sorted SM.ins
  have ht : ∀ a ∈ l.take (pos r l), Lt a r := fun a ha => by
    obtain ⟨i, hi, rfl⟩ := List.mem_iff_getElem.1 ha
    rw [List.length_take] at hi
    have := pos_lt r l i (by omega)
    rw [List.getElem_take]
    simpa [List.getD_eq_getElem?_getD, List.getElem?_eq_getElem (show i < l.length by omega)] using this
  have hd : ∀ a ∈ l.drop (pos r l), Lt r a := fun a ha => by
    obtain ⟨i, hi, rfl⟩ := List.mem_iff_getElem.1 ha
    rw [List.length_drop] at hi
    have h0 := hn (by omega)
    rw [List.getElem_drop]
    rcases Nat.eq_zero_or_pos i with e | e
    · subst e
      simpa [List.getD_eq_getElem?_getD, List.getElem?_eq_getElem (show pos r l < l.length by omega)] using h0
    · have := h0.trans (h.lt (i := pos r l) (j := pos r l + i) (by omega) (by omega))
      simpa [List.getD_eq_getElem?_getD, List.getElem?_eq_getElem (show pos r l + i < l.length by omega)] using this
  rw [List.pairwise_append]
  refine ⟨h.sublist (List.take_sublist _ _), List.pairwise_cons.2 ⟨hd, h.sublist (List.drop_sublist _ _)⟩, fun a ha b hb => ?_⟩
  rcases List.mem_cons.1 hb with e | hb
  · subst e; exact ht a ha
  · exact (ht a ha).trans (hd b hb)
/-- Where the one stands that would be forgotten first, of the first k; -1: there is none. -/
def leastTo (l : List Rc) : Nat → Int
  | 0 => -1
  | k + 1 => if leastTo l k < 0 ∨ (l.getD k Rc.zero).u < (l.getD (leastTo l k).toNat Rc.zero).u then (k : Int) else leastTo l k
theorem leastTo_bounds (l : List Rc) : ∀ k, -1 ≤ leastTo l k ∧ leastTo l k < (k : Int) ∧ (0 < k → 0 ≤ leastTo l k)
  | 0 => by unfold leastTo; omega
  | k + 1 => by
    have := leastTo_bounds l k
    unfold leastTo
    split
    · omega
    · rename_i h
      refine ⟨this.1, by omega, fun _ => ?_⟩
      omega
def least (l : List Rc) : Int := leastTo l l.length
theorem least_lt {l : List Rc} (h : ¬ least l < 0) : (least l).toNat < l.length := by
  have := leastTo_bounds l l.length
  unfold least at *
  omega
/-- Where what stands at j is gone: r's place. -/
theorem pos_erase {l : List Rc} (h : Sorted l) (r : Rc) {j : Nat} (hj : j < l.length) : pos r (l.eraseIdx j) = if j < pos r l then pos r l - 1 else pos r l := by
  have hle := pos_le r l
  have hlen : (l.eraseIdx j).length = l.length - 1 := by rw [List.length_eraseIdx, if_pos hj]
  have hget : ∀ m, (l.eraseIdx j).getD m Rc.zero = l.getD (if m < j then m else m + 1) Rc.zero := fun m => by
    rw [List.getD_eq_getElem?_getD, List.getD_eq_getElem?_getD, List.getElem?_eraseIdx]
    split <;> rfl
  split
  · rename_i hjp
    refine pos_uniq (by omega) (fun m hm => ?_) (fun hm => ?_)
    · rw [hget]; split
      · exact pos_lt r l _ (by omega)
      · exact pos_lt r l _ (by omega)
    · rw [hget, if_neg (by omega), show pos r l - 1 + 1 = pos r l by omega]
      exact pos_at r l (by omega)
  · rename_i hjp
    refine pos_uniq (by omega) (fun m hm => ?_) (fun hm => ?_)
    · rw [hget, if_pos (by omega)]
      exact pos_lt r l _ hm
    · rw [hget]
      split
      · exact pos_at r l (by omega)
      · rw [h.pos_iff r (by omega)]; omega
theorem Sorted.erase {l : List Rc} (h : Sorted l) (j : Nat) : Sorted (l.eraseIdx j) := h.sublist (List.eraseIdx_sublist _ _)
theorem Sorted.filter {l : List Rc} (h : Sorted l) (p : Rc → Bool) : Sorted (l.filter p) := h.sublist List.filter_sublist
/-- With another Until. -/
def till (r : Rc) (u : Int) : Rc := { r with u := u }
theorem Sorted.till {l : List Rc} (h : Sorted l) (k : Nat) (u : Int) (hk : k < l.length) : Sorted (l.set k (till (l.getD k Rc.zero) u)) := by
  unfold Sorted
  rw [List.pairwise_iff_getElem]
  intro i j hi hj hij
  rw [List.length_set] at hi hj
  have h0 := List.pairwise_iff_getElem.1 h i j hi hj hij
  have e : l.getD k Rc.zero = l[k] := by simp [List.getD_eq_getElem?_getD, hk]
  rw [List.getElem_set, List.getElem_set]
  generalize l.getD k Rc.zero = y at *
  subst e
  have key : ∀ a b : Rc, Lt (SM.till a u) b ↔ Lt a b := fun a b => Iff.rfl
  have key' : ∀ a b : Rc, Lt a (SM.till b u) ↔ Lt a b := fun a b => Iff.rfl
  split
  · rename_i e1; subst e1
    rw [if_neg (by omega)]; exact h0
  · split
    · rename_i e2; subst e2; exact h0
    · exact h0
/-- Where the first one of r's id stands. -/
def tat (r : Rc) : List Rc → Nat
  | [] => 0
  | x :: l => if Of x r then 0 else tat r l + 1
theorem tat_lt (r : Rc) : ∀ (l : List Rc) (m : Nat), m < tat r l → ¬ Of (l.getD m Rc.zero) r
  | [], m, h => by simp [tat] at h
  | x :: l, m, h => by
    unfold tat at h
    split at h
    · omega
    · rename_i hx
      cases m with
      | zero => exact hx
      | succ m => exact tat_lt r l m (by omega)
theorem tat_at (r : Rc) : ∀ (l : List Rc), tat r l < l.length → Of (l.getD (tat r l) Rc.zero) r
  | [], h => by simp [tat] at h
  | x :: l, h => by
    unfold tat at h ⊢
    split
    · rename_i hx; exact hx
    · rename_i hx
      rw [if_neg hx, List.length_cons] at h
      exact tat_at r l (by omega)
/-- Is one of r's id there? -/
def Has (t : List Rc) (r : Rc) : Prop := tat r t < t.length
instance (t : List Rc) (r : Rc) : Decidable (Has t r) := by unfold Has; infer_instance
theorem has_iff (t : List Rc) (r : Rc) : Has t r ↔ ∃ x ∈ t, Of x r := by
  constructor
  · intro h
    refine ⟨t.getD (tat r t) Rc.zero, ?_, tat_at r t h⟩
    rw [List.getD_eq_getElem?_getD, List.getElem?_eq_getElem h]
    exact List.getElem_mem h
  · rintro ⟨x, hx, ho⟩
    rcases Nat.lt_or_ge (tat r t) t.length with h | h
    · exact h
    · obtain ⟨i, hi, rfl⟩ := List.mem_iff_getElem.1 hx
      have := tat_lt r t i (by omega)
      rw [List.getD_eq_getElem?_getD, List.getElem?_eq_getElem hi] at this
      exact absurd ho this
/-- Tombstones are of unlike ids. -/
def Apart (t : List Rc) : Prop := t.Pairwise (fun a b => ¬ Of a b)
end SM
/-- What a store has: how many at most, symbols, tombstones, the log's pieces, how many bytes of it are sure. -/
structure Sto where
  m : Nat
  l : List Rc
  t : List Rc
  lg : List (List Nat)
  s : Nat
namespace SM
/-- What a record turns: the store, what is logged, the error. -/
def buryOf (st : Sto) (r : Rc) : Sto × Option Rc × Nat :=
  if Has st.t r then
    if (st.t.getD (tat r st.t) Rc.zero).u < r.u then ({ st with t := st.t.set (tat r st.t) r }, some r, 0) else (st, none, 0)
  else ({ st with l := st.l.filter (fun x => ¬ Of x r), t := st.t ++ [r] }, some r, 0)
def addOf (st : Sto) (r : Rc) : Sto × Option Rc × Nat :=
  if Has st.t r then (st, none, 0)
  else if pos r st.l < st.l.length ∧ ¬ Lt r (st.l.getD (pos r st.l) Rc.zero) then
    if (st.l.getD (pos r st.l) Rc.zero).u < r.u then ({ st with l := st.l.set (pos r st.l) (till (st.l.getD (pos r st.l) Rc.zero) r.u) }, some (till (st.l.getD (pos r st.l) Rc.zero) r.u), 0) else (st, none, 0)
  else if st.l.length < st.m then ({ st with l := ins r st.l }, some r, 0)
  else if least st.l < 0 ∨ r.u ≤ (st.l.getD (least st.l).toNat Rc.zero).u then (st, none, 6)
  else ({ st with l := ins r (st.l.eraseIdx (least st.l).toNat) }, some r, 0)
def logged (x : Sto × Option Rc × Nat) : Sto := match x.2.1 with
  | none => x.1
  | some r => { x.1 with lg := x.1.lg ++ [KM.bytes r] }
/-- What holds of a store. -/
structure Inv (st : Sto) : Prop where
  sorted : Sorted st.l
  sym : ∀ r ∈ st.l, KM.Right r ∧ r.g = false ∧ ∀ y ∈ r.d, y < 256
  tomb : ∀ r ∈ st.t, KM.Right r ∧ r.g = true
  apart : Apart st.t
  alive : ∀ r ∈ st.l, ¬ Has st.t r
  most : st.m ≤ 1000
  room : st.l.length ≤ st.m
  fine : LM.Fine st.lg
  sure : st.s ≤ LM.size st.lg
end SM
end Go.Proofs.Ytdbdnfjgmdkneaa
namespace Go.Proofs.Ytdbdnfjgmdkneaa
set_option maxRecDepth 20000
open Go.RowKit Go.Deep Go.Maps
set_option linter.unusedVariables false
theorem idLaw : WideMaps.KeyLaw Try.prog 23 := deep_law_laid (by kernel_rfl) (m := 3) (by decide) (of_decide_eq_true (by kernel_rfl)) (by kernel_rfl) (by kernel_rfl)
theorem idKeyed : Keyed Try.prog 23 := Keyed.of_law idLaw
def idVal (p n : Int) : Value := .agg #[.int .i64 p, .int .i64 n]
def idKey (p n : Int) : Lit := .string (keyBytes [.int .i64 p, .int .i64 n])
theorem wf_i64 {x : Int} (h : -9223372036854775808 ≤ x ∧ x ≤ 9223372036854775807) : (Lit.int .i64 x).wf = true := by
  have e1 : IntKind.i64.min = -9223372036854775808 := by decide
  have e2 : IntKind.i64.max = 9223372036854775807 := by decide
  show (decide (IntKind.i64.min ≤ x) && decide (x ≤ IntKind.i64.max)) = true
  rw [e1, e2, Bool.and_eq_true, decide_eq_true_eq, decide_eq_true_eq]
  exact h
theorem key_of {p n : Int} (hp : -9223372036854775808 ≤ p ∧ p ≤ 9223372036854775807) (hn : -9223372036854775808 ≤ n ∧ n ≤ 9223372036854775807) : keyOf Try.prog 23 (idVal p n) = some (idKey p n) := by
  have hu : ∃ f g : Field, Try.prog.underlying 23 = some (.struct #[f, g]) ∧ f.offset = 0 ∧ g.offset = 1 ∧ f.type = 3 ∧ g.type = 3 ∧ (#[f, g].all (·.name != "_")) = true := ⟨_, _, Try.underlying23, rfl, rfl, rfl, rfl, by kernel_rfl⟩
  obtain ⟨f, g, hu, hf0, hg0, hft, hgt, hall⟩ := hu
  have hkt : Try.prog.keyType 23 = true := by kernel_rfl
  have hC : Try.prog.cellsOf 23 = 2 := by kernel_rfl
  have hCi : Try.prog.cellsOf 3 = 1 := by kernel_rfl
  have hts : ∃ m, Try.prog.types.size = m + 1 := by
    have h : 23 < Try.prog.types.size := of_decide_eq_true (by kernel_rfl)
    exact ⟨Try.prog.types.size - 1, by omega⟩
  obtain ⟨m, hts⟩ := hts
  have hf : (idVal p n).formed Try.prog 23 = true := by
    simp [idVal, Value.formed, hu, hC]
  have hcs : (idVal p n).cells.toList = [.int .i64 p, .int .i64 n] := rfl
  have hki : ∀ x, -9223372036854775808 ≤ x ∧ x ≤ 9223372036854775807 → Try.prog.keyLits (m + 1) 3 [.int .i64 x] = some [.int .i64 x] := fun x hx => by
    unfold Program.keyLits
    simp [Try.underlying3, wf_i64 hx]
  have hk : Try.prog.keyLits (m + 1 + 1) 23 [.int .i64 p, .int .i64 n] = some [.int .i64 p, .int .i64 n] := by
    unfold Program.keyLits
    simp only [hu]
    rw [if_pos ⟨by rw [hC]; rfl, hall⟩]
    simp [hf0, hg0, hft, hgt, hCi, hki p hp, hki n hn]
  unfold keyOf
  simp only [hu]
  rw [if_pos (by rw [hkt, hf]; rfl), hts, hcs, hk]
  rfl
theorem key_inj {p n p' n' : Int} (hp : -9223372036854775808 ≤ p ∧ p ≤ 9223372036854775807) (hn : -9223372036854775808 ≤ n ∧ n ≤ 9223372036854775807) (hp' : -9223372036854775808 ≤ p' ∧ p' ≤ 9223372036854775807) (hn' : -9223372036854775808 ≤ n' ∧ n' ≤ 9223372036854775807) (h : idKey p n = idKey p' n') : p = p' ∧ n = n' := by
  have e := idKeyed.inj (key_of hp hn) (by rw [h]; exact key_of hp' hn')
  unfold idVal at e
  simp only [Value.agg.injEq] at e
  simpa using e
def idLit (r : Rc) : Lit := idKey r.p r.n
/-- Its id is one of ints. -/
def IdOk (r : Rc) : Prop := (-9223372036854775808 ≤ r.p ∧ r.p ≤ 9223372036854775807) ∧ (-9223372036854775808 ≤ r.n ∧ r.n ≤ 9223372036854775807)
theorem idLit_isKey (r : Rc) : WideAt.IsKeyLit (idLit r) := trivial
theorem idLit_inj {r r' : Rc} (h : IdOk r) (h' : IdOk r') (e : idLit r = idLit r') : SM.Of r r' := key_inj h.1 h.2 h'.1 h'.2 e
theorem idLit_of {r r' : Rc} (h : SM.Of r r') : idLit r = idLit r' := by unfold idLit; rw [h.1, h.2]
theorem same_self (r : Rc) : (idLit r).sameKey (idLit r) = true := by simp [idLit, idKey, Lit.sameKey]
/-- The map's reading holds just these tombstones' ids and Untils. -/
structure Ties (D : DataW Unit) (t : List Rc) : Prop where
  tidy : Tidy D
  has : ∀ k, has D k = t.any (fun r => (idLit r).sameKey k)
  at_ : ∀ r ∈ t, ∀ z, D.atKey (idLit r) z = .lit (.int .i64 r.u)
  size : Maps.size D = t.length
  ok : ∀ r ∈ t, IdOk r
  apart : SM.Apart t
theorem Ties.nil : Ties (.map []) [] := ⟨tidy_empty, fun k => rfl, fun r hr => (nomatch hr), rfl, fun r hr => (nomatch hr), List.Pairwise.nil⟩
theorem Ties.has_iff {D : DataW Unit} {t : List Rc} (h : Ties D t) {r : Rc} (hr : IdOk r) : Maps.has D (idLit r) = decide (SM.Has t r) := by
  rw [h.has, Bool.eq_iff_iff, decide_eq_true_eq, SM.has_iff, List.any_eq_true]
  constructor
  · rintro ⟨x, hx, hs⟩
    refine ⟨x, hx, ?_⟩
    by_cases e : idLit x = idLit r
    · exact idLit_inj (h.ok x hx) hr e
    · rw [sameKey_ne e] at hs; cases hs
  · rintro ⟨x, hx, ho⟩
    exact ⟨x, hx, by rw [idLit_of ho]; exact same_self r⟩
theorem Ties.until {D : DataW Unit} {t : List Rc} (h : Ties D t) {r : Rc} (hr : SM.Has t r) (z : DataW Unit) : D.atKey (idLit r) z = .lit (.int .i64 (t.getD (SM.tat r t) Rc.zero).u) := by
  have ho := SM.tat_at r t hr
  rw [← idLit_of ho]
  refine h.at_ _ ?_ z
  rw [List.getD_eq_getElem?_getD, List.getElem?_eq_getElem hr]
  exact List.getElem_mem hr
theorem Ties.put_new {D : DataW Unit} {t : List Rc} (h : Ties D t) {r : Rc} (hr : IdOk r) (hn : ¬ SM.Has t r) : Ties (D.put (idLit r) (.lit (.int .i64 r.u))) (t ++ [r]) := by
  have hne : ∀ x ∈ t, idLit x ≠ idLit r := fun x hx e => hn ((SM.has_iff t r).2 ⟨x, hx, idLit_inj (h.ok x hx) hr e⟩)
  have hno : ∀ x ∈ t, ¬ SM.Of x r := fun x hx e => hn ((SM.has_iff t r).2 ⟨x, hx, e⟩)
  refine ⟨h.tidy.put (idLit_isKey r) _, fun k => ?_, fun x hx z => ?_, ?_, fun x hx => ?_, ?_⟩
  · by_cases e : k = idLit r
    · subst e
      rw [has_put_same h.tidy.isMap (idLit_isKey r), List.any_append]
      simp [same_self]
    · rw [has_put_other e, h.has, List.any_append]
      simp [sameKey_ne (Ne.symm e)]
  · rcases List.mem_append.1 hx with hx | hx
    · rw [atKey_put_other (hne x hx)]
      exact h.at_ x hx z
    · rw [List.mem_singleton] at hx
      subst hx
      exact atKey_put_same h.tidy.isMap (idLit_isKey x) _ z
  · rw [size_put h.tidy, h.has_iff hr, if_neg (by simpa using hn), h.size, List.length_append]; rfl
  · rcases List.mem_append.1 hx with hx | hx
    · exact h.ok x hx
    · rw [List.mem_singleton] at hx; subst hx; exact hr
  · unfold SM.Apart
    rw [List.pairwise_append]
    refine ⟨h.apart, List.pairwise_singleton _ _, fun a ha b hb => ?_⟩
    rw [List.mem_singleton] at hb
    subst hb
    exact hno a ha
theorem apart_uniq {t : List Rc} (h : SM.Apart t) {i j : Nat} (hi : i < t.length) (hj : j < t.length) (ho : SM.Of t[i] t[j]) : i = j := by
  rcases Nat.lt_trichotomy i j with hl | hl | hl
  · exact absurd ho (List.pairwise_iff_getElem.1 h i j hi hj hl)
  · exact hl
  · exact absurd ⟨ho.1.symm, ho.2.symm⟩ (List.pairwise_iff_getElem.1 h j i hj hi hl)
theorem Ties.put_old {D : DataW Unit} {t : List Rc} (h : Ties D t) {r : Rc} (hr : IdOk r) (hn : SM.Has t r) : Ties (D.put (idLit r) (.lit (.int .i64 r.u))) (t.set (SM.tat r t) r) := by
  have ho := SM.tat_at r t hn
  have hi : SM.tat r t < t.length := hn
  generalize SM.tat r t = i at *
  have e0 : t.getD i Rc.zero = t[i] := by simp [List.getD_eq_getElem?_getD, hi]
  rw [e0] at ho
  have hgo : ∀ j (hj : j < t.length), SM.Of t[j] r → j = i := fun j hj hjo => apart_uniq h.apart hj hi ⟨hjo.1.trans ho.1.symm, hjo.2.trans ho.2.symm⟩
  have hmem : ∀ x ∈ t.set i r, x = r ∨ (x ∈ t ∧ ¬ SM.Of x r) := fun x hx => by
    obtain ⟨j, hj, rfl⟩ := List.mem_iff_getElem.1 hx
    rw [List.length_set] at hj
    rw [List.getElem_set]
    split
    · exact .inl rfl
    · rename_i hne
      exact .inr ⟨List.getElem_mem hj, fun hjo => hne (hgo j hj hjo).symm⟩
  have hok : ∀ x ∈ t.set i r, IdOk x := fun x hx => by
    rcases hmem x hx with rfl | ⟨h1, _⟩
    · exact hr
    · exact h.ok x h1
  refine ⟨h.tidy.put (idLit_isKey r) _, fun k => ?_, fun x hx z => ?_, ?_, hok, ?_⟩
  · have key : (t.set i r).any (fun x => (idLit x).sameKey k) = t.any (fun x => (idLit x).sameKey k) := by
      rw [Bool.eq_iff_iff, List.any_eq_true, List.any_eq_true]
      constructor
      · rintro ⟨x, hx, hs⟩
        rcases hmem x hx with rfl | ⟨h1, _⟩
        · exact ⟨t[i], List.getElem_mem hi, by rw [idLit_of ho]; exact hs⟩
        · exact ⟨x, h1, hs⟩
      · rintro ⟨x, hx, hs⟩
        obtain ⟨j, hj, rfl⟩ := List.mem_iff_getElem.1 hx
        by_cases e : i = j
        · subst e
          exact ⟨r, List.mem_iff_getElem.2 ⟨i, by rw [List.length_set]; exact hi, by simp⟩, by rw [← idLit_of ho]; exact hs⟩
        · exact ⟨t[j], List.mem_iff_getElem.2 ⟨j, by rw [List.length_set]; exact hj, by rw [List.getElem_set, if_neg e]⟩, hs⟩
    rw [key, ← h.has]
    by_cases e : k = idLit r
    · subst e
      rw [has_put_same h.tidy.isMap (idLit_isKey r), h.has_iff hr, decide_eq_true ((SM.has_iff t r).2 ⟨t[i], List.getElem_mem hi, ho⟩)]
    · rw [has_put_other e]
  · rcases hmem x hx with rfl | ⟨h1, h2⟩
    · exact atKey_put_same h.tidy.isMap (idLit_isKey x) _ z
    · rw [atKey_put_other (fun e => h2 (idLit_inj (h.ok x h1) hr e))]
      exact h.at_ x h1 z
  · rw [size_put h.tidy, h.has_iff hr, if_pos (by simpa using (SM.has_iff t r).2 ⟨t[i], List.getElem_mem hi, ho⟩), h.size, List.length_set]
  · unfold SM.Apart
    rw [List.pairwise_iff_getElem]
    intro a b ha hb hab
    rw [List.length_set] at ha hb
    rw [List.getElem_set, List.getElem_set]
    have h0 := List.pairwise_iff_getElem.1 h.apart a b ha hb hab
    split
    · rename_i e; subst e
      rw [if_neg (by omega)]
      intro hh
      exact h0 ⟨ho.1.trans hh.1, ho.2.trans hh.2⟩
    · split
      · rename_i e; subst e
        intro hh
        exact h0 ⟨hh.1.trans ho.1.symm, hh.2.trans ho.2.symm⟩
      · exact h0
/-- The tombstones without that of one key. -/
theorem Ties.del {D : DataW Unit} {t : List Rc} (h : Ties D t) {x : Rc} (hx : x ∈ t) : Ties (D.del (idLit x)) (t.filter (fun r => !(idLit r).sameKey (idLit x))) := by
  refine ⟨h.tidy.del _, fun k => ?_, fun r hr z => ?_, ?_, fun r hr => h.ok r (List.mem_filter.1 hr).1, h.apart.sublist List.filter_sublist⟩
  · by_cases e : k = idLit x
    · subst e
      rw [has_del_same, eq_comm, List.any_eq_false]
      intro r hr
      have := (List.mem_filter.1 hr).2
      simpa using this
    · rw [has_del_other e, h.has, Bool.eq_iff_iff, List.any_eq_true, List.any_eq_true]
      constructor
      · rintro ⟨r, hr, hs⟩
        refine ⟨r, List.mem_filter.2 ⟨hr, ?_⟩, hs⟩
        by_cases e2 : idLit r = idLit x
        · rw [e2, sameKey_ne (Ne.symm e)] at hs; cases hs
        · rw [sameKey_ne e2]; rfl
      · rintro ⟨r, hr, hs⟩
        exact ⟨r, (List.mem_filter.1 hr).1, hs⟩
  · obtain ⟨h1, h2⟩ := List.mem_filter.1 hr
    have : idLit r ≠ idLit x := fun e => by rw [e, same_self] at h2; cases h2
    rw [atKey_del_other this]
    exact h.at_ r h1 z
  · have hs := size_del (k := idLit x) h.tidy
    have hh : Maps.has D (idLit x) = true := by
      rw [h.has, List.any_eq_true]; exact ⟨x, hx, same_self x⟩
    rw [hh, if_pos rfl, h.size] at hs
    have hlen : ∀ (l : List Rc), SM.Apart l → (∀ r ∈ l, IdOk r) → x ∈ l → (l.filter (fun r => !(idLit r).sameKey (idLit x))).length + 1 = l.length := by
      intro l
      induction l with
      | nil => intro _ _ hx; cases hx
      | cons a l ih =>
        intro hap hokl hxl
        rw [SM.Apart, List.pairwise_cons] at hap
        by_cases e : idLit a = idLit x
        · have hnone : ∀ b ∈ l, (!(idLit b).sameKey (idLit x)) = true := fun b hb => by
            have hne : idLit b ≠ idLit x := fun e2 => hap.1 b hb (idLit_inj (hokl a (List.mem_cons_self)) (hokl b (List.mem_cons_of_mem _ hb)) (e.trans e2.symm))
            rw [sameKey_ne hne]; rfl
          rw [List.filter_cons, if_neg (by rw [e, same_self]; simp), List.filter_eq_self.2 hnone]
          rfl
        · have hxl' : x ∈ l := by
            rcases List.mem_cons.1 hxl with rfl | h'
            · exact absurd rfl e
            · exact h'
          rw [List.filter_cons, if_pos (by rw [sameKey_ne e]; rfl), List.length_cons, List.length_cons, ih hap.2 (fun r hr => hokl r (List.mem_cons_of_mem _ hr)) hxl']
    have := hlen t h.apart h.ok hx
    omega
end Go.Proofs.Ytdbdnfjgmdkneaa
