/- In one text: StoRem, StoIns, LogMath, StoMath. -/
import Derived.Lib.Overlaps
import Derived.Laws.Externs
import Derived.Test.YtdbdnfjgmdkneaaMB2
import Derived.Test.YtdbdnfjgmdkneaaMB3
namespace Go.Proofs.Ytdbdnfjgmdkneaa
set_option maxRecDepth 20000
open Go.RowKit Go.Deep
set_option linter.unusedVariables false
theorem recInfo10 : ∃ i, Try.prog.info? 28 = some i ∧ i.zero = some (Rc.zero.val (.slice none 0 0)) ∧ i.size = 10 ∧ i.bytes = 96 := by
  obtain ⟨i, h1, h2, h3, h4⟩ := info_parts recinfo
  exact ⟨i, h1, h2, h3, h4⟩
/-- The cells of f's records from a on, k of them. -/
def seg (f : Nat → Pr) (a k : Nat) : List Pr := (List.range k).map fun j => f (a + j)
theorem seg_length (f : Nat → Pr) (a k : Nat) : (seg f a k).length = k := by simp [seg]
theorem seg_at (f : Nat → Pr) (a k j : Nat) (h : j < k) : (seg f a k).getD j zp = f (a + j) := by simp [seg, h]
theorem Arr.src {w : World} {g cap n : Nat} {f : Nat → Pr} (h : Arr w g cap n f) (hs : ∀ k, k < n → Slc (f k)) (a k c : Nat) (ha : a + k ≤ n) : Src Try.prog 10 47 (.slice (some ⟨g, a * 10, none⟩) k c) k (flat (seg f a k)) w := by
  refine Src.ofSlice w recUnder ⟨g, a * 10, none⟩ k c (flat (seg f a k)) (by rw [flat_length, seg_length]) (fun j v hv => ?_) (fun v hv => ?_)
  · rw [Addr.add_mid]
    have hj : j < k * 10 := by
      have := (List.getElem?_eq_some_iff.1 hv).1
      rwa [flat_length, seg_length] at this
    have e : j = j / 10 * 10 + j % 10 := by omega
    rw [e, flat_at _ _ _ (by rw [seg_length]; omega) (by omega), seg_at _ _ _ _ (by omega)] at hv
    have := h.range (k := a + j / 10) (by omega) (j % 10) v hv
    rw [show a * 10 + j = (a + j / 10) * 10 + j % 10 by omega]
    exact this
  · refine slc_flat (fun p hp => ?_) v hv
    obtain ⟨j, hj, rfl⟩ := List.mem_map.1 hp
    rw [List.mem_range] at hj
    exact hs _ (by omega)
/-- Records laid over an array from a on. -/
theorem Arr.over {w : World} {g cap n a : Nat} {f : Nat → Pr} (h : Arr w g cap n f) (ps : List Pr) (n' : Nat) (h1 : a + ps.length ≤ cap) (h2 : n' ≤ cap) (h3 : ∀ k, k < n' → k < n ∨ (a ≤ k ∧ k < a + ps.length)) {cur : List Value} (hc : w.heap[g]? = some (.cells cur.toArray 28 (0, 0))) :
    Arr (w.setRow g (cur.take (a * 10) ++ flat ps ++ cur.drop (a * 10 + (flat ps).length)).toArray) g cap n' (fun k => if a ≤ k ∧ k < a + ps.length then ps.getD (k - a) zp else f k) := by
  obtain ⟨cur', hc', h5, h6, h7, h8⟩ := h
  rw [hc] at hc'
  simp only [Option.some.injEq, Obj.cells.injEq, and_true] at hc'
  have e : cur = cur' := by simpa using hc'
  subst e
  have hfl := flat_length ps
  refine ⟨_, setRow_heap w g _ _ _ _ hc, ?_, h2, h7, fun k hk j hj => ?_⟩
  · simp only [List.length_append, List.length_take, List.length_drop, hfl]; omega
  · dsimp only
    by_cases hin : a ≤ k ∧ k < a + ps.length
    · rw [if_pos hin, List.append_assoc, List.getElem?_append_right (by rw [List.length_take]; omega), List.getElem?_append_left (by rw [List.length_take, hfl]; omega), List.length_take, ← flat_at ps (k - a) j (by omega) hj]
      congr 1; omega
    · rw [if_neg hin, ← h8 k (by have := h3 k hk; omega) j hj]
      rcases Nat.lt_or_ge k a with hka | hka
      · rw [List.append_assoc, List.getElem?_append_left (by rw [List.length_take]; omega), List.getElem?_take, if_pos (by omega)]
      · rw [List.getElem?_append_right (by rw [List.length_append, List.length_take, hfl]; omega), List.getElem?_drop]
        congr 1
        rw [List.length_append, List.length_take, hfl]; omega
/-- The row without its i-th record: what append(s[:i], s[i+1:]...) does. -/
theorem Arr.erased {w : World} {g cap m i : Nat} {f : Nat → Pr} (h : Arr w g cap (m + 1) f) (hs : ∀ k, k < m + 1 → Slc (f k)) (hi : i ≤ m) (src : Value) (hsrc : (∃ c, src = .slice (some ⟨g, (i + 1) * 10, none⟩) (m - i) c) ∨ (m = i ∧ ∃ a c, src = .slice a 0 c)) :
    ∃ w', (∀ ty, (Builtin.append_ #[47, 47] ty #[.slice (some ⟨g, 0, none⟩) i cap, src]).run Try.prog w = .ok (.slice (some ⟨g, 0, none⟩) m cap) w') ∧ Arr w' g cap (m + 1) (fun k => if i ≤ k ∧ k < m then f (k + 1) else f k) ∧ w.grownBy w' (some g) := by
  obtain ⟨ti, hti, _, hsz, _⟩ := recInfo10
  obtain ⟨cur, h1, h2, h3, h4, h5⟩ := id h
  have hS : Src Try.prog ti.size 47 src (m - i) (flat (seg f (i + 1) (m - i))) w := by
    rw [hsz]
    rcases hsrc with ⟨c, rfl⟩ | ⟨rfl, a, c, rfl⟩
    · exact h.src hs (i + 1) (m - i) c (by omega)
    · rw [Nat.sub_self]
      cases a with
      | none => exact Src.ofNil w recUnder c
      | some a => exact Src.ofSlice w recUnder a 0 c [] rfl (by simp) (by simp)
  have hfl : (flat (seg f (i + 1) (m - i))).length = (m - i) * 10 := by rw [flat_length, seg_length]
  refine ⟨w.setRow g (cur.take (i * 10) ++ flat (seg f (i + 1) (m - i)) ++ cur.drop (i * 10 + (flat (seg f (i + 1) (m - i))).length)).toArray, fun ty => ?_, ?_, grown_setRow _ _ _⟩
  rotate_left
  · have ho := h.over (a := i) (seg f (i + 1) (m - i)) (m + 1) (by rw [seg_length]; omega) h3 (fun k hk => .inl hk) h1
    refine ho.congr fun k hk => ?_
    rw [seg_length]
    by_cases hin : i ≤ k ∧ k < m
    · rw [if_pos (by omega), if_pos hin, seg_at _ _ _ _ (by omega)]
      congr 1; omega
    · rw [if_neg (by omega), if_neg hin]
  · have := run_append_room (P := Try.prog) w 47 47 ty 28 ti recUnder hti g i cap cur.toArray _ h1 src (m - i) _ hS (by omega) (by rw [hsz, hfl]; simp; omega)
    rw [hsz, List.toList_toArray, show i + (m - i) = m by omega] at this
    exact this

theorem elemRec : Try.prog.underlying 47 = some (.slice (Try.prog.elem 47)) := by kernel_rfl
theorem sizeRec (w : World) : (sizeOf (Try.prog.elem 47)).run Try.prog w = .ok 10 w := by
  obtain ⟨i, hi, _, hs, _⟩ := info_parts recinfo
  have e : Try.prog.elem 47 = 28 := by kernel_rfl
  rw [e]
  simp [sizeOf, typeInfo, hi, hs]
/-- x[:h] and x[l:] of an array's slice. -/
theorem cutr_to (g len cap h : Nat) (hh : h ≤ cap) (w' : World) : (Instr.slice 47 (.slice (some ⟨g, 0, none⟩) len cap) none (some (.int .i64 (h : Nat))) none).run Try.prog w' = .ok (.slice (some ⟨g, 0, none⟩) h cap) w' := by
  rw [run_slice_h (P := Try.prog) w' 47 _ len cap elemRec .i64 ((h : Nat) : Int) (by omega) (by omega), sizeRec]
  simp only [Result.andThen_ok, Int.toNat_natCast, sliced, Nat.sub_zero, Nat.zero_mul]
  split <;> simp [Addr.add_mid]
theorem cutr_from (g len cap l : Nat) (hl : l ≤ len) (hc : len ≤ cap) : ∃ o, (∀ w' : World, (Instr.slice 47 (.slice (some ⟨g, 0, none⟩) len cap) (some (.int .i64 (l : Nat))) none none).run Try.prog w' = .ok (.slice (some ⟨g, o, none⟩) (len - l) (cap - l)) w') ∧ (o = l * 10 ∨ l = len) := by
  by_cases h : cap = l
  · refine ⟨0, fun w' => ?_, .inr (by omega)⟩
    rw [run_slice_l (P := Try.prog) w' 47 _ len cap elemRec .i64 ((l : Nat) : Int) (by omega) (by omega), sizeRec]
    simp only [Result.andThen_ok, Int.toNat_natCast, sliced, if_pos h]
  · refine ⟨l * 10, fun w' => ?_, .inl rfl⟩
    rw [run_slice_l (P := Try.prog) w' 47 _ len cap elemRec .i64 ((l : Nat) : Int) (by omega) (by omega), sizeRec]
    simp [Result.andThen_ok, sliced, if_neg h, Addr.add_mid]
set_option maxHeartbeats 1000000 in
theorem rem_any (g cap m i : Nat) (ps : List Pr) (w : World) (hv : OwnR w (.slice (some ⟨g, 0, none⟩) (m + 1) cap) ps) (hl : m < 1000) (hi : i ≤ m) :
    Calls Try.prog 111 #[.slice (some ⟨g, 0, none⟩) (m + 1) cap, .int .i64 i, .int .i64 ((i : Int) + 1)] w (DelOut w (.slice (some ⟨g, 0, none⟩) (m + 1) cap) (ps.eraseIdx i)) := by
  obtain ⟨harr, hn⟩ := hv.arr
  have HS : Hid (∀ p ∈ ps, Slc p) := hv.2
  have HSF : Hid (∀ k, k < m + 1 → Slc (ps.getD k zp)) := fun k hk => hv.2 _ (getD_mem (by omega))
  have HARR := Lib.hid (harr.ext (Gr.ext_drew (Gr.ext_refl w)))
  have HEL : Hid ((ps.eraseIdx i).length = m) := by show _ = _; rw [List.length_eraseIdx, if_pos (by omega)]; omega
  have HEG : Hid (∀ k, k < m → (if i ≤ k ∧ k < m then ps.getD (k + 1) zp else ps.getD k zp) = (ps.eraseIdx i).getD k zp) := fun k hk => by
    rw [List.getD_eq_getElem?_getD (l := ps.eraseIdx i), List.getElem?_eraseIdx]
    by_cases h : k < i
    · rw [if_neg (by omega), if_pos h, List.getD_eq_getElem?_getD]
    · rw [if_pos (by omega), if_neg h, List.getD_eq_getElem?_getD]
  have hnc : m + 1 ≤ cap ∧ cap ≤ 9223372036854775807 := by
    obtain ⟨cur, _, _, h3, h4, _⟩ := harr
    unfold maxLen at h4
    exact ⟨h3, by omega⟩
  clear harr hn hv
  have hb0 : ¬ cap = 0 := by omega
  have hb1 : ¬ cap = i := by omega
  have hb2 : ¬ ((i : Nat) : Int) = (i : Int) + 1 := by omega
  have hw2 : IntKind.i64.wrap ((i : Int) + 1) = (i : Int) + 1 := by rw [IntKind.wrap_i64]; omega
  have hb5 : (0 : Int) ≤ (i : Int) + 1 := by omega
  have hmm : ¬ m + 1 = i := by omega
  have hb4 : ¬ cap = m := by omega
  obtain ⟨o, hcf, ho⟩ := cutr_from g (m + 1) cap (i + 1) (by omega) hnc.1
  rw [show m + 1 - (i + 1) = m - i by omega, show ((i + 1 : Nat) : Int) = (i : Int) + 1 by omega] at hcf
  obtain ⟨w1, hap, ha1, hg1⟩ := HARR.out.erased HSF.out hi (.slice (some ⟨g, o, none⟩) (m - i) (cap - (i + 1))) (by
    rcases ho with rfl | h
    · exact .inl ⟨_, rfl⟩
    · have e : m = i := by omega
      exact .inr ⟨e, _, _, by rw [e, Nat.sub_self]⟩)
  obtain ⟨w2, hcl, ha2, hg2⟩ := ha1.cleared (Nat.lt_succ_self m) (cap - m)
  have hcl0 := hcl 0
  rw [Nat.add_sub_cancel_left] at hcl0
  have HAP := Lib.hid hap
  have HCF := Lib.hid hcf
  have HCT := Lib.hid (cutr_to g (m + 1) cap i (by omega))
  have HP : Hid (DelOut w (.slice (some ⟨g, 0, none⟩) (m + 1) cap) (ps.eraseIdx i) (.returned (.slice (some ⟨g, 0, none⟩) m cap)) w2) := by
    have e := HEL.out
    refine ⟨some ⟨g, 0, none⟩, cap, by rw [e], ?_, grown_trans (grown_trans (grown_drew (grown_refl _ _)) hg1) hg2, rfl⟩
    rw [e]
    refine ha2.own (Nat.le_refl _) e (fun k hk => ?_) (fun p hp => HS.out p (List.mem_of_mem_eraseIdx hp))
    exact HEG.out k hk
  clear hap ha1 hg1 hcl ha2 hg2 HARR HEL HEG HS HSF hcf ho
  go_enter Try.func111, Try.ntmps111
  go_wp2_with fail
  refine Gr.region 6 [(false,0),(false,1),(false,2),(false,3),(false,4),(false,5)] (by kernel_rfl) (by kernel_rfl) (fun d _ _ _ _ h => by cases d <;> exact h) ?_
  simp only [Gr.pick, List.getElem?_cons_zero, List.getElem?_cons_succ, List.drop_succ_cons, List.drop_zero]
  generalize w.drew = wd at *
  iterate 2
    refine Gr.walk_t ?_ (Or.inl ⟨by rfl, ?_⟩) ?_
    rotate_left
    · intro w' hw'
      clear hw'
      go_simp
      try with_reducible rfl
    simp only [Act.put, List.setIfInBounds_toArray, List.set_cons_zero, List.set_cons_succ]
  refine Gr.walk_t ?_ (Or.inl ⟨by rfl, ?_⟩) ?_
  rotate_left
  · intro w' hw'
    have hs1 := HCT.out w'
    clear hw'
    go_simp
    try with_reducible rfl
  simp only [Act.put, List.setIfInBounds_toArray, List.set_cons_zero, List.set_cons_succ]
  iterate 2
    refine Gr.walk_t ?_ (Or.inl ⟨by rfl, ?_⟩) ?_
    rotate_left
    · intro w' hw'
      clear hw'
      go_simp
      try with_reducible rfl
    simp only [Act.put, List.setIfInBounds_toArray, List.set_cons_zero, List.set_cons_succ]
  refine Gr.walk_t ?_ (Or.inl ⟨by rfl, ?_⟩) ?_
  rotate_left
  · intro w' hw'
    have hs2 := HCF.out w'
    clear hw'
    go_simp
    try with_reducible rfl
  simp only [Act.put, List.setIfInBounds_toArray, List.set_cons_zero, List.set_cons_succ]
  refine Gr.walk_nil ?_
  go_wp2_with (at_builtin; refine wpList_append_run1 _ rfl _ _ 47 47 rfl _ _ rfl rfl _ _ (HAP.out _) ?_)
  go_ret
  exact HP.out
end Go.Proofs.Ytdbdnfjgmdkneaa
namespace Go.Proofs.Ytdbdnfjgmdkneaa
set_option maxRecDepth 20000
open Go.RowKit Go.Deep
set_option linter.unusedVariables false
/-- The record at i of a row; what is answered lies in v's array or in a new one. -/
def insAt (ps : List Pr) (i : Nat) (p : Pr) : List Pr := ps.take i ++ p :: ps.drop i
def InsOut (w : World) (v : Value) (qs : List Pr) (e : Ending) (w' : World) : Prop := ∃ a c, e = .returned (.slice a qs.length c) ∧ OwnR w' (.slice a qs.length c) qs ∧ w.grownBy w' v.ownBlock ∧ ((Value.slice a qs.length c).ownBlock = v.ownBlock ∨ ∃ g, (Value.slice a qs.length c).ownBlock = some g ∧ w.heap.size ≤ g)
theorem insAt_length (ps : List Pr) (i : Nat) (p : Pr) (h : i ≤ ps.length) : (insAt ps i p).length = ps.length + 1 := by simp [insAt]; omega
theorem insAt_slc {ps : List Pr} {i : Nat} {p : Pr} (h : ∀ q ∈ ps, Slc q) (hp : Slc p) : ∀ q ∈ insAt ps i p, Slc q := fun q hq => by
  unfold insAt at hq
  rw [List.mem_append, List.mem_cons] at hq
  rcases hq with hq | rfl | hq
  · exact h q (List.mem_of_mem_take hq)
  · exact hp
  · exact h q (List.mem_of_mem_drop hq)
theorem insAt_at {ps : List Pr} {i : Nat} {p : Pr} (h : i ≤ ps.length) (k : Nat) : (insAt ps i p).getD k zp = if k < i then ps.getD k zp else if k = i then p else ps.getD (k - 1) zp := by
  unfold insAt
  have hl : (ps.take i).length = i := by rw [List.length_take]; omega
  rw [List.getD_eq_getElem?_getD]
  split
  · rename_i hk
    rw [List.getElem?_append_left (by omega), List.getElem?_take, if_pos hk, ← List.getD_eq_getElem?_getD]
  · rw [List.getElem?_append_right (by omega), hl]
    split
    · rename_i hk; subst hk; simp
    · obtain ⟨j, hj⟩ : ∃ j, k - i = j + 1 := ⟨k - i - 1, by omega⟩
      rw [hj, List.getElem?_cons_succ, List.getElem?_drop, ← List.getD_eq_getElem?_getD]
      congr 1; omega
/-- copy of records onto a place of an array. -/
theorem Arr.copied {w : World} {g cap n a n' : Nat} {f : Nat → Pr} (h : Arr w g cap n f) (ps : List Pr) (hs : ∀ p ∈ ps, Slc p) (h1 : a + ps.length ≤ cap) (h2 : n' ≤ cap) (h3 : ∀ k, k < n' → k < n ∨ (a ≤ k ∧ k < a + ps.length)) (x : Addr) (hx : ∀ j v, (flat ps)[j]? = some v → w.cell? (x.add j) = some v) :
    ∃ w', (∀ ty dLen dCap sLen sCap, Nat.min sLen dLen = ps.length → (Builtin.copy_ #[47, 47] ty #[.slice (some ⟨g, a * 10, none⟩) dLen dCap, .slice (some x) sLen sCap]).run Try.prog w = .ok (goInt ps.length) w') ∧
      Arr w' g cap n' (fun k => if a ≤ k ∧ k < a + ps.length then ps.getD (k - a) zp else f k) ∧ w.grownBy w' (some g) := by
  obtain ⟨cur, c1, c2, _⟩ := id h
  have hfl := flat_length ps
  refine ⟨_, fun ty dLen dCap sLen sCap hm => ?_, h.over ps n' h1 h2 h3 c1, grown_setRow _ _ _⟩
  have := run_copy_wide (P := Try.prog) w 47 47 ty 28 10 g (a * 10) dLen dCap x sLen sCap cur.toArray _ (flat ps) recUnder recsize c1 (by rw [hfl, hm]) hx (by rw [hfl]; simp; omega) (slc_flat hs)
  rw [hm] at this
  exact this
theorem Arr.seg_cells {w : World} {g cap n : Nat} {f : Nat → Pr} (h : Arr w g cap n f) (a k : Nat) (ha : a + k ≤ n) : ∀ j v, (flat (seg f a k))[j]? = some v → w.cell? ((⟨g, a * 10, none⟩ : Addr).add j) = some v := fun j v hv => by
  rw [Addr.add_mid]
  have hj : j < k * 10 := by
    have := (List.getElem?_eq_some_iff.1 hv).1
    rwa [flat_length, seg_length] at this
  have e : j = j / 10 * 10 + j % 10 := by omega
  rw [e, flat_at _ _ _ (by rw [seg_length]; omega) (by omega), seg_at _ _ _ _ (by omega)] at hv
  have := h.range (k := a + j / 10) (by omega) (j % 10) v hv
  rw [show a * 10 + j = (a + j / 10) * 10 + j % 10 by omega]
  exact this
/-- A record alone in a block: the variadic argument. -/
theorem one_cells {w : World} {b : Nat} {p : Pr} (hb : w.rangeAt b 0 (p.1.cells p.2)) : ∀ j v, (flat [p])[j]? = some v → w.cell? ((⟨b, 0, none⟩ : Addr).add j) = some v := fun j v hv => by
  rw [Addr.add_mid]
  have e : flat [p] = p.1.cells p.2 := by simp [flat]
  rw [e] at hv
  exact hb j v hv
/-- slices.overlaps of the one record's slice and of the array's. -/
theorem apart_any {w : World} {b g : Nat} {csb csg : Array Value} {T : TypeId} (hb : w.heap[b]? = some (.cells csb T (0, 0))) (hg : w.heap[g]? = some (.cells csg 28 (0, 0))) (hk : csg.size ≠ 0) (hne : b ≠ g) (o lb cb : Nat) :
    (callFunc 112 #[.slice (some ⟨b, 0, none⟩) 1 1, .slice (some ⟨g, o, none⟩) lb cb]).run Try.prog w = .ok (.value (.bool false)) w := by
  rw [run_callFunc_extern Try.func112 (by kernel_rfl) (by kernel_rfl) (by kernel_rfl) (e := Extern.SlicesOverlaps.overlaps #[47, 47] #[4]) (by kernel_rfl),
    Lib.run_overlaps_apart w 47 4 28 recUnder 10 (fun w => by obtain ⟨i, hi, _, hs, _⟩ := info_parts recinfo; simp [sizeOf, typeInfo, hi, hs]) ⟨b, 0, none⟩ ⟨g, o, none⟩ 1 1 lb cb hne T 28 csb.size csg.size (by simp [World.shape?, hb]) (by simp [World.shape?, hg]) hk (frozen_of_row _ _ _ _ _ hb) (frozen_of_row _ _ _ _ _ hb)]
  rfl
/-- At the end. -/
theorem ins_end (v : Value) (ps : List Pr) (b : Nat) (p : Pr) (w : World) (hv : OwnR w v ps) (hl : ps.length ≤ 1000) (hb : w.rangeAt b 0 (p.1.cells p.2)) (hp : Slc p) :
    Calls Try.prog 106 #[v, .int .i64 ((ps.length : Nat) : Int), .slice (some ⟨b, 0, none⟩) 1 1] w (InsOut w v (insAt ps ps.length p)) := by
  obtain ⟨ti, hti, htz, hts, htb⟩ := recInfo10
  have HSRC : Hid (Src Try.prog 10 47 (.slice (some ⟨b, 0, none⟩) 1 1) 1 (flat [p]) w) := Src.ofSlice w recUnder ⟨b, 0, none⟩ 1 1 (flat [p]) (by rw [flat_length]; rfl) (one_cells hb) (slc_flat (by simpa using hp))
  have HPOST : Hid (∀ v' w', w'.ownsRow 0 28 10 v' (ps.length + 1) (flat ps ++ flat [p]) → w.grownBy w' v.ownBlock → (v'.ownBlock = v.ownBlock ∨ ∃ g, v'.ownBlock = some g ∧ w.heap.size ≤ g) → ∃ a c, v' = .slice a (ps.length + 1) c ∧ InsOut w v (insAt ps ps.length p) (.returned v') w') := fun v' w' ho hg hn => by
    have e : insAt ps ps.length p = ps ++ [p] := by simp [insAt]
    have hl : (ps ++ [p]).length = ps.length + 1 := by simp
    have hR : OwnR w' v' (ps ++ [p]) := ⟨by rw [hl, flat_append]; exact ho, fun q hq => by
      rcases List.mem_append.1 hq with hq | hq
      · exact hv.2 q hq
      · rw [List.mem_singleton] at hq; subst hq; exact hp⟩
    obtain ⟨a, c, rfl⟩ := hR.slice
    rw [hl] at hR ⊢
    exact ⟨a, c, rfl, by rw [e]; exact ⟨a, c, by rw [hl], by rw [hl]; exact hR, hg, by rw [hl] at *; exact hn⟩⟩
  have HOWN := Lib.hid hv.1
  have hnc : ∃ a c, v = .slice a ps.length c ∧ ps.length ≤ c ∧ c ≤ 9223372036854775807 := by
    rcases hv.1.2 with ⟨rfl, h0⟩ | ⟨g, cap, cur, rfl, _, _, h1, h2, _⟩
    · exact ⟨_, _, by rw [h0], by omega, by omega⟩
    · exact ⟨_, _, rfl, h1, by unfold maxLen at h2; omega⟩
  obtain ⟨a, c, rfl, hnc⟩ := hnc
  clear hv hb hp
  generalize insAt ps ps.length p = qs at *
  generalize flat ps = fps at *
  generalize ps.length = n at *
  rcases Nat.eq_or_lt_of_le hnc.1 with hcn | hcn
  · subst hcn
    go_enter Try.func106, Try.ntmps106
    go_wp2_with (at_builtin; refine wpList_append_own_src3 _ rfl _ _ 47 47 rfl 0 28 ti (Rc.zero.val (.slice none 0 0)) 10 96 recUnder hti htz hts htb rfl _ _ _ rfl HOWN.out _ 1 (flat [p]) rfl HSRC.out (by unfold maxLen; omega) (by omega) (Nat.zero_le _) (fun _ => True) (fun _ _ _ _ _ _ _ _ => trivial) (fun _ _ => trivial) (fun _ _ => trivial) ?_)
    intro v' w' ho hg hn _
    obtain ⟨a', c', rfl, HP⟩ := HPOST.out v' w' ho hg hn
    have HP := Lib.hid HP
    clear ho hg hn HPOST HSRC HOWN
    go_wp2
    go_ret
    exact HP.out
  · have hcn' : ¬ c = n := by omega
    go_enter Try.func106, Try.ntmps106
    go_wp2_with (at_builtin; refine wpList_append_own_src3 _ rfl _ _ 47 47 rfl 0 28 ti (Rc.zero.val (.slice none 0 0)) 10 96 recUnder hti htz hts htb rfl _ _ _ rfl HOWN.out _ 1 (flat [p]) rfl HSRC.out (by unfold maxLen; omega) (by omega) (Nat.zero_le _) (fun _ => True) (fun _ _ _ _ _ _ _ _ => trivial) (fun _ _ => trivial) (fun _ _ => trivial) ?_)
    intro v' w' ho hg hn _
    obtain ⟨a', c', rfl, HP⟩ := HPOST.out v' w' ho hg hn
    have HP := Lib.hid HP
    clear ho hg hn HPOST HSRC HOWN
    go_wp2
    go_ret
    exact HP.out
set_option maxHeartbeats 1000000 in
/-- There is room: in place. -/
theorem ins_room (g cap n i : Nat) (ps : List Pr) (b : Nat) (p : Pr) (T : TypeId) (w : World) (hv : OwnR w (.slice (some ⟨g, 0, none⟩) n cap) ps) (hl : n ≤ 1000) (hi : i < n) (hroom : n + 1 ≤ cap) (hb : w.heap[b]? = some (.cells (p.1.cells p.2).toArray T (0, 0))) (hbg : b ≠ g) (hp : Slc p) :
    Calls Try.prog 106 #[.slice (some ⟨g, 0, none⟩) n cap, .int .i64 i, .slice (some ⟨b, 0, none⟩) 1 1] w (InsOut w (.slice (some ⟨g, 0, none⟩) n cap) (insAt ps i p)) := by
  obtain ⟨harr, hn⟩ := hv.arr
  have hcm : cap ≤ 9223372036854775807 := by
    obtain ⟨cur, _, _, _, h4, _⟩ := harr
    unfold maxLen at h4
    omega
  have hov : ∀ lb cb, (callFunc 112 #[.slice (some ⟨b, 0, none⟩) 1 1, .slice (some ⟨g, (i + 1) * 10, none⟩) lb cb]).run Try.prog w = .ok (.value (.bool false)) w := fun lb cb => by
    obtain ⟨cur, h1, h2, _⟩ := harr
    exact apart_any hb h1 (by rw [List.size_toArray]; omega) hbg _ _ _
  have hrb : ∀ w' : World, w'.heap[b]? = w.heap[b]? → w'.rangeAt b 0 (p.1.cells p.2) := fun w' e j v hj => by
    rw [cell_of_row _ _ _ _ _ _ (e.trans hb), List.getElem?_toArray, Nat.zero_add]; exact hj
  have hblt : b < w.heap.size := (Array.getElem?_eq_some_iff.1 hb).1
  have hs1 : ∀ q ∈ seg (fun k => ps.getD k zp) i (n - i), Slc q := fun q hq => by
    obtain ⟨j, hj, rfl⟩ := List.mem_map.1 hq
    rw [List.mem_range] at hj
    exact hv.2 _ (getD_mem (by omega))
  have hd : Arr w.drew g cap n (fun k => ps.getD k zp) := harr.ext (Gr.ext_drew (Gr.ext_refl w))
  obtain ⟨w1, hc1, ha1, hg1⟩ := hd.copied (a := i + 1) (n' := n + 1) (seg (fun k => ps.getD k zp) i (n - i)) hs1 (by rw [seg_length]; omega) hroom (fun k hk => by rw [seg_length]; omega) ⟨g, i * 10, none⟩ (hd.seg_cells i (n - i) (by omega))
  rw [seg_length] at hc1
  have hb1 : w1.heap[b]? = w.heap[b]? := hg1.block b hblt (by simpa using hbg)
  obtain ⟨w2, hc2, ha2, hg2⟩ := ha1.copied (a := i) (n' := n + 1) [p] (by simpa using hp) (by simp; omega) hroom (fun k hk => .inl hk) ⟨b, 0, none⟩ (one_cells (hrb w1 hb1))
  rw [show ([p] : List Pr).length = 1 from rfl] at hc2
  have HP : Hid (InsOut w (.slice (some ⟨g, 0, none⟩) n cap) (insAt ps i p) (.returned (.slice (some ⟨g, 0, none⟩) (n + 1) cap)) w2) := by
    have e := insAt_length ps i p (by omega)
    rw [← hn] at e
    refine ⟨some ⟨g, 0, none⟩, cap, by rw [e], ?_, grown_trans (grown_trans (grown_drew (grown_refl _ _)) hg1) hg2, .inl rfl⟩
    rw [e]
    refine ha2.own (Nat.le_refl _) e (fun k hk => ?_) (insAt_slc hv.2 hp)
    rw [insAt_at (by omega), seg_length, show ([p] : List Pr).length = 1 from rfl]
    by_cases h1 : k < i
    · rw [if_neg (by omega), if_neg (by omega), if_pos h1]
    · by_cases h2 : k = i
      · rw [if_pos (by omega), if_neg (by omega), if_pos h2, h2, Nat.sub_self]; rfl
      · rw [if_neg (by omega), if_pos (by omega), if_neg (by omega), if_neg h2, seg_at _ _ _ _ (by omega)]
        congr 1; omega
  have hcp1 := hc1 3 (n - i) (cap - (i + 1)) (n + 1 - i) (cap - i) (by simp only [Nat.min_def]; split <;> omega)
  have hcp2 := hc2 3 (n + 1 - i) (cap - i) 1 1 (by simp only [Nat.min_def]; split <;> omega)
  obtain ⟨o1, hf1, ho1⟩ := cutr_from g (n + 1) cap (i + 1) (by omega) hroom
  obtain ⟨o2, hf2, ho2⟩ := cutr_from g (n + 1) cap i (by omega) hroom
  obtain rfl : o1 = (i + 1) * 10 := by omega
  obtain rfl : o2 = i * 10 := by omega
  rw [show ((i + 1 : Nat) : Int) = (i : Int) + 1 by omega] at hf1
  have HF1 := Lib.hid hf1
  have HF2 := Lib.hid hf2
  have hw1 : IntKind.i64.wrap ((i : Int) + 1) = (i : Int) + 1 := by rw [IntKind.wrap_i64]; omega
  have hw2 : IntKind.i64.wrap ((n : Int) + 1) = (n : Int) + 1 := by rw [IntKind.wrap_i64]; omega
  have k1 : (0 : Int) ≤ (i : Int) + 1 := by omega
  have k2 : ¬ cap = i + 1 := by omega
  have k3 : ¬ cap = i := by omega
  have k4 : ¬ cap = 0 := by omega
  have k5 : ¬ ((i : Nat) : Int) = (n : Int) := by omega
  have k6 : ¬ ((cap : Nat) : Int) < (n : Int) + 1 := by omega
  have k7 : (n : Int) + 1 ≤ (cap : Int) := by omega
  have k8 : (0 : Int) ≤ (n : Int) + 1 := by omega
  have k9 : (i : Int) + 1 ≤ (n : Int) + 1 := by omega
  have k10 : (i : Int) ≤ (n : Int) + 1 := by omega
  clear harr hn hv hb hrb hs1 hd hc1 ha1 hg1 hc2 ha2 hg2 hb1 hf1 hf2 ho1 ho2 hblt
  go_enter Try.func106, Try.ntmps106
  go_wp2_with fail
  refine Gr.region 8 [(false,0),(false,1),(false,2),(false,3),(false,4),(false,5),(false,6),(false,7)] (by kernel_rfl) (by kernel_rfl) (fun d _ _ _ _ h => by cases d <;> exact h) ?_
  simp only [Gr.pick, List.getElem?_cons_zero, List.getElem?_cons_succ, List.drop_succ_cons, List.drop_zero]
  generalize w.drew = wd at *
  iterate 4
    refine Gr.walk_t ?_ (Or.inl ⟨by rfl, ?_⟩) ?_
    rotate_left
    · intro w' hw'
      clear hw'
      go_simp
      try with_reducible rfl
    simp only [Act.put, List.setIfInBounds_toArray, List.set_cons_zero, List.set_cons_succ]
  refine Gr.walk_t ?_ (Or.inl ⟨by rfl, ?_⟩) ?_
  rotate_left
  · intro w' hw'
    have hs1 := HF1.out w'
    clear hw'
    go_simp
    try with_reducible rfl
  simp only [Act.put, List.setIfInBounds_toArray, List.set_cons_zero, List.set_cons_succ]
  iterate 2
    refine Gr.walk_t ?_ (Or.inl ⟨by rfl, ?_⟩) ?_
    rotate_left
    · intro w' hw'
      clear hw'
      go_simp
      try with_reducible rfl
    simp only [Act.put, List.setIfInBounds_toArray, List.set_cons_zero, List.set_cons_succ]
  refine Gr.walk_t ?_ (Or.inl ⟨by rfl, ?_⟩) ?_
  rotate_left
  · intro w' hw'
    have hs2 := HF2.out w'
    clear hw'
    go_simp
    try with_reducible rfl
  simp only [Act.put, List.setIfInBounds_toArray, List.set_cons_zero, List.set_cons_succ]
  refine Gr.walk_nil ?_
  go_wp2
  go_ret
  exact HP.out
theorem Arr.fresh {w : World} {g cap n i q : Nat} {f : Nat → Pr} (h : Arr w g cap n f) (hs : ∀ k, k < n → Slc (f k)) (hi : i ≤ n) (hq : 0 < q) (hc : cap < i + q) (hm : i + q ≤ 2000) :
    ∃ w1 cap', (∀ ty, (Builtin.append_ #[47, 3] ty #[.slice (some ⟨g, 0, none⟩) i cap, .int .i64 (q : Nat)]).run Try.prog w = .ok (.slice (some ⟨w.heap.size, 0, none⟩) (i + q) cap') w1) ∧ Arr w1 w.heap.size cap' i f ∧ w.Extends w1 ∧ i + q ≤ cap' ∧ cap' ≤ 9223372036854775807 ∧ w.heap.size < w1.heap.size := by
  obtain ⟨ti, hti, htz, hts, htb⟩ := recInfo10
  have hS := h.src hs 0 i cap (by omega)
  have hge := grownCap_ge w (i + q) cap 28
  have hcm : grownCap w (i + q) cap 28 ≤ maxLen := grownCap_le_maxLen w (i + q) cap 28 (by unfold maxLen; omega)
  have hz10 : (Rc.zero.val (.slice none 0 0)).cells.size = 10 := rfl
  have hfl : (flat (seg f 0 i)).length = i * 10 := by rw [flat_length, seg_length]
  refine ⟨_, grownCap w (i + q) cap 28, fun ty => run_append_zeros (P := Try.prog) w 47 3 ty 28 ti (Rc.zero.val (.slice none 0 0)) .i64 .i64 recUnder Try.underlying3 hti htz (some ⟨g, 0, none⟩) i cap q (flat (seg f 0 i)) (by rw [hts]; exact hS.cellsD) hq (by omega) hc (by omega) (growslice_fits (by omega) (by rw [htb]; omega)) (by rw [htb]; omega), ?_, Gr.ext_trans (Gr.ext_drew (Gr.ext_refl w)) (ext_alloc _ _), hge, by unfold maxLen at hcm; omega, by simp⟩
  refine ⟨(flat (seg f 0 i)) ++ ((Builtin.zeroCells (Rc.zero.val (.slice none 0 0)).cells q).toList ++ (Builtin.zeroCells (Rc.zero.val (.slice none 0 0)).cells (grownCap w (i + q) cap 28 - (i + q))).toList), ?_, ?_, by omega, hcm, fun k hk j hj => ?_⟩
  · have := heap_alloc_new w.drew (.cells ((flat (seg f 0 i)).toArray ++ (Builtin.zeroCells (Rc.zero.val (.slice none 0 0)).cells q ++ Builtin.zeroCells (Rc.zero.val (.slice none 0 0)).cells (grownCap w (i + q) cap 28 - (i + q)))) 28)
    refine this.trans ?_
    congr 2
    apply Array.ext'
    simp
  · simp only [List.length_append, Array.length_toList, size_zeroCells, hz10, hfl]; omega
  · rw [List.getElem?_append_left (by omega), flat_at _ _ _ (by rw [seg_length]; exact hk) hj, seg_at _ _ _ _ hk, Nat.zero_add]
set_option maxHeartbeats 1000000 in
/-- There is none: a new array. -/
theorem ins_grow (g n i : Nat) (ps : List Pr) (b : Nat) (p : Pr) (T : TypeId) (w : World) (hv : OwnR w (.slice (some ⟨g, 0, none⟩) n n) ps) (hl : n ≤ 1000) (hi : i < n) (hb : w.heap[b]? = some (.cells (p.1.cells p.2).toArray T (0, 0))) (hp : Slc p) :
    Calls Try.prog 106 #[.slice (some ⟨g, 0, none⟩) n n, .int .i64 i, .slice (some ⟨b, 0, none⟩) 1 1] w (InsOut w (.slice (some ⟨g, 0, none⟩) n n) (insAt ps i p)) := by
  obtain ⟨harr, hn⟩ := hv.arr
  obtain ⟨q, hq⟩ : ∃ q, i + q = n + 1 := ⟨n + 1 - i, by omega⟩
  have hrb : ∀ w' : World, w'.heap[b]? = w.heap[b]? → w'.rangeAt b 0 (p.1.cells p.2) := fun w' e j v hj => by
    rw [cell_of_row _ _ _ _ _ _ (e.trans hb), List.getElem?_toArray, Nat.zero_add]; exact hj
  have hblt : b < w.heap.size := (Array.getElem?_eq_some_iff.1 hb).1
  have hsl : ∀ k, k < n → Slc (ps.getD k zp) := fun k hk => hv.2 _ (getD_mem (by omega))
  obtain ⟨w1, cap, hap, ha1, hx1, hc1, hc2, hsz⟩ := harr.fresh (i := i) (q := q) hsl (by omega) (by omega) (by omega) (by omega)
  rw [hq] at hap hc1
  have hb1 : w1.heap[b]? = w.heap[b]? := hx1.block b hblt
  obtain ⟨w2, hcp2, ha2, hg2⟩ := ha1.copied (a := i) (n' := i + 1) [p] (by simpa using hp) (by simp; omega) (by omega) (fun k hk => by simp; omega) ⟨b, 0, none⟩ (one_cells (hrb w1 hb1))
  rw [show ([p] : List Pr).length = 1 from rfl] at hcp2
  have hs1 : ∀ r ∈ seg (fun k => ps.getD k zp) i (n - i), Slc r := fun r hr => by
    obtain ⟨j, hj, rfl⟩ := List.mem_map.1 hr
    rw [List.mem_range] at hj
    exact hsl _ (by omega)
  have hlt : g < w.heap.size := harr.lt
  have hg2d : w2.drew.heap[g]? = w.heap[g]? := (hg2.block g (Nat.lt_trans hlt hsz) (by simp; omega)).trans (hx1.block g hlt)
  have hd : Arr w2.drew g n n (fun k => ps.getD k zp) := harr.kept hg2d
  have ha2d : Arr w2.drew w.heap.size cap (i + 1) _ := ha2.kept rfl
  obtain ⟨w3, hcp3, ha3, hg3⟩ := ha2d.copied (a := i + 1) (n' := n + 1) (seg (fun k => ps.getD k zp) i (n - i)) hs1 (by rw [seg_length]; omega) hc1 (fun k hk => by rw [seg_length]; omega) ⟨g, i * 10, none⟩ (hd.seg_cells i (n - i) (by omega))
  rw [seg_length] at hcp3
  have HP : Hid (InsOut w (.slice (some ⟨g, 0, none⟩) n n) (insAt ps i p) (.returned (.slice (some ⟨w.heap.size, 0, none⟩) (n + 1) cap)) w3) := by
    have e := insAt_length ps i p (by omega)
    rw [← hn] at e
    have hgg : w.grownBy w3 none := by
      have h1 : w.Extends w3 := (hx1.grown (grown_trans (grown_drew hg2) hg3) (fun k hk => by have := Option.some.inj hk; omega))
      exact grown_below (Gr.below_of h1) (Nat.le_refl _)
    refine ⟨some ⟨w.heap.size, 0, none⟩, cap, by rw [e], ?_, ⟨hgg.os, hgg.tape, hgg.output, hgg.size, fun i hi _ => hgg.block i hi (by simp)⟩, .inr ⟨w.heap.size, rfl, Nat.le_refl _⟩⟩
    rw [e]
    refine ha3.own (Nat.le_refl _) e (fun k hk => ?_) (insAt_slc hv.2 hp)
    rw [insAt_at (by omega), seg_length, show ([p] : List Pr).length = 1 from rfl]
    by_cases h1 : k < i
    · rw [if_neg (by omega), if_neg (by omega), if_pos h1]
    · by_cases h2 : k = i
      · rw [if_neg (by omega), if_pos (by omega), if_neg (by omega), if_pos h2, h2, Nat.sub_self]; rfl
      · rw [if_pos (by omega), if_neg (by omega), if_neg h2, seg_at _ _ _ _ (by omega)]
        congr 1; omega
  have hcq2 := hcp2 3 (n + 1 - i) (cap - i) 1 1 (by simp only [Nat.min_def]; split <;> omega)
  have hcq3 := hcp3 3 (n - i) (cap - (i + 1)) (n - i) (n - i) (by simp only [Nat.min_def]; split <;> omega)
  obtain ⟨o1, hf1, ho1⟩ := cutr_from w.heap.size (n + 1) cap (i + 1) (by omega) hc1
  obtain ⟨o2, hf2, ho2⟩ := cutr_from g n n i (by omega) (Nat.le_refl _)
  obtain rfl : o1 = (i + 1) * 10 := by omega
  obtain rfl : o2 = i * 10 := by omega
  rw [show ((i + 1 : Nat) : Int) = (i : Int) + 1 by omega] at hf1
  have HF1 := Lib.hid hf1
  have HF2 := Lib.hid hf2
  have HAP := Lib.hid (hap 47)
  have hw1 : IntKind.i64.wrap ((i : Int) + 1) = (i : Int) + 1 := by rw [IntKind.wrap_i64]; omega
  have hw2 : IntKind.i64.wrap ((n : Int) + 1) = (n : Int) + 1 := by rw [IntKind.wrap_i64]; omega
  have hw3 : IntKind.i64.wrap ((n : Int) + 1 - (i : Int)) = ((q : Nat) : Int) := by rw [IntKind.wrap_i64]; omega
  have k1 : (0 : Int) ≤ (i : Int) + 1 := by omega
  have k2 : ¬ cap = i + 1 := by omega
  have k3 : ¬ cap = i := by omega
  have k4 : ¬ n = 0 := by omega
  have k5 : ¬ ((i : Nat) : Int) = (n : Int) := by omega
  have k6 : (n : Int) < (n : Int) + 1 := by omega
  have k8 : (0 : Int) ≤ (n : Int) + 1 := by omega
  have k9 : (i : Int) + 1 ≤ (n : Int) + 1 := by omega
  have k10 : (i : Int) ≤ (n : Int) + 1 := by omega
  have k11 : ¬ n = i := by omega
  clear harr hn hv hb hrb hs1 hd ha1 hap hcp2 ha2 hg2 hb1 hf1 hf2 ho1 ho2 hblt hsl hq hx1 hlt hg2d ha2d hcp3 ha3 hg3 hsz
  generalize w.heap.size = G at *
  go_enter Try.func106, Try.ntmps106
  go_wp2_with (at_builtin; refine wpList_append_run1 _ rfl _ _ 47 3 rfl _ _ rfl rfl _ _ HAP.out ?_)
  refine Gr.region 8 [(false,0),(false,1),(false,2),(false,3),(false,4),(false,5),(false,6),(false,7)] (by kernel_rfl) (by kernel_rfl) (fun d _ _ _ _ h => by cases d <;> exact h) ?_
  simp only [Gr.pick, List.getElem?_cons_zero, List.getElem?_cons_succ, List.drop_succ_cons, List.drop_zero]
  generalize w2.drew = wd at *
  iterate 4
    refine Gr.walk_t ?_ (Or.inl ⟨by rfl, ?_⟩) ?_
    rotate_left
    · intro w' hw'
      clear hw'
      go_simp
      try with_reducible rfl
    simp only [Act.put, List.setIfInBounds_toArray, List.set_cons_zero, List.set_cons_succ]
  refine Gr.walk_t ?_ (Or.inl ⟨by rfl, ?_⟩) ?_
  rotate_left
  · intro w' hw'
    have hs1 := HF1.out w'
    clear hw'
    go_simp
    try with_reducible rfl
  simp only [Act.put, List.setIfInBounds_toArray, List.set_cons_zero, List.set_cons_succ]
  iterate 2
    refine Gr.walk_t ?_ (Or.inl ⟨by rfl, ?_⟩) ?_
    rotate_left
    · intro w' hw'
      clear hw'
      go_simp
      try with_reducible rfl
    simp only [Act.put, List.setIfInBounds_toArray, List.set_cons_zero, List.set_cons_succ]
  refine Gr.walk_t ?_ (Or.inl ⟨by rfl, ?_⟩) ?_
  rotate_left
  · intro w' hw'
    have hs2 := HF2.out w'
    clear hw'
    go_simp
    try with_reducible rfl
  simp only [Act.put, List.setIfInBounds_toArray, List.set_cons_zero, List.set_cons_succ]
  refine Gr.walk_nil ?_
  go_wp2
  go_ret
  exact HP.out
end Go.Proofs.Ytdbdnfjgmdkneaa
namespace Go.Proofs.Ytdbdnfjgmdkneaa
set_option maxRecDepth 20000
set_option linter.unusedVariables false
namespace LM
/-- How many bytes pieces have in a log. -/
def size : List (List Nat) → Nat
  | [] => 0
  | p :: l => 2 + p.length + size l
theorem size_append : ∀ (a b : List (List Nat)), size (a ++ b) = size a + size b
  | [], b => by simp [size]
  | p :: a, b => by simp only [List.cons_append, size, size_append a b]; omega
theorem size_snoc (l : List (List Nat)) (p : List Nat) : size (l ++ [p]) = size l + 2 + p.length := by
  rw [size_append]; simp only [size]; omega
theorem size_reverse : ∀ (l : List (List Nat)), size l.reverse = size l
  | [] => rfl
  | p :: l => by rw [List.reverse_cons, size_snoc, size_reverse l]; simp only [size]; omega
/-- A piece's bytes: its length, then it. -/
def enc (p : List Nat) : List Nat := KM.nb 2 p.length ++ p
theorem enc_length (p : List Nat) : (enc p).length = 2 + p.length := by simp [enc, KM.nb_length]
def spell : List (List Nat) → List Nat
  | [] => []
  | p :: l => enc p ++ spell l
theorem spell_append : ∀ (a b : List (List Nat)), spell (a ++ b) = spell a ++ spell b
  | [], b => by simp [spell]
  | p :: a, b => by simp only [List.cons_append, spell, spell_append a b, List.append_assoc]
theorem spell_snoc (l : List (List Nat)) (p : List Nat) : spell (l ++ [p]) = spell l ++ KM.nb 2 p.length ++ p := by
  rw [spell_append]; simp [spell, enc]
theorem spell_length : ∀ (l : List (List Nat)), (spell l).length = size l
  | [] => rfl
  | p :: l => by simp only [spell, size, List.length_append, enc_length, spell_length l]
/-- Pieces that may be: no longer than 65535, of bytes. -/
def Fine (l : List (List Nat)) : Prop := ∀ p ∈ l, p.length ≤ 65535 ∧ ∀ y ∈ p, y < 256
theorem Fine.nil : Fine [] := fun p h => by cases h
theorem Fine.snoc {l : List (List Nat)} {p : List Nat} (h : Fine l) (hp : p.length ≤ 65535) (hb : ∀ y ∈ p, y < 256) : Fine (l ++ [p]) := fun q hq => by
  rcases List.mem_append.1 hq with hq | hq
  · exact h q hq
  · obtain rfl : q = p := by simpa using hq
    exact ⟨hp, hb⟩
theorem Fine.left {a b : List (List Nat)} (h : Fine (a ++ b)) : Fine a := fun p hp => h p (List.mem_append_left _ hp)
/-- The whole pieces in the first m bytes. -/
def upto : Nat → List (List Nat) → List (List Nat)
  | _, [] => []
  | m, p :: l => if 2 + p.length ≤ m then p :: upto (m - (2 + p.length)) l else []
theorem upto_pre : ∀ (m : Nat) (l : List (List Nat)), ∃ r, l = upto m l ++ r
  | m, [] => ⟨[], rfl⟩
  | m, p :: l => by
    unfold upto
    split
    · obtain ⟨r, hr⟩ := upto_pre (m - (2 + p.length)) l
      exact ⟨r, by rw [List.cons_append, ← hr]⟩
    · exact ⟨p :: l, rfl⟩
theorem upto_fine {m : Nat} {l : List (List Nat)} (h : Fine l) : Fine (upto m l) := by
  obtain ⟨r, hr⟩ := upto_pre m l
  rw [hr] at h; exact h.left
theorem upto_le (m : Nat) (l : List (List Nat)) : size (upto m l) ≤ size l := by
  obtain ⟨r, hr⟩ := upto_pre m l
  have : size l = size (upto m l ++ r) := by rw [← hr]
  rw [size_append] at this; omega
theorem upto_all : ∀ {m : Nat} {l : List (List Nat)}, size l ≤ m → upto m l = l
  | m, [], _ => rfl
  | m, p :: l, h => by
    simp only [size] at h
    unfold upto
    rw [if_pos (by omega), upto_all (by omega)]
/-- A last piece that does not fit. -/
theorem upto_snoc : ∀ {m : Nat} {l : List (List Nat)} {p : List Nat}, m < size (l ++ [p]) → upto m (l ++ [p]) = upto m l
  | m, [], p, h => by
    simp only [List.nil_append, size] at h ⊢
    unfold upto
    rw [if_neg (by omega)]
  | m, q :: l, p, h => by
    simp only [List.cons_append, size] at h ⊢
    unfold upto
    split
    · rw [upto_snoc (by omega)]
    · rfl
/-- How many bytes a crash leaves ahead of the cut to whole pieces. -/
def keep (s : Nat) (k : Int) (z : Nat) : Nat := s + min k.toNat (z - s)
theorem keep_ge (s : Nat) (k : Int) (z : Nat) : s ≤ keep s k z := by unfold keep; omega
end LM
end Go.Proofs.Ytdbdnfjgmdkneaa
namespace Go.Proofs.Ytdbdnfjgmdkneaa
set_option maxRecDepth 20000
set_option linter.unusedVariables false
namespace SM
/-- Symbols' order: by id, block, number. -/
def Lt (a b : Rc) : Prop := a.p < b.p ∨ (a.p = b.p ∧ (a.n < b.n ∨ (a.n = b.n ∧ (a.k < b.k ∨ (a.k = b.k ∧ a.e < b.e)))))
instance (a b : Rc) : Decidable (Lt a b) := by unfold Lt; infer_instance
def Same (a b : Rc) : Prop := a.p = b.p ∧ a.n = b.n ∧ a.k = b.k ∧ a.e = b.e
instance (a b : Rc) : Decidable (Same a b) := by unfold Same; infer_instance
theorem Lt.trans {a b c : Rc} (h : Lt a b) (k : Lt b c) : Lt a c := by unfold Lt at *; omega
theorem same_iff (a b : Rc) : Same a b ↔ ¬ Lt a b ∧ ¬ Lt b a := by unfold Same Lt; omega
theorem Lt.not_trans {a b r : Rc} (h : Lt a b) (k : ¬ Lt a r) : ¬ Lt b r := by unfold Lt at *; omega
/-- Of one id. -/
def Of (x r : Rc) : Prop := x.p = r.p ∧ x.n = r.n
instance (a b : Rc) : Decidable (Of a b) := by unfold Of; infer_instance
/-- How many are ahead of r. -/
def pos (r : Rc) : List Rc → Nat
  | [] => 0
  | x :: l => if Lt x r then pos r l + 1 else 0
theorem pos_le (r : Rc) : ∀ l, pos r l ≤ l.length
  | [] => Nat.le_refl _
  | x :: l => by
    have := pos_le r l
    unfold pos
    split
    · rw [List.length_cons]; omega
    · exact Nat.zero_le _
theorem pos_lt (r : Rc) : ∀ (l : List Rc) (m : Nat), m < pos r l → Lt (l.getD m Rc.zero) r
  | [], m, h => by simp [pos] at h
  | x :: l, m, h => by
    unfold pos at h
    split at h
    · rename_i hx
      cases m with
      | zero => exact hx
      | succ m => exact pos_lt r l m (by omega)
    · omega
theorem pos_at (r : Rc) : ∀ (l : List Rc), pos r l < l.length → ¬ Lt (l.getD (pos r l) Rc.zero) r
  | [], h => by simp [pos] at h
  | x :: l, h => by
    unfold pos at h ⊢
    split
    · rename_i hx
      rw [if_pos hx, List.length_cons] at h
      exact pos_at r l (by omega)
    · rename_i hx
      exact hx
/-- The first number from which on nothing is ahead of r. -/
theorem pos_uniq {r : Rc} {l : List Rc} {k : Nat} (hk : k ≤ l.length) (h1 : ∀ m, m < k → Lt (l.getD m Rc.zero) r) (h2 : k < l.length → ¬ Lt (l.getD k Rc.zero) r) : pos r l = k := by
  rcases Nat.lt_trichotomy (pos r l) k with h | h | h
  · exact absurd (h1 _ h) (pos_at r l (by omega))
  · exact h
  · exact absurd (pos_lt r l k h) (h2 (by have := pos_le r l; omega))
def Sorted (l : List Rc) : Prop := l.Pairwise Lt
theorem Sorted.lt {l : List Rc} (h : Sorted l) {i j : Nat} (hij : i < j) (hj : j < l.length) : Lt (l.getD i Rc.zero) (l.getD j Rc.zero) := by
  have := List.pairwise_iff_getElem.1 h i j (by omega) hj hij
  simpa [List.getD_eq_getElem?_getD, List.getElem?_eq_getElem hj, List.getElem?_eq_getElem (Nat.lt_trans hij hj)] using this
theorem Sorted.pos_iff {l : List Rc} (h : Sorted l) (r : Rc) {m : Nat} (hm : m < l.length) : Lt (l.getD m Rc.zero) r ↔ m < pos r l := by
  refine ⟨fun hl => ?_, fun hl => pos_lt r l m hl⟩
  rcases Nat.lt_or_ge m (pos r l) with h1 | h1
  · exact h1
  · have h2 := pos_at r l (by omega)
    rcases Nat.lt_or_ge (pos r l) m with h3 | h3
    · exact absurd hl (Lt.not_trans (h.lt h3 hm) h2)
    · have : m = pos r l := by omega
      subst this
      exact absurd hl h2
/-- r among them. -/
def ins (r : Rc) (l : List Rc) : List Rc := l.take (pos r l) ++ r :: l.drop (pos r l)
theorem ins_length (r : Rc) (l : List Rc) : (ins r l).length = l.length + 1 := by
  have := pos_le r l
  simp [ins]; omega
theorem mem_ins {r x : Rc} {l : List Rc} : x ∈ ins r l ↔ x = r ∨ x ∈ l := by
  unfold ins
  rw [List.mem_append, List.mem_cons]
  constructor
  · rintro (h | h | h)
    · exact .inr (List.mem_of_mem_take h)
    · exact .inl h
    · exact .inr (List.mem_of_mem_drop h)
  · rintro (h | h)
    · exact .inr (.inl h)
    · rw [← List.take_append_drop (pos r l) l, List.mem_append] at h
      rcases h with h | h
      · exact .inl h
      · exact .inr (.inr h)
theorem Sorted.ins {l : List Rc} (h : Sorted l) {r : Rc} (hn : pos r l < l.length → Lt r (l.getD (pos r l) Rc.zero)) : Sorted (ins r l) := by
  unfold Sorted SM.ins
  have ht : ∀ a ∈ l.take (pos r l), Lt a r := fun a ha => by
    obtain ⟨i, hi, rfl⟩ := List.mem_iff_getElem.1 ha
    rw [List.length_take] at hi
    have := pos_lt r l i (by omega)
    rw [List.getElem_take]
    simpa [List.getD_eq_getElem?_getD, List.getElem?_eq_getElem (show i < l.length by omega)] using this
  have hd : ∀ a ∈ l.drop (pos r l), Lt r a := fun a ha => by
    obtain ⟨i, hi, rfl⟩ := List.mem_iff_getElem.1 ha
    rw [List.length_drop] at hi
    have h0 := hn (by omega)
    rw [List.getElem_drop]
    rcases Nat.eq_zero_or_pos i with e | e
    · subst e
      simpa [List.getD_eq_getElem?_getD, List.getElem?_eq_getElem (show pos r l < l.length by omega)] using h0
    · have := h0.trans (h.lt (i := pos r l) (j := pos r l + i) (by omega) (by omega))
      simpa [List.getD_eq_getElem?_getD, List.getElem?_eq_getElem (show pos r l + i < l.length by omega)] using this
  rw [List.pairwise_append]
  refine ⟨h.sublist (List.take_sublist _ _), List.pairwise_cons.2 ⟨hd, h.sublist (List.drop_sublist _ _)⟩, fun a ha b hb => ?_⟩
  rcases List.mem_cons.1 hb with e | hb
  · subst e; exact ht a ha
  · exact (ht a ha).trans (hd b hb)
/-- Where the one stands that would be forgotten first, of the first k; -1: there is none. -/
def leastTo (l : List Rc) : Nat → Int
  | 0 => -1
  | k + 1 => if leastTo l k < 0 ∨ (l.getD k Rc.zero).u < (l.getD (leastTo l k).toNat Rc.zero).u then (k : Int) else leastTo l k
theorem leastTo_bounds (l : List Rc) : ∀ k, -1 ≤ leastTo l k ∧ leastTo l k < (k : Int) ∧ (0 < k → 0 ≤ leastTo l k)
  | 0 => by unfold leastTo; omega
  | k + 1 => by
    have := leastTo_bounds l k
    unfold leastTo
    split
    · omega
    · rename_i h
      refine ⟨this.1, by omega, fun _ => ?_⟩
      omega
def least (l : List Rc) : Int := leastTo l l.length
theorem least_lt {l : List Rc} (h : ¬ least l < 0) : (least l).toNat < l.length := by
  have := leastTo_bounds l l.length
  unfold least at *
  omega
/-- Where what stands at j is gone: r's place. -/
theorem pos_erase {l : List Rc} (h : Sorted l) (r : Rc) {j : Nat} (hj : j < l.length) : pos r (l.eraseIdx j) = if j < pos r l then pos r l - 1 else pos r l := by
  have hle := pos_le r l
  have hlen : (l.eraseIdx j).length = l.length - 1 := by rw [List.length_eraseIdx, if_pos hj]
  have hget : ∀ m, (l.eraseIdx j).getD m Rc.zero = l.getD (if m < j then m else m + 1) Rc.zero := fun m => by
    rw [List.getD_eq_getElem?_getD, List.getD_eq_getElem?_getD, List.getElem?_eraseIdx]
    split <;> rfl
  split
  · rename_i hjp
    refine pos_uniq (by omega) (fun m hm => ?_) (fun hm => ?_)
    · rw [hget]; split
      · exact pos_lt r l _ (by omega)
      · exact pos_lt r l _ (by omega)
    · rw [hget, if_neg (by omega), show pos r l - 1 + 1 = pos r l by omega]
      exact pos_at r l (by omega)
  · rename_i hjp
    refine pos_uniq (by omega) (fun m hm => ?_) (fun hm => ?_)
    · rw [hget, if_pos (by omega)]
      exact pos_lt r l _ hm
    · rw [hget]
      split
      · exact pos_at r l (by omega)
      · rw [h.pos_iff r (by omega)]; omega
theorem Sorted.erase {l : List Rc} (h : Sorted l) (j : Nat) : Sorted (l.eraseIdx j) := h.sublist (List.eraseIdx_sublist _ _)
theorem Sorted.filter {l : List Rc} (h : Sorted l) (p : Rc → Bool) : Sorted (l.filter p) := h.sublist List.filter_sublist
/-- With another Until. -/
def till (r : Rc) (u : Int) : Rc := { r with u := u }
theorem Sorted.till {l : List Rc} (h : Sorted l) (k : Nat) (u : Int) (hk : k < l.length) : Sorted (l.set k (till (l.getD k Rc.zero) u)) := by
  unfold Sorted
  rw [List.pairwise_iff_getElem]
  intro i j hi hj hij
  rw [List.length_set] at hi hj
  have h0 := List.pairwise_iff_getElem.1 h i j hi hj hij
  have e : l.getD k Rc.zero = l[k] := by simp [List.getD_eq_getElem?_getD, hk]
  rw [List.getElem_set, List.getElem_set]
  generalize l.getD k Rc.zero = y at *
  subst e
  have key : ∀ a b : Rc, Lt (SM.till a u) b ↔ Lt a b := fun a b => Iff.rfl
  have key' : ∀ a b : Rc, Lt a (SM.till b u) ↔ Lt a b := fun a b => Iff.rfl
  split
  · rename_i e1; subst e1
    rw [if_neg (by omega)]; exact h0
  · split
    · rename_i e2; subst e2; exact h0
    · exact h0
/-- Where the first one of r's id stands. -/
def tat (r : Rc) : List Rc → Nat
  | [] => 0
  | x :: l => if Of x r then 0 else tat r l + 1
theorem tat_le (r : Rc) : ∀ l, tat r l ≤ l.length
  | [] => Nat.le_refl _
  | x :: l => by
    have := tat_le r l
    unfold tat
    split
    · exact Nat.zero_le _
    · rw [List.length_cons]; omega
theorem tat_lt (r : Rc) : ∀ (l : List Rc) (m : Nat), m < tat r l → ¬ Of (l.getD m Rc.zero) r
  | [], m, h => by simp [tat] at h
  | x :: l, m, h => by
    unfold tat at h
    split at h
    · omega
    · rename_i hx
      cases m with
      | zero => exact hx
      | succ m => exact tat_lt r l m (by omega)
theorem tat_at (r : Rc) : ∀ (l : List Rc), tat r l < l.length → Of (l.getD (tat r l) Rc.zero) r
  | [], h => by simp [tat] at h
  | x :: l, h => by
    unfold tat at h ⊢
    split
    · rename_i hx; exact hx
    · rename_i hx
      rw [if_neg hx, List.length_cons] at h
      exact tat_at r l (by omega)
/-- Is one of r's id there? -/
def Has (t : List Rc) (r : Rc) : Prop := tat r t < t.length
instance (t : List Rc) (r : Rc) : Decidable (Has t r) := by unfold Has; infer_instance
theorem has_iff (t : List Rc) (r : Rc) : Has t r ↔ ∃ x ∈ t, Of x r := by
  constructor
  · intro h
    refine ⟨t.getD (tat r t) Rc.zero, ?_, tat_at r t h⟩
    rw [List.getD_eq_getElem?_getD, List.getElem?_eq_getElem h]
    exact List.getElem_mem h
  · rintro ⟨x, hx, ho⟩
    rcases Nat.lt_or_ge (tat r t) t.length with h | h
    · exact h
    · obtain ⟨i, hi, rfl⟩ := List.mem_iff_getElem.1 hx
      have := tat_lt r t i (by omega)
      rw [List.getD_eq_getElem?_getD, List.getElem?_eq_getElem hi] at this
      exact absurd ho this
/-- Tombstones are of unlike ids. -/
def Apart (t : List Rc) : Prop := t.Pairwise (fun a b => ¬ Of a b)
end SM
/-- What a store has: how many at most, symbols, tombstones, the log's pieces, how many bytes of it are sure. -/
structure Sto where
  m : Nat
  l : List Rc
  t : List Rc
  lg : List (List Nat)
  s : Nat
namespace SM
/-- What a record turns: the store, what is logged, the error. -/
def buryOf (st : Sto) (r : Rc) : Sto × Option Rc × Nat :=
  if Has st.t r then
    if (st.t.getD (tat r st.t) Rc.zero).u < r.u then ({ st with t := st.t.set (tat r st.t) r }, some r, 0) else (st, none, 0)
  else ({ st with l := st.l.filter (fun x => ¬ Of x r), t := st.t ++ [r] }, some r, 0)
def addOf (st : Sto) (r : Rc) : Sto × Option Rc × Nat :=
  if Has st.t r then (st, none, 0)
  else if pos r st.l < st.l.length ∧ ¬ Lt r (st.l.getD (pos r st.l) Rc.zero) then
    if (st.l.getD (pos r st.l) Rc.zero).u < r.u then ({ st with l := st.l.set (pos r st.l) (till (st.l.getD (pos r st.l) Rc.zero) r.u) }, some (till (st.l.getD (pos r st.l) Rc.zero) r.u), 0) else (st, none, 0)
  else if st.l.length < st.m then ({ st with l := ins r st.l }, some r, 0)
  else if least st.l < 0 ∨ r.u ≤ (st.l.getD (least st.l).toNat Rc.zero).u then (st, none, 6)
  else ({ st with l := ins r (st.l.eraseIdx (least st.l).toNat) }, some r, 0)
def logged (x : Sto × Option Rc × Nat) : Sto := match x.2.1 with
  | none => x.1
  | some r => { x.1 with lg := x.1.lg ++ [KM.bytes r] }
/-- What holds of a store. -/
structure Inv (st : Sto) : Prop where
  sorted : Sorted st.l
  sym : ∀ r ∈ st.l, KM.Right r ∧ r.g = false ∧ ∀ y ∈ r.d, y < 256
  tomb : ∀ r ∈ st.t, KM.Right r ∧ r.g = true
  apart : Apart st.t
  alive : ∀ r ∈ st.l, ¬ Has st.t r
  most : st.m ≤ 1000
  room : st.l.length ≤ st.m
  fine : LM.Fine st.lg
  sure : st.s ≤ LM.size st.lg
end SM
end Go.Proofs.Ytdbdnfjgmdkneaa
