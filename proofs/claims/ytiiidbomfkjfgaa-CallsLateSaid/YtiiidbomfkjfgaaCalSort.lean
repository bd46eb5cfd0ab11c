/- Calls in a row of the call's own, sorted by the library by their tags. -/
import Derived.Test.YtiiidbomfkjfgaaCalCs
import Derived.Test.YtiiidbomfkjfgaaCalLay
import Derived.Test.YtiiidbomfkjfgaaSorted
import Derived.Deep.DeepCutAuto
namespace Go.Proofs.Ytiiidbomfkjfgaa
set_option maxRecDepth 20000
open Go.RowKit Go.Deep
set_option linter.unusedVariables false
abbrev CVC (x : Cl) : Value := .agg (CCL x).toArray
def flatCl (l : List Cl) : List Value := l.flatMap CCL
theorem flatCl_cons (c : Cl) (l : List Cl) : flatCl (c :: l) = CCL c ++ flatCl l := rfl
theorem flatCl_append (a b : List Cl) : flatCl (a ++ b) = flatCl a ++ flatCl b := by simp [flatCl]
theorem flatCl_length : ∀ l : List Cl, (flatCl l).length = l.length * 4
  | [] => rfl
  | c :: l => by
    rw [flatCl_cons, List.length_append, flatCl_length l]
    simp only [CCL, List.length_cons, List.length_nil]
    omega
theorem flatCl_at : ∀ (l : List Cl) (k i : Nat), k < l.length → i < 4 → (flatCl l)[k * 4 + i]? = (CCL (l.getD k zc))[i]?
  | c :: l, 0, i, _, hi => by
    rw [flatCl_cons, Nat.zero_mul, Nat.zero_add, List.getElem?_append_left (by show i < 4; exact hi)]; rfl
  | c :: l, k + 1, i, hk, hi => by
    rw [flatCl_cons, List.getElem?_append_right (by show 4 ≤ _; omega), show (k + 1) * 4 + i - (CCL c).length = k * 4 + i by show (k + 1) * 4 + i - 4 = _; omega, flatCl_at l k i (by simpa using hk) hi]
    rfl
/-- v is a slice of the call's own, in memory from B on, of the calls l. -/
def OwnCl (w : World) (B : Nat) (v : Value) (l : List Cl) : Prop := w.ownsRow B 30 4 v l.length (flatCl l)
/-- v is a slice of the calls l, in memory from B on. -/
def Cls (w : World) (B : Nat) (v : Value) (l : List Cl) : Prop := (l = [] ∧ v = .slice none 0 0) ∨ ∃ g cap, v = .slice (some ⟨g, 0, none⟩) l.length cap ∧ l.length ≤ cap ∧ B ≤ g ∧ g < w.heap.size ∧ ∀ k, k < l.length → ∀ j u, (CCL (l.getD k zc))[j]? = some u → w.cell? ⟨g, k * 4 + j, none⟩ = some u
theorem late1_any (a b : Cl) (w : World) : Calls Try.prog 13 #[CVC a, CVC b] w fun e w' => e = .returned (.int .i64 (Lib.compareInt a.t b.t)) ∧ Ahd w w' := by
  have HCM : Hid (∀ w1, Calls Try.prog 14 #[.int .i64 a.t, .int .i64 b.t] w1 fun e w' => e = .returned (.int .i64 (Lib.compareInt a.t b.t)) ∧ w' = w1) := fun w1 => AnyG.cmp_Compare_int cmpIntC a.t b.t w1
  have HX : Hid (∀ o1 o2, Ahd w ((w.alloc o1).alloc o2)) := fun o1 o2 => (Ahd.alloc _ _).trans (Ahd.alloc _ _)
  generalize Lib.compareInt a.t b.t = r at *
  go_enter Try.func13, Try.ntmps13
  go_wp2_with fail
  refine (HCM.out _).mono ?_
  rintro e w2 ⟨rfl, rfl⟩
  have HX2 := Lib.hid (HX.out (.cells (CCL a).toArray 30) (.cells (CCL b).toArray 30))
  go_wp2
  go_ret
  exact ⟨rfl, HX2.out⟩
/-- The call of a tag. -/
def ofTag (L : List Cl) (x : Int) : Cl := (L.find? fun c => decide (c.t = x)).getD ⟨x, 0, 0, 0⟩
theorem ofTag_t (L : List Cl) (x : Int) : (ofTag L x).t = x := by
  unfold ofTag
  cases h : L.find? fun c => decide (c.t = x) with
  | none => rfl
  | some c => simpa using List.find?_some h
theorem ofTag_mem {L : List Cl} (h : ∀ x ∈ L, ∀ y ∈ L, x.t = y.t → x = y) {c : Cl} (hc : c ∈ L) : ofTag L c.t = c := by
  unfold ofTag
  cases e : L.find? fun d => decide (d.t = c.t) with
  | none => exact absurd (List.find?_eq_none.1 e c hc) (by simp)
  | some d => exact h d (List.mem_of_find?_eq_some e) c hc (by simpa using List.find?_some e)
abbrev encT (L : List Cl) (x : Int) : List Value := CCL (ofTag L x)
theorem tag_swo : Sort.SWO (ltOf (fun x y : Int => Lib.compareInt x y)) := by
  have hl : ∀ x y : Int, ltOf (fun x y : Int => Lib.compareInt x y) x y = decide (x < y) := fun x y => by
    unfold ltOf Lib.compareInt
    by_cases h1 : x < y
    · simp [h1]
    · by_cases h2 : y < x <;> simp [h1, h2]
  refine ⟨fun x => by rw [hl]; simp, fun x y z h1 h2 => by rw [hl, decide_eq_true_eq] at *; omega, fun x y z h1 h2 => by rw [hl, decide_eq_false_iff_not] at *; omega⟩
/-- The tags in their order. -/
def sortT (xs : List Int) : List Int := xs.mergeSort fun x y => !(ltOf (fun x y : Int => Lib.compareInt x y)) y x
def SortCl (B : Nat) (v : Value) (L : List Cl) (w : World) (e : Ending) (w' : World) : Prop := e = .returned (.tuple #[]) ∧ Below B w w' ∧ Cls w' B v ((sortT (L.map Cl.t)).map (ofTag L))
theorem flatK_cl (L : List Cl) (d : Array Int) {i c : Nat} (hi : i < d.size) (hc : c < 4) : (Sort.flatK (encT L) 4 d)[i * 4 + c]! = (encT L d[i]!)[c]! := by
  rw [Sort.get_flatK _ _ _ _ (by omega), show (i * 4 + c) / 4 = i by omega, show (i * 4 + c) % 4 = c by omega]
theorem tsortcl_any (B : Nat) (v : Value) (L : List Cl) (w : World) (hB : B ≤ w.heap.size) (ho : OwnCl w B v L) (hl : L.length ≤ 100000) (hu : ∀ x ∈ L, ∀ y ∈ L, x.t = y.t → x = y) :
    Calls Try.prog 12 #[v, .func (.func 13) #[] #[]] w (SortCl B v L w) := by
  obtain ⟨ds, hds⟩ : ∃ ds, L.map Cl.t = ds := ⟨_, rfl⟩
  have hLds : L = ds.map (ofTag L) := by
    rw [← hds, List.map_map]
    symm
    refine (List.map_congr_left fun x hx => ?_).trans (List.map_id L)
    exact ofTag_mem hu hx
  have hlen0 : ds.length = L.length := by rw [← hds, List.length_map]
  rcases ho.2 with ⟨rfl, h0⟩ | ⟨g, cap, cur, rfl, hbg, hg, hnc, hcm, hcs, htake⟩
  · have hn : L = [] := List.eq_nil_of_length_eq_zero h0
    have hr := AnyF.slices_SortFunc_none sortCall none 0 (.func (.func 13) #[] #[]) w
    refine Calls.mono (show Calls Try.prog 12 _ _ _ from hr) fun e w' ⟨he, hw⟩ => ⟨he, by rw [hw]; exact Below.refl _ _, ?_⟩
    refine .inl ⟨?_, rfl⟩
    rw [hn]; unfold sortT; rw [List.map_nil, List.mergeSort_nil]; rfl
  · have hlt : g < w.heap.size := (Array.getElem?_eq_some_iff.1 hg).1
    have hholds : Sort.HoldsK (encT L) 4 w g 0 ds.toArray := by
      intro j hj
      rw [Sort.size_flatK] at hj
      have hj2 : j < ds.length * 4 := by simpa using hj
      refine ⟨?_, frozen_of_row _ _ _ _ _ hg⟩
      have hi : j / 4 < ds.length := by omega
      have e : j = j / 4 * 4 + j % 4 := by omega
      have hf := flatK_cl L ds.toArray (i := j / 4) (c := j % 4) (by simpa using hi) (by omega)
      rw [← e] at hf
      rw [hf]
      have hc := flatCl_at L (j / 4) (j % 4) (by omega) (by omega)
      rw [← e] at hc
      have hget : L.getD (j / 4) zc = ofTag L (ds[j / 4]) := by
        have : L.getD (j / 4) zc = (ds.map (ofTag L)).getD (j / 4) zc := by rw [← hLds]
        rw [this]
        simp [hi]
      rw [hget] at hc
      have hcur : cur[j]? = (flatCl L)[j]? := by
        rw [← htake, List.getElem?_take_of_lt (by omega), ← Array.getElem?_toList]
      rw [Nat.zero_add, cell_of_row _ _ _ _ _ _ hg, hcur, hc]
      have h4 : j % 4 < (encT L (ds[j / 4])).length := by show _ < 4; omega
      simp [hi, List.getElem?_eq_getElem h4]
    have eg : ∀ args w, (callFunc 13 args).run Try.prog w = .ok (.enter 13 args) w := enters_of Try.func13 (by kernel_rfl) rfl
    have hcmp : CmpLays Try.prog 13 #[] (encT L) 4 (fun x y : Int => Lib.compareInt x y) g 0 ds.toArray.size w := fun m os dk _ x y => by
      have := late1_any (ofTag L x) (ofTag L y) (sortWorldK (encT L) 4 w g 0 m dk os)
      rw [ofTag_t, ofTag_t] at this
      exact this.mono fun e w' ⟨he, ha⟩ => ⟨he, ha.grow⟩
    have hr := AnyQ.slices_SortFunc_total sortCall 4 Try.isAgg30 Try.sizeOf30 (encT L) (fun x => rfl) (fun x v hv => by
      simp only [encT, CCL, List.mem_cons, List.not_mem_nil, or_false] at hv
      rcases hv with rfl | rfl | rfl | rfl <;> rfl) (fun x y : Int => Lib.compareInt x y) tag_swo 13 #[] g 0 cap ds.toArray w eg hcmp hholds hlt (by simp; omega) (fun x y h1 h2 => by
      unfold ltOf Lib.compareInt at h1 h2
      rw [decide_eq_false_iff_not] at h1 h2
      rcases Int.lt_trichotomy x y with h | h | h
      · simp [h] at h1
      · exact h
      · simp [h] at h2)
    rw [List.size_toArray, hlen0] at hr
    refine Calls.mono (show Calls Try.prog 12 _ _ _ from hr) fun e w' ⟨he, n, os, hw⟩ => ⟨he, by rw [hw]; exact below_sort _ _ _ _ _ _ _ hbg hB, ?_⟩
    have hlen : (ds.mergeSort fun x y => !(ltOf (fun x y : Int => Lib.compareInt x y)) y x).length = ds.length := (List.mergeSort_perm ds _).length_eq
    rw [hds]
    unfold sortT
    generalize (ds.mergeSort fun x y => !(ltOf (fun x y : Int => Lib.compareInt x y)) y x) = ys at *
    have hh := holdsK_sortWorldK_c (encT L) 4 w g 0 ds.toArray ys.toArray n os hholds hlt (by simp [hlen])
    rw [← hw] at hh
    refine .inr ⟨g, cap, by rw [List.length_map, hlen, hlen0], by rw [List.length_map]; omega, hbg, ?_, fun k hk j u hu => ?_⟩
    · rw [hw]; exact Nat.lt_of_lt_of_le hlt (size_sortWorldK_c (encT L) 4 w g 0 n ys.toArray os)
    · rw [List.length_map] at hk
      have hget : (ys.map (ofTag L)).getD k zc = ofTag L ys[k] := by simp [hk]
      rw [hget] at hu
      have hj : j < 4 := (List.getElem?_eq_some_iff.1 hu).1
      have := (hh.cell (i := k) (c := j) (by simpa using hk) hj).1
      rw [Nat.zero_add] at this
      rw [this, ← hu]
      have hjl : j < (CCL (ofTag L ys[k])).length := hj
      simp [hk, encT, List.getElem?_eq_getElem hjl]
end Go.Proofs.Ytiiidbomfkjfgaa
