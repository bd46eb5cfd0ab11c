/- In one text: Sys. -/
import Derived.WalkSpells
import Derived.Test.YtippckajlghimaaDoorM5
/- Package solve: the system in memory; newSystem, full, isZero. -/
namespace Go.Proofs.YtippckajlghimaaDoor
set_option maxRecDepth 20000
open Go.RowKit
set_option linter.unusedVariables false
abbrev nilS : Value := .slice none 0 0
/-- What the head of a system holds. -/
def sysHead (g W S r : Nat) (i : Nat) : Value := if i = 0 then .int .i64 S else if i = 1 then .slice (some ⟨g, 0, none⟩) W W else .int .i64 r
/-- The two sides of an equation in memory. -/
def EqAt (w : World) (W S : Nat) (u v : Value) (s : List Nat × List Nat) : Prop :=
  ∃ b1 b2, u = .slice (some ⟨b1, 0, none⟩) W W ∧ v = .slice (some ⟨b2, 0, none⟩) S S ∧ Own w b1 5 s.1 ∧ s.1.length = W ∧ Own w b2 5 s.2 ∧ s.2.length = S
/-- Column c of the steps in memory. -/
def StepAt (w : World) (W S : Nat) (vs : Nat → Value) (c : Nat) : Option (List Nat × List Nat) → Prop
  | none => vs (c * 2) = nilS ∧ vs (c * 2 + 1) = nilS
  | some s => EqAt w W S (vs (c * 2)) (vs (c * 2 + 1)) s
/-- The system at p, its steps at g. -/
structure Sys (w : World) (p g W S r : Nat) (st : Nat → Option (List Nat × List Nat)) : Prop where
  head : w.rowIs p 113 3 (sysHead g W S r)
  steps : ∃ vs, w.rowIs g 118 (W * 2) vs ∧ ∀ c, c < W → StepAt w W S vs c (st c)
  hW : W ≤ 300
  hS : S ≤ 1000
theorem EqAt.block {w w' : World} {W S : Nat} {u v : Value} {s : List Nat × List Nat} (h : EqAt w W S u v s) (hb : ∀ b, b < w.heap.size → (∀ cs T, w.heap[b]? = some (.cells cs T (0, 0)) → T = 5) → w'.heap[b]? = w.heap[b]?) : EqAt w' W S u v s := by
  obtain ⟨b1, b2, h1, h2, h3, h4, h5, h6⟩ := h
  have key : ∀ {b : Nat} {xs : List Nat}, Own w b 5 xs → w'.heap[b]? = w.heap[b]? := fun {b xs} ho => hb b ho.lt fun cs T hT => by
    obtain ⟨c, hc, _⟩ := ho.1
    rw [hc] at hT
    simp only [Option.some.injEq, Obj.cells.injEq] at hT
    exact hT.2.1.symm
  exact ⟨b1, b2, h1, h2, h3.block (key h3), h4, h5.block (key h5), h6⟩
theorem StepAt.block {w w' : World} {W S : Nat} {vs : Nat → Value} {c : Nat} {s : Option (List Nat × List Nat)} (h : StepAt w W S vs c s) (hb : ∀ b, b < w.heap.size → (∀ cs T, w.heap[b]? = some (.cells cs T (0, 0)) → T = 5) → w'.heap[b]? = w.heap[b]?) : StepAt w' W S vs c s := by
  cases s with
  | none => exact h
  | some s => exact EqAt.block h hb
theorem Sys.block {w w' : World} {p g W S r : Nat} {st : Nat → Option (List Nat × List Nat)} (h : Sys w p g W S r st) (hp : w'.heap[p]? = w.heap[p]?) (hg : w'.heap[g]? = w.heap[g]?)
    (hb : ∀ b, b < w.heap.size → (∀ cs T, w.heap[b]? = some (.cells cs T (0, 0)) → T = 5) → w'.heap[b]? = w.heap[b]?) : Sys w' p g W S r st := by
  obtain ⟨vs, h1, h2⟩ := h.steps
  exact ⟨h.head.of_block hp, ⟨vs, h1.of_block hg, fun c hc => (h2 c hc).block hb⟩, h.hW, h.hS⟩
theorem Sys.ext {w w' : World} {p g W S r : Nat} {st : Nat → Option (List Nat × List Nat)} (h : Sys w p g W S r st) (hx : w.Extends w') : Sys w' p g W S r st := by
  obtain ⟨vs, h1, _⟩ := h.steps
  exact h.block (hx.block _ h.head.lt) (hx.block _ h1.lt) fun b hb _ => hx.block b hb
theorem Sys.pg {w : World} {p g W S r : Nat} {st : Nat → Option (List Nat × List Nat)} (h : Sys w p g W S r st) : p < w.heap.size ∧ g < w.heap.size ∧ p ≠ g := by
  obtain ⟨vs, h1, _⟩ := h.steps
  refine ⟨h.head.lt, h1.lt, fun e => ?_⟩
  subst e
  obtain ⟨c, hc, _⟩ := h.head
  obtain ⟨d, hd, _⟩ := h1
  rw [hc] at hd
  simp only [Option.some.injEq, Obj.cells.injEq] at hd
  exact absurd hd.2.1 (by decide)
/-- Over a change of one block of two cells of an equation that is not the steps. -/
theorem Sys.grown {w w' : World} {p g W S r be : Nat} {st : Nat → Option (List Nat × List Nat)} (h : Sys w p g W S r st) (hg : w.grownBy w' (some be)) {f : Nat → Value} {n : Nat} (hbe : w.rowIs be 118 n f) (hne : g ≠ be) : Sys w' p g W S r st := by
  obtain ⟨hp, hgl, _⟩ := h.pg
  obtain ⟨c0, hc0, _⟩ := hbe
  have key : ∀ b cs T, w.heap[b]? = some (.cells cs T (0, 0)) → T ≠ 118 → b ≠ be := fun b cs T hb hT e => by
    subst e
    rw [hb] at hc0
    simp only [Option.some.injEq, Obj.cells.injEq] at hc0
    exact hT hc0.2.1
  obtain ⟨c1, hc1, _⟩ := h.head
  refine h.block (hg.block p hp fun e => key p _ _ hc1 (by decide) (Option.some.inj e)) (hg.block g hgl fun e => hne (Option.some.inj e)) fun b hb hT => hg.block b hb fun e => ?_
  have e' := Option.some.inj e
  subst e'
  exact absurd (hT _ _ hc0) (by decide)
theorem sysinfo : (Tryd.prog.info? 118).map (fun i => (i.zero, i.size, i.bytes)) = some (some (.agg #[.slice none 0 0, .slice none 0 0]), 2, 48) := by kernel_rfl
theorem makeSteps (k : Nat) (hk : k ≤ 300) (w : World) : (Instr.makeSlice 111 (.int .i64 (k : Int)) (.int .i64 (k : Int))).run Tryd.prog w = .ok (.slice (some ⟨w.heap.size, 0, none⟩) k k) (w.alloc (.cells (madeCells #[nilS, nilS] (k * 2)) 118)) := by
  obtain ⟨i, hi, hz, hs, hb⟩ := info_parts sysinfo
  have := run_make (P := Tryd.prog) w 111 118 i _ Tryd.underlying111 hi hz .i64 .i64 k k (by omega) (Int.le_refl _) (by rw [hb]; omega) (by omega)
  rw [hs] at this
  simpa [Value.cells] using this
/-- A new system. -/
def MadeSys (w : World) (W S : Nat) (e : Ending) (w' : World) : Prop := ∃ p g, e = .returned (.pointer (some ⟨p, 0, none⟩)) ∧ Sys w' p g W S 0 (fun _ => none) ∧ w.Extends w' ∧ w.heap.size ≤ p ∧ w.heap.size ≤ g
theorem sys_new (w : World) (W S : Nat) (hW : W ≤ 300) (hS : S ≤ 1000) : Sys ((w.alloc (.cells (madeCells #[nilS, nilS] (W * 2)) 118)).alloc (.cells #[.int .i64 S, .slice (some ⟨w.heap.size, 0, none⟩) W W, .int .i64 0] 113)) (w.heap.size + 1) w.heap.size W S 0 (fun _ => none) := by
  refine ⟨?_, ⟨fun _ => nilS, ?_, fun c hc => ⟨rfl, rfl⟩⟩, hW, hS⟩
  · have := World.rowIs_alloc (w.alloc (.cells (madeCells #[nilS, nilS] (W * 2)) 118)) #[.int .i64 S, .slice (some ⟨w.heap.size, 0, none⟩) W W, .int .i64 0] 113 (sysHead w.heap.size W S 0) (fun i hi => by
      match i, hi with
      | 0, _ => rfl
      | 1, _ => rfl
      | 2, _ => rfl)
    simpa using this
  · refine World.rowIs.alloc ?_ _
    have := World.rowIs_alloc w (madeCells #[nilS, nilS] (W * 2)) 118 (fun _ => nilS) (fun i hi => by
      rw [size_madeCells] at hi
      have h2 : i % 2 < 2 := Nat.mod_lt _ (by omega)
      have : ∀ j, j < 2 → ([nilS, nilS] : List Value)[j]?.getD default = nilS := by intro j hj; match j, hj with | 0, _ => rfl | 1, _ => rfl
      simp [madeCells, hi]
      exact this _ h2)
    rwa [size_madeCells] at this
set_option maxHeartbeats 400000 in
theorem newSystem_any (W S : Nat) (hW : W ≤ 300) (hS : S ≤ 1000) (w : World) : Calls Tryd.prog 54 #[.int .i64 W, .int .i64 S] w (MadeSys w W S) := by
  have hmk := makeSteps W hW
  have HF : Hid (MadeSys w W S (.returned (.pointer (some ⟨w.heap.size + 1, 0, none⟩))) ((w.alloc (.cells (madeCells #[nilS, nilS] (W * 2)) 118)).alloc (.cells #[.int .i64 S, .slice (some ⟨w.heap.size, 0, none⟩) W W, .int .i64 0] 113))) :=
    ⟨_, _, rfl, sys_new w W S hW hS, Gr.ext_trans (ext_alloc _ _) (ext_alloc _ _), Nat.le_succ _, Nat.le_refl _⟩
  go_enter Tryd.func54, Tryd.ntmps54
  go_wp2
  go_ret
  exact HF.out
theorem Sys.cells {w : World} {p g W S r : Nat} {st : Nat → Option (List Nat × List Nat)} (h : Sys w p g W S r st) : w.cell? ⟨p, 0, none⟩ = some (.int .i64 S) ∧ w.cell? ⟨p, 1, none⟩ = some (.slice (some ⟨g, 0, none⟩) W W) ∧ w.cell? ⟨p, 2, none⟩ = some (.int .i64 r) :=
  ⟨h.head.cell (i := 0) (by omega), h.head.cell (i := 1) (by omega), h.head.cell (i := 2) (by omega)⟩
set_option maxHeartbeats 400000 in
theorem full_any (p g W S r : Nat) (st : Nat → Option (List Nat × List Nat)) (w : World) (hs : Sys w p g W S r st) :
    Calls Tryd.prog 56 #[.pointer (some ⟨p, 0, none⟩)] w fun e w' => e = .returned (.bool (decide (r = W))) ∧ w.drew = w' := by
  obtain ⟨_, h1, h2⟩ := hs.cells
  have HD : Hid ((((r : Int) == (W : Int))) = decide (r = W)) := by
    show _ = _
    by_cases h : r = W <;> simp [h]; omega
  go_enter Tryd.func56, Tryd.ntmps56
  go_wp2
  refine Gr.region 10 [(false,0),(false,1),(false,2),(false,3),(false,4),(false,5),(false,6),(false,7),(false,8),(false,9)] (by kernel_rfl) (by kernel_rfl) (fun d _ _ _ _ h => by cases d <;> exact h) ?_
  simp only [Gr.pick, List.getElem?_cons_zero, List.getElem?_cons_succ, List.drop_succ_cons, List.drop_zero]
  iterate 10
    refine Gr.walk_t ?_ (Or.inl ⟨by rfl, ?_⟩) ?_
    rotate_left
    · intro w' hw'
      have hc1 := (Gr.of_drew hw').cell_of h1
      have hc2 := (Gr.of_drew hw').cell_of h2
      clear hw'
      go_simp
      try with_reducible rfl
    simp only [Act.put, List.setIfInBounds_toArray, List.set_cons_zero, List.set_cons_succ]
  refine Gr.walk_nil ?_
  rw [HD.out]
  go_wp2
  go_ret
  exact ⟨rfl, rfl⟩
/-- Whether all are 0. -/
def allZ (xs : List Nat) : Bool := xs.all (· == 0)
theorem allZ_iff (xs : List Nat) : allZ xs = true ↔ ∀ k, k < xs.length → xs.getD k 0 = 0 := by
  unfold allZ
  rw [List.all_eq_true]
  constructor
  · intro h k hk
    have := h _ (List.getElem_mem hk)
    simpa [hk] using this
  · intro h x hx
    obtain ⟨k, hk, rfl⟩ := List.mem_iff_getElem.1 hx
    have := h k hk
    simpa [hk] using this
set_option maxHeartbeats 400000 in
theorem isZero_any (v : Value) (xs : List Nat) (w : World) (hv : U8s w v xs) :
    Calls Tryd.prog 70 #[v] w fun e w' => e = .returned (.bool (allZ xs)) ∧ w = w' := by
  have hm := hv.len
  obtain ⟨a, cap, rfl, _, _⟩ := hv.slice
  have HC := Lib.hid hv.cell.2
  have HZ := Lib.hid (allZ_iff xs)
  clear hv
  generalize xs.length = n at *
  unfold maxLen at hm
  go_enter Tryd.func70, Tryd.ntmps70
  go_wp2
  go_loop [7] (fun i => ∃ k : Nat, k ≤ n ∧ i = .int .i64 k ∧ Hid (∀ j, j < k → xs.getD j 0 = 0)) (fun i => (n - intOf i).toNat)
  case atStart => exact ⟨0, by omega, rfl, fun j hj => absurd hj (Nat.not_lt_zero _)⟩
  case round =>
    obtain ⟨k, hk, rfl, hz⟩ := hrel
    by_cases h1 : k < n
    · obtain ⟨b, off, rfl, _, hc⟩ := HC.out (by omega)
      have hc1 := hc k h1
      clear hc
      by_cases h0 : xs.getD k 0 = 0
      · have hz' : Hid (∀ j, j < k + 1 → xs.getD j 0 = 0) := fun j hj => by
          by_cases h : j < k
          · exact hz.out j h
          · rw [show j = k by omega]; exact h0
        rw [h0] at hc1
        go_wp2
        go_round
        case rel => exact ⟨k + 1, by omega, by go_num, hz'⟩
        case measure => simp [intOf]; omega
      · have hne : Hid (allZ xs = false) := by
          show _ = _
          cases h : allZ xs with
          | false => rfl
          | true => exact absurd (HZ.out.1 h k h1) h0
        have hx : (((xs.getD k 0 : Nat) : Int) != 0) = true := by simp only [bne_iff_ne, ne_eq]; omega
        generalize xs.getD k 0 = x at *
        go_wp2
        go_ret
        exact ⟨by rw [hne.out]; rfl, rfl⟩
    · obtain rfl : k = n := by omega
      have hy : Hid (allZ xs = true) := HZ.out.2 hz.out
      go_wp2
      go_ret
      exact ⟨by rw [hy.out]; rfl, rfl⟩
end Go.Proofs.YtippckajlghimaaDoor
