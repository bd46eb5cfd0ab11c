/- Package log: Len, Append, Sure, Crash. -/
import Derived.Test.YteogahofcmgddaaLogAt
import Derived.WalkKit
import Derived.IntWalk
namespace Go.Proofs.Yteogahofcmgddaa
set_option maxRecDepth 20000
open Go.RowKit Go.Deep
set_option linter.unusedVariables false
theorem len15_any (t s : Nat) (l : List (List Nat)) (w : World) (h : LAt w t l s) :
    Calls Try.prog 17 #[.pointer (some ⟨t, 0, none⟩)] w fun e w' => e = .returned (.int .i64 ((LM.size l : Nat) : Int)) ∧ w = w' := by
  obtain ⟨p, h0, h1, f0, f1, hc, hf, hb⟩ := h.cells
  have hz := LM.size_reverse l
  cases hr : l.reverse with
  | nil =>
    rw [hr] at hc hz
    have hp : p = none := hc
    subst hp
    rw [show LM.size l = 0 from hz.symm]
    clear hc hf hb hz h hr
    go_enter Try.func17, Try.ntmps17
    go_wp2
    go_ret
    exact ⟨rfl, rfl⟩
  | cons x r =>
    rw [hr] at hc hz
    obtain ⟨k, q, hp, c0, c1, c2, hc2⟩ := hc.cells
    subst hp
    rw [hz] at c2
    clear hc hf hb hz h hr hc2
    generalize LM.size l = z at *
    go_enter Try.func17, Try.ntmps17
    go_wp2
    go_ret
    exact ⟨rfl, rfl⟩
theorem sure15_any (t s : Nat) (l : List (List Nat)) (w : World) (h : LAt w t l s) :
    Calls Try.prog 10 #[.pointer (some ⟨t, 0, none⟩)] w fun e w' => e = .returned (.tuple #[]) ∧ LAt w' t l (LM.size l) ∧ w.grownBy w' (some t) := by
  obtain ⟨p, h0, h1, f0, f1, hc, hf, hb⟩ := h.cells
  have HLEN := Lib.hid (len15_any t s l w h)
  have HP := Lib.hid (fun w2 => LAt.surely (w2 := w2) (s' := LM.size l) hb hc hf)
  clear hc hf hb h
  generalize LM.size l = z at *
  go_enter Try.func10, Try.ntmps10
  go_wp2_with fail
  refine HLEN.out.mono ?_
  rintro e w2 ⟨rfl, rfl⟩
  clear HLEN
  go_wp2
  go_end0
  exact ⟨rfl, HP.out _ rfl⟩
theorem append15_long (t s : Nat) (l : List (List Nat)) (v : Value) (x : List Nat) (w : World) (h : LAt w t l s) (hu : U8s w v x) (hx : 65535 < x.length) :
    Calls Try.prog 7 #[.pointer (some ⟨t, 0, none⟩), v] w fun e w' => e = .returned (.int .i64 3) ∧ w = w' := by
  obtain ⟨a, c, rfl, _, hm⟩ := hu.slice
  have hlen := hu.len
  unfold maxLen at hlen
  clear hu h
  generalize x.length = n at *
  go_enter Try.func7, Try.ntmps7
  go_wp2
  go_ret
  exact ⟨rfl, rfl⟩
theorem append15_ok (t s : Nat) (l : List (List Nat)) (v : Value) (x : List Nat) (w : World) (h : LAt w t l s) (hu : U8s w v x) (hx : x.length ≤ 65535) (hz : LM.size l ≤ 1000000000) :
    Calls Try.prog 7 #[.pointer (some ⟨t, 0, none⟩), v] w fun e w' => e = .returned (.int .i64 0) ∧ LAt w' t (l ++ [x]) s ∧ w.grownBy w' (some t) := by
  obtain ⟨a, c, rfl, _, _⟩ := hu.slice
  obtain ⟨p, h0, h1, f0, f1, hc, hf, hb⟩ := h.cells
  have HLEN := Lib.hid (len15_any t s l w.drew (h.ext (Gr.ext_drew (Gr.ext_refl w))))
  have HU := Lib.hid hu
  have hlt : t < w.drew.heap.size := h.lt
  have HP : Hid (∀ w1 w2, w1 = w.drew.alloc (.cells #[.pointer p, .string (strOf x), .int .i64 (IntKind.i64.wrap (IntKind.i64.wrap (((LM.size l : Nat) : Int) + 2) + ((x.length : Nat) : Int)))] 47) → w2 = w1.setCell ⟨t, 0, none⟩ (.pointer (some ⟨w.drew.heap.size, 0, none⟩)) → LAt w2 t (l ++ [x]) s ∧ w.grownBy w2 (some t)) := fun w1 w2 e1 e2 => by
    have hcd : Chain w.drew p l.reverse := Chain.keep (w := w) (w' := w.drew) (fun _ _ _ => rfl) hc
    have := LAt.snoc (w := w.drew) (w1 := w1) (w2 := w2) (x := x) (k := w.drew.heap.size) hb hcd hf hx hu.lt (by rw [e1, show IntKind.i64.wrap (IntKind.i64.wrap (((LM.size l : Nat) : Int) + 2) + ((x.length : Nat) : Int)) = ((LM.size l + 2 + x.length : Nat) : Int) by rw [IntKind.wrap_i64, IntKind.wrap_i64]; omega]) rfl e2
    exact ⟨this.1, ⟨this.2.os, this.2.tape, this.2.output, this.2.size, this.2.block⟩⟩
  have hL0 : Hid (∀ w', w.drew.Extends w' → w'.cell? ⟨t, 0, none⟩ = some (.pointer p)) := fun w' hw' => (Gr.of_drew hw').cell_of h0
  have HV : Hid (∀ w', w.drew.Extends w' → (convert 29 9 (.slice a x.length c)).run Try.prog w' = .ok (.string (strOf x)) w') := fun w' hw' => conv_b (HU.out.ext (Gr.of_drew hw'))
  have f0' : w.drew.frozen? ⟨t, 0, none⟩ = false := f0
  clear hc hf hb hu h h0 h1 f1 HU f0
  generalize LM.size l = z at *
  generalize strOf x = sx at *
  generalize x.length = n at *
  go_enter Try.func7, Try.ntmps7
  go_wp2_with fail
  refine Gr.region 15 [(false,0),(false,1),(false,2),(false,3),(false,4),(false,5),(false,6),(false,7),(false,10),(false,11),(true,8),(false,9),(false,12),(false,13),(true,14)] (by kernel_rfl) (by kernel_rfl) (fun d _ _ _ _ h => by cases d <;> exact h) ?_
  simp only [Gr.pick, List.getElem?_cons_zero, List.getElem?_cons_succ, List.drop_succ_cons, List.drop_zero]
  generalize w.drew = wd at *
  iterate 4
    refine Gr.walk_t ?_ (Or.inl ⟨by rfl, ?_⟩) ?_
    rotate_left
    · intro w' hw'
      clear hw'
      go_simp
      try with_reducible rfl
    simp only [Act.put, List.setIfInBounds_toArray, List.set_cons_zero, List.set_cons_succ]
  refine Gr.walk_t ?_ (Or.inl ⟨by rfl, ?_⟩) ?_
  rotate_left
  · intro w' hw'
    have hc0 := hL0.out w' hw'
    clear hw'
    go_simp
    try with_reducible rfl
  simp only [Act.put, List.setIfInBounds_toArray, List.set_cons_zero, List.set_cons_succ]
  refine Gr.walk_t ?_ (Or.inl ⟨by rfl, ?_⟩) ?_
  rotate_left
  · intro w' hw'
    clear hw'
    go_simp
    try with_reducible rfl
  simp only [Act.put, List.setIfInBounds_toArray, List.set_cons_zero, List.set_cons_succ]
  refine Gr.walk_t ?_ (Or.inl ⟨by rfl, ?_⟩) ?_
  rotate_left
  · intro w' hw'
    have hc0 := HV.out w' hw'
    clear hw'
    go_simp
    try with_reducible rfl
  simp only [Act.put, List.setIfInBounds_toArray, List.set_cons_zero, List.set_cons_succ]
  iterate 3
    refine Gr.walk_t ?_ (Or.inl ⟨by rfl, ?_⟩) ?_
    rotate_left
    · intro w' hw'
      clear hw'
      go_simp
      try with_reducible rfl
    simp only [Act.put, List.setIfInBounds_toArray, List.set_cons_zero, List.set_cons_succ]
  refine Gr.walk_c (fun K hK => ?_)
  go_simp
  refine (HLEN.out).mono ?_
  rintro e w2 ⟨rfl, rfl⟩
  try go_simp
  refine hK.out _ _ ((Gr.ext_refl _)) ?_
  clear hK K
  iterate 3
    refine Gr.walk_t ?_ (Or.inl ⟨by rfl, ?_⟩) ?_
    rotate_left
    · intro w' hw'
      clear hw'
      go_simp
      try with_reducible rfl
    simp only [Act.put, List.setIfInBounds_toArray, List.set_cons_zero, List.set_cons_succ]
  refine Gr.walk_c (fun K hK => ?_)
  go_simp
  generalize hw : World.alloc _ _ = w1
  have hx1 : wd.Extends w1 := by subst hw; exact ext_alloc _ _
  have HP1 := Lib.hid (fun w2 => HP.out w1 w2 hw.symm)
  have f1 : w1.frozen? ⟨t, 0, none⟩ = false := by rw [hx1.frozen ⟨t, 0, none⟩ hlt]; exact f0'
  have f2 := hx1.cell_of (hL0.out _ (Gr.ext_refl _))
  refine hK.out _ _ hx1 ?_
  clear hK K hw HP hx1 HLEN HV hL0 f0' hlt
  generalize wd.heap.size = y at *
  refine Gr.walk_nil ?_
  go_wp2
  go_ret
  exact ⟨rfl, HP1.out _ rfl⟩
end Go.Proofs.Yteogahofcmgddaa
