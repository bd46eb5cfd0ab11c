/- Package solve: an equation's two sides, times and plus. -/
import Derived.Test.YtkpgdgmjeoogdaaRowWalks
import Derived.Test.YtkpgdgmjeoogdaaFldInv
import Derived.Laws.Rows
namespace Go.Proofs.Ytkpgdgmjeoogdaa
open Go.RowKit
set_option linter.unusedVariables false
/-- A pair of new rows: what a call answers. -/
def MadeEqn (w : World) (l r : List Nat) (e : Ending) (w' : World) : Prop :=
  ∃ b1 b2, e = .returned (.agg #[.slice (some ⟨b1, 0, none⟩) l.length l.length, .slice (some ⟨b2, 0, none⟩) r.length r.length]) ∧ Own w' b1 5 l ∧ Own w' b2 5 r ∧ Below w.heap.size w w'
theorem eqinfo2 (a b : Value) : (Try.prog.info? 74).map (·.size) = some (#[a, b] : Array Value).size := by show _ = some 2; kernel_rfl
theorem one2 (a b : Option Addr) (n m c d : Nat) : (#[Value.slice a n c, Value.slice b m d] : Array Value).all (·.oneCell') = true := by simp [Value.oneCell']
theorem two_cells (w : World) (o : Obj) (T : TypeId) (u v : Value) (c d : Value) : ((w.alloc (.cells #[u, v] T)).alloc (.cells #[c, d] T)).cell? ⟨w.heap.size, 0, none⟩ = some u ∧ ((w.alloc (.cells #[u, v] T)).alloc (.cells #[c, d] T)).cell? ⟨w.heap.size, 1, none⟩ = some v := by
  have h := (heap_alloc_new w (.cells #[u, v] T))
  have h2 : ((w.alloc (.cells #[u, v] T)).alloc (.cells #[c, d] T)).heap[w.heap.size]? = some (.cells #[u, v] T) := by rw [Go.heap_alloc_old _ _ (by simp), h]
  exact ⟨by rw [cell_of_row _ _ _ _ _ _ h2]; rfl, by rw [cell_of_row _ _ _ _ _ _ h2]; rfl⟩
set_option maxHeartbeats 1000000 in
theorem eqTimes_any (c : Nat) (u v : Value) (l r : List Nat) (w : World) (hc : c < 256) (hu : U8s w u l) (hv : U8s w v r) (hl : l.length ≤ 281474976710656) (hr : r.length ≤ 281474976710656) :
    Calls Try.prog 43 #[.agg #[u, v], .int .u8 c] w (MadeEqn w (RM.scale c l) (RM.scale c r)) := by
  have HU := Lib.hid hu
  have HV := Lib.hid hv
  obtain ⟨ua, uc, rfl, _, _⟩ := hu.slice
  obtain ⟨va, vc, rfl, _, _⟩ := hv.slice
  clear hu hv
  generalize hln : l.length = ln at *
  generalize hrn : r.length = rn at *
  have HLN := Lib.hid hln; clear hln
  have HRN := Lib.hid hrn; clear hrn
  go_enter Try.func43, Try.ntmps43
  go_wp2_with fail
  generalize hw2 : World.alloc (World.alloc w _) _ = w2
  have hx2 : w.Extends w2 := by subst hw2; exact Gr.ext_trans (ext_alloc _ _) (ext_alloc _ _)
  have hc2 : w2.cell? ⟨w.heap.size, 0, none⟩ = some (.slice ua ln uc) ∧ w2.cell? ⟨w.heap.size, 1, none⟩ = some (.slice va rn vc) := by subst hw2; exact two_cells w (.cells #[] 0) _ _ _ _ _
  have hs2 : w2.heap.size = w.heap.size + 2 := by subst hw2; simp
  have hg2 : w2.heap[w.heap.size + 1]? = some (.cells #[.slice none 0 0, .slice none 0 0] 74) := by subst hw2; exact heap_alloc2_new _ _ _
  obtain ⟨b, hb⟩ : ∃ b, b = w.heap.size := ⟨_, rfl⟩
  rw [← hb] at hc2 hs2 hg2 ⊢
  have hbs : b + 1 < w2.heap.size := by omega
  have HB := Lib.hid hb; clear hb
  have HL1 : Hid (∀ w', w2.Extends w' → w'.cell? ⟨b, 0, none⟩ = some (.slice ua ln uc)) := fun w' hw' => hw'.cell_of hc2.1
  have HL2 : Hid (∀ w', w2.Extends w' → w'.cell? ⟨b, 1, none⟩ = some (.slice va rn vc)) := fun w' hw' => hw'.cell_of hc2.2
  have HX2 := Lib.hid hx2
  have HG2 := Lib.hid hg2
  have HS2 := Lib.hid hs2
  clear hw2 hc2 hx2 hg2 hs2
  refine Gr.region 9 [(false,0),(false,1),(false,2),(false,4),(false,5),(false,6),(true,3),(true,7),(false,8)] (by kernel_rfl) (by kernel_rfl) (fun d _ _ _ _ h => by cases d <;> exact h) ?_
  simp only [Gr.pick, List.getElem?_cons_zero, List.getElem?_cons_succ, List.drop_succ_cons, List.drop_zero]
  iterate 6
    refine Gr.walk_t ?_ (Or.inl ⟨by rfl, ?_⟩) ?_
    rotate_left
    · intro w' hw'
      have hc1 := HL1.out w' (Gr.of_drew hw')
      have hc2 := HL2.out w' (Gr.of_drew hw')
      clear hw'
      go_simp
      try with_reducible rfl
    simp only [Act.put, List.setIfInBounds_toArray, List.set_cons_zero, List.set_cons_succ]
  refine Gr.walk_c (fun K hK => ?_)
  go_simp
  refine (scale_any c _ l _ hc (HU.out.ext (Gr.ext_drew HX2.out)) (by rw [HLN.out]; exact hl)).mono ?_
  rintro e w3 ⟨rfl, hb3, ho3⟩
  rw [HLN.out]
  have hx3 := ext_below hb3 rfl
  have HO3 := Lib.hid ho3
  have HX3 := Lib.hid (Gr.ext_trans (Gr.ext_drew HX2.out) hx3)
  have HY3 := Lib.hid (Gr.of_drew hx3)
  clear ho3 hb3
  try go_simp
  refine hK.out _ _ hx3 ?_
  clear hK K hx3
  refine Gr.walk_c (fun K hK => ?_)
  go_simp
  refine (scale_any c _ r _ hc (HV.out.ext HX3.out) (by rw [HRN.out]; exact hr)).mono ?_
  rintro e w4 ⟨rfl, hb4, ho4⟩
  rw [HRN.out]
  have hx4 := ext_below hb4 rfl
  have HO4 := Lib.hid ho4
  have HP4 := Lib.hid (HO3.out.below hb4 HO3.out.lt)
  have HX4 := Lib.hid (Gr.ext_trans HX3.out hx4)
  have HY4 := Lib.hid (Gr.ext_trans HY3.out hx4)
  have hlt3 := Nat.lt_of_lt_of_le hbs HY3.out.size
  clear ho4 hb4
  try go_simp
  refine hK.out _ _ hx4 ?_
  clear hK K hx4
  refine Gr.walk_t ?_ (Or.inl ⟨by rfl, ?_⟩) ?_
  rotate_left
  · intro w' hw'
    clear hw'
    go_simp
    try with_reducible rfl
  simp only [Act.put, List.setIfInBounds_toArray, List.set_cons_zero, List.set_cons_succ]
  refine Gr.walk_nil ?_
  have hg4 := (HY4.out.block (b + 1) hbs).trans HG2.out
  have HFIN : Hid (∀ cs : Array Value, Own (w4.setRow (b + 1) cs) w2.heap.size 5 (RM.scale c l) ∧ Own (w4.setRow (b + 1) cs) w3.heap.size 5 (RM.scale c r) ∧ Below b w (w4.setRow (b + 1) cs)) := fun cs =>
    ⟨HP4.out.block (setRow_other _ _ _ _ (by show w2.heap.size ≠ b + 1; omega)), HO4.out.block (setRow_other _ _ _ _ (by omega)), by
      have h := Gr.below_of HX4.out
      rw [← HB.out] at h
      exact h.trans ⟨rfl, rfl, rfl, by simp, fun i hi => setRow_other _ _ i _ (by omega)⟩⟩
  have hres : (w4.setRow (b + 1) #[.slice (some ⟨w2.heap.size, 0, none⟩) ln ln, .slice (some ⟨w3.heap.size, 0, none⟩) rn rn]).heap[b + 1]? = some (.cells #[.slice (some ⟨w2.heap.size, 0, none⟩) ln ln, .slice (some ⟨w3.heap.size, 0, none⟩) rn rn] 74 (0, 0)) := setRow_heap _ _ _ _ _ _ hg4
  refine wpList_store_row rfl 74 (.tmp 4) (.tmp 13) rfl (b + 1) _ rfl rfl 74 _ hg4 (eqinfo2 _ _) rfl (one2 _ _ _ _ _ _) ?_
  go_wp2
  refine bodyPost_ret (v := .agg #[.slice (some ⟨w2.heap.size, 0, none⟩) ln ln, .slice (some ⟨w3.heap.size, 0, none⟩) rn rn]) (results_cell_row rfl _ _ (b + 1) 74 _ (0, 0) _ rfl hres Try.underlying74 rfl (eqinfo2 _ _)) rfl ⟨w2.heap.size, w3.heap.size, ?_, (HFIN.out _).1, (HFIN.out _).2.1, ?_⟩
  · rw [RM.scale_length, RM.scale_length, HLN.out, HRN.out]
  · rw [← HB.out]; exact (HFIN.out _).2.2
end Go.Proofs.Ytkpgdgmjeoogdaa
