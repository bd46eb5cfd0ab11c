/- The bucket's Drop. -/
import Derived.Test.YtmbbhmmciidfnaaBkAt
namespace Go.Proofs.Ytmbbhmmciidfnaa
set_option maxRecDepth 20000
open Go.RowKit Go.Deep
set_option linter.unusedVariables false
theorem three_split {w : World} {g : Nat} {T : TypeId} {pre post : List Value} {l : List Ct} {n : Nat} (hn : l.length = n) (hl : n ≤ 3) :
    CAt w g T pre (l ++ List.replicate (3 - n) z21) post ↔ CAt w g T pre l (flatC (List.replicate (3 - n) z21) ++ post) := CAt.split
theorem three_merge {w : World} {g : Nat} {T : TypeId} {pre post : List Value} {L : List Ct} {m n : Nat} (hm : m ≤ n) (hn : n ≤ 3) :
    CAt w g T pre (L ++ List.replicate (n - m) z21) (flatC (List.replicate (3 - n) z21) ++ post) = CAt w g T pre (L ++ List.replicate (3 - m) z21) post := by
  rw [← propext (CAt.split (a := L ++ List.replicate (n - m) z21)), List.append_assoc, List.replicate_append_replicate, show n - m + (3 - n) = 3 - m by omega]
/-- contacts[:n] of a bucket. -/
theorem slice3 (g o n : Nat) (hn : n ≤ 3) (w' : World) : (Instr.sliceAt 29 (.pointer (some ⟨g, o, none⟩)) none (some (.int .i64 (n : Nat))) none).run Try.prog w' = .ok (.slice (some ⟨g, o, none⟩) n 3) w' := by
  have hl : Try.prog.arrayLen 29 = 3 := by kernel_rfl
  have he : Try.prog.elem 29 = 28 := by kernel_rfl
  have hu : Try.prog.underlying 29 = some (.array (Try.prog.arrayLen 29) (Try.prog.elem 29)) := by rw [hl, he]; exact Try.underlying29
  rw [run_sliceAt_array_h (P := Try.prog) w' 29 ⟨g, o, none⟩ hu .i64 ((n : Nat) : Int) (by omega) (by rw [hl]; omega), he, hl]
  obtain ⟨i, hi⟩ := ctInfo
  simp [sizeOf, typeInfo, hi, slicedAt, Addr.add_mid]
  try omega
set_option maxHeartbeats 2000000 in
theorem bdrop_any (g o : Nat) (T : TypeId) (pre post : List Value) (l : List Ct) (p : Int) (w : World) (h : BAt w g T pre l post) (ho : pre.length = o) :
    Calls Try.prog 8 #[.pointer (some ⟨g, o, none⟩), .int .i64 p] w fun e w' => e = .returned (.bool (isIn p l)) ∧ BAt w' g T pre (dropC p l) post ∧ w.grownBy w' (some g) := by
  have hen : CEnters 14 := center_of Try.func14 (by decide) (by rfl)
  have HEN := Lib.hid hen
  have H := Lib.hid h
  have HO := Lib.hid ho
  obtain ⟨n, hn⟩ : ∃ n, n = l.length := ⟨_, rfl⟩
  have hn3 : n ≤ 3 := by rw [hn]; exact h.le
  have HN : Hid (l.length = n) := hn.symm
  have hc0 := h.count ho
  rw [HN.out] at hc0
  have HC0 := Lib.hid hc0
  have HOUT : Hid (∀ q, (dropC p l).length = q → isIn p l = decide (q < n)) := fun q hq => by unfold isIn; rw [hq, HN.out]
  have hm3 : (dropC p l).length ≤ n := by rw [hn]; exact dropC_le p l
  clear h ho hn hen hc0
  go_enter Try.func8, Try.ntmps8
  go_upto_region 1 with fail
  generalize hw1 : World.alloc w _ = w1
  have HX1 : Hid (w.Extends w1 ∧ w1.heap[w.heap.size]? = some (.cells #[.int .i64 p] 3 (0, 0))) := by subst hw1; exact ⟨ext_alloc _ _, heap_alloc_new _ _⟩
  have hc1 := HX1.out.1.cell_of HC0.out
  clear hw1
  obtain ⟨c, hc⟩ : ∃ c, c = w.heap.size := ⟨_, rfl⟩
  rw [← hc] at HX1 ⊢
  have HC := Lib.hid hc
  have hsl := fun w' => slice3 g o n hn3 w'
  clear hc
  go_upto_region 3 with fail
  refine Gr.region 8 [(false,0),(false,1),(false,2),(false,3),(false,4),(false,5),(false,6),(false,7)] (by kernel_rfl) (by kernel_rfl) (fun d _ _ _ _ h => by cases d <;> exact h) ?_
  simp only [Gr.pick, List.getElem?_cons_zero, List.getElem?_cons_succ, List.drop_succ_cons, List.drop_zero]
  generalize hwd : w1.drew = wd
  have HXD : Hid (w1.Extends wd) := by rw [← hwd]; exact Gr.ext_drew (Gr.ext_refl w1)
  clear hwd
  have hcd := HXD.out.cell_of hc1
  iterate 6
    refine Gr.walk_t ?_ (Or.inl ⟨by rfl, ?_⟩) ?_
    rotate_left
    · intro w' hw'
      clear hw'
      go_simp
      try with_reducible rfl
    simp only [Act.put, List.setIfInBounds_toArray, List.set_cons_zero, List.set_cons_succ]
  refine Gr.walk_t ?_ (Or.inl ⟨by rfl, ?_⟩) ?_
  rotate_left
  · intro w' hw'
    have hcd' := hw'.cell_of hcd
    clear hw'
    go_simp
    try with_reducible rfl
  simp only [Act.put, List.setIfInBounds_toArray, List.set_cons_zero, List.set_cons_succ]
  refine Gr.walk_t ?_ (Or.inl ⟨by rfl, ?_⟩) ?_
  rotate_left
  · intro w' hw'
    clear hw'
    go_simp
    try with_reducible rfl
  simp only [Act.put, List.setIfInBounds_toArray, List.set_cons_zero, List.set_cons_succ]
  refine Gr.walk_nil ?_
  have HXW : Hid (w.Extends wd) := Gr.ext_trans HX1.out.1 HXD.out
  have hhd : wd.heap[c]? = some (.cells #[.int .i64 p] 3 (0, 0)) := (HXD.out.block c (Array.getElem?_eq_some_iff.1 HX1.out.2).1).trans HX1.out.2
  have hcg : c ≠ g := fun e => by have := H.out.lt; have := HC.out; omega
  have HD := Lib.hid (show Calls _ _ _ wd (CDelOut wd g o 3 T pre (dropC p l) _ n) from cdel_any 14 c HEN.out (fun x => decide (x.p = p)) g o 3 n T pre _ l wd ((three_split HN.out hn3).1 (by have := (H.out.ext HXW.out).at_; rw [HN.out] at this; exact this)) HO.out HN.out hn3 (by decide) (dropfn_any c p wd hhd) (Array.getElem?_eq_some_iff.1 hhd).1 hcg)
  clear hcd hc1 hhd hsl
  go_wp2_with fail
  refine HD.out.mono ?_
  rintro e w3 ⟨rfl, ha3, hg3⟩
  clear HD
  obtain ⟨m, hm⟩ : ∃ m, (dropC p l).length = m := ⟨_, rfl⟩
  have HIS := Lib.hid (HOUT.out m hm)
  rw [hm] at ha3 hm3 ⊢
  have HM := Lib.hid hm
  rw [three_merge hm3 hn3] at ha3
  have hlen : (dropC p l ++ List.replicate (3 - m) z21).length = 3 := by rw [List.length_append, List.length_replicate, hm]; omega
  have hc3 := ha3.behind (o := o + 63) hlen (by rw [HO.out])
  have hf3 := ha3.frozen (o + 63)
  have HA3 := Lib.hid ha3
  have HLEN := Lib.hid hlen
  have HG3 := Lib.hid (grown_trans (grown_below (Gr.below_of HXW.out) (Nat.le_refl _)) hg3)
  clear ha3 hg3 hlen hm HOUT
  go_upto_region 5 with fail
  generalize hw4 : World.setCell w3 _ _ = w4
  obtain ⟨ha4, hg4⟩ := HA3.out.set_behind (o := o + 63) HLEN.out (by rw [HO.out]) hw4.symm
  have hc4 := ha4.behind (o := o + 63) HLEN.out (by rw [HO.out])
  have HP : Hid (BAt w4 g T pre (dropC p l) post ∧ w.grownBy w4 (some g)) := ⟨⟨by have := HM.out; omega, by rw [HM.out]; exact ha4⟩, grown_trans HG3.out hg4⟩
  clear hw4 ha4 hg4 hc3 hf3
  go_wp2
  go_ret
  exact ⟨by rw [HIS.out]; rfl, HP.out.1, HP.out.2⟩
end Go.Proofs.Ytmbbhmmciidfnaa
