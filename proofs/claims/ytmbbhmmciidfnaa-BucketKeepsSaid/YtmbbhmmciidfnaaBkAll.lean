/- slices.Clone of contacts; the bucket's All; slices of contacts. -/
import Derived.Test.YtmbbhmmciidfnaaBkDrop
import Derived.Test.YtmbbhmmciidfnaaAppend3
namespace Go.Proofs.Ytmbbhmmciidfnaa
set_option maxRecDepth 20000
open Go.RowKit Go.Deep
set_option linter.unusedVariables false
/-- v is a slice of the call's own, in memory from B on, of the contacts l. -/
def OwnC (w : World) (B : Nat) (v : Value) (l : List Ct) : Prop := w.ownsRow B 28 21 v l.length (flatC l)
theorem OwnC.nil (w : World) (B : Nat) : OwnC w B (.slice none 0 0) [] := World.ownsRow_nil _ _ _ _
theorem OwnC.kinds {w : World} {B : Nat} {v : Value} {l : List Ct} (h : OwnC w B v l) : (v = .slice none 0 0 ∧ l = []) ∨ ∃ g cap, v = .slice (some ⟨g, 0, none⟩) l.length cap := by
  rcases h.2 with ⟨rfl, h0⟩ | ⟨g, cap, cur, rfl, _⟩
  · exact .inl ⟨rfl, List.eq_nil_of_length_eq_zero h0⟩
  · exact .inr ⟨g, cap, rfl⟩
theorem OwnC.slice {w : World} {B : Nat} {v : Value} {l : List Ct} (h : OwnC w B v l) : ∃ a cap, v = .slice a l.length cap := by
  rcases h.kinds with ⟨rfl, rfl⟩ | ⟨g, cap, rfl⟩
  · exact ⟨_, _, rfl⟩
  · exact ⟨_, _, rfl⟩
theorem OwnC.kept {w w' : World} {B : Nat} {v : Value} {l : List Ct} {row : Option Nat} (h : OwnC w B v l) (hg : w.grownBy w' row) (hne : v.ownBlock = none ∨ v.ownBlock ≠ row) : OwnC w' B v l := World.ownsRow.kept h hg hne
theorem OwnC.ext {w w' : World} {B : Nat} {v : Value} {l : List Ct} (h : OwnC w B v l) (hx : w.Extends w') : OwnC w' B v l := by
  have hg : w.grownBy w' none := ⟨hx.os, hx.tape, hx.output, hx.size, fun i hi _ => hx.block i hi⟩
  exact h.kept hg (by cases v.ownBlock <;> simp)
theorem OwnC.block {w : World} {B : Nat} {v : Value} {l : List Ct} (h : OwnC w B v l) {g : Nat} (hg : v.ownBlock = some g) : B ≤ g ∧ g < w.heap.size ∧ ∃ cs, w.heap[g]? = some (.cells cs 28 (0, 0)) := by
  refine ⟨(World.ownsRow.lt h g hg).1, (World.ownsRow.lt h g hg).2, ?_⟩
  rcases h.2 with ⟨rfl, h0⟩ | ⟨g', cap, cur, rfl, _, hh, _⟩
  · cases hg
  · simp only [Value.ownBlock, Option.some.injEq] at hg
    subst hg
    exact ⟨cur, hh⟩
theorem OwnC.mono {w : World} {B B' : Nat} {v : Value} {l : List Ct} (h : OwnC w B v l) (hB : B' ≤ B) : OwnC w B' v l := by
  refine ⟨h.1, ?_⟩
  rcases h.2 with h0 | ⟨g, cap, cur, hv, hb, hr⟩
  · exact .inl h0
  · exact .inr ⟨g, cap, cur, hv, by omega, hr⟩
/-- v is a slice of the contacts l. -/
def Cts (w : World) (v : Value) (l : List Ct) : Prop := (l = [] ∧ ∃ a c, v = .slice a 0 c) ∨ ∃ g o cap, v = .slice (some ⟨g, o, none⟩) l.length cap ∧ l.length ≤ cap ∧ g < w.heap.size ∧ ∀ k, k < l.length → w.rangeAt g (o + k * 21) (CL (l.getD k z21))
theorem Cts.slice {w : World} {v : Value} {l : List Ct} (h : Cts w v l) : ∃ a cap, v = .slice a l.length cap := by
  rcases h with ⟨rfl, a, c, rfl⟩ | ⟨g, o, cap, rfl, _⟩
  · exact ⟨a, c, rfl⟩
  · exact ⟨_, _, rfl⟩
theorem Cts.ext {w w' : World} {v : Value} {l : List Ct} (h : Cts w v l) (hx : w.Extends w') : Cts w' v l := by
  rcases h with h | ⟨g, o, cap, hv, h1, h2, h3⟩
  · exact .inl h
  · exact .inr ⟨g, o, cap, hv, h1, Nat.lt_of_lt_of_le h2 hx.size, fun k hk => range_ext (h3 k hk) hx⟩
theorem Cts.at {w : World} {a : Option Addr} {n cap : Nat} {l : List Ct} (h : Cts w (.slice a n cap) l) {k : Nat} (hk : k < l.length) : ∃ g o, a = some ⟨g, o, none⟩ ∧ w.rangeAt g (o + k * 21) (CL (l.getD k z21)) := by
  rcases h with ⟨rfl, _⟩ | ⟨g, o, cap', hv, _, _, h3⟩
  · simp at hk
  · cases hv; exact ⟨g, o, rfl, h3 k hk⟩
theorem OwnC.at_ {w : World} {B g n cap : Nat} {l : List Ct} (h : OwnC w B (.slice (some ⟨g, 0, none⟩) n cap) l) : n = l.length ∧ n ≤ cap ∧ g < w.heap.size ∧ ∃ post, CAt w g 28 [] l post := by
  rcases h.2 with ⟨e, _⟩ | ⟨g', cap', cur, e, _, hg, hnc, hcm, hcs, htake⟩
  · cases e
  · cases e
    refine ⟨rfl, hnc, (Array.getElem?_eq_some_iff.1 hg).1, cur.toList.drop (l.length * 21), ?_⟩
    unfold CAt
    rw [hg, List.nil_append, ← htake, List.take_append_drop, Array.toArray_toList]
theorem OwnC.cts {w : World} {B : Nat} {v : Value} {l : List Ct} (h : OwnC w B v l) : Cts w v l := by
  rcases h.kinds with ⟨rfl, rfl⟩ | ⟨g, cap, rfl⟩
  · exact .inl ⟨rfl, _, _, rfl⟩
  · obtain ⟨_, h1, h2, post, h3⟩ := h.at_
    exact .inr ⟨g, 0, cap, rfl, h1, h2, fun k hk => h3.range (by simp) hk⟩
/-- Contacts somewhere in a block as a source of append. -/
theorem CAt.src {w : World} {g o n : Nat} {T : TypeId} {pre post : List Value} {l : List Ct} (h : CAt w g T pre l post) (ho : pre.length = o) (hn : l.length = n) (cap : Nat) : Src Try.prog 21 33 (.slice (some ⟨g, o, none⟩) n cap) n (flatC l) w := by
  refine Src.ofSlice w ctUnder ⟨g, o, none⟩ n cap (flatC l) (by rw [flatC_length, hn]) (fun j u hu => ?_) (fun u hu => flatC_one l u hu)
  have hj : j < (flatC l).length := (List.getElem?_eq_some_iff.1 hu).1
  rw [Addr.add_mid, cell_of_row _ _ _ _ _ _ h, List.getElem?_toArray, List.getElem?_append_left (by rw [List.length_append]; omega), List.getElem?_append_right (by omega), ← ho, Nat.add_sub_cancel_left]
  exact hu
theorem ctParts : ∃ i, Try.prog.info? 28 = some i ∧ i.zero = some (CV z21) ∧ i.size = 21 ∧ i.bytes = 32 := by
  obtain ⟨i, hi⟩ := ctInfo
  have h : (Try.prog.info? 28).map (fun i => (i.zero, i.size, i.bytes)) = some (some (CV z21), 21, 32) := by kernel_rfl
  rw [hi] at h
  simp only [Option.map_some, Option.some.injEq, Prod.mk.injEq] at h
  exact ⟨i, hi, h.1, h.2.1, h.2.2⟩
theorem eql_cts_nil (a : Option Addr) (n c : Nat) (w : World) : (binOp .eql 33 (.slice a n c) (.slice none 0 0)).run Try.prog w = .ok (.bool a.isNone) w := by
  have h : ∀ d, (Op.equalIn (d + 1) 33 (.slice a n c) (.slice none 0 0)).run Try.prog w = .ok a.isNone w := fun d => by
    cases a <;> simp [Op.equalIn, run_underlying Try.underlying33]
  simp only [binOp]
  simp [Op.equal, Op.maxDepth, h 9999]
/-- A copy of the call's own. -/
def CloneC (w : World) (l : List Ct) (e : Ending) (w' : World) : Prop := ∃ a c, e = .returned (.slice a l.length c) ∧ w.Extends w' ∧ OwnC w' w.heap.size (.slice a l.length c) l
theorem clonec_of {w w' : World} {v : Value} {l : List Ct} (hx : w.Extends w') (ho : OwnC w' w.heap.size v l) : ∃ a c, v = .slice a l.length c ∧ CloneC w l (.returned v) w' := by
  obtain ⟨a, c, rfl⟩ := ho.slice
  exact ⟨a, c, rfl, a, c, rfl, hx, ho⟩
theorem cclone_any (g o cap n : Nat) (T : TypeId) (pre post : List Value) (l : List Ct) (w : World) (hA : CAt w g T pre l post) (ho : pre.length = o) (hn : l.length = n) (hl : n ≤ 100000) :
    Calls Try.prog 15 #[.slice (some ⟨g, o, none⟩) n cap] w (CloneC w l) := by
  obtain ⟨iu, hiu, hz0, hz1, hz2⟩ := ctParts
  have HI := Lib.hid hiu
  have HZ0 := Lib.hid hz0
  have HZ1 := Lib.hid hz1
  have HZ2 := Lib.hid hz2
  have HSRC : Hid (∀ w', w.Extends w' → Src Try.prog 21 33 (.slice (some ⟨g, o, none⟩) n cap) n (flatC l) w') := fun w' hx => (hA.ext hx).src ho hn cap
  have HEND : Hid (∀ v' w1 w', w.Extends w1 → w'.ownsRow w.heap.size 28 21 v' n (flatC l) → w1.grownBy w' (some w.heap.size) → ∃ a c, v' = .slice a n c ∧ CloneC w l (.returned v') w') := fun v' w1 w' h1 hown hg => by
    have := clonec_of (w := w) (w' := w') (v := v') (l := l) (ext_own h1 hg (fun k hk => by have := Option.some.inj hk; omega)) (by
      unfold OwnC
      rw [hn]
      exact hown)
    rwa [hn] at this
  clear hA ho hn hiu hz0 hz1 hz2
  unfold CloneC at *
  go_enter Try.func15, Try.ntmps15
  have hnil := fun w => eql_cts_nil (some ⟨g, o, none⟩) n cap w
  rw [show (some (⟨g, o, none⟩ : Addr)).isNone = false from rfl] at hnil
  have hmk : (w.alloc (.cells #[] 28)).ownsRow w.heap.size 28 21 (.slice (some ⟨w.heap.size, 0, none⟩) 0 0) 0 [] := World.ownsRow_made w #[] 0 (Nat.le_refl _) (by decide) rfl
  have HMK := Lib.hid hmk
  have HSR := Lib.hid (HSRC.out _ (ext_alloc w (.cells #[] 28)))
  have HX1 := Lib.hid (ext_alloc w (.cells #[] 28))
  clear hmk
  go_wp2_with (at_builtin; refine wpList_append_own_src _ rfl _ _ 33 33 rfl w.heap.size 28 iu (CV z21) 21 32 Try.underlying33 HI.out HZ0.out HZ1.out HZ2.out rfl _ _ _ rfl HMK.out _ n (flatC l) rfl HSR.out (by unfold maxLen; omega) (by omega) (by simp) ?_)
  intro v' w' ho hg _
  obtain ⟨a, c, rfl, HP⟩ := HEND.out v' _ w' HX1.out ho hg
  have HP := Lib.hid HP
  clear ho hg HEND HSRC HMK HSR HX1
  go_wp2
  go_ret
  exact HP.out
/-- The contacts of a bucket, in a row of the call's own. -/
theorem ball_any (g o : Nat) (T : TypeId) (pre post : List Value) (l : List Ct) (w : World) (h : BAt w g T pre l post) (ho : pre.length = o) :
    Calls Try.prog 12 #[.pointer (some ⟨g, o, none⟩)] w (CloneC w l) := by
  obtain ⟨n, hn⟩ : ∃ n, l.length = n := ⟨_, rfl⟩
  have hn3 : n ≤ 3 := by rw [← hn]; exact h.le
  have hc0 := h.count ho
  rw [hn] at hc0
  have HCL : Hid (∀ w', w.Extends w' → Calls Try.prog 15 #[.slice (some ⟨g, o, none⟩) n 3] w' (CloneC w' l)) := fun w' hx =>
    cclone_any g o 3 n T pre _ l w' ((three_split hn hn3).1 (by have := (h.ext hx).at_; rw [hn] at this; exact this)) ho hn (by omega)
  clear h ho
  have HN := Lib.hid hn
  clear hn
  have HOUT : Hid (∀ w1 w2 e, w.Extends w1 → CloneC w1 l e w2 → ∃ a c, e = .returned (.slice a n c) ∧ w1.Extends w2 ∧ CloneC w l e w2) := fun w1 w2 e hx ⟨a, c, e1, h1, h2⟩ => by
    rw [HN.out] at e1
    exact ⟨a, c, e1, h1, a, c, by rw [HN.out]; exact e1, Gr.ext_trans hx h1, h2.mono hx.size⟩
  have HC0 := Lib.hid hc0
  clear hc0
  unfold CloneC at *
  go_enter Try.func12, Try.ntmps12
  have hsl := fun w' => slice3 g o n hn3 w'
  go_upto_region 3 with fail
  refine Gr.region 9 [(false,0),(false,1),(false,2),(false,3),(false,4),(false,5),(false,6),(false,7),(true,8)] (by kernel_rfl) (by kernel_rfl) (fun d _ _ _ _ h => by cases d <;> exact h) ?_
  simp only [Gr.pick, List.getElem?_cons_zero, List.getElem?_cons_succ, List.drop_succ_cons, List.drop_zero]
  generalize hwd : w.drew = wd
  have HXD : Hid (w.Extends wd) := by rw [← hwd]; exact Gr.ext_drew (Gr.ext_refl w)
  clear hwd
  have hcd := HXD.out.cell_of HC0.out
  iterate 6
    refine Gr.walk_t ?_ (Or.inl ⟨by rfl, ?_⟩) ?_
    rotate_left
    · intro w' hw'
      clear hw'
      go_simp
      try with_reducible rfl
    simp only [Act.put, List.setIfInBounds_toArray, List.set_cons_zero, List.set_cons_succ]
  refine Gr.walk_t ?_ (Or.inl ⟨by rfl, ?_⟩) ?_
  rotate_left
  · intro w' hw'
    have hcd' := hw'.cell_of hcd
    clear hw'
    go_simp
    try with_reducible rfl
  simp only [Act.put, List.setIfInBounds_toArray, List.set_cons_zero, List.set_cons_succ]
  refine Gr.walk_t ?_ (Or.inl ⟨by rfl, ?_⟩) ?_
  rotate_left
  · intro w' hw'
    clear hw'
    go_simp
    try with_reducible rfl
  simp only [Act.put, List.setIfInBounds_toArray, List.set_cons_zero, List.set_cons_succ]
  refine Gr.walk_c (fun K hK => ?_)
  go_simp
  refine (HCL.out wd HXD.out).mono ?_
  rintro e w2 hcl
  obtain ⟨a, c, rfl, hx2, hp⟩ := HOUT.out wd w2 e HXD.out hcl
  have HP := Lib.hid hp
  clear hp hcl hcd
  try go_simp
  refine hK.out _ _ (hx2) ?_
  clear hK K
  refine Gr.walk_nil ?_
  clear hx2
  go_wp2
  go_ret
  exact HP.out
end Go.Proofs.Ytmbbhmmciidfnaa
