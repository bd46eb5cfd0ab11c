/- In one text: BkRef, GrowL, GrowR. -/
import Derived.Test.YtffcjnabhblbaaaMA1
import Derived.Test.YtffcjnabhblbaaaMA3
namespace Go.Proofs.Ytffcjnabhblbaaa
set_option maxRecDepth 20000
open Go.RowKit Go.Deep
set_option linter.unusedVariables false
theorem wp_app_cts {o : Oper} {a : Act} {K : Act → World → Prop} {Q : Exit → Act → World → Prop} {w : World} (s x : Operand)
    (ho : o.op = .call { callee := .builtin .append, args := #[s, x], argTypes := #[56, 56] })
    (B : Nat) (v : Value) (l : List Ct) (hs : a.eval s = v) (hown : OwnC w B v l) (y : Value) (m : Nat) (r : List Ct) (hx : a.eval x = y) (hm : r.length = m) (hsrc : Src Try.prog 21 56 y m (flatC r) w)
    (h63 : l.length + r.length ≤ 10000) (hB : B ≤ w.heap.size) (h : ∀ v' w', OwnC w' B v' (l ++ r) → w.grownBy w' v.ownBlock → (v'.ownBlock = v.ownBlock ∨ ∃ g, v'.ownBlock = some g ∧ w.heap.size ≤ g) → K (a.put o.dst v') w') : o.wp Try.prog a w K Q := by
  subst hm
  obtain ⟨i, hi, hz0, hz1, hz2⟩ := ctParts
  refine wp_append_own_src3 w s x 56 56 ho B 47 i (CV z21) 21 32 ctUnder hi hz0 hz1 hz2 rfl v l.length (flatC l) hs hown y r.length (flatC r) hx hsrc (by unfold maxLen; omega) (by omega) hB (fun _ => True) (fun _ _ _ _ _ _ _ _ => trivial) (fun _ _ => trivial) (fun _ _ => trivial) ?_
  intro v' w' ho' hg' hn' _
  exact h v' w' (by unfold OwnC; rw [flatC_append, List.length_append]; exact ho') hg' hn'
theorem CAt.split2 {w : World} {g : Nat} {T : TypeId} {pre post : List Value} {a b : List Ct} : CAt w g T pre (a ++ b) post ↔ CAt w g T (pre ++ flatC a) b post := by
  unfold CAt
  rw [flatC_append, ← List.append_assoc]
theorem ctElem : Try.prog.elem 56 = 47 := by kernel_rfl
theorem ctSlice : Try.prog.underlying 56 = some (.slice (Try.prog.elem 56)) := by rw [ctElem]; exact ctUnder
theorem ctSize (w : World) : (sizeOf (Try.prog.elem 56)).run Try.prog w = .ok 21 w := by
  rw [ctElem]
  obtain ⟨i, hi, _, h, _⟩ := ctParts
  simp [sizeOf, typeInfo, hi, h]
theorem cutc_to (g len cap h : Nat) (hh : h ≤ cap) (w' : World) : (Instr.slice 56 (.slice (some ⟨g, 0, none⟩) len cap) none (some (.int .i64 (h : Nat))) none).run Try.prog w' = .ok (.slice (some ⟨g, 0, none⟩) h cap) w' := by
  rw [run_slice_h (P := Try.prog) w' 56 _ len cap ctSlice .i64 ((h : Nat) : Int) (by omega) (by omega), ctSize]
  simp only [Result.andThen_ok, Int.toNat_natCast, sliced, Nat.sub_zero, Nat.zero_mul]
  split <;> simp [Addr.add_mid]
theorem cutc_from (g len cap l : Nat) (hl : l ≤ len) (hc : len ≤ cap) : ∃ o, (∀ w' : World, (Instr.slice 56 (.slice (some ⟨g, 0, none⟩) len cap) (some (.int .i64 (l : Nat))) none none).run Try.prog w' = .ok (.slice (some ⟨g, o, none⟩) (len - l) (cap - l)) w') ∧ (o = l * 21 ∨ l = len) := by
  by_cases h : cap = l
  · refine ⟨0, fun w' => ?_, .inr (by omega)⟩
    rw [run_slice_l (P := Try.prog) w' 56 _ len cap ctSlice .i64 ((l : Nat) : Int) (by omega) (by omega), ctSize]
    simp only [Result.andThen_ok, Int.toNat_natCast, sliced, if_pos h]
  · refine ⟨l * 21, fun w' => ?_, .inl rfl⟩
    rw [run_slice_l (P := Try.prog) w' 56 _ len cap ctSlice .i64 ((l : Nat) : Int) (by omega) (by omega), ctSize]
    simp [Result.andThen_ok, sliced, if_neg h, Addr.add_mid]
/-- x[:k] and x[k+1:] of a slice of the call's own. -/
theorem OwnC.cuts {w : World} {B : Nat} {v : Value} {l : List Ct} (h : OwnC w B v l) {k : Nat} (hk : k < l.length) : ∃ a1 c1 a2 c2,
    (∀ w' : World, (Instr.slice 56 v none (some (.int .i64 (k : Nat))) none).run Try.prog w' = .ok (.slice a1 k c1) w') ∧
    (∀ w' : World, OwnC w' B v l → Src Try.prog 21 56 (.slice a1 k c1) k (flatC (l.take k)) w') ∧
    (∀ w' : World, (Instr.slice 56 v (some (.int .i64 ((k + 1 : Nat) : Int))) none none).run Try.prog w' = .ok (.slice a2 (l.length - (k + 1)) c2) w') ∧
    (∀ w' : World, OwnC w' B v l → Src Try.prog 21 56 (.slice a2 (l.length - (k + 1)) c2) (l.length - (k + 1)) (flatC (l.drop (k + 1))) w') := by
  rcases h.kinds with ⟨rfl, rfl⟩ | ⟨g, cap, rfl⟩
  · simp at hk
  · obtain ⟨_, hcap, _⟩ := h.at_
    obtain ⟨o, h1, h2⟩ := cutc_from g l.length cap (k + 1) hk hcap
    refine ⟨some ⟨g, 0, none⟩, cap, some ⟨g, o, none⟩, cap - (k + 1), fun w' => cutc_to g l.length cap k (by omega) w', fun w' ho => ?_, h1, fun w' ho => ?_⟩
    · obtain ⟨_, _, _, post, ha⟩ := ho.at_
      rw [← List.take_append_drop k l] at ha
      exact (CAt.split.1 ha).src rfl (by rw [List.length_take]; omega) cap
    · obtain ⟨_, _, _, post, ha⟩ := ho.at_
      rcases h2 with rfl | h2
      · rw [← List.take_append_drop (k + 1) l] at ha
        exact (CAt.split2.1 ha).src (by rw [List.nil_append, flatC_length, List.length_take]; omega) (by rw [List.length_drop]) _
      · rw [h2, Nat.sub_self, List.drop_length]
        exact Src.ofSlice w' ctUnder ⟨g, o, none⟩ 0 _ [] rfl (by simp) (by simp)
/-- Behind pre in block g of type T lies a bucket of the reference: a slice v of its own of the contacts l. -/
structure RBAt (w : World) (g : Nat) (T : TypeId) (pre : List Value) (v : Value) (post : List Value) (l : List Ct) : Prop where
  row : w.heap[g]? = some (.cells (pre ++ v :: post).toArray T (0, 0))
  own : OwnC w 0 v l
  ty : T ≠ 47
/-- What a call that writes it leaves: all but its block and its slice's. -/
structure RWrote (w : World) (g : Nat) (v : Value) (v' : Value) (w' : World) : Prop where
  os : w'.os = w.os
  tape : w'.tape = w.tape
  output : w'.output = w.output
  size : w.heap.size ≤ w'.heap.size
  block : ∀ i, i < w.heap.size → i ≠ g → v.ownBlock ≠ some i → w'.heap[i]? = w.heap[i]?
  new : v'.ownBlock = v.ownBlock ∨ ∀ k, v'.ownBlock = some k → w.heap.size ≤ k
section
variable {w w' : World} {g o : Nat} {T : TypeId} {pre post : List Value} {v v' : Value} {l : List Ct}
theorem RBAt.lt (h : RBAt w g T pre v post l) : g < w.heap.size := (Array.getElem?_eq_some_iff.1 h.row).1
theorem RBAt.ne (h : RBAt w g T pre v post l) : v.ownBlock ≠ some g := fun e => by
  obtain ⟨_, _, cs, hc⟩ := h.own.block e
  rw [h.row] at hc
  simp only [Option.some.injEq, Obj.cells.injEq] at hc
  exact h.ty hc.2.1
theorem RBAt.ext (h : RBAt w g T pre v post l) (hx : w.Extends w') : RBAt w' g T pre v post l := ⟨(hx.block g h.lt).trans h.row, h.own.ext hx, h.ty⟩
theorem RBAt.cell (h : RBAt w g T pre v post l) (ho : pre.length = o) : w.cell? ⟨g, o, none⟩ = some v := by
  rw [cell_of_row _ _ _ _ _ _ h.row, List.getElem?_toArray, List.getElem?_append_right (by omega), ← ho, Nat.sub_self]; rfl
theorem RBAt.frozen (h : RBAt w g T pre v post l) (o : Nat) : w.frozen? ⟨g, o, none⟩ = false := frozen_of_row _ _ _ _ _ h.row
/-- Another slice is stored. -/
theorem RBAt.put {l' : List Ct} (h : RBAt w g T pre v post l) (ho : pre.length = o) (h' : OwnC w 0 v' l') (hn : v'.ownBlock ≠ some g) (hw : w' = w.setCell ⟨g, o, none⟩ v') : RBAt w' g T pre v' post l' := by
  subst hw
  refine ⟨?_, h'.kept (cgrown_set _ _ _) (.inr hn), h.ty⟩
  rw [heap_setCell_same _ _ _ _ _ _ h.row]
  subst ho
  simp
end
/-- Where a contact of that peer stands first. -/
abbrev ixC (p : Int) (l : List Ct) : Nat := cfnd (fun c => decide (c.p = p)) l
theorem own_new {w' : World} {B : Nat} {v : Value} {l : List Ct} (h : OwnC w' B v l) {g : Nat} (hg : g < B) : v.ownBlock ≠ some g := fun e => by have := (h.block e).1; omega
def RDropOut (g o : Nat) (T : TypeId) (pre post : List Value) (l : List Ct) (p : Int) (v : Value) (w : World) (e : Ending) (w' : World) : Prop :=
  e = .returned (.bool (decide (ixC p l < l.length))) ∧ ∃ v', RBAt w' g T pre v' post (l.eraseIdx (ixC p l)) ∧ RWrote w g v v' w'
set_option maxHeartbeats 2000000 in
theorem rbdrop_any (g o : Nat) (T : TypeId) (pre post : List Value) (l : List Ct) (p : Int) (v : Value) (w : World) (h : RBAt w g T pre v post l) (ho : pre.length = o) (hl : l.length ≤ 1000) :
    Calls Try.prog 25 #[.pointer (some ⟨g, o, none⟩), .int .i64 p] w (RDropOut g o T pre post l p v w) := by
  have H := Lib.hid h
  have HO := Lib.hid ho
  obtain ⟨n, hn⟩ : ∃ n, l.length = n := ⟨_, rfl⟩
  obtain ⟨va, vc, hv⟩ := h.own.slice
  rw [hn] at hv hl
  subst hv
  have HN := Lib.hid hn
  have HC0 := Lib.hid (h.cell ho)
  have HF0 := Lib.hid (h.frozen o)
  have HCT := Lib.hid h.own.cts
  have HYES : Hid (∀ k, k < n → (∀ m, m < k → decide ((l.getD m z21).p = p) = false) → decide ((l.getD k z21).p = p) = true → ixC p l = k) := fun k hk h1 h2 => cfnd_uniq (by omega) h1 (fun _ => h2)
  have HNO : Hid ((∀ m, m < n → decide ((l.getD m z21).p = p) = false) → ixC p l = n) := fun h1 => cfnd_uniq (by omega) h1 (fun h => absurd h (by omega))
  clear h ho hn
  go_enter Try.func25, Try.ntmps25
  go_wp2_with fail
  go_loopw [5] (fun s5 wr => ∃ k : Nat, k ≤ n ∧ s5 = .int .i64 k ∧ Hid (w.Extends wr) ∧ Hid (∀ m, m < k → decide ((l.getD m z21).p = p) = false)) (fun s5 _ => n - (intOf s5).toNat)
  case atStart => exact ⟨0, by omega, rfl, Gr.ext_refl _, fun m hm => absurd hm (Nat.not_lt_zero _)⟩
  case round =>
    obtain ⟨k, hk, rfl, HX, HB⟩ := hrel
    have hc0 := HX.out.cell_of HC0.out
    by_cases h1 : k < n
    · obtain ⟨vg, vo, rfl, hr⟩ := (HCT.out.ext HX.out).at (k := k) (by rw [HN.out]; exact h1)
      have hpe := range_peer hr
      obtain ⟨kp, hkp⟩ : ∃ kp, (l.getD k z21).p = kp := ⟨_, rfl⟩
      rw [hkp] at hpe
      have HKP := Lib.hid hkp
      obtain ⟨q, hq⟩ : ∃ q, decide (kp = p) = q := ⟨_, rfl⟩
      have hq2 : (kp == p) = q := by rw [← hq, Bool.eq_iff_iff, beq_iff_eq, decide_eq_true_eq]
      have HQ := Lib.hid hq
      clear hq hr hkp
      cases q with
      | false =>
        have HB2 : Hid (∀ m, m < k + 1 → decide ((l.getD m z21).p = p) = false) := fun m hm => by
          rcases Nat.lt_or_ge m k with h | h
          · exact HB.out m h
          · obtain rfl : m = k := by omega
            rw [HKP.out]; exact HQ.out
        go_wp2
        go_roundw
        case rel => exact ⟨k + 1, by omega, by go_num, HX, HB2⟩
        case measure => simp [intOf]; omega
      | true =>
        have HK : Hid (ixC p l = k) := HYES.out k h1 HB.out (by rw [HKP.out]; exact HQ.out)
        have HRX := Lib.hid (H.out.ext HX.out)
        obtain ⟨x1, y1, x2, y2, q1, s1, q2, s2⟩ := HRX.out.own.cuts (k := k) (by rw [HN.out]; exact h1)
        rw [HN.out] at q2 s2
        rw [show ((k + 1 : Nat) : Int) = (k : Int) + 1 by omega] at q2
        have HQ1 := Lib.hid q1
        have HQ2 := Lib.hid q2
        have HS1 := Lib.hid s1
        have HS2 := Lib.hid s2
        have hwr : IntKind.i64.wrap ((k : Int) + 1) = (k : Int) + 1 := by rw [IntKind.wrap_i64]; omega
        clear q1 q2 s1 s2 HYES HNO HB
        go_upto_region 5 with fail
        obtain ⟨B, hB⟩ : ∃ B, B = wr.heap.size := ⟨_, rfl⟩
        have HEX : Hid (∀ wx, Below B wr.drew wx → wr.Extends wx) := fun wx hx => Gr.ext_trans (Gr.ext_drew (Gr.ext_refl wr)) (ext_below hx hB)
        have HBS : Hid (B ≤ wr.drew.heap.size ∧ w.heap.size ≤ B ∧ g < B) := ⟨Nat.le_of_eq hB, by rw [hB]; exact HX.out.size, by rw [hB]; exact HRX.out.lt⟩
        clear hB hpe
        have HCR := Lib.hid hc0
        clear hc0
        refine GrB.region B 16 [(false,0),(false,1),(false,2),(false,3),(false,4),(false,5),(false,6),(false,8),(false,9),(false,10),(false,11),(false,12),(false,13),(false,14),(true,7),(true,15)] (by kernel_rfl) (by kernel_rfl) (fun d _ _ _ _ h => by cases d <;> exact h) ?_
        simp only [Gr.pick, List.getElem?_cons_zero, List.getElem?_cons_succ, List.drop_succ_cons, List.drop_zero]
        generalize wr.drew = wf at *
        iterate 4
          refine GrB.walk_t ?_ (Or.inl ⟨by rfl, ?_⟩) ?_
          rotate_left
          · intro w' hw'
            clear hw'
            go_simp
            try with_reducible rfl
          simp only [Act.put, List.setIfInBounds_toArray, List.set_cons_zero, List.set_cons_succ]
        refine GrB.walk_t ?_ (Or.inl ⟨by rfl, ?_⟩) ?_
        rotate_left
        · intro w' hw'
          have b0 := (HEX.out w' hw').cell_of HCR.out
          clear hw'
          go_simp
          try with_reducible rfl
        simp only [Act.put, List.setIfInBounds_toArray, List.set_cons_zero, List.set_cons_succ]
        refine GrB.walk_t ?_ (Or.inl ⟨by rfl, ?_⟩) ?_
        rotate_left
        · intro w' hw'
          clear hw'
          go_simp
          try with_reducible rfl
        simp only [Act.put, List.setIfInBounds_toArray, List.set_cons_zero, List.set_cons_succ]
        refine GrB.walk_t ?_ (Or.inl ⟨by rfl, ?_⟩) ?_
        rotate_left
        · intro w' hw'
          have hs1 := HQ1.out w'
          clear hw'
          go_simp
          try with_reducible rfl
        simp only [Act.put, List.setIfInBounds_toArray, List.set_cons_zero, List.set_cons_succ]
        iterate 3
          refine GrB.walk_t ?_ (Or.inl ⟨by rfl, ?_⟩) ?_
          rotate_left
          · intro w' hw'
            clear hw'
            go_simp
            try with_reducible rfl
          simp only [Act.put, List.setIfInBounds_toArray, List.set_cons_zero, List.set_cons_succ]
        refine GrB.walk_t ?_ (Or.inl ⟨by rfl, ?_⟩) ?_
        rotate_left
        · intro w' hw'
          have b0 := (HEX.out w' hw').cell_of HCR.out
          clear hw'
          go_simp
          try with_reducible rfl
        simp only [Act.put, List.setIfInBounds_toArray, List.set_cons_zero, List.set_cons_succ]
        iterate 2
          refine GrB.walk_t ?_ (Or.inl ⟨by rfl, ?_⟩) ?_
          rotate_left
          · intro w' hw'
            clear hw'
            go_simp
            try with_reducible rfl
          simp only [Act.put, List.setIfInBounds_toArray, List.set_cons_zero, List.set_cons_succ]
        refine GrB.walk_t ?_ (Or.inl ⟨by rfl, ?_⟩) ?_
        rotate_left
        · intro w' hw'
          have hs2 := HQ2.out w'
          clear hw'
          go_simp
          try with_reducible rfl
        simp only [Act.put, List.setIfInBounds_toArray, List.set_cons_zero, List.set_cons_succ]
        refine GrB.walk_c (fun K hK => ?_)
        rw [if_pos (by rfl)]
        refine wp_app_cts (.const (.slice none 0 0)) (.tmp 31) rfl B (.slice none 0 0) [] rfl (OwnC.nil _ _) _ k (l.take k) rfl (by rw [List.length_take, HN.out]; omega) (HS1.out wf (HRX.out.own.ext (HEX.out wf (Below.refl _ _)))) (by rw [List.length_take, HN.out, List.length_nil]; omega) HBS.out.1 ?_
        intro v5 w5 ho5 hg5 _
        have hb5 : Below B wf w5 := (Below.refl B wf).grown hg5 HBS.out.1 (fun k hk => nomatch hk)
        have HO5 : Hid (OwnC w5 B v5 (l.take k)) := ho5
        have HB5 := Lib.hid hb5
        simp only [Act.put, List.setIfInBounds_toArray, List.set_cons_zero, List.set_cons_succ]
        refine hK.out _ _ hb5 ?_
        clear hK K ho5 hg5 hb5
        refine GrB.walk_c (fun K hK => ?_)
        rw [if_pos (by rfl)]
        have hbs5 := HB5.out.size
        refine wp_app_cts (.tmp 32) (.tmp 39) rfl B v5 (l.take k) rfl HO5.out _ (n - (k + 1)) (l.drop (k + 1)) rfl (by rw [List.length_drop, HN.out]) (HS2.out w5 (HRX.out.own.ext (HEX.out w5 HB5.out))) (by rw [List.length_take, List.length_drop, HN.out]; omega) (by have := HBS.out.1; omega) ?_
        intro v6 w6 ho6 hg6 _
        have hb6 : Below B w5 w6 := (Below.refl B w5).grown hg6 (by have := HBS.out.1; omega) (fun k hk => (HO5.out.block hk).1)
        rw [← List.eraseIdx_eq_take_drop_succ] at ho6
        have HB6 : Hid (Below B wf w6) := HB5.out.trans hb6
        obtain ⟨xa, xc, rfl⟩ := ho6.slice
        have HO6 := Lib.hid ho6
        simp only [Act.put, List.setIfInBounds_toArray, List.set_cons_zero, List.set_cons_succ]
        refine hK.out _ _ hb6 ?_
        clear hK K ho6 hg6 hb6 hbs5 HO5 HB5
        refine GrB.walk_nil ?_
        have HX6 : Hid (wr.Extends w6) := HEX.out w6 HB6.out
        have b6 := HX6.out.cell_of HCR.out
        have f6 := (HRX.out.ext HX6.out).frozen o
        have HPUT : Hid (∀ w8, w8 = w6.setCell ⟨g, o, none⟩ (.slice xa (l.eraseIdx k).length xc) → RDropOut g o T pre post l p (.slice (some ⟨vg, vo, none⟩) n vc) w (.returned (.bool true)) w8) := fun w8 e8 => by
          have hne := own_new HO6.out HBS.out.2.2
          have h8 := (HRX.out.ext HX6.out).put HO.out (HO6.out.mono (Nat.zero_le _)) hne e8
          have hg8 : w6.grownBy w8 (some g) := by rw [e8]; exact cgrown_set _ _ _
          have hxw := Gr.ext_trans HX.out HX6.out
          refine ⟨by rw [HK.out, HN.out, decide_eq_true h1], _, by rw [HK.out]; exact h8, hg8.os.trans hxw.os, hg8.tape.trans hxw.tape, hg8.output.trans hxw.output, Nat.le_trans hxw.size hg8.size, fun i hi hig _ => (hg8.block i (Nat.lt_of_lt_of_le hi hxw.size) (by simpa using hig)).trans (hxw.block i hi), .inr fun k hk => Nat.le_trans HBS.out.2.1 (HO6.out.block hk).1⟩
        clear HO6 HB6 HBS HEX HS1 HS2 HQ1 HQ2 HX6 HRX
        generalize (l.eraseIdx k).length = el at *
        go_upto_region 6 with fail
        generalize hw8 : World.setCell w6 _ _ = w8
        have HP := Lib.hid (HPUT.out w8 hw8.symm)
        clear hw8 HPUT b6 f6
        go_wp2
        go_ret
        exact HP.out
    · obtain rfl : k = n := by omega
      have HP : Hid (RDropOut g o T pre post l p (.slice va k vc) w (.returned (.bool false)) wr) := by
        have he := HNO.out HB.out
        refine ⟨by rw [he, HN.out]; simp, _, ?_, HX.out.os, HX.out.tape, HX.out.output, HX.out.size, fun i hi _ _ => HX.out.block i hi, .inl rfl⟩
        rw [he, List.eraseIdx_of_length_le (by rw [HN.out]; exact Nat.le_refl _)]
        exact H.out.ext HX.out
      go_wp2
      go_ret
      exact HP.out
end Go.Proofs.Ytffcjnabhblbaaa
namespace Go.Proofs.Ytffcjnabhblbaaa
set_option maxRecDepth 20000
open Go.RowKit
namespace GrL
open Gr (AnyE check growB pick)
section
variable {P : Program} {ops : Array Oper} {Q : Exit → Act → World → Prop} {md : Region.Mode} {S : World → Prop}
variable {B : Nat}
open Gr (checkTo lists)
/-! Where more than one operation that is carried out may come up: the walk goes a step at a time. -/
/-- What is left: 'f' operations of the head, then the tail. -/
def Left (B : Nat) (P : Program) (l : List Oper) (Q : Exit → Act → World → Prop) (n f : Nat) (listed : Array Bool) (a : Act) (w : World) : Prop :=
  HeadInv .any l.toArray n listed → AnyE P .any l.toArray Q n (fun listed' a' w' => Region.seqB .any l.toArray (l.toArray.size - n) n listed' = true ∧ wpList P l.toArray Q (l.drop n) a' w') (Below B w) f listed a w
theorem Left.done {l : List Oper} {n : Nat} {listed : Array Bool} {a : Act} {w : World} (hB : Region.seqB .any l.toArray (l.toArray.size - n) n listed = true) (h : wpList P l.toArray Q (l.drop n) a w) : Left B P l Q n 0 listed a w := fun _ => ⟨hB, h⟩
theorem Left.take {l : List Oper} {n f i : Nat} {o : Oper} {listed : Array Bool} {a : Act} {w : World} (hi : l[i]? = some o)
    (hk : (Region.noSelect l.toArray && decide (n < l.toArray.size) && Region.sinkB .any l.toArray n && Region.chainB .any l.toArray n && decide (i < n) && (Region.ready .any l.toArray listed).contains i && Region.free .any l.toArray listed i) = true)
    (hQ : ∀ d v c a w, Q (.panic c) (Act.put a d v) w → Q (.panic c) a w) (v : Value) (hy : YieldsIf P l.toArray (Below B w) o v a)
    (h : Left B P l Q n f (listed.setIfInBounds i true) (a.put o.dst v) w) : Left B P l Q n (f + 1) listed a w := fun inv => by
  simp only [Bool.and_eq_true, decide_eq_true_eq] at hk
  obtain ⟨⟨⟨⟨⟨⟨hsel, hn⟩, hs⟩, hc⟩, hin⟩, hr⟩, hf⟩ := hk
  have hoa : l.toArray[i]? = some o := by simpa using hi
  have hrm : i ∈ Region.ready .any l.toArray listed := by simpa using hr
  exact AnyE.first hoa (Region.noSelect_spec hsel) hs hc hn hin (fun c a w => hQ _ v c a w) (fun listed' a' w' hL => seqB_ready hL.1) f listed a w inv (Region.free_spec hoa hf) hrm hy (Below.refl B w) (h (inv.set hrm hin))
/-- One step of an operation that is carried out. -/
def Step (B : Nat) (P : Program) (l : List Oper) (Q : Exit → Act → World → Prop) (n f i : Nat) (listed : Array Bool) (a : Act) (w : World) : Prop :=
  ∀ o, l[i]? = some o → ∀ K : Act → World → Prop, Shut (∀ a' w', Below B w w' → Left B P l Q n f (listed.setIfInBounds i true) a' w' → K a' w') → if Region.wanted o (yielded l.toArray a.tmps) = true then o.wp P a w K Q else K (a.put o.dst undef) w
theorem Step.mk {l : List Oper} {n f i : Nat} {o : Oper} {listed : Array Bool} {a : Act} {w : World} (hi : l[i]? = some o)
    (h : ∀ K : Act → World → Prop, Shut (∀ a' w', Below B w w' → Left B P l Q n f (listed.setIfInBounds i true) a' w' → K a' w') → if Region.wanted o (yielded l.toArray a.tmps) = true then o.wp P a w K Q else K (a.put o.dst undef) w) : Step B P l Q n f i listed a w := fun o' ho' => by
  rw [hi] at ho'; cases ho'; exact h
theorem Left.some {l : List Oper} {n f : Nat} {rs : List Nat} {listed : Array Bool} {a : Act} {w : World} (hr : Region.ready .any l.toArray listed = rs) (hne : (!rs.isEmpty && rs.all (· < n) && rs.all (· < l.length)) = true)
    (h : ∀ i ∈ rs, Step B P l Q n f i listed a w) : Left B P l Q n (f + 1) listed a w := fun inv => by
  simp only [Bool.and_eq_true, List.all_eq_true, decide_eq_true_eq] at hne
  refine ⟨(by rw [hr]; intro h0; rw [h0] at hne; simp at hne), fun j hj => ?_⟩
  have hjr : j ∈ rs := hr ▸ hj
  refine ⟨hne.1.2 j hjr, ?_⟩
  have hjl := hne.2 j hjr
  have hoa : l.toArray[j]? = Option.some l[j] := by simp
  have h0 := h j hjr l[j] (List.getElem?_eq_getElem hjl) (fun a' w' => Below B w w' ∧ Left B P l Q n f (listed.setIfInBounds j true) a' w') (fun _ _ h1 h2 => ⟨h1, h2⟩)
  have hinv := inv.set hj (hne.1.2 j hjr)
  have fin : ∀ a' w', Below B w w' ∧ Left B P l Q n f (listed.setIfInBounds j true) a' w' → Below B w w' ∧ AnyE P .any l.toArray Q n _ (Below B w) f (listed.setIfInBounds j true) a' w' :=
    fun a' w' hk => ⟨hk.1, AnyE.weaken (fun u hu => hk.1.trans hu) _ _ _ _ (hk.2 hinv)⟩
  unfold wpOp
  simp only [hoa]
  split
  · rename_i hw; rw [if_pos hw] at h0; exact .inl (Oper.wp_mono fin h0)
  · rename_i hw; rw [if_neg hw] at h0; exact fin _ _ h0
theorem Left.one {l : List Oper} {n f i : Nat} {listed : Array Bool} {a : Act} {w : World} (hr : Region.ready .any l.toArray listed = [i]) (hne : (decide (i < n) && decide (i < l.length)) = true)
    (h : Step B P l Q n f i listed a w) : Left B P l Q n (f + 1) listed a w :=
  Left.some hr (by simpa using hne) (fun j hj => by obtain rfl : j = i := by simpa using hj
                                                    exact h)
theorem Left.two {l : List Oper} {n f i j : Nat} {listed : Array Bool} {a : Act} {w : World} (hr : Region.ready .any l.toArray listed = [i, j]) (hne : (decide (i < n) && decide (i < l.length) && decide (j < n) && decide (j < l.length)) = true)
    (h1 : Step B P l Q n f i listed a w) (h2 : Step B P l Q n f j listed a w) : Left B P l Q n (f + 1) listed a w :=
  Left.some hr (by simp only [Bool.and_eq_true, decide_eq_true_eq] at hne; simp; omega) (fun k hk => by
    simp only [List.mem_cons, List.not_mem_nil, or_false] at hk
    rcases hk with rfl | rfl
    · exact h1
    · exact h2)
theorem Left.three {l : List Oper} {n f i j k : Nat} {listed : Array Bool} {a : Act} {w : World} (hr : Region.ready .any l.toArray listed = [i, j, k]) (hne : (decide (i < n) && decide (i < l.length) && decide (j < n) && decide (j < l.length) && decide (k < n) && decide (k < l.length)) = true)
    (h1 : Step B P l Q n f i listed a w) (h2 : Step B P l Q n f j listed a w) (h3 : Step B P l Q n f k listed a w) : Left B P l Q n (f + 1) listed a w :=
  Left.some hr (by simp only [Bool.and_eq_true, decide_eq_true_eq] at hne; simp; omega) (fun m hm => by
    simp only [List.mem_cons, List.not_mem_nil, or_false] at hm
    rcases hm with rfl | rfl | rfl
    · exact h1
    · exact h2
    · exact h3)
def walkE (B : Nat) (P : Program) (ops : Array Oper) (Q : Exit → Act → World → Prop) (E : Act → World → Prop) : List (Bool × Oper) → Act → World → Prop
  | [], a, w => E a w
  | (true, o) :: rest, a, w => if Region.wanted o (yielded ops a.tmps) = true then o.wp P a w (fun a' w' => Below B w w' ∧ walkE B P ops Q E rest a' w') Q else walkE B P ops Q E rest (a.put o.dst undef) w
  | (false, o) :: rest, a, w => ∃ v, YieldsIf P ops (Below B w) o v a ∧ walkE B P ops Q E rest (a.put o.dst v) w
theorem walkE_nil {E : Act → World → Prop} {a : Act} {w : World} (h : E a w) : walkE B P ops Q E [] a w := h
theorem walkE_t {E : Act → World → Prop} {rest : List (Bool × Oper)} {o : Oper} {a : Act} {w : World} (v : Value) (hy : YieldsIf P ops (Below B w) o v a) (h : walkE B P ops Q E rest (a.put o.dst v) w) :
    walkE B P ops Q E ((false, o) :: rest) a w := ⟨v, hy, h⟩
theorem walkE_sound {l : List Oper} {n g : Nat} (hsel : Region.noSelect l.toArray = true) (hs : Region.sinkB .any l.toArray n = true) (hc : Region.chainB .any l.toArray n = true) (hn : n < l.toArray.size)
    (hQ : ∀ d v c a w, Q (.panic c) (Act.put a d v) w → Q (.panic c) a w) :
    ∀ (ord : List (Bool × Nat)) (listed : Array Bool) (a : Act) (w : World), checkTo .any l.toArray n ord listed = true →
      walkE B P l.toArray Q (Left B P l Q n g (lists ord listed)) (pick l ord) a w → Left B P l Q n (ord.length + g) listed a w
  | [], listed, a, w, _, h => by rw [List.length_nil, Nat.zero_add]; exact h
  | (c, i) :: rest, listed, a, w, hB, h => fun inv => by
    simp only [checkTo, Bool.and_eq_true, decide_eq_true_eq] at hB
    obtain ⟨⟨hin, hr⟩, hB'⟩ := hB
    have hil : i < l.length := by have : l.toArray.size = l.length := by simp
                                  omega
    have ho : l[i]? = Option.some l[i] := List.getElem?_eq_getElem hil
    have hoa : l.toArray[i]? = Option.some l[i] := by simp
    have hlen : ((c, i) :: rest).length + g = (rest.length + g) + 1 := by simp; omega
    rw [hlen]
    simp only [pick, ho] at h
    cases c with
    | true =>
      simp only [decide_eq_true_eq] at hr
      refine ⟨(by rw [hr]; simp), fun j hj => ?_⟩
      rw [hr] at hj
      obtain rfl : j = i := by simpa using hj
      refine ⟨hin, ?_⟩
      have hrm : j ∈ Region.ready .any l.toArray listed := by rw [hr]; simp
      unfold walkE at h
      unfold wpOp
      simp only [hoa]
      split
      · rename_i hw
        rw [if_pos hw] at h
        exact .inl (Oper.wp_mono (fun a' w' hk => ⟨hk.1, AnyE.weaken (fun u hu => hk.1.trans hu) _ _ _ _ (walkE_sound hsel hs hc hn hQ rest _ a' w' hB' hk.2 (inv.set hrm hin))⟩) h)
      · rename_i hw
        rw [if_neg hw] at h
        exact ⟨Below.refl B w, walkE_sound hsel hs hc hn hQ rest _ _ w hB' h (inv.set hrm hin)⟩
    | false =>
      simp only [Bool.and_eq_true] at hr
      unfold walkE at h
      obtain ⟨v, hy, hK⟩ := h
      have hrm : i ∈ Region.ready .any l.toArray listed := by simpa using hr.1
      exact AnyE.first hoa (Region.noSelect_spec hsel) hs hc hn hin (fun c a w => hQ _ v c a w) (fun listed' a' w' hL => seqB_ready hL.1) (rest.length + g) listed a w inv (Region.free_spec hoa hr.2) hrm hy (Below.refl B w)
        (walkE_sound hsel hs hc hn hQ rest _ _ w hB' hK (inv.set hrm hin))
theorem regionE {id : Nat} {a : Act} {w : World} {l : List Oper} (n g : Nat) (ord : List (Bool × Nat)) (hm : P.follows .mixedOrders = true)
    (hB : (Region.noSelect l.toArray && decide (n < l.toArray.size) && Region.sinkB .any l.toArray n && Region.chainB .any l.toArray n && decide (ord.length + g = n) && checkTo .any l.toArray n ord (Array.replicate l.toArray.size false)) = true)
    (hQ : ∀ d v c a w, Q (.panic c) (Act.put a d v) w → Q (.panic c) a w)
    (h : walkE B P l.toArray Q (Left B P l Q n g (lists ord (Array.replicate l.toArray.size false))) (pick l ord) a w.drew) : (Code.region id l.toArray true).wp P Q a w := by
  simp only [Bool.and_eq_true, decide_eq_true_eq] at hB
  obtain ⟨⟨⟨⟨⟨hsel, hn⟩, hs⟩, hc⟩, hlen⟩, hck⟩ := hB
  have hdl : (l.drop n).length = l.toArray.size - n := by simp
  have inv0 : HeadInv .any l.toArray n (Array.replicate l.toArray.size false) :=
    ⟨by simp, fun j oj _ hl => (by rw [getD_replicate_false] at hl; cases hl), fun t _ ht => getD_in (by simpa using ht) (getD_replicate_false _ _)⟩
  have H := walkE_sound hsel hs hc hn hQ ord _ a w.drew hck h inv0
  refine wp_region_any hm ?_
  have := AnyE.any (Q := Q) (g := l.toArray.size - n) (fun listed a' w' hL => by
    have := wpAny_of_seq (md := .any) (Q' := Q) (l.drop n) n listed a' w' (fun j => by simp [List.getElem?_drop]) (by rw [hdl]; exact hL.1) hL.2
    rwa [hdl] at this) _ _ _ _ H
  rw [hlen, show n + (l.toArray.size - n) = l.toArray.size by omega] at this
  exact this
end
end GrL
end Go.Proofs.Ytffcjnabhblbaaa
namespace Go.Proofs.Ytffcjnabhblbaaa
set_option maxRecDepth 20000
open Go.RowKit
namespace GrR
open Gr (AnyE check growB pick)
section
variable {P : Program} {ops : Array Oper} {Q : Exit → Act → World → Prop} {md : Region.Mode} {S : World → Prop}
def walk (B : Option Nat) (P : Program) (ops : Array Oper) (Q : Exit → Act → World → Prop) (tail : List Oper) : List (Bool × Oper) → Act → World → Prop
  | [], a, w => wpList P ops Q tail a w
  | (true, o) :: rest, a, w => if Region.wanted o (yielded ops a.tmps) = true then o.wp P a w (fun a' w' => w.grownBy w' B ∧ walk B P ops Q tail rest a' w') Q else walk B P ops Q tail rest (a.put o.dst undef) w
  | (false, o) :: rest, a, w => ∃ v, YieldsIf P ops (fun w' => w.grownBy w' B) o v a ∧ walk B P ops Q tail rest (a.put o.dst v) w
theorem walk_nil {B : Option Nat} {tail : List Oper} {a : Act} {w : World} (h : wpList P ops Q tail a w) : walk B P ops Q tail [] a w := h
/-- An operation that is taken. -/
theorem walk_t {B : Option Nat} {tail : List Oper} {rest : List (Bool × Oper)} {o : Oper} {a : Act} {w : World} (v : Value) (hy : YieldsIf P ops (fun w' => w.grownBy w' B) o v a) (h : walk B P ops Q tail rest (a.put o.dst v) w) :
    walk B P ops Q tail ((false, o) :: rest) a w := ⟨v, hy, h⟩
/-- An operation that is carried out. -/
theorem walk_c {B : Option Nat} {tail : List Oper} {rest : List (Bool × Oper)} {o : Oper} {a : Act} {w : World}
    (h : ∀ K : Act → World → Prop, Shut (∀ a' w', w.grownBy w' B → walk B P ops Q tail rest a' w' → K a' w') → if Region.wanted o (yielded ops a.tmps) = true then o.wp P a w K Q else K (a.put o.dst undef) w) :
    walk B P ops Q tail ((true, o) :: rest) a w := by
  have h0 := h (fun a' w' => w.grownBy w' B ∧ walk B P ops Q tail rest a' w') (fun _ _ h1 h2 => ⟨h1, h2⟩)
  unfold walk
  split
  · rename_i hw; rw [if_pos hw] at h0; exact h0
  · rename_i hw; rw [if_neg hw] at h0; exact h0.2

theorem walk_sound (B : Option Nat) {l : List Oper} {n : Nat} (hsel : Region.noSelect l.toArray = true) (hs : Region.sinkB md l.toArray n = true) (hc : Region.chainB md l.toArray n = true) (hn : n < l.toArray.size)
    (hQ : ∀ d v c a w, Q (.panic c) (Act.put a d v) w → Q (.panic c) a w) :
    ∀ (ord : List (Bool × Nat)) (listed : Array Bool) (a : Act) (w : World), HeadInv md l.toArray n listed → check md l.toArray n (l.toArray.size - n) ord listed = true →
      walk B P l.toArray Q (l.drop n) (pick l ord) a w →
      AnyE P md l.toArray Q n (fun listed' a' w' => Region.seqB md l.toArray (l.toArray.size - n) n listed' = true ∧ wpList P l.toArray Q (l.drop n) a' w') (fun w' => w.grownBy w' B) ord.length listed a w
  | [], listed, a, w, _, hB, h => ⟨hB, h⟩
  | (c, i) :: rest, listed, a, w, inv, hB, h => by
    simp only [check, Bool.and_eq_true, decide_eq_true_eq] at hB
    obtain ⟨⟨hin, hr⟩, hB'⟩ := hB
    have hil : i < l.length := by have : l.toArray.size = l.length := by simp
                                  omega
    have ho : l[i]? = some l[i] := List.getElem?_eq_getElem hil
    have hoa : l.toArray[i]? = some l[i] := by simp
    simp only [pick, ho] at h
    cases c with
    | true =>
      simp only [decide_eq_true_eq] at hr
      refine ⟨(by rw [hr]; simp), fun j hj => ?_⟩
      rw [hr] at hj
      obtain rfl : j = i := by simpa using hj
      refine ⟨hin, ?_⟩
      have hrm : j ∈ Region.ready md l.toArray listed := by rw [hr]; simp
      unfold walk at h
      unfold wpOp
      simp only [hoa]
      split
      · rename_i hw
        rw [if_pos hw] at h
        exact .inl (Oper.wp_mono (fun a' w' hk => ⟨hk.1, AnyE.weaken (fun u hu => grown_trans hk.1 hu) _ _ _ _ (walk_sound B hsel hs hc hn hQ rest _ a' w' (inv.set hrm hin) hB' hk.2)⟩) h)
      · rename_i hw
        rw [if_neg hw] at h
        exact ⟨grown_refl w B, walk_sound B hsel hs hc hn hQ rest _ _ w (inv.set hrm hin) hB' h⟩
    | false =>
      simp only [Bool.and_eq_true] at hr
      unfold walk at h
      obtain ⟨v, hy, hK⟩ := h
      have hrm : i ∈ Region.ready md l.toArray listed := by simpa using hr.1
      exact AnyE.first hoa (Region.noSelect_spec hsel) hs hc hn hin (fun c a w => hQ _ v c a w) (fun listed' a' w' hL => seqB_ready hL.1) rest.length listed a w inv (Region.free_spec hoa hr.2) hrm hy (grown_refl w B)
        (walk_sound B hsel hs hc hn hQ rest _ _ w (inv.set hrm hin) hB' hK)

theorem region (B : Option Nat) {id : Nat} {a : Act} {w : World} {l : List Oper} (n : Nat) (ord : List (Bool × Nat)) (hm : P.follows .mixedOrders = true) (hB : growB .any l.toArray n ord = true)
    (hQ : ∀ d v c a w, Q (.panic c) (Act.put a d v) w → Q (.panic c) a w)
    (h : walk B P l.toArray Q (l.drop n) (pick l ord) a w.drew) : (Code.region id l.toArray true).wp P Q a w := by
  simp only [growB, Bool.and_eq_true, decide_eq_true_eq] at hB
  obtain ⟨⟨⟨⟨⟨hsel, hn⟩, hs⟩, hc⟩, hlen⟩, hck⟩ := hB
  have hdl : (l.drop n).length = l.toArray.size - n := by simp
  have inv0 : HeadInv .any l.toArray n (Array.replicate l.toArray.size false) :=
    ⟨by simp, fun j oj _ hl => (by rw [getD_replicate_false] at hl; cases hl), fun t _ ht => getD_in (by simpa using ht) (getD_replicate_false _ _)⟩
  have H := walk_sound B (md := .any) hsel hs hc hn hQ ord _ a w.drew inv0 hck h
  refine wp_region_any hm ?_
  have := AnyE.any (Q := Q) (g := l.toArray.size - n) (fun listed a' w' hL => by
    have := wpAny_of_seq (md := .any) (Q' := Q) (l.drop n) n listed a' w' (fun j => by simp [List.getElem?_drop]) (by rw [hdl]; exact hL.1) hL.2
    rwa [hdl] at this) _ _ _ _ H
  rw [hlen] at this
  exact this
end
end GrR
end Go.Proofs.Ytffcjnabhblbaaa
