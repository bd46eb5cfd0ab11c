/- In one text: LokRMore, LokRCall. -/
import Derived.Test.YtgjnkfbckbkcnaaMA4
import Derived.Test.YtgjnkfbckbkcnaaMA8
namespace Go.Proofs.Ytgjnkfbckbkcnaa
set_option maxRecDepth 20000
open Go.RowKit Go.Deep
set_option linter.unusedVariables false
theorem outI_snoc {x : Int} {l : List Int} {k : Nat} (hk : k < l.length) : outI x (l.take (k + 1)) = outI x (l.take k) ++ (if l.getD k 0 = x then [] else [l.getD k 0]) := by
  have e : l.take (k + 1) = l.take k ++ [l.getD k 0] := by
    rw [List.take_add_one]
    have : l[k]?.toList = [l.getD k 0] := by simp [hk]
    rw [this]
  rw [e]
  unfold outI
  rw [List.filter_append]
  generalize l.getD k 0 = y
  by_cases h : y = x
  · simp [h]
  · simp only [List.filter_cons, h, decide_false, Bool.not_false, if_true, List.filter_nil, if_false]
/-- Some ints, in a row of the call's own. -/
def IntsMade (w : World) (l : List Int) (e : Ending) (w' : World) : Prop := ∃ v, e = .returned v ∧ w.Extends w' ∧ OwnI w' w.heap.size v l
set_option maxHeartbeats 1000000 in
theorem without_any (v : Value) (l : List Int) (x : Int) (w : World) (hv : Ints w v l) (hl : l.length ≤ 8000) :
    Calls Try.prog 26 #[v, .int .i64 x] w (IntsMade w (outI x l)) := by
  obtain ⟨n, hn⟩ : ∃ n, l.length = n := ⟨_, rfl⟩
  obtain ⟨a, cap, rfl, _⟩ := hv.slice
  rw [hn] at hv hl ⊢
  have HV := Lib.hid hv.cell.2
  have HN := Lib.hid hn
  have HOL : Hid (∀ k, (outI x (l.take k)).length ≤ k) := fun k => by
    have := List.length_filter_le (fun y => !decide (y = x)) (l.take k)
    have h2 : (l.take k).length ≤ k := by rw [List.length_take]; exact Nat.min_le_left _ _
    unfold outI; omega
  have HALL : Hid (outI x (l.take n) = outI x l) := by show _ = _; rw [List.take_of_length_le (by omega)]
  have HSN : Hid (∀ k, k < n → outI x (l.take (k + 1)) = outI x (l.take k) ++ (if l.getD k 0 = x then [] else [l.getD k 0])) := fun k hk => outI_snoc (by omega)
  clear hv hn
  go_enter Try.func26, Try.ntmps26
  go_wp2_with fail
  go_loopw [5, 6] (fun s5 s6 wr => ∃ k : Nat, k ≤ n ∧ s6 = .int .i64 k ∧ Hid (w.Extends wr) ∧ Hid (OwnI wr w.heap.size s5 (outI x (l.take k)))) (fun _ s6 _ => (n - intOf s6).toNat)
  case atStart => exact ⟨0, by omega, rfl, Gr.ext_refl _, OwnI.nil _ _⟩
  case round =>
    obtain ⟨k, hk, rfl, HX, HO⟩ := hrel
    by_cases h1 : k < n
    · obtain ⟨b1, o1, rfl, hb1, hc1⟩ := HV.out (by omega)
      have hc := HX.out.cell_of (hc1 k h1)
      have hsn := HSN.out k h1
      have HLE := Lib.hid (HOL.out k)
      generalize l.getD k 0 = y at *
      generalize outI x (l.take k) = A at *
      generalize hA2 : outI x (l.take (k + 1)) = A2 at *
      have HA2 := Lib.hid hA2
      clear hc1 hA2
      by_cases h2 : y = x
      · rw [if_pos h2, List.append_nil] at hsn
        have HSN2 := Lib.hid hsn
        have h3 : (y == x) = true := by simp [h2]
        clear h2 hsn
        go_wp2
        go_roundw
        case rel => exact ⟨k + 1, by omega, by go_num, HX.out, by rw [HA2.out, HSN2.out]; exact HO.out⟩
        case measure => simp [intOf]; omega
      · rw [if_neg h2] at hsn
        have HSN2 := Lib.hid hsn
        have h3 : (y == x) = false := by simp [h2]
        clear h2 hsn
        have hc2 := (ext_alloc wr (.cells #[.int .i64 y] 3)).cell_of hc
        have HIX : Hid (∀ w1, w1 = wr.alloc (.cells #[.int .i64 y] 3) → wr.Extends w1 ∧ Src Try.prog 1 24 (.slice (some ⟨wr.heap.size, 0, none⟩) 1 1) 1 (i64vs [y]) w1) := fun w1 e => by
          subst e
          exact ⟨ext_alloc _ _, one_src (heap_alloc_new _ _)⟩
        go_wp2_with (at_builtin; refine wpList_app_ints3 rfl (.tmp 19) (.tmp 24) rfl w.heap.size _ A rfl (HO.out.ext (HIX.out _ rfl).1) _ 1 [y] rfl rfl (HIX.out _ rfl).2 (by have := HLE.out; show A.length + 1 ≤ 10000; omega) (Nat.le_trans HX.out.size (HIX.out _ rfl).1.size) ?_)
        intro v' w2 ho2 hg2 loc
        have HX2 : Hid (w.Extends w2) := Gr.ext_of ((Gr.below_of (Gr.ext_trans HX.out (HIX.out _ rfl).1)).grown hg2 (Nat.le_trans HX.out.size (HIX.out _ rfl).1.size) (fun q hq => (HO.out.lt q hq).1))
        have HO2 := Lib.hid ho2
        clear ho2 hg2 loc HIX HO HLE hc hc2
        go_wp2
        go_roundw
        case rel => exact ⟨k + 1, by omega, by go_num, HX2.out, by rw [HA2.out, HSN2.out]; exact HO2.out⟩
        case measure => simp [intOf]; omega
    · obtain rfl : k = n := by omega
      have HP : Hid (IntsMade w (outI x l) (.returned u5) wr) := ⟨u5, rfl, HX.out, by have := HO.out; rwa [HALL.out] at this⟩
      generalize IntsMade w (outI x l) = POST at *
      go_wp2
      exact HP.out
def RKnowOut (t : Nat) (D : Nat → Prop) (s : Lk) (w : World) (e : Ending) (w' : World) : Prop := e = .returned (.tuple #[]) ∧ Fr D w w' ∧ RLAt w' t (Nx D w w') s
set_option maxHeartbeats 4000000 in
theorem rmore_any (t : Nat) (D : Nat → Prop) (s : Lk) (v : Value) (m : List Int) (w : World) (h : RLAt w t D s) (hv : Ints w v m) (hm : ∀ x ∈ m, In64 x) (hl : s.known.length + m.length ≤ 8000) (hd : m = [] ∨ ∀ g, v.ownBlock = some g → g < w.heap.size ∧ ¬ D g) :
    Calls Try.prog 22 #[.pointer (some ⟨t, 0, none⟩), v] w (RKnowOut t D (s.more m) w) := by
  obtain ⟨n, hn⟩ : ∃ n, m.length = n := ⟨_, rfl⟩
  obtain ⟨a, cap, hva, _⟩ := hv.slice
  subst hva
  rw [hn] at hv hl hd ⊢
  have hnb : n ≤ 8000 := by omega
  have HV : Hid (∀ wr, Fr D w wr → Ints wr (.slice a n cap) m) := fun wr hf => hv.away hf (hd.imp id fun h g hg => (h g hg).2)
  have HD : Hid (∀ b o, 0 < n → a = some ⟨b, o, none⟩ → b < w.heap.size ∧ ¬ D b) := fun b o h0 e => by
    subst e
    rcases hd with rfl | hd
    · simp at hn; omega
    · exact hd b rfl
  have H0 := Lib.hid h
  have HMM := Lib.hid hm
  have HL := Lib.hid hl
  have HN := Lib.hid hn
  have HST := Lib.hid (s.more_take m)
  have HLN : Hid (∀ k, (s.more (m.take k)).known.length ≤ s.known.length + k) := fun k => by
    have := s.more_len (m.take k)
    have : (m.take k).length ≤ k := by rw [List.length_take]; exact Nat.min_le_left _ _
    omega
  have HALL : Hid (s.more (m.take n) = s.more m) := by
    show _ = _
    rw [List.take_of_length_le (by omega)]
  clear h hv hm hl hd hn
  go_enter Try.func22, Try.ntmps22
  go_wp2_with fail
  go_loopw [4] (fun s4 wr => ∃ k : Nat, k ≤ n ∧ s4 = .int .i64 k ∧ Hid (Fr D w wr) ∧ Hid (RLAt wr t (Nx D w wr) (s.more (m.take k)))) (fun s4 _ => (n - intOf s4).toNat)
  case atStart => exact ⟨0, by omega, rfl, Fr.refl _ _, H0.out.mono fun i hi => .inl hi⟩
  case round =>
    obtain ⟨k, hk, rfl, HF, HLT⟩ := hrel
    by_cases h1 : k < n
    · have hkl : k < m.length := by have := HN.out; omega
      obtain ⟨b1, o1, rfl, hb1, hc1⟩ := (HV.out wr HF.out).cell.2 (by omega)
      obtain ⟨hbw, hbd⟩ := HD.out b1 o1 (by omega) rfl
      have HCM : Hid (wr.cell? ⟨b1, o1 + k, none⟩ = some (.int .i64 (m.getD k 0))) := hc1 k h1
      have HB1 : Hid (b1 < wr.heap.size ∧ ¬ Nx D w wr b1) := ⟨hb1, fun e => by
        rcases e with e | e
        · exact hbd e
        · omega⟩
      have HXI : Hid (In64 (m.getD k 0)) := HMM.out _ (by rw [List.getD_eq_getElem?_getD, List.getElem?_eq_getElem hkl]; exact List.getElem_mem _)
      have hst := HST.out k hkl
      have hlk := HLN.out k
      have hll := HL.out
      generalize m.getD k 0 = x at *
      generalize hs1 : s.more (m.take k) = st at *
      generalize hs2 : s.more (m.take (k + 1)) = st2 at *
      have HS2 := Lib.hid hs2
      have HST1 := Lib.hid hst
      have HLK : Hid (st.known.length + 1 ≤ 8000) := by show _ ≤ _; omega
      clear hc1 hb1 hs1 hs2 hst hlk hll hkl hbw hbd
      have HSAME : Hid (x < 0 ∨ x = st.self ∨ x ∈ st.known → st2 = st) := fun h => by
        rw [HST1.out]; unfold Lk.add; rw [if_pos h]
      have HF1 : Hid (∀ w', wr.Extends w' → Fr D w w') := fun w' hx => HF.out.trans (Fr.ext hx) (fun i _ h => h)
      have HLT1 : Hid (∀ w', wr.Extends w' → RLAt w' t (Nx D w w') st) := fun w' hx => (HLT.out.ext hx).mono fun i hi => by
        rcases hi with hi | hi
        · exact .inl hi
        · exact .inr ⟨hi.1, Nat.lt_of_lt_of_le hi.2 hx.size⟩
      obtain ⟨kn, ak, op, hX, hin⟩ := HLT.out
      obtain ⟨c20, c21, c22, c23⟩ := hX.cells
      have HX := Lib.hid hX
      have HIN := Lib.hid hin
      have HC20 : Hid (wr.cell? ⟨t, 20, none⟩ = some (.int .i64 st.self)) := c20
      have HC21 : Hid (wr.cell? ⟨t, 21, none⟩ = some kn) := c21
      have HSELF : Hid (st.self = st.self) := rfl
      clear hX hin c20 c21 c22 c23
      go_wp2_with fail
      by_cases h2 : x < 0
      · have HE := Lib.hid (HSAME.out (.inl h2))
        have hge : decide (x ≥ 0) = false := by rw [decide_eq_false_iff_not]; omega
        have hge2 : decide (0 ≤ x) = false := by rw [decide_eq_false_iff_not]; omega
        clear h2
        refine Gr.region 25 [(false,0),(false,1),(false,2),(false,3),(false,4),(false,5),(false,6),(false,7),(false,8),(false,9),(false,10),(false,11),(false,12),(false,13),(false,14),(false,15),(false,16),(false,17),(false,18),(false,19),(false,20),(false,21),(false,22),(false,23),(false,24)] (by kernel_rfl) (by kernel_rfl) (fun d _ _ _ _ h => by cases d <;> exact h) ?_
        simp only [Gr.pick, List.getElem?_cons_zero, List.getElem?_cons_succ, List.drop_succ_cons, List.drop_zero]
        generalize hwd : wr.drew = wd at *
        have HXD : Hid (wr.Extends wd) := by rw [← hwd]; exact Gr.ext_drew (Gr.ext_refl _)
        clear hwd
        iterate 3
          refine Gr.walk_t ?_ (Or.inl ⟨by rfl, ?_⟩) ?_
          rotate_left
          · intro w' hw'
            clear hw'
            go_simp
            try with_reducible rfl
          simp only [Act.put, List.setIfInBounds_toArray, List.set_cons_zero, List.set_cons_succ]
        refine Gr.walk_t ?_ (Or.inl ⟨by rfl, ?_⟩) ?_
        rotate_left
        · intro w' hw'
          have hc := (Gr.ext_trans HXD.out hw').cell_of HCM.out
          clear hw'
          go_simp
          try with_reducible rfl
        simp only [Act.put, List.setIfInBounds_toArray, List.set_cons_zero, List.set_cons_succ]
        iterate 2
          refine Gr.walk_t ?_ (Or.inl ⟨by rfl, ?_⟩) ?_
          rotate_left
          · intro w' hw'
            clear hw'
            go_simp
            try with_reducible rfl
          simp only [Act.put, List.setIfInBounds_toArray, List.set_cons_zero, List.set_cons_succ]
        refine Gr.walk_t _ (Or.inr ⟨by rfl, rfl⟩) ?_
        simp only [Act.put, List.setIfInBounds_toArray, List.set_cons_zero, List.set_cons_succ]
        refine Gr.walk_t _ (Or.inr ⟨by rfl, rfl⟩) ?_
        simp only [Act.put, List.setIfInBounds_toArray, List.set_cons_zero, List.set_cons_succ]
        refine Gr.walk_t _ (Or.inr ⟨by rfl, rfl⟩) ?_
        simp only [Act.put, List.setIfInBounds_toArray, List.set_cons_zero, List.set_cons_succ]
        refine Gr.walk_t _ (Or.inr ⟨by rfl, rfl⟩) ?_
        simp only [Act.put, List.setIfInBounds_toArray, List.set_cons_zero, List.set_cons_succ]
        refine Gr.walk_t _ (Or.inr ⟨by rfl, rfl⟩) ?_
        simp only [Act.put, List.setIfInBounds_toArray, List.set_cons_zero, List.set_cons_succ]
        refine Gr.walk_t _ (Or.inr ⟨by rfl, rfl⟩) ?_
        simp only [Act.put, List.setIfInBounds_toArray, List.set_cons_zero, List.set_cons_succ]
        refine Gr.walk_t _ (Or.inr ⟨by rfl, rfl⟩) ?_
        simp only [Act.put, List.setIfInBounds_toArray, List.set_cons_zero, List.set_cons_succ]
        refine Gr.walk_t _ (Or.inr ⟨by rfl, rfl⟩) ?_
        simp only [Act.put, List.setIfInBounds_toArray, List.set_cons_zero, List.set_cons_succ]
        refine Gr.walk_t _ (Or.inr ⟨by rfl, rfl⟩) ?_
        simp only [Act.put, List.setIfInBounds_toArray, List.set_cons_zero, List.set_cons_succ]
        iterate 2
          refine Gr.walk_t ?_ (Or.inl ⟨by rfl, ?_⟩) ?_
          rotate_left
          · intro w' hw'
            clear hw'
            go_simp
            try with_reducible rfl
          simp only [Act.put, List.setIfInBounds_toArray, List.set_cons_zero, List.set_cons_succ]
        refine Gr.walk_t _ (Or.inr ⟨by rfl, rfl⟩) ?_
        simp only [Act.put, List.setIfInBounds_toArray, List.set_cons_zero, List.set_cons_succ]
        refine Gr.walk_t _ (Or.inr ⟨by rfl, rfl⟩) ?_
        simp only [Act.put, List.setIfInBounds_toArray, List.set_cons_zero, List.set_cons_succ]
        refine Gr.walk_t _ (Or.inr ⟨by rfl, rfl⟩) ?_
        simp only [Act.put, List.setIfInBounds_toArray, List.set_cons_zero, List.set_cons_succ]
        refine Gr.walk_t _ (Or.inr ⟨by rfl, rfl⟩) ?_
        simp only [Act.put, List.setIfInBounds_toArray, List.set_cons_zero, List.set_cons_succ]
        refine Gr.walk_t _ (Or.inr ⟨by rfl, rfl⟩) ?_
        simp only [Act.put, List.setIfInBounds_toArray, List.set_cons_zero, List.set_cons_succ]
        refine Gr.walk_t _ (Or.inr ⟨by rfl, rfl⟩) ?_
        simp only [Act.put, List.setIfInBounds_toArray, List.set_cons_zero, List.set_cons_succ]
        refine Gr.walk_t _ (Or.inr ⟨by rfl, rfl⟩) ?_
        simp only [Act.put, List.setIfInBounds_toArray, List.set_cons_zero, List.set_cons_succ]
        refine Gr.walk_t _ (Or.inr ⟨by rfl, rfl⟩) ?_
        simp only [Act.put, List.setIfInBounds_toArray, List.set_cons_zero, List.set_cons_succ]
        refine Gr.walk_nil ?_
        have HF2 := Lib.hid (HF1.out wd HXD.out)
        have HL2 := Lib.hid (HLT1.out wd HXD.out)
        clear HF1 HLT1 HF HLT HX HXD HC20 HC21 HCM HIN
        go_wp2
        go_roundw
        case rel => exact ⟨k + 1, by omega, by go_num, HF2.out, by rw [HS2.out, HE.out]; exact HL2.out⟩
        case measure => simp [intOf]; omega
      · have hge : decide (x ≥ 0) = true := by rw [decide_eq_true_eq]; omega
        have hge2 : decide (0 ≤ x) = true := by rw [decide_eq_true_eq]; omega
        have H2 : Hid (¬ x < 0) := h2
        clear h2
        by_cases h3 : x = st.self
        · have HE := Lib.hid (HSAME.out (.inr (.inl h3)))
          have h4 : (x != st.self) = false := by simp [h3]
          generalize st.self = y at *
          clear h3
          refine Gr.region 25 [(false,0),(false,1),(false,2),(false,3),(false,4),(false,5),(false,6),(false,7),(false,8),(false,9),(false,10),(false,11),(false,12),(false,13),(false,14),(false,15),(false,16),(false,17),(false,18),(false,19),(false,20),(false,21),(false,22),(false,23),(false,24)] (by kernel_rfl) (by kernel_rfl) (fun d _ _ _ _ h => by cases d <;> exact h) ?_
          simp only [Gr.pick, List.getElem?_cons_zero, List.getElem?_cons_succ, List.drop_succ_cons, List.drop_zero]
          generalize hwd : wr.drew = wd at *
          have HXD : Hid (wr.Extends wd) := by rw [← hwd]; exact Gr.ext_drew (Gr.ext_refl _)
          clear hwd
          iterate 3
            refine Gr.walk_t ?_ (Or.inl ⟨by rfl, ?_⟩) ?_
            rotate_left
            · intro w' hw'
              clear hw'
              go_simp
              try with_reducible rfl
            simp only [Act.put, List.setIfInBounds_toArray, List.set_cons_zero, List.set_cons_succ]
          refine Gr.walk_t ?_ (Or.inl ⟨by rfl, ?_⟩) ?_
          rotate_left
          · intro w' hw'
            have hc := (Gr.ext_trans HXD.out hw').cell_of HCM.out
            clear hw'
            go_simp
            try with_reducible rfl
          simp only [Act.put, List.setIfInBounds_toArray, List.set_cons_zero, List.set_cons_succ]
          iterate 5
            refine Gr.walk_t ?_ (Or.inl ⟨by rfl, ?_⟩) ?_
            rotate_left
            · intro w' hw'
              clear hw'
              go_simp
              try with_reducible rfl
            simp only [Act.put, List.setIfInBounds_toArray, List.set_cons_zero, List.set_cons_succ]
          refine Gr.walk_t ?_ (Or.inl ⟨by rfl, ?_⟩) ?_
          rotate_left
          · intro w' hw'
            have hc := (Gr.ext_trans HXD.out hw').cell_of HCM.out
            clear hw'
            go_simp
            try with_reducible rfl
          simp only [Act.put, List.setIfInBounds_toArray, List.set_cons_zero, List.set_cons_succ]
          iterate 3
            refine Gr.walk_t ?_ (Or.inl ⟨by rfl, ?_⟩) ?_
            rotate_left
            · intro w' hw'
              clear hw'
              go_simp
              try with_reducible rfl
            simp only [Act.put, List.setIfInBounds_toArray, List.set_cons_zero, List.set_cons_succ]
          refine Gr.walk_t ?_ (Or.inl ⟨by rfl, ?_⟩) ?_
          rotate_left
          · intro w' hw'
            have hc := (Gr.ext_trans HXD.out hw').cell_of HC20.out
            clear hw'
            go_simp
            try with_reducible rfl
          simp only [Act.put, List.setIfInBounds_toArray, List.set_cons_zero, List.set_cons_succ]
          iterate 3
            refine Gr.walk_t ?_ (Or.inl ⟨by rfl, ?_⟩) ?_
            rotate_left
            · intro w' hw'
              clear hw'
              go_simp
              try with_reducible rfl
            simp only [Act.put, List.setIfInBounds_toArray, List.set_cons_zero, List.set_cons_succ]
          refine Gr.walk_t _ (Or.inr ⟨by rfl, rfl⟩) ?_
          simp only [Act.put, List.setIfInBounds_toArray, List.set_cons_zero, List.set_cons_succ]
          refine Gr.walk_t _ (Or.inr ⟨by rfl, rfl⟩) ?_
          simp only [Act.put, List.setIfInBounds_toArray, List.set_cons_zero, List.set_cons_succ]
          refine Gr.walk_t _ (Or.inr ⟨by rfl, rfl⟩) ?_
          simp only [Act.put, List.setIfInBounds_toArray, List.set_cons_zero, List.set_cons_succ]
          refine Gr.walk_t _ (Or.inr ⟨by rfl, rfl⟩) ?_
          simp only [Act.put, List.setIfInBounds_toArray, List.set_cons_zero, List.set_cons_succ]
          refine Gr.walk_t _ (Or.inr ⟨by rfl, rfl⟩) ?_
          simp only [Act.put, List.setIfInBounds_toArray, List.set_cons_zero, List.set_cons_succ]
          refine Gr.walk_t _ (Or.inr ⟨by rfl, rfl⟩) ?_
          simp only [Act.put, List.setIfInBounds_toArray, List.set_cons_zero, List.set_cons_succ]
          refine Gr.walk_t _ (Or.inr ⟨by rfl, rfl⟩) ?_
          simp only [Act.put, List.setIfInBounds_toArray, List.set_cons_zero, List.set_cons_succ]
          refine Gr.walk_t _ (Or.inr ⟨by rfl, rfl⟩) ?_
          simp only [Act.put, List.setIfInBounds_toArray, List.set_cons_zero, List.set_cons_succ]
          refine Gr.walk_nil ?_
          have HF2 := Lib.hid (HF1.out wd HXD.out)
          have HL2 := Lib.hid (HLT1.out wd HXD.out)
          clear HF1 HLT1 HF HLT HX HXD HC20 HC21 HCM HIN
          go_wp2
          go_roundw
          case rel => exact ⟨k + 1, by omega, by go_num, HF2.out, by rw [HS2.out, HE.out]; exact HL2.out⟩
          case measure => simp [intOf]; omega
        · have h4 : (x != st.self) = true := by simp [h3]
          have H3 : Hid (x ≠ st.self) := h3
          obtain ⟨y, hy⟩ : ∃ y, st.self = y := ⟨_, rfl⟩
          rw [hy] at HC20 h4
          clear h3 hy
          refine Gr.region 25 [(false,0),(false,1),(false,2),(false,3),(false,4),(false,5),(false,6),(false,7),(false,8),(false,9),(false,10),(false,11),(false,12),(false,13),(false,14),(false,15),(false,16),(false,17),(false,18),(false,19),(false,20),(false,21),(false,22),(false,23),(false,24)] (by kernel_rfl) (by kernel_rfl) (fun d _ _ _ _ h => by cases d <;> exact h) ?_
          simp only [Gr.pick, List.getElem?_cons_zero, List.getElem?_cons_succ, List.drop_succ_cons, List.drop_zero]
          generalize hwd : wr.drew = wd at *
          have HXD : Hid (wr.Extends wd) := by rw [← hwd]; exact Gr.ext_drew (Gr.ext_refl _)
          clear hwd
          iterate 3
            refine Gr.walk_t ?_ (Or.inl ⟨by rfl, ?_⟩) ?_
            rotate_left
            · intro w' hw'
              clear hw'
              go_simp
              try with_reducible rfl
            simp only [Act.put, List.setIfInBounds_toArray, List.set_cons_zero, List.set_cons_succ]
          refine Gr.walk_t ?_ (Or.inl ⟨by rfl, ?_⟩) ?_
          rotate_left
          · intro w' hw'
            have hc := (Gr.ext_trans HXD.out hw').cell_of HCM.out
            clear hw'
            go_simp
            try with_reducible rfl
          simp only [Act.put, List.setIfInBounds_toArray, List.set_cons_zero, List.set_cons_succ]
          iterate 5
            refine Gr.walk_t ?_ (Or.inl ⟨by rfl, ?_⟩) ?_
            rotate_left
            · intro w' hw'
              clear hw'
              go_simp
              try with_reducible rfl
            simp only [Act.put, List.setIfInBounds_toArray, List.set_cons_zero, List.set_cons_succ]
          refine Gr.walk_t ?_ (Or.inl ⟨by rfl, ?_⟩) ?_
          rotate_left
          · intro w' hw'
            have hc := (Gr.ext_trans HXD.out hw').cell_of HCM.out
            clear hw'
            go_simp
            try with_reducible rfl
          simp only [Act.put, List.setIfInBounds_toArray, List.set_cons_zero, List.set_cons_succ]
          iterate 3
            refine Gr.walk_t ?_ (Or.inl ⟨by rfl, ?_⟩) ?_
            rotate_left
            · intro w' hw'
              clear hw'
              go_simp
              try with_reducible rfl
            simp only [Act.put, List.setIfInBounds_toArray, List.set_cons_zero, List.set_cons_succ]
          refine Gr.walk_t ?_ (Or.inl ⟨by rfl, ?_⟩) ?_
          rotate_left
          · intro w' hw'
            have hc := (Gr.ext_trans HXD.out hw').cell_of HC20.out
            clear hw'
            go_simp
            try with_reducible rfl
          simp only [Act.put, List.setIfInBounds_toArray, List.set_cons_zero, List.set_cons_succ]
          iterate 6
            refine Gr.walk_t ?_ (Or.inl ⟨by rfl, ?_⟩) ?_
            rotate_left
            · intro w' hw'
              clear hw'
              go_simp
              try with_reducible rfl
            simp only [Act.put, List.setIfInBounds_toArray, List.set_cons_zero, List.set_cons_succ]
          refine Gr.walk_t ?_ (Or.inl ⟨by rfl, ?_⟩) ?_
          rotate_left
          · intro w' hw'
            have hc := (Gr.ext_trans HXD.out hw').cell_of HC21.out
            clear hw'
            go_simp
            try with_reducible rfl
          simp only [Act.put, List.setIfInBounds_toArray, List.set_cons_zero, List.set_cons_succ]
          iterate 3
            refine Gr.walk_t ?_ (Or.inl ⟨by rfl, ?_⟩) ?_
            rotate_left
            · intro w' hw'
              clear hw'
              go_simp
              try with_reducible rfl
            simp only [Act.put, List.setIfInBounds_toArray, List.set_cons_zero, List.set_cons_succ]
          refine Gr.walk_t ?_ (Or.inl ⟨by rfl, ?_⟩) ?_
          rotate_left
          · intro w' hw'
            have hc := (Gr.ext_trans HXD.out hw').cell_of HCM.out
            clear hw'
            go_simp
            try with_reducible rfl
          simp only [Act.put, List.setIfInBounds_toArray, List.set_cons_zero, List.set_cons_succ]
          refine Gr.walk_nil ?_
          have HH := Lib.hid (has_any kn st.known x wd (HX.out.ext HXD.out).known.ints)
          go_wp2_with fail
          refine HH.out.mono ?_
          rintro e w1 ⟨rfl, rfl⟩
          clear HH
          by_cases h5 : x ∈ st.known
          · have HE := Lib.hid (HSAME.out (.inr (.inr h5)))
            rw [decide_eq_true h5]
            have HF2 := Lib.hid (HF1.out w1 HXD.out)
            have HL2 := Lib.hid (HLT1.out w1 HXD.out)
            clear h5 HF1 HLT1 HF HLT HX HXD HC20 HC21 HCM HIN
            go_wp2
            go_roundw
            case rel => exact ⟨k + 1, by omega, by go_num, HF2.out, by rw [HS2.out, HE.out]; exact HL2.out⟩
            case measure => simp [intOf]; omega
          · rw [decide_eq_false h5]
            have H5 : Hid (x ∉ st.known) := h5
            clear h5 HSAME HLT HLT1 HF1
            obtain ⟨ka, kc, hkn⟩ := HX.out.known.slice
            obtain ⟨nk, hnk⟩ : ∃ nk, st.known.length = nk := ⟨_, rfl⟩
            rw [hnk] at hkn
            subst hkn
            have HNK := Lib.hid hnk
            clear hnk
            go_wp2_with fail
            refine GrR.region ((Value.slice ka nk kc).ownBlock) 11 [(false,0),(false,1),(false,2),(false,3),(false,4),(false,5),(false,6),(false,7),(false,8),(true,9),(true,10)] (by kernel_rfl) (by kernel_rfl) (fun d _ _ _ _ h => by cases d <;> exact h) ?_
            simp only [Gr.pick, List.getElem?_cons_zero, List.getElem?_cons_succ, List.drop_succ_cons, List.drop_zero]
            generalize hwf : w1.drew = wf at *
            have HXF : Hid (wr.Extends wf) := by rw [← hwf]; exact Gr.ext_drew HXD.out
            clear hwf
            have HXX : Hid (RLX wf t st (.slice ka nk kc) ak op) := HX.out.ext HXF.out
            have HNB : Hid ((Value.slice ka nk kc).ownBlock ≠ some t ∧ (Value.slice ka nk kc).ownBlock ≠ some b1) := ⟨own_ne_look HXX.out.row HXX.out.known, fun e => HB1.out.2 (HIN.out.k b1 e)⟩
            have HBF : Hid (b1 < wf.heap.size ∧ t < wf.heap.size) := ⟨Nat.lt_of_lt_of_le HB1.out.1 HXF.out.size, HXX.out.lt⟩
            have HCMF : Hid (wf.cell? ⟨b1, o1 + k, none⟩ = some (.int .i64 x)) := HXF.out.cell_of HCM.out
            clear HX HXD HC20 HC21 HCM
            iterate 4
              refine GrR.walk_t ?_ (Or.inl ⟨by rfl, ?_⟩) ?_
              rotate_left
              · intro w' hw'
                clear hw'
                go_simp
                try with_reducible rfl
              simp only [Act.put, List.setIfInBounds_toArray, List.set_cons_zero, List.set_cons_succ]
            refine GrR.walk_t ?_ (Or.inl ⟨by rfl, ?_⟩) ?_
            rotate_left
            · intro w' hw'
              have hc := (World.cell?_of_block (hw'.block t HBF.out.2 (fun e => HNB.out.1 e.symm))).trans HXX.out.cells.2.1
              clear hw'
              go_simp
              try with_reducible rfl
            simp only [Act.put, List.setIfInBounds_toArray, List.set_cons_zero, List.set_cons_succ]
            iterate 3
              refine GrR.walk_t ?_ (Or.inl ⟨by rfl, ?_⟩) ?_
              rotate_left
              · intro w' hw'
                clear hw'
                go_simp
                try with_reducible rfl
              simp only [Act.put, List.setIfInBounds_toArray, List.set_cons_zero, List.set_cons_succ]
            refine GrR.walk_t ?_ (Or.inl ⟨by rfl, ?_⟩) ?_
            rotate_left
            · intro w' hw'
              have hc := (World.cell?_of_block (a := ⟨b1, o1 + k, none⟩) (hw'.block b1 HBF.out.1 (fun e => HNB.out.2 e.symm))).trans HCMF.out
              clear hw'
              go_simp
              try with_reducible rfl
            simp only [Act.put, List.setIfInBounds_toArray, List.set_cons_zero, List.set_cons_succ]
            refine GrR.walk_c (fun K hK => ?_)
            go_simp
            generalize hw : World.alloc wf _ = wl
            have HXL : Hid (wf.Extends wl ∧ Src Try.prog 1 24 (.slice (some ⟨wf.heap.size, 0, none⟩) 1 1) 1 (i64vs [x]) wl) := by subst hw; exact ⟨ext_alloc _ _, one_src (heap_alloc_new _ _)⟩
            have hgl : wf.grownBy wl (Value.slice ka nk kc).ownBlock := by subst hw; exact World.grownBy_alloc _ _ _
            refine hK.out _ _ hgl ?_
            clear hK K hw hgl
            refine GrR.walk_c (fun K hK => ?_)
            rw [if_pos (by rfl)]
            refine wp_app_ints3 (.tmp 43) (.tmp 48) rfl 0 (.slice ka nk kc) st.known rfl (HXX.out.known.ext HXL.out.1) _ 1 [x] rfl rfl HXL.out.2 (by have := HLK.out; show st.known.length + 1 ≤ 10000; omega) (Nat.zero_le _) ?_
            intro v7 w7 ho hg loc
            have hr7 : w7.heap[t]? = some (.cells (RC st.k st.self (.slice ka nk kc) ak op) 53 (0, 0)) := (hg.block t (Nat.lt_of_lt_of_le HBF.out.2 HXL.out.1.size) (fun e => HNB.out.1 e.symm)).trans ((HXL.out.1.block t HBF.out.2).trans HXX.out.row)
            have hc7 : w7.cell? ⟨t, 21, none⟩ = some (.slice ka nk kc) := by rw [cell_of_row _ _ _ _ _ _ hr7]; exact (RC_get HXX.out.kl).2.1
            have hf7 : w7.frozen? ⟨t, 21, none⟩ = false := frozen_of_row _ _ _ _ _ hr7
            obtain ⟨b1', b2'⟩ := HXX.out.add HIN.out HXL.out.1 ho hg loc rfl HXI.out (by have := H2.out; omega) H3.out H5.out HLK.out
            have HP : Hid (Fr D w (w7.setCell ⟨t, 21, none⟩ v7) ∧ RLAt (w7.setCell ⟨t, 21, none⟩ v7) t (Nx D w (w7.setCell ⟨t, 21, none⟩ v7)) st2) := by
              have hf0 : Fr D w wf := HF.out.trans (Fr.ext HXF.out) (fun i _ h => h)
              refine ⟨hf0.next (b1'.mono fun i hi => ?_), ?_⟩
              · rcases hi with hi | hi
                · exact .inl hi
                · exact .inr ⟨hi.1, Nat.lt_of_lt_of_le hi.2 HXF.out.size⟩
              · rw [HST1.out]
                refine b2'.mono fun i hi => ?_
                have h1 := HF.out.size
                have h2 := HXF.out.size
                have h3 := b1'.size
                rcases hi with (hi | hi) | hi
                · exact .inl hi
                · exact .inr ⟨hi.1, by omega⟩
                · exact .inr ⟨by omega, hi.2⟩
            obtain ⟨xa, xcap, hx7⟩ := ho.slice
            subst hx7
            generalize (st.known ++ [x]).length = el at *
            simp only [Act.put, List.setIfInBounds_toArray, List.set_cons_zero, List.set_cons_succ]
            refine hK.out _ _ hg ?_
            clear hK K ho hg loc hr7 b1' b2' HXL HXX HNB HBF HCMF HXF HF HIN HB1 HST1 HXI
            refine GrR.walk_nil ?_
            go_wp2
            go_roundw
            case rel => exact ⟨k + 1, by omega, by go_num, HP.out.1, by rw [HS2.out]; exact HP.out.2⟩
            case measure => simp [intOf]; omega
    · obtain rfl : k = n := by omega
      have HP : Hid (RKnowOut t D (s.more m) w (.returned (.tuple #[])) wr) := ⟨rfl, HF.out, by have := HLT.out; rwa [HALL.out] at this⟩
      go_wp2
      go_end0
      exact HP.out
end Go.Proofs.Ytgjnkfbckbkcnaa
namespace Go.Proofs.Ytgjnkfbckbkcnaa
set_option maxRecDepth 20000
open Go.RowKit Go.Deep
set_option linter.unusedVariables false
theorem rlk_struct : Try.prog.underlying 53 = some (.struct (Try.prog.fieldsOf 53)) := by
  unfold Program.fieldsOf
  rw [Try.underlying53]
theorem rlk_fill (self : Int) (a0 a1 a2 a3 a4 a5 a6 a7 a8 a9 a10 a11 a12 a13 a14 a15 a16 a17 a18 a19 : Nat) : Instr.fill ([(0, 20), (20, 1), (21, 1), (22, 1), (23, 1)].toArray[·]?) (Value.agg ((KC KY.zero).toList ++ [Value.int .i64 0, Value.slice none 0 0, Value.slice none 0 0, Value.slice none 0 0]).toArray).cells [(0, KV [a0, a1, a2, a3, a4, a5, a6, a7, a8, a9, a10, a11, a12, a13, a14, a15, a16, a17, a18, a19]), (1, .int .i64 self)] = some (RC [a0, a1, a2, a3, a4, a5, a6, a7, a8, a9, a10, a11, a12, a13, a14, a15, a16, a17, a18, a19] self (.slice none 0 0) (.slice none 0 0) (.slice none 0 0)) := by kernel_rfl
theorem rlk_built (k : List Nat) (self : Int) (h : k.length = 20) : Try.prog.built 53 [(0, KV k), (1, .int .i64 self)] = some (RC k self (.slice none 0 0) (.slice none 0 0) (.slice none 0 0)) := by
  obtain ⟨it, hit⟩ : ∃ i, Try.prog.info? 53 = some i := info_of_underlying Try.underlying53
  have hz : (Try.prog.info? 53).map (·.zero) = some (some (.agg ((KC KY.zero).toList ++ [Value.int .i64 0, Value.slice none 0 0, Value.slice none 0 0, Value.slice none 0 0]).toArray)) := by kernel_rfl
  have hf := rlk_fill self
  rw [hit] at hz
  simp only [Option.map_some, Option.some.injEq] at hz
  have hpl : ((Try.prog.fieldsOf 53).toList.mapM fun f => (Try.prog.info? f.type).map fun i => (f.offset, i.size)) = some [(0, 20), (20, 1), (21, 1), (22, 1), (23, 1)] := by kernel_rfl
  unfold Program.built
  simp only [hit, rlk_struct, hz, hpl]
  obtain ⟨a0, a1, a2, a3, a4, a5, a6, a7, a8, a9, a10, a11, a12, a13, a14, a15, a16, a17, a18, a19, rfl⟩ := list20 h
  exact hf a0 a1 a2 a3 a4 a5 a6 a7 a8 a9 a10 a11 a12 a13 a14 a15 a16 a17 a18 a19
theorem wpList_build_rlk {ops : Array Oper} {rest : List Oper} {o : Oper} {a : Act} {w : World} {Q : Exit → Act → World → Prop} (hgd : o.guard = none) (x y : Operand) (ho : o.op = .build 53 #[(0, x), (1, y)])
    (k : List Nat) (self : Int) (hl : k.length = 20) (hx : a.eval x = KV k) (hy : a.eval y = .int .i64 self)
    (h : wpList Try.prog ops Q rest (a.put o.dst (.agg (RC k self (.slice none 0 0) (.slice none 0 0) (.slice none 0 0)))) w) : wpList Try.prog ops Q (o :: rest) a w := by
  refine wpList_plain hgd fun K hK => ?_
  have hb := run_build (P := Try.prog) w 53 #[(0, KV k), (1, Value.int .i64 self)] _ (rlk_built k self hl)
  have e : (Array.map (fun (z : Nat × Operand) => (z.1, a.eval z.2)) #[(0, x), (1, y)]) = #[(0, KV k), (1, Value.int .i64 self)] := by
    rw [← hx, ← hy]; simp
  unfold Oper.wp execOp
  simp only [ho, Sem.run_bind]
  have hr : (Sem.run Try.prog (Instr.build 53 (Array.map (fun (z : Nat × Operand) => (z.1, a.eval z.2)) #[(0, x), (1, y)])) w) = .ok (.agg (RC k self (.slice none 0 0) (.slice none 0 0) (.slice none 0 0))) w := by rw [e, hb]
  rw [hr]
  exact hK _ _ h
theorem RLAt.start {w w1 w2 : World} {k : List Nat} {self : Int} (hk : KY.Ok k) (hx : w.Extends w1) (h2 : w2 = w1.alloc (.cells (RC k self (.slice none 0 0) (.slice none 0 0) (.slice none 0 0)) 53)) :
    w.Extends w2 ∧ RLAt w2 w1.heap.size (fun i => w.heap.size ≤ i ∧ i < w2.heap.size) (Lk.new k self) := by
  have x12 : w1.Extends w2 := by rw [h2]; exact ext_alloc _ _
  have s2 : w2.heap.size = w1.heap.size + 1 := by rw [h2]; simp
  have s0 := hx.size
  refine ⟨Gr.ext_trans hx x12, .slice none 0 0, .slice none 0 0, .slice none 0 0, ⟨?_, OwnI.nil _ _, OwnI.nil _ _, OwnI.nil _ _, fun g e => (nomatch e), fun g e => (nomatch e), fun g e => (nomatch e), Lk.Inv.new hk self, Nat.zero_le _⟩, ⟨⟨by omega, by omega⟩, fun g e => (nomatch e), fun g e => (nomatch e), fun g e => (nomatch e)⟩⟩
  rw [h2]
  exact heap_alloc_new _ _
def RNewLOut (s : Lk) (w : World) (e : Ending) (w' : World) : Prop := ∃ t, e = .returned (.pointer (some ⟨t, 0, none⟩)) ∧ w.Extends w' ∧ RLAt w' t (fun i => w.heap.size ≤ i ∧ i < w'.heap.size) s
set_option maxHeartbeats 1000000 in
theorem rlnew_any (k : List Nat) (self : Int) (v : Value) (m : List Int) (w : World) (hk : KY.Ok k) (hv : Ints w v m) (hm : ∀ x ∈ m, In64 x) (hl : m.length ≤ 8000) :
    Calls Try.prog 8 #[KV k, .int .i64 self, v] w (RNewLOut ((Lk.new k self).more m) w) := by
  have HK : Hid (∀ w1, w1 = w.alloc (.cells (KC k) 23) → w.Extends w1 ∧ w1.rangeAt w.heap.size 0 (KC k).toList) := fun w1 e => by
    subst e
    refine ⟨ext_alloc _ _, fun j u hu => ?_⟩
    rw [cell_of_row _ _ _ _ _ _ (heap_alloc_new _ _), Nat.zero_add]
    simpa using hu
  have HKN : Hid (∀ w4 t, w.Extends w4 → RLAt w4 t (fun i => w.heap.size ≤ i ∧ i < w4.heap.size) (Lk.new k self) → Calls Try.prog 22 #[.pointer (some ⟨t, 0, none⟩), v] w4 (RNewLOut ((Lk.new k self).more m) w |> fun P => fun e w' => e = .returned (.tuple #[]) ∧ P (.returned (.pointer (some ⟨t, 0, none⟩))) w')) := fun w4 t hx hL =>
    (rmore_any t _ _ v m w4 hL (hv.ext hx) hm (by show 0 + m.length ≤ 8000; omega) (by
      rcases hv.old with h | h
      · exact .inl h
      · exact .inr fun g hg => ⟨Nat.lt_of_lt_of_le (h g hg) hx.size, fun e => by have := h g hg; omega⟩)).mono fun e w' ⟨he, hf, hl⟩ => ⟨he, t, rfl, Gr.ext_of ((Gr.below_of hx).trans (hf.below hx.size fun i hi => hi.1)), hl.mono fun i hi => by
        have := hx.size
        rcases hi with hi | hi
        · exact ⟨hi.1, Nat.lt_of_lt_of_le hi.2 hf.size⟩
        · exact ⟨by omega, hi.2⟩⟩
  have HST : Hid (∀ w1 w2 : World, w.Extends w1 → w2 = w1.alloc (.cells (RC k self (.slice none 0 0) (.slice none 0 0) (.slice none 0 0)) 53) → w.Extends w2 ∧ RLAt w2 w1.heap.size (fun i => w.heap.size ≤ i ∧ i < w2.heap.size) (Lk.new k self)) := fun w1 w2 => RLAt.start hk
  have hkl := hk.1
  clear hv hm hl hk
  generalize RNewLOut ((Lk.new k self).more m) w = POST at *
  go_enter Try.func8, Try.ntmps8
  go_upto_region 1 with fail
  generalize hw1 : World.alloc w _ = w1
  obtain ⟨hx1, hk1⟩ := HK.out w1 hw1.symm
  have HX1 := Lib.hid hx1
  clear hx1 HK hw1
  have HKL := Lib.hid hkl
  obtain ⟨xk, hxk⟩ : ∃ x, KV k = x := ⟨_, rfl⟩
  have HXK := Lib.hid hxk
  rw [hxk]
  clear hxk hkl
  go_wp2_with (first | (refine wpList_load_key rfl (.tmp 3) rfl w.heap.size 0 k HKL.out xk HXK.out rfl hk1 ?_) | (refine wpList_build_rlk rfl (.tmp 8) (.tmp 9) rfl k self HKL.out (by exact HXK.out.symm) rfl ?_))
  generalize hw2 : World.alloc w1 _ = w2
  have HL2 := Lib.hid (HST.out w1 w2 HX1.out hw2.symm)
  generalize w1.heap.size = t at *
  clear hw2 HST
  refine (HKN.out w2 t HL2.out.1 HL2.out.2).mono ?_
  rintro e w5 ⟨rfl, hp⟩
  have HP := Lib.hid hp
  clear hp
  go_wp2
  exact HP.out
set_option maxHeartbeats 1000000 in
theorem rldone_any (t : Nat) (D : Nat → Prop) (s : Lk) (w : World) (h : RLAt w t D s) :
    Calls Try.prog 16 #[.pointer (some ⟨t, 0, none⟩)] w fun e w' => e = .returned (.bool s.done) ∧ w.Extends w' := by
  obtain ⟨kn, ak, op, hX, hin⟩ := h
  obtain ⟨ka, kc, rfl⟩ := hX.known.slice
  obtain ⟨aa, ac, rfl⟩ := hX.asked.slice
  obtain ⟨oa, oc, rfl⟩ := hX.opn.slice
  have HS : Hid (s.done = (decide (s.opn.length = 0) && decide (s.asked.length = s.known.length))) := rfl
  rw [HS.out]
  have HX : Hid (∀ w', w.Extends w' → w'.cell? ⟨t, 21, none⟩ = some (.slice ka s.known.length kc) ∧ w'.cell? ⟨t, 22, none⟩ = some (.slice aa s.asked.length ac) ∧ w'.cell? ⟨t, 23, none⟩ = some (.slice oa s.opn.length oc)) := fun w' hx => (hX.ext hx).cells.2
  clear hX hin HS
  generalize s.known.length = n1 at *
  generalize s.asked.length = n2 at *
  generalize s.opn.length = n3 at *
  by_cases h1 : n3 = 0
  · subst h1
    have h2 : (((0 : Nat) : Int) == 0) = true := rfl
    have HB : Hid (((n2 : Int) == (n1 : Int)) = decide (n2 = n1)) := by
      show _ = _
      rw [Bool.eq_iff_iff, beq_iff_eq, decide_eq_true_eq]; omega
    have HD : Hid ((decide (0 = 0) && decide (n2 = n1)) = ((n2 : Int) == (n1 : Int))) := by rw [HB.out]; rfl
    rw [HD.out]
    clear HD HB
    go_enter Try.func16, Try.ntmps16
    go_wp2_with fail
    refine Gr.region 19 [(false,0),(false,1),(false,2),(false,3),(false,4),(false,5),(false,6),(false,7),(false,8),(false,9),(false,10),(false,11),(false,12),(false,13),(false,14),(false,15),(false,16),(false,17),(false,18)] (by kernel_rfl) (by kernel_rfl) (fun d _ _ _ _ h => by cases d <;> exact h) ?_
    simp only [Gr.pick, List.getElem?_cons_zero, List.getElem?_cons_succ, List.drop_succ_cons, List.drop_zero]
    generalize hwd : w.drew = wd at *
    have HXD : Hid (w.Extends wd) := by rw [← hwd]; exact Gr.ext_drew (Gr.ext_refl _)
    clear hwd
    iterate 3
      refine Gr.walk_t ?_ (Or.inl ⟨by rfl, ?_⟩) ?_
      rotate_left
      · intro w' hw'
        clear hw'
        go_simp
        try with_reducible rfl
      simp only [Act.put, List.setIfInBounds_toArray, List.set_cons_zero, List.set_cons_succ]
    refine Gr.walk_t ?_ (Or.inl ⟨by rfl, ?_⟩) ?_
    rotate_left
    · intro w' hw'
      have hc := (HX.out w' (Gr.ext_trans HXD.out hw')).2.2
      clear hw'
      go_simp
      try with_reducible rfl
    simp only [Act.put, List.setIfInBounds_toArray, List.set_cons_zero, List.set_cons_succ]
    iterate 6
      refine Gr.walk_t ?_ (Or.inl ⟨by rfl, ?_⟩) ?_
      rotate_left
      · intro w' hw'
        clear hw'
        go_simp
        try with_reducible rfl
      simp only [Act.put, List.setIfInBounds_toArray, List.set_cons_zero, List.set_cons_succ]
    refine Gr.walk_t ?_ (Or.inl ⟨by rfl, ?_⟩) ?_
    rotate_left
    · intro w' hw'
      have hc := (HX.out w' (Gr.ext_trans HXD.out hw')).2.1
      clear hw'
      go_simp
      try with_reducible rfl
    simp only [Act.put, List.setIfInBounds_toArray, List.set_cons_zero, List.set_cons_succ]
    iterate 4
      refine Gr.walk_t ?_ (Or.inl ⟨by rfl, ?_⟩) ?_
      rotate_left
      · intro w' hw'
        clear hw'
        go_simp
        try with_reducible rfl
      simp only [Act.put, List.setIfInBounds_toArray, List.set_cons_zero, List.set_cons_succ]
    refine Gr.walk_t ?_ (Or.inl ⟨by rfl, ?_⟩) ?_
    rotate_left
    · intro w' hw'
      have hc := (HX.out w' (Gr.ext_trans HXD.out hw')).1
      clear hw'
      go_simp
      try with_reducible rfl
    simp only [Act.put, List.setIfInBounds_toArray, List.set_cons_zero, List.set_cons_succ]
    iterate 3
      refine Gr.walk_t ?_ (Or.inl ⟨by rfl, ?_⟩) ?_
      rotate_left
      · intro w' hw'
        clear hw'
        go_simp
        try with_reducible rfl
      simp only [Act.put, List.setIfInBounds_toArray, List.set_cons_zero, List.set_cons_succ]
    refine Gr.walk_nil ?_
    go_wp2
    go_ret
    exact ⟨rfl, HXD.out⟩
  · have h2 : (((n3 : Nat) : Int) == 0) = false := by simp; omega
    have HD : Hid ((decide (n3 = 0) && decide (n2 = n1)) = false) := by simp [Hid, h1]
    rw [HD.out]
    clear HD h1
    go_enter Try.func16, Try.ntmps16
    go_wp2_with fail
    refine Gr.region 19 [(false,0),(false,1),(false,2),(false,3),(false,4),(false,5),(false,6),(false,7),(false,8),(false,9),(false,10),(false,11),(false,12),(false,13),(false,14),(false,15),(false,16),(false,17),(false,18)] (by kernel_rfl) (by kernel_rfl) (fun d _ _ _ _ h => by cases d <;> exact h) ?_
    simp only [Gr.pick, List.getElem?_cons_zero, List.getElem?_cons_succ, List.drop_succ_cons, List.drop_zero]
    generalize hwd : w.drew = wd at *
    have HXD : Hid (w.Extends wd) := by rw [← hwd]; exact Gr.ext_drew (Gr.ext_refl _)
    clear hwd
    iterate 3
      refine Gr.walk_t ?_ (Or.inl ⟨by rfl, ?_⟩) ?_
      rotate_left
      · intro w' hw'
        clear hw'
        go_simp
        try with_reducible rfl
      simp only [Act.put, List.setIfInBounds_toArray, List.set_cons_zero, List.set_cons_succ]
    refine Gr.walk_t ?_ (Or.inl ⟨by rfl, ?_⟩) ?_
    rotate_left
    · intro w' hw'
      have hc := (HX.out w' (Gr.ext_trans HXD.out hw')).2.2
      clear hw'
      go_simp
      try with_reducible rfl
    simp only [Act.put, List.setIfInBounds_toArray, List.set_cons_zero, List.set_cons_succ]
    iterate 3
      refine Gr.walk_t ?_ (Or.inl ⟨by rfl, ?_⟩) ?_
      rotate_left
      · intro w' hw'
        clear hw'
        go_simp
        try with_reducible rfl
      simp only [Act.put, List.setIfInBounds_toArray, List.set_cons_zero, List.set_cons_succ]
    refine Gr.walk_t _ (Or.inr ⟨by rfl, rfl⟩) ?_
    simp only [Act.put, List.setIfInBounds_toArray, List.set_cons_zero, List.set_cons_succ]
    refine Gr.walk_t _ (Or.inr ⟨by rfl, rfl⟩) ?_
    simp only [Act.put, List.setIfInBounds_toArray, List.set_cons_zero, List.set_cons_succ]
    refine Gr.walk_t _ (Or.inr ⟨by rfl, rfl⟩) ?_
    simp only [Act.put, List.setIfInBounds_toArray, List.set_cons_zero, List.set_cons_succ]
    refine Gr.walk_t _ (Or.inr ⟨by rfl, rfl⟩) ?_
    simp only [Act.put, List.setIfInBounds_toArray, List.set_cons_zero, List.set_cons_succ]
    refine Gr.walk_t _ (Or.inr ⟨by rfl, rfl⟩) ?_
    simp only [Act.put, List.setIfInBounds_toArray, List.set_cons_zero, List.set_cons_succ]
    refine Gr.walk_t _ (Or.inr ⟨by rfl, rfl⟩) ?_
    simp only [Act.put, List.setIfInBounds_toArray, List.set_cons_zero, List.set_cons_succ]
    refine Gr.walk_t _ (Or.inr ⟨by rfl, rfl⟩) ?_
    simp only [Act.put, List.setIfInBounds_toArray, List.set_cons_zero, List.set_cons_succ]
    refine Gr.walk_t _ (Or.inr ⟨by rfl, rfl⟩) ?_
    simp only [Act.put, List.setIfInBounds_toArray, List.set_cons_zero, List.set_cons_succ]
    refine Gr.walk_t _ (Or.inr ⟨by rfl, rfl⟩) ?_
    simp only [Act.put, List.setIfInBounds_toArray, List.set_cons_zero, List.set_cons_succ]
    refine Gr.walk_t _ (Or.inr ⟨by rfl, rfl⟩) ?_
    simp only [Act.put, List.setIfInBounds_toArray, List.set_cons_zero, List.set_cons_succ]
    refine Gr.walk_t _ (Or.inr ⟨by rfl, rfl⟩) ?_
    simp only [Act.put, List.setIfInBounds_toArray, List.set_cons_zero, List.set_cons_succ]
    refine Gr.walk_t ?_ (Or.inl ⟨by rfl, ?_⟩) ?_
    rotate_left
    · intro w' hw'
      clear hw'
      go_simp
      try with_reducible rfl
    simp only [Act.put, List.setIfInBounds_toArray, List.set_cons_zero, List.set_cons_succ]
    refine Gr.walk_nil ?_
    go_wp2
    go_ret
    exact ⟨rfl, HXD.out⟩
theorem rlasked_any (t : Nat) (D : Nat → Prop) (s : Lk) (w : World) (h : RLAt w t D s) :
    Calls Try.prog 19 #[.pointer (some ⟨t, 0, none⟩)] w (IntsBack w s.asked) := by
  obtain ⟨kn, ak, op, hX, hin⟩ := h
  obtain ⟨c20, c21, c22, c23⟩ := hX.cells
  have HBL : Hid (([] : List Int).length + s.asked.length ≤ 10000) := by
    have := hX.inv.most; have := hX.len; show 0 + s.asked.length ≤ 10000; omega
  have HI := Lib.hid hX.asked.ints
  obtain ⟨aa, ac, rfl⟩ := hX.asked.slice
  have HS := Lib.hid HI.out.src
  have HEND : Hid (∀ v' w', OwnI w' w.heap.size v' s.asked → w.grownBy w' (Value.ownBlock (.slice none 0 0)) → IntsBack w s.asked (.returned v') w') := fun v' w' ho hg =>
    ⟨v', rfl, ext_own (Gr.ext_refl w) hg (fun k hk => by cases hk), ho.ints⟩
  have HN : Hid (s.asked.length = s.asked.length) := rfl
  generalize IntsBack w s.asked = POST at *
  generalize hl : s.asked = l at *
  clear hX hin c20 c21 c23 HI hl
  obtain ⟨n, hn⟩ : ∃ n, l.length = n := ⟨_, rfl⟩
  rw [hn] at c22 HS
  have HNN := Lib.hid hn
  clear hn HN
  go_enter Try.func19, Try.ntmps19
  go_wp2_with (at_builtin; refine wpList_app_ints3 rfl (.const (.slice none 0 0)) (.tmp 6) rfl w.heap.size (.slice none 0 0) [] rfl (OwnI.nil _ _) _ n l rfl HNN.out HS.out HBL.out (Nat.le_refl _) ?_)
  intro v' w' ho hg _
  have HP := Lib.hid (HEND.out v' w' ho hg)
  obtain ⟨xa, xcap, rfl⟩ := ho.slice
  generalize (([] : List Int) ++ l).length = el at *
  clear ho hg HEND HS HBL
  go_wp2
  exact HP.out
set_option maxHeartbeats 1000000 in
theorem rllost_any (t : Nat) (D : Nat → Prop) (s : Lk) (p : Int) (w : World) (h : RLAt w t D s) :
    Calls Try.prog 14 #[.pointer (some ⟨t, 0, none⟩), .int .i64 p] w (RKnowOut t D (s.over p) w) := by
  obtain ⟨kn, ak, op, hX, hin⟩ := h
  obtain ⟨c20, c21, c22, c23⟩ := hX.cells
  have HW := Lib.hid (without_any op s.opn p w hX.opn.ints (by have := hX.inv.few; have := hX.inv.most; have := hX.len; omega))
  have HX := Lib.hid hX
  have HIN := Lib.hid hin
  clear hX hin c20 c21 c22
  go_enter Try.func14, Try.ntmps14
  go_wp2_with fail
  refine HW.out.mono ?_
  rintro e w1 ⟨v', rfl, hx1, ho1⟩
  have hX1 := HX.out.ext hx1
  have hc1 := hX1.cells.2.2.2
  have hf1 := hX1.frozen 23
  obtain ⟨f3, l3⟩ := HX.out.over HIN.out hx1 ho1 rfl
  have HP : Hid (RKnowOut t D (s.over p) w (.returned (.tuple #[])) (w1.setCell ⟨t, 23, none⟩ v')) := ⟨rfl, f3, l3⟩
  obtain ⟨xa, xcap, rfl⟩ := ho1.slice
  generalize (outI p s.opn).length = el at *
  clear hX1 f3 l3 hx1 ho1 HX HIN HW c23
  go_wp2
  go_end0
  exact HP.out
set_option maxHeartbeats 1000000 in
theorem rlheard_any (t : Nat) (D : Nat → Prop) (s : Lk) (p : Int) (v : Value) (m : List Int) (w : World) (h : RLAt w t D s) (hv : Ints w v m) (hm : ∀ x ∈ m, In64 x) (hl : s.known.length + m.length ≤ 8000) (hd : m = [] ∨ ∀ g, v.ownBlock = some g → g < w.heap.size ∧ ¬ D g) :
    Calls Try.prog 12 #[.pointer (some ⟨t, 0, none⟩), .int .i64 p, v] w (RKnowOut t D (s.heard p m) w) := by
  have HK : Hid (∀ w1, Fr D w w1 → RLAt w1 t (Nx D w w1) (s.over p) → Calls Try.prog 22 #[.pointer (some ⟨t, 0, none⟩), v] w1 (RKnowOut t D ((s.over p).more m) w)) := fun w1 hf hL => by
    have hv1 : Ints w1 v m := by
      obtain ⟨a, cap, rfl, _⟩ := hv.slice
      exact hv.away hf (hd.imp id fun h g hg => (h g hg).2)
    refine (rmore_any t _ _ v m w1 hL hv1 hm hl (hd.imp id fun h g hg => ?_)).mono fun e w2 ⟨he, hf2, hl2⟩ => ⟨he, hf.next hf2, hl2.mono fun i hi => Nx.next hf.size hf2.size hi⟩
    obtain ⟨h1, h2⟩ := h g hg
    refine ⟨Nat.lt_of_lt_of_le h1 hf.size, fun e => ?_⟩
    rcases e with e | e
    · exact h2 e
    · omega
  have HY : Hid (p ∈ s.opn → s.heard p m = (s.over p).more m) := fun h => by unfold Lk.heard; rw [if_pos h]
  have HNO : Hid (p ∉ s.opn → s.heard p m = s) := fun h => by unfold Lk.heard; rw [if_neg h]
  have HSAME : Hid (p ∉ s.opn → RKnowOut t D s w (.returned (.tuple #[])) w) := fun _ => ⟨rfl, Fr.refl _ _, h.mono fun i hi => .inl hi⟩
  obtain ⟨kn, ak, op, hX, hin⟩ := h
  obtain ⟨c20, c21, c22, c23⟩ := hX.cells
  have HW := Lib.hid (without_any op s.opn p w hX.opn.ints (by have := hX.inv.few; have := hX.inv.most; have := hX.len; omega))
  have HH := Lib.hid (has_any op s.opn p w hX.opn.ints)
  have HX := Lib.hid hX
  have HIN := Lib.hid hin
  generalize s.heard p m = s2 at *
  clear hX hin c20 c21 c22 hv hm hl hd
  go_enter Try.func12, Try.ntmps12
  go_wp2_with fail
  refine HH.out.mono ?_
  rintro e w1 ⟨rfl, rfl⟩
  clear HH
  by_cases h5 : p ∈ s.opn
  · rw [decide_eq_true h5]
    have HE := Lib.hid (HY.out h5)
    clear h5 HY HNO HSAME
    go_wp2_with fail
    refine HW.out.mono ?_
    rintro e w2 ⟨v', rfl, hx1, ho1⟩
    have hX1 := HX.out.ext hx1
    have hc1 := hX1.cells.2.2.2
    have hf1 := hX1.frozen 23
    obtain ⟨f3, l3⟩ := HX.out.over HIN.out hx1 ho1 rfl
    have HM := Lib.hid (HK.out _ f3 l3)
    obtain ⟨xa, xcap, rfl⟩ := ho1.slice
    generalize (outI p s.opn).length = el at *
    clear hX1 f3 l3 hx1 ho1 HX HIN HW c23 HK
    go_wp2_with fail
    refine HM.out.mono ?_
    rintro e w3 hp
    have HP := Lib.hid hp
    rw [← HE.out] at HP
    obtain ⟨rfl, _⟩ := hp
    go_wp2
    go_end0
    exact HP.out
  · rw [decide_eq_false h5]
    have HP := Lib.hid (HSAME.out h5)
    rw [← HNO.out h5] at HP
    clear h5 HY HNO HSAME
    go_wp2
    go_end0
    exact HP.out
end Go.Proofs.Ytgjnkfbckbkcnaa
