/- In one text: DecSource, DecTwice, DecTwiceMain. -/
import Derived.Test.YtpeegcncpcpbfaaDoorM1
import Derived.Test.YtpeegcncpcpbfaaDoorM12
import Derived.Test.YtpeegcncpcpbfaaDoorM18
import Derived.Test.YtpeegcncpcpbfaaDoorM19
/- DecodeSource. -/
namespace Go.Proofs.YtpeegcncpcpbfaaDoor
set_option maxRecDepth 20000
open Go.RowKit Go.Deep
set_option linter.unusedVariables false
theorem dsrc_far (k less : Int) (w : World) (hT : Tab w) (h : k < 1 ∨ 14 < k ∨ less < 0 ∨ k ≤ less) :
    Calls Tryd.prog 5 #[.int .i64 k, .int .i64 less] w fun e w' => e = .returned (.bool true) ∧ w.Extends w' := by
  have HA := Lib.hid (alive11_any w hT)
  clear hT
  have h' : k < 1 ∨ (1 ≤ k ∧ 14 < k) ∨ (1 ≤ k ∧ k ≤ 14 ∧ less < 0) ∨ (1 ≤ k ∧ k ≤ 14 ∧ 0 ≤ less ∧ k ≤ less) := by omega
  clear h
  rcases h' with h | ⟨h1, h⟩ | ⟨h1, h2, h⟩ | ⟨h1, h2, h3, h⟩
  all_goals
    go_enter Tryd.func5, Tryd.ntmps5
    go_wp2_with fail
    refine HA.out.mono ?_
    rintro e w1 ⟨rfl, hx1⟩
    go_wp2
    go_ret
    exact ⟨rfl, hx1⟩
theorem dsrc_none (k less : Nat) (w : World) (hT : Tab w) (h1 : 1 ≤ k) (h2 : k ≤ 14) (h3 : less < k) (r : Nat) (hs : SM.SeedIs k r 5) :
    Calls Tryd.prog 5 #[.int .i64 k, .int .i64 less] w fun e w' => e = .returned (.bool true) ∧ w.Extends w' := by
  have HA := Lib.hid (alive11_any w hT)
  have HF : Hid (∀ w, Calls Tryd.prog 19 #[.int .i64 k] w fun e w' => e = .returned (.tuple #[.int .i64 r, .int .i64 (5 : Nat)]) ∧ w.Extends w') := fun w =>
    (refSeed_some k w h1 (by omega)).mono fun e w' ⟨r', er', he, hr', hx⟩ => by
      obtain ⟨rfl, rfl⟩ := hs.uniq hr'
      exact ⟨he, hx⟩
  clear hT hs
  go_enter Tryd.func5, Tryd.ntmps5
  go_wp2_with fail
  refine HA.out.mono ?_
  rintro e w1 ⟨rfl, hx1⟩
  have HX1 := Lib.hid hx1
  clear hx1 HA
  go_wp2_with fail
  refine (HF.out w1).mono ?_
  rintro e w2 ⟨rfl, hx2⟩
  have HX2 := Lib.hid (Gr.ext_trans HX1.out hx2)
  clear hx2
  go_wp2
  go_ret
  exact ⟨rfl, HX2.out⟩
/-- The numbers below m but one. -/
def DC.but (less m : Nat) : List Int := (SM.iota m).filter fun x => decide (x ≠ (less : Int))
theorem DC.but_zero (less : Nat) : DC.but less 0 = [] := rfl
theorem DC.but_same (less : Nat) : DC.but less (less + 1) = DC.but less less := by
  unfold DC.but; rw [← SM.iota_snoc, List.filter_append]; simp
theorem DC.but_other (less m : Nat) (h : m ≠ less) : DC.but less (m + 1) = DC.but less m ++ [(m : Int)] := by
  unfold DC.but; rw [← SM.iota_snoc, List.filter_append]
  have : ((m : Int) = (less : Int)) = False := by simp; omega
  simp [this]
theorem DC.but_length (less m : Nat) : (DC.but less m).length = if less < m then m - 1 else m := by
  induction m with
  | zero => rfl
  | succ m ih =>
    by_cases h : m = less
    · subst h
      rw [DC.but_same, ih]
      rw [if_neg (by omega), if_pos (by omega)]; omega
    · rw [DC.but_other less m h, List.length_append, ih]
      show _ + 1 = _
      by_cases h2 : less < m
      · rw [if_pos h2, if_pos (by omega)]; omega
      · rw [if_neg h2, if_neg (by omega)]
theorem DC.but_mem (less m : Nat) (e : Int) (h : e ∈ SM.iota m) : e = less ∨ e ∈ DC.but less m := by
  by_cases h' : e = less
  · exact .inl h'
  · exact .inr (List.mem_filter.2 ⟨h, by simpa using h'⟩)
theorem iota_mem_ok {k : Nat} (hk : k ≤ 1000) {e : Int} (h : e ∈ SM.iota k) : EsiOk e := by
  obtain ⟨i, hi, rfl⟩ := List.mem_iff_getElem.1 h
  have := SM.iota_ok k hk i hi
  rwa [List.getD_eq_getElem?_getD, List.getElem?_eq_getElem hi] at this
theorem all_ok_of {L : List Int} (h : ∀ e ∈ L, EsiOk e) : AllOk L := fun i hi => h _ (by rw [List.getD_eq_getElem?_getD, List.getElem?_eq_getElem hi]; exact List.getElem_mem hi)
theorem DC.but_ok (less m : Nat) (hm : m ≤ 1000) : ∀ e ∈ DC.but less m, EsiOk e := fun e he => iota_mem_ok hm (List.mem_filter.1 he).1
theorem DC.more_ok (less m : Nat) (hm : m ≤ 1000) (hl : less ≤ 1000) : ∀ e ∈ (DC.but less m ++ [(less : Int)]) ++ [7777], EsiOk e := fun e he => by
  rcases List.mem_append.1 he with he | he
  · rcases List.mem_append.1 he with he | he
    · exact DC.but_ok less m hm e he
    · rw [List.mem_singleton.1 he]; exact ⟨by omega, by omega⟩
  · rw [List.mem_singleton.1 he]; exact ⟨by omega, by omega⟩
theorem DC.more_full {k j less : Nat} (hf : DC.Full k j (SM.iota k)) : DC.Full k j ((DC.but less k ++ [(less : Int)]) ++ [7777]) :=
  hf.mono fun e he => by
    rcases DC.but_mem less k e he with h | h
    · subst h; simp
    · simp [h]
/-- Two slices in no common block. -/
def Ap (u v : Value) : Prop := ∀ g, u.ownBlock = some g → v.ownBlock ≠ some g
theorem Ap.symm {u v : Value} (h : Ap u v) : Ap v u := fun g h1 h2 => h g h2 h1
theorem Ap.or {u v : Value} (h : Ap u v) : u.ownBlock = none ∨ u.ownBlock ≠ v.ownBlock := by
  cases hu : u.ownBlock with
  | none => exact .inl rfl
  | some g => exact .inr fun e => h g hu e.symm
theorem Ap.next {w : World} {B n s S : Nat} {T : TypeId} {u v v' : Value} {xs : List Value} (h : Ap u v) (hu : w.ownsRow B T s u n xs) (hS : w.heap.size ≤ S) (hn : v'.ownBlock = v.ownBlock ∨ ∃ g, v'.ownBlock = some g ∧ S ≤ g) : Ap u v' := fun g h1 h2 => by
  rcases hn with e | ⟨g', e, hg⟩
  · exact h g h1 (e ▸ h2)
  · rw [e] at h2
    cases h2
    have := (hu.lt _ h1).2
    omega
set_option maxHeartbeats 2000000 in
set_option maxRecDepth 100000 in
theorem dsrc_main (k less : Nat) (w : World) (hT : Tab w) (h1 : 1 ≤ k) (h2 : k ≤ 14) (h3 : less < k) (r : Nat) (hs : SM.SeedIs k r 0) :
    Calls Tryd.prog 5 #[.int .i64 k, .int .i64 less] w fun e w' => e = .returned (.bool true) ∧ w.Extends w' := by
  have hg : DC.Full k r (SM.iota k) := by
    rcases hs with ⟨_, _, h, _⟩ | ⟨h, _⟩
    · exact h
    · cases h
  have HA := Lib.hid (alive11_any w hT)
  have HF : Hid (∀ w, Calls Tryd.prog 19 #[.int .i64 k] w fun e w' => e = .returned (.tuple #[.int .i64 r, .int .i64 (0 : Nat)]) ∧ w.Extends w') := fun w =>
    (refSeed_some k w h1 (by omega)).mono fun e w' ⟨r', er', he, hr', hx⟩ => by
      obtain ⟨rfl, rfl⟩ := hs.uniq hr'
      exact ⟨he, hx⟩
  have HYES : Hid (∀ L v w, L.length ≤ 30 → (∀ e ∈ L, EsiOk e) → DC.Full k r L → Ints w v L → Tab w → Calls Tryd.prog 15 #[.int .i64 k, v] w fun e w' => e = .returned (.bool true) ∧ w.Extends w') := fun L v w hl ho hf hv hT =>
    (enough_yes k r v L w h1 (by omega) (by omega) hv hT hs (all_ok_of ho)).mono fun e w' ⟨⟨b, he, hb⟩, hx⟩ => by
      obtain rfl := hb.2 hf
      exact ⟨he, hx⟩
  have HNOT : Hid (∀ L v w, L.length ≤ 30 → (∀ e ∈ L, EsiOk e) → ¬ DC.Full k r L → Ints w v L → Tab w → Calls Tryd.prog 15 #[.int .i64 k, v] w fun e w' => e = .returned (.bool false) ∧ w.Extends w') := fun L v w hl ho hf hv hT =>
    (enough_yes k r v L w h1 (by omega) (by omega) hv hT hs (all_ok_of ho)).mono fun e w' ⟨⟨b, he, hb⟩, hx⟩ => by
      cases b with
      | false => exact ⟨he, hx⟩
      | true => exact absurd (hb.1 rfl) hf
  have hbl : (DC.but less k).length = k - 1 := by rw [DC.but_length, if_pos h3]
  have H1 : Hid (∀ v w, Ints w v (SM.iota k) → Tab w → Calls Tryd.prog 15 #[.int .i64 k, v] w fun e w' => e = .returned (.bool true) ∧ w.Extends w') := fun v w hv hT =>
    HYES.out _ v w (by rw [SM.iota_length]; omega) (fun e he => iota_mem_ok (by omega) he) hg hv hT
  have H2 : Hid (∀ v w, Ints w v (DC.but less k) → Tab w → Calls Tryd.prog 15 #[.int .i64 k, v] w fun e w' => e = .returned (.bool false) ∧ w.Extends w') := fun v w hv hT =>
    HNOT.out _ v w (by omega) (DC.but_ok less k (by omega)) (DC.full_few (by omega)) hv hT
  have H3 : Hid (∀ v w, Ints w v ((DC.but less k ++ [(less : Int)]) ++ [7777]) → Tab w → Calls Tryd.prog 15 #[.int .i64 k, v] w fun e w' => e = .returned (.bool true) ∧ w.Extends w') := fun v w hv hT =>
    HYES.out _ v w (by rw [List.length_append, List.length_append, hbl]; simp; omega) (DC.more_ok less k (by omega) (by omega)) (DC.more_full hg) hv hT
  have HSM := Lib.hid (DC.but_same less)
  have HOT := Lib.hid (DC.but_other less)
  have HBL := Lib.hid hbl
  have HT := Lib.hid hT
  have HLE : Hid (∀ m, (DC.but less m).length ≤ m) := fun m => by rw [DC.but_length]; split <;> omega
  clear hT hs hg HYES HNOT hbl
  obtain ⟨i0, hi, hz0, hz1, hz2⟩ := info_parts intinfo
  have HI := Lib.hid hi; clear hi
  have HZ0 := Lib.hid hz0; clear hz0
  have HZ1 := Lib.hid hz1; clear hz1
  have HZ2 := Lib.hid hz2; clear hz2
  go_enter Tryd.func5, Tryd.ntmps5
  go_wp2_with fail
  refine HA.out.mono ?_
  rintro e w1 ⟨rfl, hx1⟩
  have HX1 := Lib.hid hx1
  clear hx1 HA
  go_wp2_with fail
  refine (HF.out w1).mono ?_
  rintro e w2 ⟨rfl, hx2⟩
  have HX2 := Lib.hid (Gr.ext_trans HX1.out hx2)
  clear hx2 HX1 HF
  go_wp2_with fail
  go_loopw [8, 9, 10] (fun o f i wr => ∃ q : Nat, q ≤ k ∧ i = .int .i64 q ∧ Hid (w2.Extends wr) ∧ Hid (wr.ownsRow w2.heap.size 3 1 o q (i64vs (SM.iota q))) ∧ Hid (wr.ownsRow w2.heap.size 3 1 f (DC.but less q).length (i64vs (DC.but less q))) ∧ Hid (Ap o f)) (fun _ _ i _ => (k - intOf i).toNat)
  case atStart => exact ⟨0, by omega, rfl, Lib.hid (Gr.ext_refl _), Lib.hid (World.ownsRow_nil _ _ _ _), Lib.hid (World.ownsRow_nil _ _ _ _), Lib.hid (fun g hg => by cases hg)⟩
  case round =>
    obtain ⟨q, hq, rfl, HX, HO, HFW, HAP⟩ := hrel
    by_cases h5 : q < k
    · have hle := HLE.out q
      have HSN : Hid (i64vs (SM.iota q) ++ [.int .i64 (q : Nat)] = i64vs (SM.iota (q + 1))) := by show _ = _; rw [← SM.iota_snoc, i64vs_snoc]
      have HFN : Hid (q ≠ less → i64vs (DC.but less q) ++ [.int .i64 (q : Nat)] = i64vs (DC.but less (q + 1)) ∧ (DC.but less (q + 1)).length = (DC.but less q).length + 1) := fun hne => by
        rw [HOT.out q hne, i64vs_snoc, List.length_append]; exact ⟨rfl, rfl⟩
      have HFS : Hid (q = less → DC.but less (q + 1) = DC.but less q) := fun e => by rw [e]; exact HSM.out
      have HOB : Hid (∀ g, u8.ownBlock = some g → w2.heap.size ≤ g) := fun g hg => (HO.out.lt g hg).1
      have HOF : Hid (∀ g, u9.ownBlock = some g → w2.heap.size ≤ g) := fun g hg => (HFW.out.lt g hg).1
      have hbs := HX.out.size
      generalize hB'' : DC.but less (q + 1) = B' at *
      have HB2 := Lib.hid hB''
      clear hB''
      generalize DC.but less q = B at *
      generalize hI'' : i64vs (SM.iota (q + 1)) = I' at *
      have HI2 := Lib.hid hI''
      clear hI''
      generalize i64vs (SM.iota q) = I at *
      have HQL : Hid ((q : Int) = (less : Int) ↔ q = less) := by show _ ↔ _; omega
      go_wp2_with (at_builtin; refine wpList_append_own_src2 _ rfl _ _ 22 22 rfl w2.heap.size 3 i0 (.int .i64 0) 1 8 Tryd.underlying22 HI.out HZ0.out HZ1.out HZ2.out rfl _ _ _ rfl (HO.out.alloc _) _ 1 [.int .i64 q] rfl (src_one Tryd.underlying22 _ _ rfl rfl) (by unfold maxLen; omega) (by omega) (by simp; omega) ?_)
      intro v' w3 ho3 hg3 hn3
      have HX3 : Hid (w2.Extends w3) := Gr.ext_of (((Gr.below_of HX.out).alloc hbs _).grown hg3 (by simp; omega) HOB.out)
      have HFW3 := Lib.hid ((HFW.out.alloc _).kept hg3 HAP.out.symm.or)
      have HAP3 : Hid (Ap v' u9) := (Ap.next HAP.out.symm HFW.out (by simp) hn3).symm
      rw [HSN.out] at ho3
      have HO3 := Lib.hid ho3
      have hbs3 := HX3.out.size
      clear ho3 hg3 hn3 HX HO HFW HAP HOB
      by_cases h6 : q = less
      · have hB := HFS.out h6
        have hne : ((q : Int) != (less : Int)) = false := by
          have := HQL.out.2 h6
          simpa using this
        clear HQL HFS HFN h6
        rw [← hB] at HFW3
        go_wp2
        go_roundw
        case rel => exact ⟨q + 1, by omega, by go_num, HX3, by rw [HI2.out]; exact HO3, by rw [HB2.out]; exact HFW3, HAP3⟩
        case measure => simp [intOf]; omega
      · obtain ⟨hB, hBl⟩ := HFN.out h6
        have hne : ((q : Int) != (less : Int)) = true := by
          have := fun e => h6 (HQL.out.1 e)
          simpa using this
        have HB := Lib.hid hB
        have HBl := Lib.hid hBl
        clear HQL HFS HFN h6 hB hBl
        go_wp2_with (at_builtin; refine wpList_append_own_src2 _ rfl _ _ 22 22 rfl w2.heap.size 3 i0 (.int .i64 0) 1 8 Tryd.underlying22 HI.out HZ0.out HZ1.out HZ2.out rfl _ _ _ rfl (HFW3.out.alloc _) _ 1 [.int .i64 q] rfl (src_one Tryd.underlying22 _ _ rfl rfl) (by unfold maxLen; omega) (by omega) (by simp; omega) ?_)
        intro v'' w4 ho4 hg4 hn4
        have HX4 : Hid (w2.Extends w4) := Gr.ext_of (((Gr.below_of HX3.out).alloc hbs3 _).grown hg4 (by simp; omega) HOF.out)
        have HO4 := Lib.hid ((HO3.out.alloc _).kept hg4 HAP3.out.or)
        have HAP4 := Lib.hid (Ap.next HAP3.out HO3.out (by simp) hn4)
        rw [HB.out, ← HBl.out] at ho4
        have HF4 := Lib.hid ho4
        clear ho4 hg4 hn4 HX3 HO3 HFW3 HAP3 HOF
        go_wp2
        go_roundw
        case rel => exact ⟨q + 1, by omega, by go_num, HX4, by rw [HI2.out]; exact HO4, by rw [HB2.out]; exact HF4, HAP4⟩
        case measure => simp [intOf]; omega
    · obtain rfl : q = k := by omega
      have HVA := Lib.hid (owns_ints HO.out)
      obtain ⟨fa, fc, rfl⟩ := owns_slice HFW.out
      have HX3 := Lib.hid (Gr.ext_trans HX2.out HX.out)
      have HVF := Lib.hid (owns_ints HFW.out)
      have hbl : (DC.but less q).length ≤ 14 := by have := HBL.out; omega
      have HI2 : Hid (i64vs (DC.but less q) ++ [.int .i64 (less : Nat), .int .i64 7777] = i64vs ((DC.but less q ++ [(less : Int)]) ++ [7777])) := by show _ = _; rw [i64vs_snoc, i64vs_snoc, List.append_assoc]; rfl
      have HX2' := HX2
      clear HSM HOT HBL HLE HO HAP HX2
      generalize (DC.but less q ++ [(less : Int)]) ++ [7777] = M at *
      generalize hbn : (DC.but less q).length = bn at *
      clear hbn
      generalize DC.but less q = B at *
      generalize SM.iota q = I at *
      obtain ⟨oa, oc, rfl, _⟩ := HVA.out.slice
      go_wp2_with fail
      refine (H1.out _ wr HVA.out (HT.out.ext HX3.out)).mono ?_
      rintro e w5 ⟨rfl, hx5⟩
      have HX5 := Lib.hid (Gr.ext_trans HX3.out hx5)
      have HY5 := Lib.hid (Gr.ext_trans HX.out hx5)
      have HVF5 := Lib.hid (HVF.out.ext hx5)
      have HFW5 := Lib.hid (owns_ext HFW.out hx5)
      clear hx5 HX3 HX HVA HVF HFW H1
      go_wp2_with fail
      refine (H2.out _ w5 HVF5.out (HT.out.ext HX5.out)).mono ?_
      rintro e w6 ⟨rfl, hx6⟩
      have HX6 := Lib.hid (Gr.ext_trans HX5.out hx6)
      have HY6 := Lib.hid (Gr.ext_trans HY5.out hx6)
      have HFW6 := Lib.hid (owns_ext HFW5.out hx6)
      have hbs6 := HY6.out.size
      have HOB : Hid (∀ g, (Value.slice fa bn fc).ownBlock = some g → w2.heap.size ≤ g) := fun g hg => (HFW6.out.lt g hg).1
      clear hx6 HX5 HY5 HVF5 HFW5 H2
      go_wp2_with (at_builtin; refine wpList_append_own_srcg (by rfl) _ _ 22 22 rfl w2.heap.size 3 i0 (.int .i64 0) 1 8 Tryd.underlying22 HI.out HZ0.out HZ1.out HZ2.out rfl _ _ _ rfl (HFW6.out.alloc _) _ 1 [.int .i64 less] rfl (src_one Tryd.underlying22 _ _ rfl rfl) (by unfold maxLen; omega) (by omega) (by simp; omega) ?_)
      intro v7 w7 ho7 hg7 _
      have HY7 : Hid (w2.Extends w7) := Gr.ext_of (((Gr.below_of HY6.out).alloc hbs6 _).grown hg7 (by simp; omega) HOB.out)
      have HX7 : Hid (w.Extends w7) := Gr.ext_trans HX2'.out HY7.out
      have HO7 := Lib.hid ho7
      have HOB7 : Hid (∀ g, v7.ownBlock = some g → w2.heap.size ≤ g) := fun g hg => (HO7.out.lt g hg).1
      have hbs7 := HY7.out.size
      clear ho7 hg7 HY6 HX6 HFW6 HOB
      go_wp2_with (at_builtin; refine wpList_append_own_srcg (by rfl) _ _ 22 22 rfl w2.heap.size 3 i0 (.int .i64 0) 1 8 Tryd.underlying22 HI.out HZ0.out HZ1.out HZ2.out rfl _ _ _ rfl (HO7.out.alloc _) _ 1 [.int .i64 7777] rfl (src_one Tryd.underlying22 _ _ rfl rfl) (by unfold maxLen; omega) (by omega) (by simp; omega) ?_)
      intro v8 w8 ho8 hg8 _
      have HY8 : Hid (w2.Extends w8) := Gr.ext_of (((Gr.below_of HY7.out).alloc hbs7 _).grown hg8 (by simp; omega) HOB7.out)
      have HX8 : Hid (w.Extends w8) := Gr.ext_trans HX2'.out HY8.out
      rw [HI2.out] at ho8
      have HV8 := Lib.hid (owns_ints ho8)
      clear ho8 hg8 HY7 HX7 HO7 HOB7 HY8
      go_wp2_with fail
      refine (H3.out _ w8 HV8.out (HT.out.ext HX8.out)).mono ?_
      rintro e w9 ⟨rfl, hx9⟩
      have HX9 := Lib.hid (Gr.ext_trans HX8.out hx9)
      clear hx9
      go_wp2
      go_ret
      exact ⟨rfl, HX9.out⟩
theorem DecodeSource_walk (k less : Int) (w : World) (_ : -9223372036854775808 ≤ k ∧ k ≤ 9223372036854775807) (_ : -9223372036854775808 ≤ less ∧ less ≤ 9223372036854775807) (hT : Tab w) :
    Calls Tryd.prog 5 #[.int .i64 k, .int .i64 less] w fun e w' => e = .returned (.bool true) ∧ Below w.heap.size w w' := by
  suffices H : Calls Tryd.prog 5 #[.int .i64 k, .int .i64 less] w fun e w' => e = .returned (.bool true) ∧ w.Extends w' from H.mono fun e w' h => ⟨h.1, Gr.below_of h.2⟩
  by_cases h : k < 1 ∨ 14 < k ∨ less < 0 ∨ k ≤ less
  · exact dsrc_far k less w hT h
  · obtain ⟨kn, rfl⟩ := Int.eq_ofNat_of_zero_le (show 0 ≤ k by omega)
    obtain ⟨ln, rfl⟩ := Int.eq_ofNat_of_zero_le (show 0 ≤ less by omega)
    obtain ⟨r, er, hr⟩ := seed_exists kn
    have hr0 := hr
    rcases hr with ⟨rfl, _⟩ | ⟨rfl, _⟩
    · exact dsrc_main kn ln w hT (by omega) (by omega) (by omega) r hr0
    · exact dsrc_none kn ln w hT (by omega) (by omega) (by omega) r hr0
end Go.Proofs.YtpeegcncpcpbfaaDoor
/- DecodeTwice. -/
namespace Go.Proofs.YtpeegcncpcpbfaaDoor
set_option maxRecDepth 20000
open Go.RowKit Go.Deep
set_option linter.unusedVariables false
theorem iota_nodup (k : Nat) : (SM.iota k).Nodup := by
  unfold SM.iota nats
  show List.Pairwise _ _
  rw [List.pairwise_map]
  exact List.Pairwise.imp (fun h e => h (Int.ofNat.inj e)) (List.nodup_range (n := k))
theorem iota_mem (k a : Nat) (h : a < k) : (a : Int) ∈ SM.iota k := by
  unfold SM.iota nats
  exact List.mem_map.2 ⟨a, List.mem_range.2 h, rfl⟩
theorem pairs_snoc (es : List Int) (ds : List (List Nat)) (e : Int) (d : List Nat) (h : es.length = ds.length) : DC.pairs (es ++ [e]) (ds ++ [d]) = DC.pairs es ds ++ [(e, d)] := by
  unfold DC.pairs
  rw [List.length_append, List.length_singleton, ← DC.pairsTo_succ]
  congr 1
  · unfold DC.pairsTo
    refine List.map_congr_left fun i hi => ?_
    have hi' := List.mem_range.1 hi
    rw [List.getD_eq_getElem?_getD, List.getElem?_append_left hi', List.getD_eq_getElem?_getD, List.getElem?_append_left (by omega), List.getD_eq_getElem?_getD, List.getD_eq_getElem?_getD]
  · rw [List.getD_eq_getElem?_getD, List.getElem?_append_right (Nat.le_refl _), List.getD_eq_getElem?_getD, List.getElem?_append_right (by omega), h]
    simp
/-- Of two symbols of one number the first counts. -/
theorem twice_told {k j size a : Nat} {src c : List (List Nat)} {other : List Nat} (hseed : SM.SeedIs k j 0) (hc : BM.PartsIs k j size src c) (hk : src.length = k) (hr : ∀ i, i < k → (src.getD i []).length = size) (ho : other.length = size) (ha : a < k) :
    DC.Told k size (DC.pairs (SM.iota k ++ [(a : Int)]) (src ++ [other])) src 0 := by
  have hl : (SM.iota k).length = src.length := by rw [SM.iota_length, hk]
  have hf : DC.first (DC.pairs (SM.iota k ++ [(a : Int)]) (src ++ [other])) = DC.pairs (SM.iota k) src := by
    rw [pairs_snoc _ _ _ _ hl]
    exact DC.first_twice _ _ (by rw [DC.esis_pairs]; exact iota_nodup k) (by rw [DC.esis_pairs]; exact iota_mem k a ha)
  refine .inr ⟨?_, .inr ⟨j, some c, hseed, ?_, (DC.out_src hc hk hr).symm, rfl⟩⟩
  · rw [pairs_snoc _ _ _ _ hl]
    intro p hp
    rcases List.mem_append.1 hp with h | h
    · exact DC.pairs_mem (P := fun p => (p.2.length : Int) = size) (fun i hi => by rw [SM.iota_length] at hi; show ((src.getD i []).length : Int) = size; rw [hr i hi]) p h
    · rw [List.mem_singleton.1 h]; show (other.length : Int) = size; rw [ho]
  · rw [hf]
    exact DC.res_parts (DC.esis_pairs _ _) (DC.data_pairs _ _ hl) hc
theorem dtw_far (a : Option Addr) (n cap : Nat) (at_ : Int) (vo : Value) (w : World) (hT : Tab w) (hm : n ≤ maxLen) (h : n < 1 ∨ 8 < n) :
    Calls Tryd.prog 6 #[.slice a n cap, .int .i64 at_, vo] w fun e w' => e = .returned (.bool true) ∧ w.Extends w' := by
  have HA := Lib.hid (alive11_any w hT)
  clear hT
  unfold maxLen at hm
  rcases h with h | h
  all_goals
    go_enter Tryd.func6, Tryd.ntmps6
    go_wp2_with fail
    refine HA.out.mono ?_
    rintro e w1 ⟨rfl, hx1⟩
    go_wp2
    go_ret
    exact ⟨rfl, hx1⟩
theorem dtw_many (vs vo : Value) (at_ : Int) (src : List (List Nat)) (w : World) (hT : Tab w) (hs : Rws w vs src) (hml : ∀ k, (src.getD k []).length ≤ 140737488351232) (h1 : 1 ≤ src.length) (h2 : src.length ≤ 8) (hf : few src = false) :
    Calls Tryd.prog 6 #[vs, .int .i64 at_, vo] w fun e w' => e = .returned (.bool true) ∧ w.Extends w' := by
  have HA := Lib.hid (alive11_any w hT)
  have HF : Hid (∀ w, Rws w vs src → Calls Tryd.prog 8 #[vs] w fun e w' => e = .returned (.bool false) ∧ w.Extends w') := fun w hv => by
    have := few_any vs src w hv hml
    rw [hf] at this
    exact this.mono fun _ _ h => ⟨h.1, Gr.ext_of h.2⟩
  have HS := Lib.hid hs
  obtain ⟨a, cap, rfl, _⟩ := hs.slice
  clear hT hs hf hml
  generalize src.length = n at *
  go_enter Tryd.func6, Tryd.ntmps6
  go_wp2_with fail
  refine HA.out.mono ?_
  rintro e w1 ⟨rfl, hx1⟩
  have HX1 := Lib.hid hx1
  clear hx1 HA
  go_wp2_with fail
  refine (HF.out w1 (HS.out.ext HX1.out)).mono ?_
  rintro e w2 ⟨rfl, hx2⟩
  have HX2 := Lib.hid (Gr.ext_trans HX1.out hx2)
  clear hx2
  go_wp2
  go_ret
  exact ⟨rfl, HX2.out⟩
set_option maxHeartbeats 2000000 in
theorem dtw_size (vs : Value) (at_ : Int) (ao : Option Addr) (ol capo : Nat) (src : List (List Nat)) (w : World) (hT : Tab w) (hs : Rws w vs src) (hml : ∀ k, (src.getD k []).length ≤ 140737488351232) (h1 : 1 ≤ src.length) (h2 : src.length ≤ 8) (hf : few src = true) (hm : ol ≤ maxLen)
    (h : (src.getD 0 []).length < 1 ∨ 64 < (src.getD 0 []).length ∨ ol ≠ (src.getD 0 []).length ∨ at_ < 0) :
    Calls Tryd.prog 6 #[vs, .int .i64 at_, .slice ao ol capo] w fun e w' => e = .returned (.bool true) ∧ w.Extends w' := by
  have HA := Lib.hid (alive11_any w hT)
  have HF : Hid (∀ w, Rws w vs src → Calls Tryd.prog 8 #[vs] w fun e w' => e = .returned (.bool true) ∧ w.Extends w') := fun w hv => by
    have := few_any vs src w hv hml
    rw [hf] at this
    exact this.mono fun _ _ h => ⟨h.1, Gr.ext_of h.2⟩
  have hr0 := hml 0
  have HS := Lib.hid hs
  obtain ⟨a, cap, rfl, _⟩ := hs.slice
  obtain ⟨b1, o1, rfl, hb1, hc1⟩ := hs.at.2 (by omega)
  obtain ⟨ra, rc, hc, _⟩ := hc1 0 (by omega)
  rw [Nat.add_zero] at hc
  clear hT hs hf hml hc1
  generalize src.length = n at *
  unfold maxLen at hm
  have HC := Lib.hid hc
  clear hc
  generalize (src.getD 0 []).length = r at *
  have h' : r < 1 ∨ (1 ≤ r ∧ 64 < r) ∨ (1 ≤ r ∧ r ≤ 64 ∧ ol ≠ r) ∨ (1 ≤ r ∧ r ≤ 64 ∧ ol = r ∧ at_ < 0) := by omega
  clear h
  rcases h' with h | ⟨h, h'⟩ | ⟨h, h', h''⟩ | ⟨h, h', h'', h3⟩
  rotate_left 2
  · have hne : ((ol : Int) != (r : Int)) = true := by simp; omega
    clear h''
    go_enter Tryd.func6, Tryd.ntmps6
    go_wp2_with fail
    refine HA.out.mono ?_
    rintro e w1 ⟨rfl, hx1⟩
    have HX1 := Lib.hid hx1
    clear hx1 HA
    go_wp2_with fail
    refine (HF.out w1 (HS.out.ext HX1.out)).mono ?_
    rintro e w2 ⟨rfl, hx2⟩
    have HX2 := Lib.hid (Gr.ext_trans HX1.out hx2)
    have hc := HX2.out.cell_of HC.out
    clear hx2
    go_wp2
    go_ret
    exact ⟨rfl, HX2.out⟩
  · subst h''
    go_enter Tryd.func6, Tryd.ntmps6
    go_wp2_with fail
    refine HA.out.mono ?_
    rintro e w1 ⟨rfl, hx1⟩
    have HX1 := Lib.hid hx1
    clear hx1 HA
    go_wp2_with fail
    refine (HF.out w1 (HS.out.ext HX1.out)).mono ?_
    rintro e w2 ⟨rfl, hx2⟩
    have HX2 := Lib.hid (Gr.ext_trans HX1.out hx2)
    have hc := HX2.out.cell_of HC.out
    clear hx2
    go_wp2
    go_ret
    exact ⟨rfl, HX2.out⟩
  all_goals
    go_enter Tryd.func6, Tryd.ntmps6
    go_wp2_with fail
    refine HA.out.mono ?_
    rintro e w1 ⟨rfl, hx1⟩
    have HX1 := Lib.hid hx1
    clear hx1 HA
    go_wp2_with fail
    refine (HF.out w1 (HS.out.ext HX1.out)).mono ?_
    rintro e w2 ⟨rfl, hx2⟩
    have HX2 := Lib.hid (Gr.ext_trans HX1.out hx2)
    have hc := HX2.out.cell_of HC.out
    clear hx2
    go_wp2
    go_ret
    exact ⟨rfl, HX2.out⟩
end Go.Proofs.YtpeegcncpcpbfaaDoor
/- DecodeTwice within its limits. -/
namespace Go.Proofs.YtpeegcncpcpbfaaDoor
set_option maxRecDepth 20000
open Go.RowKit Go.Deep
set_option linter.unusedVariables false
set_option maxHeartbeats 2000000 in
set_option maxRecDepth 100000 in
theorem dtw_main (vs vo : Value) (at_ : Nat) (src : List (List Nat)) (other : List Nat) (n size : Nat) (w : World) (hT : Tab w) (hs : Rws w vs src) (ho : U8s w vo other) (hml : ∀ k, (src.getD k []).length ≤ 140737488351232) (hn : src.length = n) (h1 : 1 ≤ n) (h2 : n ≤ 8) (hf : few src = true)
    (hr0 : (src.getD 0 []).length = size) (h3 : 1 ≤ size) (h4 : size ≤ 64) (hol : other.length = size) (ha64 : (at_ : Int) ≤ 9223372036854775807) :
    Calls Tryd.prog 6 #[vs, .int .i64 at_, vo] w fun e w' => e = .returned (.bool true) ∧ w.Extends w' := by
  have hlt := hs.all_lt
  have HA := Lib.hid (alive11_any w hT)
  have HF : Hid (∀ w, Rws w vs src → Calls Tryd.prog 8 #[vs] w fun e w' => e = .returned (.bool true) ∧ w.Extends w') := fun w hv => by
    have := few_any vs src w hv hml
    rw [hf] at this
    exact this.mono fun _ _ h => ⟨h.1, Gr.ext_of h.2⟩
  obtain ⟨r, er, hr⟩ := seed_exists n
  have HSE : Hid (∀ w, Calls Tryd.prog 19 #[.int .i64 n] w fun e w' => e = .returned (.tuple #[.int .i64 r, .int .i64 er]) ∧ w.Extends w') := fun w =>
    (refSeed_some n w h1 (by omega)).mono fun e w' ⟨r', er', he, hr', hx⟩ => by
      obtain ⟨rfl, rfl⟩ := hr.uniq hr'
      exact ⟨he, hx⟩
  have ham : at_ % n < n := Nat.mod_lt _ (by omega)
  have HTOLD : Hid ((∀ i, i < n → (src.getD i []).length = size) → er = 5 ∨ (er = 0 ∧ DC.Told n size (DC.pairs (SM.iota n ++ [((at_ % n : Nat) : Int)]) (src ++ [other])) src 0)) := fun hall => by
    have hr1 := hr
    rcases hr with ⟨rfl, _, hg, _⟩ | ⟨rfl, _⟩
    · obtain ⟨c, hc⟩ := BM.parts_exist size hg hlt
      exact .inr ⟨rfl, twice_told hr1 hc hn hall hol ham⟩
    · exact .inl rfl
  have HBL : Hid (DC.Told n size (DC.pairs (SM.iota n ++ [((at_ % n : Nat) : Int)]) (src ++ [other])) src 0 → ∀ v w, Drps w v (DC.pairs (SM.iota n ++ [((at_ % n : Nat) : Int)]) (src ++ [other])) → Tab w → Calls Tryd.prog 9 #[.int .i64 n, .int .i64 size, v] w (DAns w src 0)) := fun ht v w hv hT =>
    block_told n size v _ w h1 (by omega) h3 h4 hv (by rw [DC.pairs_length, List.length_append, SM.iota_length]; simp; omega) (DC.pairs_mem fun i hi => by
      have hmem : (SM.iota n ++ [((at_ % n : Nat) : Int)]).getD i 0 ∈ SM.iota n ++ [((at_ % n : Nat) : Int)] := by rw [List.getD_eq_getElem?_getD, List.getElem?_eq_getElem hi]; exact List.getElem_mem hi
      rcases List.mem_append.1 hmem with h | h
      · obtain ⟨q, hq, he⟩ := List.mem_map.1 h
        have := List.mem_range.1 hq
        show EsiOk _
        rw [← he]; exact ⟨by omega, by omega⟩
      · show EsiOk _
        rw [List.mem_singleton.1 h]; exact ⟨by omega, by omega⟩) hT src 0 ht
  have HLD : Hid (∀ vl vd w, Ints w vl (SM.iota n ++ [((at_ % n : Nat) : Int)]) → Rws w vd (src ++ [other]) → (∀ i, i < n → (src.getD i []).length = size) → Calls Tryd.prog 10 #[vl, vd] w (DNew w (DC.pairs (SM.iota n ++ [((at_ % n : Nat) : Int)]) (src ++ [other])))) := fun vl vd w hv hd hall =>
    ldrops_any vl vd _ _ w (by rw [List.length_append, SM.iota_length]; simp; omega) (by rw [List.length_append, List.length_append, SM.iota_length, hn]; exact Nat.le_refl _) (fun i => by
      rw [List.getD_eq_getElem?_getD]
      by_cases hi : i < src.length
      · rw [List.getElem?_append_left hi, ← List.getD_eq_getElem?_getD, hall i (by omega)]; omega
      · rw [List.getElem?_append_right (by omega)]
        by_cases hi2 : i - src.length = 0
        · rw [hi2]; show other.length ≤ _; omega
        · rw [List.getElem?_eq_none (by simp; omega)]; simp) hv hd
  have HIS : Hid (∀ q : Nat, i64vs (SM.iota q) ++ [.int .i64 (q : Nat)] = i64vs (SM.iota (q + 1))) := fun q => by rw [← SM.iota_snoc, i64vs_snoc]
  have HIA : Hid (i64vs (SM.iota n) ++ [.int .i64 ((at_ % n : Nat) : Int)] = i64vs (SM.iota n ++ [((at_ % n : Nat) : Int)])) := by show _ = _; rw [i64vs_snoc]
  have HMO : Hid ((at_ : Int) % (n : Int) = ((at_ % n : Nat) : Int)) := (Int.natCast_emod _ _).symm
  have HSL : Hid (src.length = n) := hn
  have HOL : Hid (other.length = size) := hol
  have HT := Lib.hid hT
  have HS := Lib.hid hs
  have HO := Lib.hid ho
  obtain ⟨a, cap, rfl, _⟩ := hs.slice
  obtain ⟨b1, o1, rfl, hb1, hc1⟩ := hs.at.2 (by omega)
  obtain ⟨ao, co, rfl, _⟩ := ho.slice
  rw [hn] at HS HF hc1 ⊢
  rw [hol] at HO ⊢
  have HC := Lib.hid hc1
  have HC0 : Hid (∃ ra rc, w.cell? ⟨b1, o1, none⟩ = some (.slice ra size rc)) := by
    obtain ⟨ra, rc, h, _⟩ := hc1 0 (by omega)
    rw [Nat.add_zero, hr0] at h
    exact ⟨ra, rc, h⟩
  clear hT hs ho hf hml hc1 hn hol hr0 hlt hr
  generalize DC.pairs (SM.iota n ++ [((at_ % n : Nat) : Int)]) (src ++ [other]) = P at *
  obtain ⟨i0, hi, hz0, hz1, hz2⟩ := info_parts intinfo
  have HI := Lib.hid hi; clear hi
  have HZ0 := Lib.hid hz0; clear hz0
  have HZ1 := Lib.hid hz1; clear hz1
  have HZ2 := Lib.hid hz2; clear hz2
  obtain ⟨i1, hi', hz0', hz1', hz2'⟩ := info_parts bytesinfo
  have HI' := Lib.hid hi'; clear hi'
  have HZ0' := Lib.hid hz0'; clear hz0'
  have HZ1' := Lib.hid hz1'; clear hz1'
  have HZ2' := Lib.hid hz2'; clear hz2'
  go_enter Tryd.func6, Tryd.ntmps6
  go_wp2_with fail
  refine HA.out.mono ?_
  rintro e w1 ⟨rfl, hx1⟩
  have HX1 := Lib.hid hx1
  clear hx1 HA
  go_wp2_with fail
  refine (HF.out w1 (HS.out.ext HX1.out)).mono ?_
  rintro e w2 ⟨rfl, hx2⟩
  have HX2 := Lib.hid (Gr.ext_trans HX1.out hx2)
  obtain ⟨r0, c0, hc0⟩ := HC0.out
  have hcc := HX2.out.cell_of hc0
  clear hx2 HX1 HF hc0 HC0
  go_wp2_with fail
  clear hcc
  go_loopw [8, 9] (fun o i wr => ∃ q : Nat, q ≤ n ∧ i = .int .i64 q ∧ Hid (w2.Extends wr) ∧ Hid (∀ i, i < q → (src.getD i []).length = size) ∧ Hid (wr.ownsRow w2.heap.size 3 1 o q (i64vs (SM.iota q)))) (fun _ i _ => (n - intOf i).toNat)
  case atStart => exact ⟨0, by omega, rfl, Lib.hid (Gr.ext_refl _), Lib.hid (fun i hi => absurd hi (Nat.not_lt_zero _)), Lib.hid (World.ownsRow_nil _ _ _ _)⟩
  case round =>
    obtain ⟨q, hq, rfl, HX, HK, HOWN⟩ := hrel
    by_cases h5 : q < n
    · obtain ⟨ra, rc, hc, _⟩ := HC.out q h5
      have hcq := (Gr.ext_trans HX2.out HX.out).cell_of hc
      have HK2 : Hid ((src.getD q []).length = size → ∀ i, i < q + 1 → (src.getD i []).length = size) := fun h2 i hi => by
        by_cases e : i = q
        · subst e; exact h2
        · exact HK.out i (by omega)
      clear hc
      generalize (src.getD q []).length = rl at *
      by_cases h6 : rl = size
      rotate_left
      · have hne : ((rl : Int) != (size : Int)) = true := by simp; omega
        have HP := Lib.hid (Gr.ext_trans HX2.out HX.out)
        clear h6 HK2 HTOLD
        go_wp2
        go_ret
        exact ⟨rfl, HP.out⟩
      · have HK3 := Lib.hid (HK2.out h6)
        subst h6
        have HISQ := Lib.hid (HIS.out q)
        have HOB : Hid (∀ g, u8.ownBlock = some g → w2.heap.size ≤ g) := fun g hg => (HOWN.out.lt g hg).1
        have hbs := HX.out.size
        clear HK2
        go_wp2_with (at_builtin; refine wpList_append_own_src _ rfl _ _ 22 22 rfl w2.heap.size 3 i0 (.int .i64 0) 1 8 Tryd.underlying22 HI.out HZ0.out HZ1.out HZ2.out rfl _ _ _ rfl (HOWN.out.alloc _) _ 1 [.int .i64 q] rfl (src_one Tryd.underlying22 _ _ rfl rfl) (by unfold maxLen; omega) (by omega) (by simp; omega) ?_)
        intro v' w3 ho3 hg3 _
        have HX3 : Hid (w2.Extends w3) := Gr.ext_of (((Gr.below_of HX.out).alloc hbs _).grown hg3 (by simp; omega) HOB.out)
        rw [HISQ.out] at ho3
        have HO3 := Lib.hid ho3
        clear ho3 hg3
        go_wp2
        go_roundw
        case rel => exact ⟨q + 1, by omega, by go_num, HX3, HK3, HO3⟩
        case measure => simp [intOf]; omega
    · obtain rfl : q = n := by omega
      have ht := HTOLD.out HK.out
      have HX3 := Lib.hid (Gr.ext_trans HX2.out HX.out)
      have HLD1 := Lib.hid (fun vl vd w hv hd => HLD.out vl vd w hv hd HK.out)
      clear HTOLD HLD
      go_wp2_with fail
      refine (HSE.out wr).mono ?_
      rintro e w3 ⟨rfl, hx3⟩
      have HX4 := Lib.hid (Gr.ext_trans HX3.out hx3)
      have HY4 := Lib.hid (Gr.ext_trans HX.out hx3)
      have HOWN4 := Lib.hid (owns_ext HOWN.out hx3)
      clear hx3 HX3 HX HOWN HSE
      rcases ht with rfl | ⟨rfl, ht⟩
      · go_wp2
        go_ret
        exact ⟨rfl, HX4.out⟩
      have HB := Lib.hid (HBL.out ht)
      clear HBL ht
      have hq0 : ((q : Int) == 0) = false := by rw [beq_eq_false_iff_ne]; omega
      have HOB : Hid (∀ g, u8.ownBlock = some g → w2.heap.size ≤ g) := fun g hg => (HOWN4.out.lt g hg).1
      have hbs4 := HY4.out.size
      have hmo := HMO.out
      generalize at_ % q = am at *
      go_wp2_with (at_builtin; refine wpList_append_own_src _ rfl _ _ 22 22 rfl w2.heap.size 3 i0 (.int .i64 0) 1 8 Tryd.underlying22 HI.out HZ0.out HZ1.out HZ2.out rfl _ _ _ rfl (HOWN4.out.alloc _) _ 1 [.int .i64 am] rfl (src_one Tryd.underlying22 _ _ rfl rfl) (by unfold maxLen; omega) (by omega) (by simp; omega) ?_)
      intro v5 w5 ho5 hg5 _
      have HY5 : Hid (w2.Extends w5) := Gr.ext_of (((Gr.below_of HY4.out).alloc hbs4 _).grown hg5 (by simp; omega) HOB.out)
      have HX5 : Hid (w.Extends w5) := Gr.ext_trans HX2.out HY5.out
      rw [HIA.out] at ho5
      have HO5 := Lib.hid ho5
      obtain ⟨us, hsrc, hus⟩ := HS.out.srcs_old HX5.out (P := Tryd.prog) (tx := 23) Tryd.underlying23
      rw [HSL.out] at hsrc hus
      have HSRC := Lib.hid hsrc
      have HUS := Lib.hid hus
      have hbs5 := HY5.out.size
      clear ho5 hg5 hsrc hus HX4 HY4 HOWN4 HOB hmo
      go_wp2_with (at_builtin; refine wpList_append_own_src _ rfl _ _ 23 23 rfl w2.heap.size 40 i1 (.slice none 0 0) 1 24 Tryd.underlying23 HI'.out HZ0'.out HZ1'.out HZ2'.out rfl _ _ _ rfl (World.ownsRow_nil _ _ _ _) _ q us rfl HSRC.out (by unfold maxLen; omega) (by omega) (by omega) ?_)
      intro v6 w6 ho6 hg6 _
      try simp only [Nat.zero_add, List.nil_append] at ho6
      have hx6 : w5.Extends w6 := ext_below ⟨hg6.os, hg6.tape, hg6.output, hg6.size, fun i hi => hg6.block i hi (by simp [Value.ownBlock])⟩ rfl
      have HY6 := Lib.hid (Gr.ext_trans HY5.out hx6)
      have HX6 := Lib.hid (Gr.ext_trans HX5.out hx6)
      have HO6 := Lib.hid (owns_ext HO5.out hx6)
      have HOW6 := Lib.hid ho6
      have HROW6 : Hid (∀ j, j < q → ∃ u, us[j]? = some u ∧ RowOk w6 w.heap.size u (src.getD j [])) := fun j hj => by
        obtain ⟨u, h1, h2⟩ := HUS.out j hj
        exact ⟨u, h1, h2.ext hx6⟩
      have HOO6 : Hid (RowOk w6 w.heap.size (.slice ao size co) other) := (RowOk.old HO.out (Nat.le_refl _)).ext HX6.out
      have HOC : Hid (∀ g, v6.ownBlock = some g → w2.heap.size ≤ g) := fun g hg => (HOW6.out.lt g hg).1
      have hbs6 := HY6.out.size
      have hww := HX2.out.size
      obtain ⟨a6, c6, rfl⟩ := owns_slice ho6
      clear ho6 hg6 hx6 HY5 HX5 HO5 HSRC HUS
      go_wp2_with (at_builtin; refine wpList_append_own_src _ rfl _ _ 23 23 rfl w2.heap.size 40 i1 (.slice none 0 0) 1 24 Tryd.underlying23 HI'.out HZ0'.out HZ1'.out HZ2'.out rfl _ _ _ rfl (HOW6.out.alloc _) _ 1 [.slice ao size co] rfl (src_one Tryd.underlying23 _ _ rfl rfl) (by unfold maxLen; omega) (by omega) (by simp; omega) ?_)
      intro v7 w7 ho7 hg7 _
      have HY7 : Hid (w2.Extends w7) := Gr.ext_of (((Gr.below_of HY6.out).alloc hbs6 _).grown hg7 (by simp; omega) HOC.out)
      have HX7 : Hid (w.Extends w7) := Gr.ext_trans HX2.out HY7.out
      have HV7 : Hid (Ints w7 v5 (SM.iota q ++ [(am : Int)])) := owns_ints ((HO6.out.alloc _).kept hg7 (owns_apart HO6.out HOW6.out (by decide)))
      have HR7 : Hid (Rws w7 v7 (src ++ [other])) := by
        have h := Mats.snoc hww (by decide) HSL.out.symm (HOW6.out.alloc _) (fun j hj => by obtain ⟨u, h1, h2⟩ := HROW6.out j hj; exact ⟨u, h1, h2.ext (ext_alloc _ _)⟩) (HOO6.out.ext (ext_alloc _ _)) hg7 ho7
        exact h.rws (by rw [List.length_append, HSL.out]; rfl)
      obtain ⟨a7, c7, rfl, _⟩ := HR7.out.slice
      obtain ⟨a5, c5, rfl, _⟩ := HV7.out.slice
      clear ho7 hg7 HY6 HX6 HO6 HOW6 HROW6 HOO6 HOC HY7
      generalize (src ++ [other]).length = l7 at *
      generalize (SM.iota q ++ [(am : Int)]).length = l5 at *
      go_wp2_with fail
      refine (HLD1.out _ _ w7 HV7.out HR7.out).mono ?_
      rintro e w8 ⟨vp, rfl, hx8, hvp⟩
      have HX8 := Lib.hid (Gr.ext_trans HX7.out hx8)
      have HVP := Lib.hid hvp
      clear hx8 hvp HX7 HV7 HR7 HLD1
      go_wp2_with fail
      refine (HB.out vp w8 HVP.out (HT.out.ext HX8.out)).mono ?_
      rintro e w9 ⟨vx, rfl, hx9, hvx⟩
      have HX9 := Lib.hid (Gr.ext_trans HX8.out hx9)
      have HVX := Lib.hid hvx
      clear hx9 hvx HX8 HVP HB
      go_wp2_with fail
      refine (num11_any _ w9).mono ?_
      rintro e w' ⟨rfl, rfl⟩
      go_wp2_with fail
      refine (from_any vx src w9 HVX.out (by have := HSL.out; omega)).mono ?_
      rintro e wa ⟨vf, rfl, hxa, hvf⟩
      have HXA := Lib.hid (Gr.ext_trans HX9.out hxa)
      have HVF := Lib.hid hvf
      clear hxa hvf HX9 HVX
      go_wp2_with fail
      refine (same_any vf _ src wa HVF.out (HS.out.ext HXA.out)).mono ?_
      rintro e wb ⟨rfl, hbb⟩
      have HXB := Lib.hid (Gr.ext_trans HXA.out (Gr.ext_of hbb))
      clear hbb
      go_wp2
      go_ret
      exact ⟨rfl, HXB.out⟩
theorem DecodeTwice_walk (vs : Value) (src : List (List Nat)) (at_ : Int) (vo : Value) (other : List Nat) (w : World) (hs : Rws w vs src ∧ ∀ k, (src.getD k []).length ≤ 140737488351232) (ha : -9223372036854775808 ≤ at_ ∧ at_ ≤ 9223372036854775807) (ho : U8s w vo other) (hT : Tab w) :
    Calls Tryd.prog 6 #[vs, .int .i64 at_, vo] w fun e w' => e = .returned (.bool true) ∧ Below w.heap.size w w' := by
  suffices H : Calls Tryd.prog 6 #[vs, .int .i64 at_, vo] w fun e w' => e = .returned (.bool true) ∧ w.Extends w' from H.mono fun e w' h => ⟨h.1, Gr.below_of h.2⟩
  obtain ⟨hs, hml⟩ := hs
  have hsl := hs.len
  have hol := ho.len
  by_cases h1 : src.length < 1 ∨ 8 < src.length
  · obtain ⟨a, cap, rfl, _⟩ := hs.slice
    exact dtw_far a _ cap at_ vo w hT hsl h1
  cases hf : few src with
  | false => exact dtw_many vs vo at_ src w hT hs hml (by omega) (by omega) hf
  | true =>
    by_cases h2 : (src.getD 0 []).length < 1 ∨ 64 < (src.getD 0 []).length ∨ other.length ≠ (src.getD 0 []).length ∨ at_ < 0
    · obtain ⟨a, cap, rfl, _⟩ := ho.slice
      exact dtw_size vs at_ a _ cap src w hT hs hml (by omega) (by omega) hf hol h2
    · obtain ⟨an, rfl⟩ := Int.eq_ofNat_of_zero_le (show 0 ≤ at_ by omega)
      exact dtw_main vs vo an src other _ _ w hT hs ho hml rfl (by omega) (by omega) hf rfl (by omega) (by omega) (by omega) ha.2
end Go.Proofs.YtpeegcncpcpbfaaDoor
