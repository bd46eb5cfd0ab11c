/- In one text: TabRend, TabNew, TabLive, TabPlaysW. -/
import Derived.Deep.DeepCutAuto
import Derived.Test.YtffcjnabhblbaaaMA2
import Derived.Test.YtffcjnabhblbaaaMA3
import Derived.Test.YtffcjnabhblbaaaMA6
import Derived.Test.YtffcjnabhblbaaaMA13
namespace Go.Proofs.Ytffcjnabhblbaaa
set_option maxRecDepth 20000
open Go.RowKit Go.Deep
set_option linter.unusedVariables false
set_option maxHeartbeats 1000000 in
theorem tsame_any (u v : Value) (l : List Int) (w : World) (hu : Ints w u l) (hv : Ints w v l) :
    Calls Try.prog 13 #[u, v] w fun e w' => e = .returned (.bool true) ∧ w.Extends w' := by
  have hm := hu.len
  obtain ⟨a, cap, rfl, _⟩ := hu.slice
  obtain ⟨a', cap', rfl, _⟩ := hv.slice
  have HU := Lib.hid hu.cell.2
  have HV := Lib.hid hv.cell.2
  clear hu hv
  generalize l.length = n at *
  unfold maxLen at hm
  go_enter Try.func13, Try.ntmps13
  go_wp2
  go_loopw [5] (fun i wr => ∃ k : Nat, k ≤ n ∧ i = .int .i64 k ∧ Hid (w.Extends wr)) (fun i _ => (n - intOf i).toNat)
  case atStart => exact ⟨0, by omega, rfl, Lib.hid (Gr.ext_refl _)⟩
  case round =>
    obtain ⟨k, hk, rfl, HX⟩ := hrel
    by_cases h1 : k < n
    · obtain ⟨b1, o1, rfl, hb1, hc1⟩ := HU.out (by omega)
      obtain ⟨b2, o2, rfl, hb2, hc2⟩ := HV.out (by omega)
      have HL1 : Hid (∀ w', wr.Extends w' → w'.cell? ⟨b1, o1 + k, none⟩ = some (.int .i64 (l.getD k 0))) := fun w' hw' => hw'.cell_of (HX.out.cell_of (hc1 k h1))
      have HL2 : Hid (∀ w', wr.Extends w' → w'.cell? ⟨b2, o2 + k, none⟩ = some (.int .i64 (l.getD k 0))) := fun w' hw' => hw'.cell_of (HX.out.cell_of (hc2 k h1))
      clear hc1 hc2
      generalize l.getD k 0 = x at *
      go_wp2_with fail
      refine Gr.region 8 [(false,0),(false,1),(false,2),(false,3),(false,4),(false,5),(false,6),(false,7)] (by kernel_rfl) (by kernel_rfl) (fun d _ _ _ _ h => by cases d <;> exact h) ?_
      simp only [Gr.pick, List.getElem?_cons_zero, List.getElem?_cons_succ, List.drop_succ_cons, List.drop_zero]
      iterate 8
        refine Gr.walk_t ?_ (Or.inl ⟨by rfl, ?_⟩) ?_
        rotate_left
        · intro w' hw'
          have hc1 := HL1.out w' (Gr.of_drew hw')
          have hc2 := HL2.out w' (Gr.of_drew hw')
          clear hw'
          go_simp
          try with_reducible rfl
        simp only [Act.put, List.setIfInBounds_toArray, List.set_cons_zero, List.set_cons_succ]
      refine Gr.walk_nil ?_
      go_wp2
      go_roundw
      case rel => exact ⟨k + 1, by omega, by go_num, Lib.hid (Gr.ext_drew HX.out)⟩
      case measure => simp [intOf]; omega
    · obtain rfl : k = n := by omega
      go_wp2
      go_ret
      exact ⟨rfl, HX.out⟩
theorem tcut_any (n : Int) (w : World) : Calls Try.prog 35 #[.int .i64 n, .int .i64 0, .int .i64 1000] w fun e w' => e = .returned (.int .i64 (cutN n : Nat)) ∧ w' = w := by
  obtain ⟨m, hm⟩ : ∃ m : Nat, m = cutN n := ⟨_, rfl⟩
  unfold cutN at hm
  have hways : (n < 0 ∧ (m : Int) = 0) ∨ (¬ n < 0 ∧ 1000 < n ∧ (m : Int) = 1000) ∨ (¬ n < 0 ∧ ¬ 1000 < n ∧ (m : Int) = n) := by omega
  have HW := Lib.hid hways
  have HE : Hid (cutN n = m) := by show cutN n = m; unfold cutN; omega
  rw [HE.out]
  clear hm hways
  rcases HW.out with ⟨h1, h2⟩ | ⟨h1, h2, h3⟩ | ⟨h1, h2, h3⟩
  · have H2 := Lib.hid h2
    clear h2
    go_enter Try.func35, Try.ntmps35
    go_wp2
    go_ret
    exact ⟨by rw [H2.out]; rfl, rfl⟩
  · have H2 := Lib.hid h3
    clear h3
    go_enter Try.func35, Try.ntmps35
    go_wp2
    go_ret
    exact ⟨by rw [H2.out]; rfl, rfl⟩
  · have H2 := Lib.hid h3
    clear h3
    go_enter Try.func35, Try.ntmps35
    go_wp2
    go_ret
    exact ⟨by rw [H2.out]; rfl, rfl⟩
theorem has_next {l : List Int} {x : Int} {k : Nat} (hk : k < l.length) (h : x ∉ l.take k) (hne : ¬ l.getD k 0 = x) : x ∉ l.take (k + 1) := by
  rw [List.take_add_one]
  simp only [List.mem_append, not_or]
  refine ⟨h, ?_⟩
  have e : l[k]?.toList = [l.getD k 0] := by simp [hk]
  rw [e]
  simpa using fun e => hne e.symm
theorem has_any (v : Value) (l : List Int) (x : Int) (w : World) (hv : Ints w v l) :
    Calls Try.prog 20 #[v, .int .i64 x] w fun e w' => e = .returned (.bool (decide (x ∈ l))) ∧ w' = w := by
  have hm := hv.len
  obtain ⟨n, hn⟩ : ∃ n, l.length = n := ⟨_, rfl⟩
  obtain ⟨a, cap, rfl, _⟩ := hv.slice
  rw [hn] at hv hm ⊢
  have HN := Lib.hid hn
  have HV := Lib.hid hv.cell.2
  obtain ⟨r, hr⟩ : ∃ r, r = decide (x ∈ l) := ⟨_, rfl⟩
  have HR := Lib.hid hr
  rw [← hr]
  unfold maxLen at hm
  clear hv hn hr
  go_enter Try.func20, Try.ntmps20
  go_wp2_with fail
  go_loopw [5] (fun i wr => ∃ k : Nat, k ≤ n ∧ i = .int .i64 k ∧ wr = w ∧ Hid (x ∉ l.take k)) (fun i _ => (n - intOf i).toNat)
  case atStart => exact ⟨0, by omega, rfl, rfl, by simp [Hid]⟩
  case round =>
    obtain ⟨k, hk, rfl, rfl, HB⟩ := hrel
    by_cases h1 : k < n
    · obtain ⟨b1, o1, rfl, hb1, hc1⟩ := HV.out (by omega)
      have hc := hc1 k h1
      obtain ⟨y, hy⟩ : ∃ y, l.getD k 0 = y := ⟨_, rfl⟩
      rw [hy] at hc
      have HY := Lib.hid hy
      clear hc1 hy hb1
      by_cases h2 : y = x
      · have HP : Hid (r = true) := by
          rw [HR.out]
          show decide _ = true
          rw [decide_eq_true_eq, ← h2, ← HY.out]
          have : k < l.length := by rw [HN.out]; exact h1
          simp [this]
        have h3 : (y == x) = true := by simp [h2]
        clear h2
        go_wp2
        go_ret
        exact ⟨by rw [HP.out]; rfl, rfl⟩
      · have HP : Hid (x ∉ l.take (k + 1)) := has_next (by rw [HN.out]; exact h1) HB.out (by rw [HY.out]; exact h2)
        have h3 : (y == x) = false := by simp [h2]
        clear h2
        go_wp2
        go_roundw
        case rel => exact ⟨k + 1, by omega, by go_num, trivial, HP⟩
        case measure => simp [intOf]; omega
    · obtain rfl : k = n := by omega
      have HP : Hid (r = false) := by
        rw [HR.out]
        show decide _ = false
        rw [decide_eq_false_iff_not]
        have := HB.out
        rwa [List.take_of_length_le (by rw [HN.out]; omega)] at this
      go_wp2
      go_ret
      exact ⟨by rw [HP.out]; rfl, rfl⟩
set_option maxHeartbeats 2000000 in
theorem rtnear_any (g : Nat) (p : Int) (vs : Nat → Value) (b : Nat → List Ct) (kk : List Nat) (n : Int) (w : World) (h : RTAt w g p vs b) (hi : TInv p b) (hK : KY.Ok kk) :
    Calls Try.prog 17 #[.pointer (some ⟨g, 0, none⟩), KV kk, .int .i64 n] w (IntsOut w ((nearT kk b).take (cutN n))) := by
  obtain ⟨N, hN⟩ : ∃ N, (nearT kk b).length = N := ⟨_, rfl⟩
  have hal : (allT b).length ≤ 486 := by
    have := hi.len
    rw [(allT_perm b).length_eq]
    unfold peersT
    rw [List.length_map]; omega
  have hN2 : N ≤ 486 := by rw [← hN, (nearT_perm kk b).length_eq, ← (allT_perm b).length_eq]; exact hal
  have HRA : Hid (∀ w1, w.Extends w1 → Calls Try.prog 15 #[.pointer (some ⟨g, 0, none⟩)] w1 (IntsOut w1 (allT b))) := fun w1 hx => rall_any g p vs b w1 (h.ext hx) hi
  have HNE : Hid (∀ v w1, Ints w1 v (allT b) → Calls Try.prog 34 #[KV kk, v] w1 (fun e w2 => ∃ a c, e = .returned (.slice a N c) ∧ N ≤ c ∧ w1.Extends w2 ∧ Ints w2 (.slice a N c) (nearT kk b))) := fun v w1 hv =>
    (rnearest_any kk v (allT b) (nearT kk b) w1 hK hv hal hi.rising (nearT_srt hK b) ((allT_perm b).trans (nearT_perm kk b).symm)).mono fun e w2 ⟨u, he, hx, hu⟩ => by
      obtain ⟨a, c, rfl, h1, _⟩ := hu.slice
      rw [hN] at hu h1 he
      exact ⟨a, c, he, h1, hx, hu⟩
  obtain ⟨m, hm⟩ : ∃ m, cutN n = m := ⟨_, rfl⟩
  have HCT : Hid (∀ w1, Calls Try.prog 35 #[.int .i64 n, .int .i64 0, .int .i64 1000] w1 fun e w' => e = .returned (.int .i64 (m : Nat)) ∧ w' = w1) := fun w1 => by rw [← hm]; exact tcut_any n w1
  rw [hm]
  have HEND : Hid (∀ w1 v, w.Extends w1 → Ints w1 v ((nearT kk b).take m) → IntsOut w ((nearT kk b).take m) (.returned v) w1) := fun w1 v hx hv => ⟨v, rfl, hx, hv⟩
  have HTK : Hid (N ≤ m → (nearT kk b).take m = nearT kk b) := fun h => List.take_of_length_le (by omega)
  obtain ⟨s, hs⟩ : ∃ s, w.heap.size = s := ⟨_, rfl⟩
  have HBOX : Hid (∀ w1, w1 = w.alloc (.cells (KC kk) 24) → w.Extends w1 ∧ KAt w1 s kk) := fun w1 e => by
    subst e; subst hs
    exact ⟨ext_alloc _ _, KAt.new w hK.1⟩
  have HLK := Lib.hid hK.1
  obtain ⟨xk, hxk⟩ : ∃ x, KV kk = x := ⟨_, rfl⟩
  have HXK := Lib.hid hxk
  rw [hxk] at HNE
  generalize IntsOut w ((nearT kk b).take m) = POST at *
  unfold IntsOut at HRA
  generalize nearT kk b = S at *
  generalize allT b = al at *
  clear hN hm hxk hK h hi hal
  go_enter Try.func17, Try.ntmps17
  go_upto_region 1 with fail
  generalize hw1 : World.alloc w _ = w1
  obtain ⟨hx1, hk1⟩ := HBOX.out w1 hw1.symm
  have HX1 := Lib.hid hx1
  have HKA := Lib.hid hk1
  clear hw1 HBOX hx1 hk1 hs
  refine Gr.region 3 [(false,0),(false,1),(true,2)] (by kernel_rfl) (by kernel_rfl) (fun d _ _ _ _ h => by cases d <;> exact h) ?_
  simp only [Gr.pick, List.getElem?_cons_zero, List.getElem?_cons_succ, List.drop_succ_cons, List.drop_zero]
  generalize hwd0 : w1.drew = wd
  have HX0 : Hid (w1.Extends wd) := by rw [← hwd0]; exact Gr.ext_drew (Gr.ext_refl w1)
  have HXD : Hid (w.Extends wd) := Gr.ext_trans HX1.out HX0.out
  clear hwd0
  refine Gr.walk_t _ (Or.inl ⟨by rfl, fun w' hw' => key_yields (HKA.out.ext (Gr.ext_trans HX0.out hw')) HLK.out (by rfl) (by rfl) (by exact HXK.out)⟩) ?_
  simp only [Act.put, List.setIfInBounds_toArray, List.set_cons_zero, List.set_cons_succ]
  refine Gr.walk_t ?_ (Or.inl ⟨by rfl, ?_⟩) ?_
  rotate_left
  · intro w' hw'
    clear hw'
    go_simp
    try with_reducible rfl
  simp only [Act.put, List.setIfInBounds_toArray, List.set_cons_zero, List.set_cons_succ]
  refine Gr.walk_c (fun K hK => ?_)
  go_simp
  refine (HRA.out wd HXD.out).mono ?_
  rintro e w2 ⟨v, rfl, hx2, hv2⟩
  have HX2 := Lib.hid (Gr.ext_trans HXD.out hx2)
  have HV2 := Lib.hid hv2
  clear hv2
  try go_simp
  refine hK.out _ _ (hx2) ?_
  clear hK K
  refine Gr.walk_nil ?_
  clear hx2
  go_wp2_with fail
  refine (HNE.out v w2 HV2.out).mono ?_
  rintro e w3 ⟨a, c, rfl, hac, hx3, hv3⟩
  have HX3 := Lib.hid (Gr.ext_trans HX2.out hx3)
  have HV3 := Lib.hid hv3
  clear hx3 hv3
  go_wp2_with fail
  refine (HCT.out w3).mono ?_
  rintro e w4 ⟨rfl, rfl⟩
  by_cases h1 : m < N
  · have HE := Lib.hid (HEND.out w4 _ HX3.out (HV3.out.cut (m := m) (by omega)))
    have hmc : m ≤ c := by omega
    go_wp2
    exact HE.out
  · have HE := Lib.hid (HEND.out w4 _ HX3.out (by rw [HTK.out (by omega)]; exact HV3.out))
    go_wp2
    exact HE.out
end Go.Proofs.Ytffcjnabhblbaaa
namespace Go.Proofs.Ytffcjnabhblbaaa
set_option maxRecDepth 20000
open Go.RowKit Go.Deep
set_option linter.unusedVariables false
theorem tab_built (p : Int) : Try.zeroCells55.setIfInBounds 0 (.int .i64 p) = (tabL p (fun _ => [])).toArray := by
  rw [tab_zero]
  unfold tabL
  rw [List.setIfInBounds_toArray, List.set_cons_zero]
theorem rtab_built (p : Int) : Try.zeroCells61.setIfInBounds 0 (.int .i64 p) = (rtabL p (fun _ => .slice none 0 0)).toArray := by
  rw [rtab_zero]
  unfold rtabL
  rw [List.setIfInBounds_toArray, List.set_cons_zero]
/-- A new table: in the next block. -/
def NewT (p : Int) (w : World) (e : Ending) (w' : World) : Prop := e = .returned (.pointer (some ⟨w.heap.size, 0, none⟩)) ∧ w.Extends w' ∧ TAt w' w.heap.size p (fun _ => [])
def RNewT (p : Int) (w : World) (e : Ending) (w' : World) : Prop := e = .returned (.pointer (some ⟨w.heap.size, 0, none⟩)) ∧ w.Extends w' ∧ RTAt w' w.heap.size p (fun _ => .slice none 0 0) (fun _ => [])
theorem tnew_at (p : Int) (w : World) : NewT p w (.returned (.pointer (some ⟨w.heap.size, 0, none⟩))) (w.alloc (.cells (Try.zeroCells55.setIfInBounds 0 (.int .i64 p)) 55)) := by
  rw [tab_built]
  exact ⟨rfl, ext_alloc _ _, heap_alloc_new _ _, fun _ => Nat.zero_le _⟩
theorem rtnew_at (p : Int) (w : World) : RNewT p w (.returned (.pointer (some ⟨w.heap.size, 0, none⟩))) (w.alloc (.cells (Try.zeroCells61.setIfInBounds 0 (.int .i64 p)) 61)) := by
  rw [rtab_built]
  exact ⟨rfl, ext_alloc _ _, heap_alloc_new _ _, fun _ => OwnC.nil _ _, fun _ _ _ _ h => nomatch h⟩
theorem tnew_any (p : Int) (w : World) : Calls Try.prog 7 #[.int .i64 p] w (NewT p w) := by
  have HP := Lib.hid (tnew_at p w)
  go_enter Try.func7, Try.ntmps7
  go_wp2_with fail
  generalize Try.zeroCells55 = Z at *
  go_ret
  exact HP.out
theorem rtnew_any (p : Int) (w : World) : Calls Try.prog 8 #[.int .i64 p] w (RNewT p w) := by
  have HP := Lib.hid (rtnew_at p w)
  go_enter Try.func8, Try.ntmps8
  go_wp2_with fail
  generalize Try.zeroCells61 = Z at *
  go_ret
  exact HP.out
end Go.Proofs.Ytffcjnabhblbaaa
namespace Go.Proofs.Ytffcjnabhblbaaa
set_option maxRecDepth 20000
open Go.RowKit Go.Deep
set_option linter.unusedVariables false
theorem flatT_nil : flatT (fun _ => []) = [] := by simp [flatT]
theorem allT_nil : allT (fun _ => []) = [] := by
  unfold allT peersT
  rw [flatT_nil, List.map_nil, List.mergeSort_nil]
theorem flat_none {α : Type} {l : List Nat} {f : Nat → List α} (h : ∀ j ∈ l, f j = []) : l.flatMap f = [] := by
  rw [List.flatMap_eq_nil_iff]; exact h
theorem flatT_one {i : Nat} (hi : i < 161) (c : Ct) : flatT (upd (fun _ => []) i [c]) = [c] := by
  unfold flatT
  rw [flat_split _ hi, flat_none (fun j hj => upd_ne _ _ (by have := List.mem_range.1 hj; omega)), upd_same, flat_none (fun j hj => upd_ne _ _ (by omega))]
  rfl
theorem see_new (c : Ct) : seeL [] c = [c] ∧ (seeX [] c).p = 0 ∧ seeB [] c = false := by
  have h : (dropC c.p []).length = 0 := rfl
  unfold seeL seeX seeB
  rw [h, if_neg (by decide), if_neg (by decide)]
  exact ⟨rfl, rfl, rfl⟩
theorem live_see : tseeX 1 (fun _ => []) 5 = 0 ∧ tseeB 1 (fun _ => []) 5 = false ∧ allT (tsee 1 (fun _ => []) 5) = [5] := by
  have h : ¬ Off 1 5 := by decide
  obtain ⟨h1, h2, h3⟩ := see_new (ctOf 5)
  unfold tseeX tseeB tsee
  rw [if_neg h, if_neg h, if_neg h]
  refine ⟨h2, h3, ?_⟩
  rw [h1]
  unfold allT peersT
  rw [flatT_one (bx_lt 1 5)]
  rw [List.map_cons, List.map_nil, List.mergeSort_singleton]
  rfl
set_option maxHeartbeats 2000000 in
theorem alive19_any (w : World) : Calls Try.prog 6 #[] w fun e w' => e = .returned (.bool true) ∧ w.Extends w' := by
  obtain ⟨s, hs⟩ : ∃ s, s = w.heap.size := ⟨_, rfl⟩
  have HS := Lib.hid hs
  have HN : Hid (Calls Try.prog 7 #[.int .i64 1] w fun e w' => e = .returned (.pointer (some ⟨s, 0, none⟩)) ∧ w.Extends w' ∧ TAt w' s 1 (fun _ => [])) := by rw [hs]; exact tnew_any 1 w
  have HA : Hid (∀ w1 b l, TAt w1 s 1 b → allT b = l → Calls Try.prog 14 #[.pointer (some ⟨s, 0, none⟩)] w1 fun e w' => ∃ a c, e = .returned (.slice a l.length c) ∧ w1.Extends w' ∧ Ints w' (.slice a l.length c) l) := fun w1 b l ht hl => (tall_any s 1 b w1 ht).mono fun e w2 ⟨v, he, hx, hv⟩ => by
    rw [hl] at hv
    obtain ⟨a, c, rfl, _, _⟩ := hv.slice
    exact ⟨a, c, he, hx, hv⟩
  obtain ⟨e1, e2, e3⟩ := live_see
  have HSE : Hid (∀ w1, TAt w1 s 1 (fun _ => []) → Calls Try.prog 11 #[.pointer (some ⟨s, 0, none⟩), .int .i64 5] w1 fun e w' => e = .returned (.tuple #[.int .i64 0, .bool false]) ∧ TAt w' s 1 (tsee 1 (fun _ => []) 5) ∧ w1.grownBy w' (some s)) := fun w1 ht => by
    have := tsee_any s 1 5 (fun _ => []) w1 ht
    unfold TSeeOut at this
    rw [e1, e2] at this
    exact this
  have HL3 := Lib.hid e3
  clear hs e1 e2 e3
  go_enter Try.func6, Try.ntmps6
  go_wp2_with fail
  refine HN.out.mono ?_
  rintro e w1 ⟨rfl, hx1, ht1⟩
  have HX1 := Lib.hid hx1
  have HT1 := Lib.hid ht1
  clear hx1 ht1
  go_wp2_with fail
  refine (HA.out w1 _ [] HT1.out allT_nil).mono ?_
  rintro e w2 ⟨a2, c2, rfl, hx2, _⟩
  have HX2 := Lib.hid (Gr.ext_trans HX1.out hx2)
  have HT2 := Lib.hid (HT1.out.ext hx2)
  clear hx2
  go_wp2_with fail
  refine (HSE.out w2 HT2.out).mono ?_
  rintro e w3 ⟨rfl, ht3, hg3⟩
  have HX3 : Hid (w.Extends w3) := ext_own HX2.out hg3 (fun x hx => by have := Option.some.inj hx; have := HS.out; omega)
  have HT3 := Lib.hid ht3
  clear ht3 hg3
  go_wp2_with fail
  refine (HA.out w3 _ [5] HT3.out HL3.out).mono ?_
  rintro e w4 ⟨a4, c4, rfl, hx4, hv4⟩
  have HX4 := Lib.hid (Gr.ext_trans HX3.out hx4)
  obtain ⟨b, off, rfl, _, hc⟩ := hv4.cell.2 (by decide)
  have hc0 := hc 0 (by decide)
  simp only [List.getD_cons_zero, Nat.add_zero] at hc0
  clear hx4 hv4 hc
  go_wp2
  go_ret
  exact ⟨rfl, HX4.out⟩
/-- A table of the call's own, in block g, of peers of l. -/
structure Seen (w wr : World) (g : Nat) (p : Int) (l : List Int) (b : Nat → List Ct) : Prop where
  ext : w.Extends wr
  hg : w.heap.size ≤ g
  t : TAt wr g p b
  inv : TInv p b
  sub : ∀ i, ∀ c ∈ b i, c.p ∈ l
section
variable {w wr w' : World} {g : Nat} {p : Int} {l : List Int} {b : Nat → List Ct}
theorem Seen.on (h : Seen w wr g p l b) (hx : wr.Extends w') : Seen w w' g p l b := ⟨Gr.ext_trans h.ext hx, h.hg, h.t.ext hx, h.inv, h.sub⟩
theorem Seen.see (h : Seen w wr g p l b) {q : Int} (hq : q ∈ l ∨ Off p q) (ht : TAt w' g p (tsee p b q)) (hx : wr.grownBy w' (some g)) : Seen w w' g p l (tsee p b q) := by
  refine ⟨ext_own h.ext hx (fun x hx => by have := Option.some.inj hx; have := h.hg; omega), h.hg, ht, h.inv.see q, fun i c hc => ?_⟩
  unfold tsee at hc
  split at hc
  · exact h.sub i c hc
  next ho =>
    by_cases e : i = bx p q
    · rw [e, upd_same] at hc
      rcases seeL_sub c hc with hc | rfl
      · exact h.sub _ c hc
      · rcases hq with hq | hq
        · exact hq
        · exact absurd hq ho
    · rw [upd_ne _ _ e] at hc; exact h.sub i c hc
theorem Seen.all (h : Seen w wr g p l b) : ∀ x ∈ allT b, x ∈ l ∧ ¬ Off p x := fun x hx => by
  have := (allT_perm b).subset hx
  obtain ⟨c, hc, rfl⟩ := List.mem_map.1 this
  obtain ⟨i, _, hci⟩ := mem_flatT.1 hc
  exact ⟨h.sub i c hci, (h.inv.peer c hc).2⟩
theorem Seen.len (h : Seen w wr g p l b) : (allT b).length ≤ 483 := by
  have := h.inv.len
  rw [(allT_perm b).length_eq]
  unfold peersT
  rw [List.length_map]; omega
end
end Go.Proofs.Ytffcjnabhblbaaa
namespace Go.Proofs.Ytffcjnabhblbaaa
set_option maxRecDepth 20000
open Go.RowKit Go.Deep
set_option linter.unusedVariables false
/-- A table of the program in block g, one of the reference in block r, both of the call's own. -/
structure Two (W wr : World) (g r : Nat) (p : Int) (vs : Nat → Value) (b c : Nat → List Ct) : Prop where
  ext : W.Extends wr
  hg : W.heap.size ≤ g
  hr : W.heap.size ≤ r
  t : TAt wr g p b
  r : RTAt wr r p vs c
  own : ∀ i k, (vs i).ownBlock = some k → W.heap.size ≤ k
section
variable {W wr w' : World} {g r : Nat} {p : Int} {vs vs' : Nat → Value} {b c : Nat → List Ct}
theorem Two.ne (h : Two W wr g r p vs b c) : g ≠ r := fun e => by
  have h1 := h.t.row
  rw [e, h.r.row] at h1
  simp only [Option.some.injEq, Obj.cells.injEq] at h1
  exact absurd h1.2.1 (by decide)
theorem Two.nb (h : Two W wr g r p vs b c) (i : Nat) : (vs i).ownBlock ≠ some g := fun e => by
  obtain ⟨_, _, cs, hc⟩ := (h.r.own i).block e
  rw [h.t.row] at hc
  simp only [Option.some.injEq, Obj.cells.injEq] at hc
  exact absurd hc.2.1 (by decide)
theorem Two.on (h : Two W wr g r p vs b c) (hx : wr.Extends w') : Two W w' g r p vs b c := ⟨Gr.ext_trans h.ext hx, h.hg, h.hr, h.t.ext hx, h.r.ext hx, h.own⟩
theorem Two.t' {b' : Nat → List Ct} (h : Two W wr g r p vs b c) (hx : wr.grownBy w' (some g)) (ht : TAt w' g p b') : Two W w' g r p vs b' c :=
  ⟨ext_own h.ext hx (fun x hx => by have := Option.some.inj hx; have := h.hg; omega), h.hg, h.hr, ht, h.r.kept hx h.ne h.nb, h.own⟩
theorem Two.bel (h : Two W wr g r p vs b c) (hx : wr.grownBy w' (some g)) : Below W.heap.size wr w' := ⟨hx.os, hx.tape, hx.output, hx.size, fun i hi => hx.block i (Nat.lt_of_lt_of_le hi h.ext.size) (fun e => by have := Option.some.inj e; have := h.hg; omega)⟩
theorem Two.rbel (h : Two W wr g r p vs b c) (hx : RTW wr r vs vs' w') : Below W.heap.size wr w' := ⟨hx.os, hx.tape, hx.output, hx.size, fun i hi => hx.block i (Nat.lt_of_lt_of_le hi h.ext.size) (by have := h.hr; omega) (fun j e => by have := h.own j i e; omega)⟩
theorem Two.r' {c' : Nat → List Ct} (h : Two W wr g r p vs b c) (hx : RTW wr r vs vs' w') (hr : RTAt w' r p vs' c') : Two W w' g r p vs' b c' :=
  ⟨Gr.ext_of ((Gr.below_of h.ext).trans (h.rbel hx)), h.hg, h.hr, h.t.kept (hx.block g h.t.lt h.ne h.nb), hr, fun i k hk => by
    rcases hx.new i k hk with ⟨j, hj⟩ | h1
    · exact h.own j k hj
    · exact Nat.le_trans h.ext.size h1⟩
end
set_option maxHeartbeats 16000000 in
theorem TablePlays_walk (p : Int) (v : Value) (l : List AcT) (kk : List Nat) (n : Int) (w : World) (_hp : (Lit.int .i64 p).wf = true) (hv : ActsT w v l) (hK : KY.Ok kk) (_hn : (Lit.int .i64 n).wf = true) :
    Calls Try.prog 3 #[.int .i64 p, v, KV kk, .int .i64 n] w fun e w' => e = .returned (.bool true) ∧ Below w.heap.size w w' := by
  obtain ⟨ln, hln⟩ : ∃ ln, l.length = ln := ⟨_, rfl⟩
  obtain ⟨va, vc, rfl⟩ := hv.slice
  rw [hln] at hv ⊢
  have HAT := Lib.hid (hv.at).2
  have HK := Lib.hid hK
  have HLK := Lib.hid hK.1
  obtain ⟨s0, hs0⟩ : ∃ s, w.heap.size = s := ⟨_, rfl⟩
  have HBOX : Hid (∀ w1, w1 = w.alloc (.cells (KC kk) 24) → w.Extends w1 ∧ KAt w1 s0 kk) := fun w1 e => by
    subst e; subst hs0
    exact ⟨ext_alloc _ _, KAt.new w hK.1⟩
  clear hv hln hK
  go_enter Try.func3, Try.ntmps3
  go_upto_region 1 with fail
  generalize hw1 : World.alloc w _ = wb
  obtain ⟨hxb, hkb⟩ := HBOX.out wb hw1.symm
  have HXB := Lib.hid hxb
  have HKB := Lib.hid hkb
  clear hw1 HBOX hxb hkb hs0
  go_wp2_with fail
  refine (alive19_any wb).mono ?_
  rintro e w1 ⟨rfl, hx1⟩
  have HX1 := Lib.hid (Gr.ext_trans HXB.out hx1)
  have HKA1 : Hid (KAt w1 s0 kk) := HKB.out.ext hx1
  clear hx1
  by_cases h60 : 60 < ln
  · have h1 : decide (((ln : Nat) : Int) > 60) = true := decide_eq_true (by omega)
    have h2 : ((ln : Nat) : Int) > 60 := by omega
    have h3 : (60 : Int) < ((ln : Nat) : Int) := by omega
    go_wp2
    go_ret
    exact ⟨rfl, Gr.below_of HX1.out⟩
  · have h1 : ¬ ((ln : Nat) : Int) > 60 := by omega
    have h2 : ¬ (60 : Int) < ((ln : Nat) : Int) := by omega
    have HNT := Lib.hid (tnew_any p w1)
    go_wp2_with fail
    refine HNT.out.mono ?_
    rintro e w2 ⟨rfl, hx2, ht2⟩
    obtain ⟨s, hs⟩ : ∃ s, s = w1.heap.size := ⟨_, rfl⟩
    rw [← hs] at ht2 ⊢
    have HT2 := Lib.hid ht2
    have HX2 := Lib.hid hx2
    have HS := Lib.hid hs
    clear hx2 ht2 HNT h1 h2 h60 hs
    have HNR := Lib.hid (rtnew_any p w2)
    go_wp2_with fail
    refine HNR.out.mono ?_
    rintro e w3 ⟨rfl, hx3, ht3⟩
    obtain ⟨r, hr⟩ : ∃ r, r = w2.heap.size := ⟨_, rfl⟩
    rw [← hr] at ht3 ⊢
    have HTW : Hid (Two w1 w3 s r p (fun _ => .slice none 0 0) (fun _ => []) (fun _ => [])) := ⟨Gr.ext_trans HX2.out hx3, Nat.le_of_eq HS.out.symm, by rw [hr]; exact HX2.out.size, HT2.out.ext hx3, ht3, fun _ _ h => nomatch h⟩
    clear hx3 ht3 HNR hr
    go_wp2_with fail
    go_loopw [12] (fun s12 wr => ∃ (k : Nat) (b : Nat → List Ct) (vs : Nat → Value), k ≤ ln ∧ s12 = .int .i64 k ∧ Hid (Two w1 wr s r p vs b b) ∧ Hid (TInv p b)) (fun s12 _ => ln - (intOf s12).toNat)
    case atStart => exact ⟨0, _, _, by omega, rfl, HTW, TInv.new p⟩
    case round =>
      obtain ⟨k, b, vs, hk, rfl, HT, HI⟩ := hrel
      by_cases hkn : k < ln
      · obtain ⟨ab, ao, rfl, hab, hat⟩ := HAT.out (by omega)
        obtain ⟨hb0, hc0⟩ := hat k hkn
        obtain ⟨d, hd⟩ : ∃ d, (l.getD k AcT.zero).d = d := ⟨_, rfl⟩
        obtain ⟨q, hq⟩ : ∃ q, (l.getD k AcT.zero).p = q := ⟨_, rfl⟩
        rw [hd] at hb0
        rw [hq] at hc0
        have HARG : Hid (∀ wx, Below w1.heap.size w1 wx → wx.cell? ⟨ab, ao + k * 2, none⟩ = some (.bool d) ∧ wx.cell? ⟨ab, ao + k * 2 + 1, none⟩ = some (.int .i64 q)) := fun wx hx => by
          have hab1 : ab < w1.heap.size := Nat.lt_of_lt_of_le hab HX1.out.size
          have hb := (hx.block ab hab1).trans (HX1.out.block ab hab)
          exact ⟨(cell_same hb _).trans hb0, (cell_same hb _).trans hc0⟩
        clear hat hb0 hc0 hab hd hq
        have hcell := (HARG.out wr (Gr.below_of HT.out.ext)).1
        cases d with
        | true =>
          go_upto_region 12 with fail
          refine GrB.region (w1.heap.size) 14 [(false,0),(false,1),(false,2),(false,3),(false,4),(false,5),(false,7),(false,8),(false,9),(false,10),(false,11),(false,12),(true,6),(true,13)] (by kernel_rfl) (by kernel_rfl) (fun d _ _ _ _ h => by cases d <;> exact h) ?_
          simp only [Gr.pick, List.getElem?_cons_zero, List.getElem?_cons_succ, List.drop_succ_cons, List.drop_zero]
          generalize hwf : wr.drew = wf at *
          have HTF : Hid (Two w1 wf s r p vs b b) := by rw [← hwf]; exact HT.out.on (Gr.ext_drew (Gr.ext_refl _))
          have HBF : Hid (Below w1.heap.size w1 wf) := Gr.below_of HTF.out.ext
          clear hwf hcell
          iterate 5
            refine GrB.walk_t ?_ (Or.inl ⟨by rfl, ?_⟩) ?_
            rotate_left
            · intro w' hw'
              clear hw'
              go_simp
              try with_reducible rfl
            simp only [Act.put, List.setIfInBounds_toArray, List.set_cons_zero, List.set_cons_succ]
          refine GrB.walk_t ?_ (Or.inl ⟨by rfl, ?_⟩) ?_
          rotate_left
          · intro w' hw'
            have hpe := (HARG.out w' (HBF.out.trans hw')).2
            clear hw'
            go_simp
            try with_reducible rfl
          simp only [Act.put, List.setIfInBounds_toArray, List.set_cons_zero, List.set_cons_succ]
          iterate 5
            refine GrB.walk_t ?_ (Or.inl ⟨by rfl, ?_⟩) ?_
            rotate_left
            · intro w' hw'
              clear hw'
              go_simp
              try with_reducible rfl
            simp only [Act.put, List.setIfInBounds_toArray, List.set_cons_zero, List.set_cons_succ]
          refine GrB.walk_t ?_ (Or.inl ⟨by rfl, ?_⟩) ?_
          rotate_left
          · intro w' hw'
            have hpe := (HARG.out w' (HBF.out.trans hw')).2
            clear hw'
            go_simp
            try with_reducible rfl
          simp only [Act.put, List.setIfInBounds_toArray, List.set_cons_zero, List.set_cons_succ]
          refine GrB.walk_c (fun K hK => ?_)
          go_simp
          refine (tdrop_any s p q b wf HTF.out.t).mono ?_
          rintro e w4 ⟨rfl, ht4, hg4⟩
          have HT4 : Hid (Two w1 w4 s r p vs (tdrop p b q) b) := HTF.out.t' hg4 ht4
          have hbl4 := HTF.out.bel hg4
          clear ht4 hg4
          try go_simp
          refine hK.out _ _ (hbl4) ?_
          clear hK K
          clear hbl4
          refine GrB.walk_c (fun K hK => ?_)
          go_simp
          refine (rtdrop_any r p q vs b w4 HT4.out.r HI.out).mono ?_
          rintro e w5 ⟨rfl, vs5, ht5, hg5⟩
          have HT5 : Hid (Two w1 w5 s r p vs5 (tdrop p b q) (tdrop p b q)) := HT4.out.r' hg5 ht5
          have HI5 : Hid (TInv p (tdrop p b q)) := HI.out.drop q
          have hbl5 := HT4.out.rbel hg5
          clear ht5 hg5
          try go_simp
          refine hK.out _ _ (hbl5) ?_
          clear hK K
          clear hbl5
          refine GrB.walk_nil ?_
          generalize tdrop p b q = b5 at *
          generalize tdropB p b q = z at *
          have hq : (z != z) = false := by simp
          clear HT4 HTF HBF HT HI
          go_wp2
          go_roundw
          case rel => exact ⟨k + 1, b5, vs5, by omega, by go_num, HT5, HI5⟩
          case measure => simp [intOf]; omega
        | false =>
          have hpe := (HARG.out wr (Gr.below_of HT.out.ext)).2
          go_wp2_with fail
          refine (tsee_any s p q b wr HT.out.t).mono ?_
          rintro e w4 ⟨rfl, ht4, hg4⟩
          have HT4 : Hid (Two w1 w4 s r p vs (tsee p b q) b) := HT.out.t' hg4 ht4
          clear ht4 hg4 hpe hcell
          have hpe := (HARG.out w4 (Gr.below_of HT4.out.ext)).2
          obtain ⟨x, hx⟩ : ∃ x, tseeX p b q = x := ⟨_, rfl⟩
          obtain ⟨z, hz⟩ : ∃ z, tseeB p b q = z := ⟨_, rfl⟩
          rw [hx, hz]
          have HXX := Lib.hid hx
          have HZZ := Lib.hid hz
          clear hx hz
          go_wp2_with fail
          refine (rtsee_any r p q vs b w4 HT4.out.r HI.out).mono ?_
          rintro e w5 ⟨rfl, vs5, ht5, hg5⟩
          have HT5 : Hid (Two w1 w5 s r p vs5 (tsee p b q) (tsee p b q)) := HT4.out.r' hg5 ht5
          have HI5 : Hid (TInv p (tsee p b q)) := HI.out.see q
          rw [HXX.out, HZZ.out]
          clear ht5 hg5 hpe HXX HZZ
          generalize tsee p b q = b5 at *
          have hq : (z != z) = false := by simp
          have hq2 : (x != x) = false := by simp
          clear HT4 HT HI
          go_wp2
          go_roundw
          case rel => exact ⟨k + 1, b5, vs5, by omega, by go_num, HT5, HI5⟩
          case measure => simp [intOf]; omega
      · obtain rfl : k = ln := by omega
        obtain ⟨xk, hxk⟩ : ∃ x, KV kk = x := ⟨_, rfl⟩
        have HXK := Lib.hid hxk
        have HTN : Hid (∀ wz, wr.Extends wz → Calls Try.prog 16 #[.pointer (some ⟨s, 0, none⟩), xk, .int .i64 n] wz (IntsOut wz ((nearT kk b).take (cutN n)))) := fun wz hz => by rw [← hxk]; exact tnear_any s p b kk n wz (HT.out.t.ext hz) HI.out HK.out
        have HRN : Hid (∀ wz, wr.Extends wz → Calls Try.prog 17 #[.pointer (some ⟨r, 0, none⟩), xk, .int .i64 n] wz (IntsOut wz ((nearT kk b).take (cutN n)))) := fun wz hz => by rw [← hxk]; exact rtnear_any r p vs b kk n wz (HT.out.r.ext hz) HI.out HK.out
        have HTA : Hid (∀ wz, wr.Extends wz → Calls Try.prog 14 #[.pointer (some ⟨s, 0, none⟩)] wz (IntsOut wz (allT b))) := fun wz hz => tall_any s p b wz (HT.out.t.ext hz)
        have HRA : Hid (∀ wz, wr.Extends wz → Calls Try.prog 15 #[.pointer (some ⟨r, 0, none⟩)] wz (IntsOut wz (allT b))) := fun wz hz => rall_any r p vs b wz (HT.out.r.ext hz) HI.out
        have HKW : Hid (∀ wz, wr.Extends wz → KAt wz s0 kk) := fun wz hz => (HKA1.out.ext HT.out.ext).ext hz
        have HXW : Hid (w.Extends wr) := Gr.ext_trans HX1.out HT.out.ext
        generalize (nearT kk b).take (cutN n) = ne at *
        generalize allT b = al at *
        unfold IntsOut at HTN HRN HTA HRA
        clear hxk HT HI hkn
        go_upto_region 18 with fail
        refine Gr.region 16 [(false,0),(false,2),(true,1),(true,3),(true,4),(false,5),(false,6),(false,7),(false,8),(false,10),(false,11),(false,12),(true,9),(true,13),(true,14),(false,15)] (by kernel_rfl) (by kernel_rfl) (fun d _ _ _ _ h => by cases d <;> exact h) ?_
        simp only [Gr.pick, List.getElem?_cons_zero, List.getElem?_cons_succ, List.drop_succ_cons, List.drop_zero]
        generalize hwd1 : wr.drew = wd
        have HD0 : Hid (wr.Extends wd) := by rw [← hwd1]; exact Gr.ext_drew (Gr.ext_refl _)
        clear hwd1
        iterate 2
          refine Gr.walk_t ?_ (Or.inl ⟨by rfl, ?_⟩) ?_
          rotate_left
          · intro w' hw'
            clear hw'
            go_simp
            try with_reducible rfl
          simp only [Act.put, List.setIfInBounds_toArray, List.set_cons_zero, List.set_cons_succ]
        refine Gr.walk_c (fun K hK => ?_)
        go_simp
        refine (HTA.out wd HD0.out).mono ?_
        rintro e w4 ⟨u4, rfl, hx4, hu4⟩
        have HD4 := Lib.hid (Gr.ext_trans HD0.out hx4)
        have HU4 := Lib.hid hu4
        clear hu4
        try go_simp
        refine hK.out _ _ (hx4) ?_
        clear hK K
        clear hx4
        refine Gr.walk_c (fun K hK => ?_)
        go_simp
        refine (HRA.out w4 HD4.out).mono ?_
        rintro e w5 ⟨u5, rfl, hx5, hu5⟩
        have HD5 := Lib.hid (Gr.ext_trans HD4.out hx5)
        have HU5 := Lib.hid hu5
        have HU4' := Lib.hid (HU4.out.ext hx5)
        clear hu5
        try go_simp
        refine hK.out _ _ (hx5) ?_
        clear hK K
        clear hx5
        refine Gr.walk_c (fun K hK => ?_)
        go_simp
        refine (tsame_any u4 u5 al w5 HU4'.out HU5.out).mono ?_
        rintro e w6 ⟨rfl, hx6⟩
        have HD6 := Lib.hid (Gr.ext_trans HD5.out hx6)
        try go_simp
        refine hK.out _ _ (hx6) ?_
        clear hK K
        clear hx6
        iterate 2
          refine Gr.walk_t ?_ (Or.inl ⟨by rfl, ?_⟩) ?_
          rotate_left
          · intro w' hw'
            clear hw'
            go_simp
            try with_reducible rfl
          simp only [Act.put, List.setIfInBounds_toArray, List.set_cons_zero, List.set_cons_succ]
        refine Gr.walk_t _ (Or.inl ⟨by rfl, fun w' hw' => key_yields ((HKW.out _ HD6.out).ext hw') HLK.out (by rfl) (by rfl) (by exact HXK.out)⟩) ?_
        simp only [Act.put, List.setIfInBounds_toArray, List.set_cons_zero, List.set_cons_succ]
        iterate 2
          refine Gr.walk_t ?_ (Or.inl ⟨by rfl, ?_⟩) ?_
          rotate_left
          · intro w' hw'
            clear hw'
            go_simp
            try with_reducible rfl
          simp only [Act.put, List.setIfInBounds_toArray, List.set_cons_zero, List.set_cons_succ]
        refine Gr.walk_t _ (Or.inl ⟨by rfl, fun w' hw' => key_yields ((HKW.out _ HD6.out).ext hw') HLK.out (by rfl) (by rfl) (by exact HXK.out)⟩) ?_
        simp only [Act.put, List.setIfInBounds_toArray, List.set_cons_zero, List.set_cons_succ]
        refine Gr.walk_t ?_ (Or.inl ⟨by rfl, ?_⟩) ?_
        rotate_left
        · intro w' hw'
          clear hw'
          go_simp
          try with_reducible rfl
        simp only [Act.put, List.setIfInBounds_toArray, List.set_cons_zero, List.set_cons_succ]
        refine Gr.walk_c (fun K hK => ?_)
        go_simp
        refine (HTN.out w6 HD6.out).mono ?_
        rintro e w7 ⟨u7, rfl, hx7, hu7⟩
        have HD7 := Lib.hid (Gr.ext_trans HD6.out hx7)
        have HU7 := Lib.hid hu7
        clear hu7
        try go_simp
        refine hK.out _ _ (hx7) ?_
        clear hK K
        clear hx7
        refine Gr.walk_c (fun K hK => ?_)
        go_simp
        refine (HRN.out w7 HD7.out).mono ?_
        rintro e w8 ⟨u8, rfl, hx8, hu8⟩
        have HD8 := Lib.hid (Gr.ext_trans HD7.out hx8)
        have HU8 := Lib.hid hu8
        have HU7' := Lib.hid (HU7.out.ext hx8)
        clear hu8
        try go_simp
        refine hK.out _ _ (hx8) ?_
        clear hK K
        clear hx8
        refine Gr.walk_c (fun K hK => ?_)
        go_simp
        refine (tsame_any u7 u8 ne w8 HU7'.out HU8.out).mono ?_
        rintro e w9 ⟨rfl, hx9⟩
        have HD9 := Lib.hid (Gr.ext_trans HD8.out hx9)
        try go_simp
        refine hK.out _ _ (hx9) ?_
        clear hK K
        clear hx9
        refine Gr.walk_t ?_ (Or.inl ⟨by rfl, ?_⟩) ?_
        rotate_left
        · intro w' hw'
          clear hw'
          go_simp
          try with_reducible rfl
        simp only [Act.put, List.setIfInBounds_toArray, List.set_cons_zero, List.set_cons_succ]
        refine Gr.walk_nil ?_
        have HP : Hid (Below w.heap.size w w9) := Gr.below_of (Gr.ext_trans HXW.out HD9.out)
        go_wp2
        go_ret
        exact ⟨rfl, HP.out⟩
end Go.Proofs.Ytffcjnabhblbaaa
