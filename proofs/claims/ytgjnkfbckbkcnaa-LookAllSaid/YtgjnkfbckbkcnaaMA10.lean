/- In one text: LokRNext, LokTwo, LokPlaysW. -/
import Derived.Test.YtgjnkfbckbkcnaaMA2
import Derived.Test.YtgjnkfbckbkcnaaMA4
import Derived.Test.YtgjnkfbckbkcnaaMA8
import Derived.Test.YtgjnkfbckbkcnaaMA9
namespace Go.Proofs.Ytgjnkfbckbkcnaa
set_option maxRecDepth 20000
open Go.RowKit Go.Deep
set_option linter.unusedVariables false
namespace Lk
variable {s : Lk} {k : Nat} {p y : Int}
theorem Left0.skip (h : Left0 s k) (hy : s.known[k]? = some y) (ha : y ∈ s.asked) : Left0 s (k + 1) := fun i z hi hz => by
  by_cases e : i = k
  · subst e; rw [hy] at hz; rw [← Option.some.inj hz]; exact ha
  · exact h i z (by omega) hz
theorem Left0.first (h : Left0 s k) (hy : s.known[k]? = some y) (ha : y ∉ s.asked) : Best s (k + 1) y := by
  refine ⟨k, by omega, hy, ha, fun i z hi hz hn => ?_⟩
  by_cases e : i = k
  · subst e; rw [hy] at hz; rw [← Option.some.inj hz]; exact ⟨KY.lt_self _, fun h => absurd h (Nat.lt_irrefl _)⟩
  · exact absurd (h i z (by omega) hz) hn
theorem Best.skip (h : Best s k p) (hy : s.known[k]? = some y) (ha : y ∈ s.asked) : Best s (k + 1) p := by
  obtain ⟨j, hj, h1, h2, h3⟩ := h
  refine ⟨j, by omega, h1, h2, fun i z hi hz hn => ?_⟩
  by_cases e : i = k
  · subst e; rw [hy] at hz; rw [← Option.some.inj hz] at hn; exact absurd ha hn
  · exact h3 i z (by omega) hz hn
theorem Best.keep (h : Best s k p) (hy : s.known[k]? = some y) (hq : KY.lt (far s.k y) (far s.k p) = false) : Best s (k + 1) p := by
  obtain ⟨j, hj, h1, h2, h3⟩ := h
  refine ⟨j, by omega, h1, h2, fun i z hi hz hn => ?_⟩
  by_cases e : i = k
  · subst e; rw [hy] at hz; rw [← Option.some.inj hz]; exact ⟨hq, fun h => by omega⟩
  · exact h3 i z (by omega) hz hn
theorem Best.turn (hk : KY.Ok s.k) (h : Best s k p) (hy : s.known[k]? = some y) (ha : y ∉ s.asked) (hq : KY.lt (far s.k y) (far s.k p) = true) : Best s (k + 1) y := by
  obtain ⟨j, hj, h1, h2, h3⟩ := h
  refine ⟨k, by omega, hy, ha, fun i z hi hz hn => ?_⟩
  by_cases e : i = k
  · subst e; rw [hy] at hz; rw [← Option.some.inj hz]; exact ⟨KY.lt_self _, fun h => absurd h (Nat.lt_irrefl _)⟩
  · have h4 := (h3 i z (by omega) hz hn).1
    have hlt : KY.lt (far s.k y) (far s.k z) = true := by
      by_cases e2 : far s.k z = far s.k p
      · rw [e2]; exact hq
      · exact KY.lt_trans _ _ _ hq (lt_tot (far_ok hk z).1 (far_ok hk p).1 h4 e2)
    exact ⟨lt_asym (far_ok hk y).1 (far_ok hk z).1 hlt, fun _ => hlt⟩
/-- What the loop has found among the first k. -/
def Found (s : Lk) (k : Nat) (b : Int) : Prop := (b = -1 ∧ Left0 s k) ∨ (0 ≤ b ∧ Best s k b)
end Lk
def RNextOut (t : Nat) (D : Nat → Prop) (s : Lk) (w : World) (e : Ending) (w' : World) : Prop :=
  (s.Left0 s.known.length ∧ e = .returned (.tuple #[.int .i64 0, .bool false]) ∧ w.Extends w') ∨
  ∃ p, s.Best s.known.length p ∧ e = .returned (.tuple #[.int .i64 p, .bool true]) ∧ Fr D w w' ∧ RLAt w' t (Nx D w w') (s.asks p)
set_option maxHeartbeats 8000000 in
theorem rlnext_any (t : Nat) (D : Nat → Prop) (s : Lk) (w : World) (h : RLAt w t D s) :
    Calls Try.prog 10 #[.pointer (some ⟨t, 0, none⟩)] w (RNextOut t D s w) := by
  obtain ⟨kn, ak, op, hX, hin⟩ := h
  have HX := Lib.hid hX
  have HIN := Lib.hid hin
  have HK := Lib.hid hX.inv.k
  have HKL := Lib.hid hX.kl
  obtain ⟨ka, kc, hkn⟩ := hX.known.slice
  obtain ⟨n, hn⟩ : ∃ n, s.known.length = n := ⟨_, rfl⟩
  have hnb : n ≤ 8000 := by rw [← hn]; exact hX.len
  rw [hn] at hkn
  subst hkn
  have HCL : Hid (∀ w', w.Extends w' → w'.cell? ⟨t, 21, none⟩ = some (.slice ka n kc) ∧ w'.cell? ⟨t, 22, none⟩ = some ak ∧ w'.cell? ⟨t, 23, none⟩ = some op) := fun w' hx => (hX.ext hx).cells.2
  have HKEY : Hid (∀ w', w.Extends w' → w'.rangeAt t 0 (KC s.k).toList) := fun w' hx => (hX.ext hx).key
  have HHAS : Hid (∀ w' y, w.Extends w' → Calls Try.prog 20 #[ak, .int .i64 y] w' fun e w2 => e = .returned (.bool (decide (y ∈ s.asked))) ∧ w2 = w') := fun w' y hx => has_any ak s.asked y w' (hX.ext hx).asked.ints
  have HNR : Hid (∀ w' a b, Calls Try.prog 24 #[KV s.k, .int .i64 a, .int .i64 b] w' fun e w2 => e = .returned (.bool (KY.lt (far s.k a) (far s.k b))) ∧ w'.Extends w2) := fun w' a b => rnear1_any s.k a b w' hX.inv.k
  have HV := Lib.hid hX.known.ints.cell.2
  have HN := Lib.hid hn
  have HPOS : Hid (∀ k, k < n → s.known[k]? = some (s.known.getD k 0) ∧ 0 ≤ s.known.getD k 0) := fun k hk => by
    have hl : k < s.known.length := by omega
    rw [List.getD_eq_getElem?_getD, List.getElem?_eq_getElem hl]
    exact ⟨rfl, (hX.inv.range _ (List.getElem_mem hl)).1⟩
  obtain ⟨xk, hxk⟩ : ∃ x, KV s.k = x := ⟨_, rfl⟩
  have HXK := Lib.hid hxk
  rw [hxk] at HNR
  clear hX hin hn hxk
  go_enter Try.func10, Try.ntmps10
  go_wp2_with fail
  go_loopw [4, 5] (fun s4 s5 wr => ∃ (k : Nat) (b : Int), k ≤ n ∧ s5 = .int .i64 k ∧ s4 = .int .i64 b ∧ Hid (w.Extends wr) ∧ Hid (s.Found k b)) (fun _ s5 _ => (n - intOf s5).toNat)
  case atStart => exact ⟨0, -1, by omega, rfl, rfl, Gr.ext_refl _, .inl ⟨rfl, fun i y hi => absurd hi (Nat.not_lt_zero _)⟩⟩
  case round =>
    obtain ⟨k, b, hk, rfl, rfl, HXR, HFD⟩ := hrel
    have hc0 := (HCL.out wr HXR.out).1
    by_cases h1 : k < n
    · obtain ⟨b1, o1, rfl, hb1, hc1⟩ := HV.out (by omega)
      have HCM : Hid (∀ w', w.Extends w' → w'.cell? ⟨b1, o1 + k, none⟩ = some (.int .i64 (s.known.getD k 0))) := fun w' hx => hx.cell_of (hc1 k h1)
      obtain ⟨hy1, hy2⟩ := HPOS.out k h1
      have HH := Lib.hid (fun w' hx => HHAS.out w' (s.known.getD k 0) hx)
      have HNB := Lib.hid (fun w' => HNR.out w' (s.known.getD k 0) b)
      generalize s.known.getD k 0 = y at *
      have HY1 := Lib.hid hy1
      have HY2 := Lib.hid hy2
      clear hc1 hb1 hy1 hy2
      go_wp2_with fail
      by_cases h2 : y ∈ s.asked
      · rw [decide_eq_true h2] at HH
        have HFN : Hid (s.Found (k + 1) b) := by
          rcases HFD.out with ⟨e, h⟩ | ⟨e, h⟩
          · exact .inl ⟨e, h.skip HY1.out h2⟩
          · exact .inr ⟨e, h.skip HY1.out h2⟩
        clear h2 HFD HNB HNR HHAS HY1 HY2 HPOS
        refine Gr.region 31 [(false,0),(false,1),(false,2),(false,3),(false,4),(false,5),(false,6),(false,7),(false,8),(false,9),(false,10),(true,11),(false,12),(false,13),(false,14),(false,15),(false,16),(false,17),(false,18),(false,19),(false,20),(false,21),(false,22),(false,23),(false,24),(false,25),(false,26),(false,27),(false,28),(true,29),(false,30)] (by kernel_rfl) (by kernel_rfl) (fun d _ _ _ _ h => by cases d <;> exact h) ?_
        simp only [Gr.pick, List.getElem?_cons_zero, List.getElem?_cons_succ, List.drop_succ_cons, List.drop_zero]
        generalize hwd : wr.drew = wd at *
        have HXD : Hid (w.Extends wd) := by rw [← hwd]; exact Gr.ext_drew HXR.out
        clear hwd
        iterate 3
          refine Gr.walk_t ?_ (Or.inl ⟨by rfl, ?_⟩) ?_
          rotate_left
          · intro w' hw'
            clear hw'
            go_simp
            try with_reducible rfl
          simp only [Act.put, List.setIfInBounds_toArray, List.set_cons_zero, List.set_cons_succ]
        refine Gr.walk_t ?_ (Or.inl ⟨by rfl, ?_⟩) ?_
        rotate_left
        · intro w' hw'
          have hc := (HCL.out w' (Gr.ext_trans HXD.out hw')).2.1
          clear hw'
          go_simp
          try with_reducible rfl
        simp only [Act.put, List.setIfInBounds_toArray, List.set_cons_zero, List.set_cons_succ]
        iterate 3
          refine Gr.walk_t ?_ (Or.inl ⟨by rfl, ?_⟩) ?_
          rotate_left
          · intro w' hw'
            clear hw'
            go_simp
            try with_reducible rfl
          simp only [Act.put, List.setIfInBounds_toArray, List.set_cons_zero, List.set_cons_succ]
        refine Gr.walk_t ?_ (Or.inl ⟨by rfl, ?_⟩) ?_
        rotate_left
        · intro w' hw'
          have hc := (HCL.out w' (Gr.ext_trans HXD.out hw')).1
          clear hw'
          go_simp
          try with_reducible rfl
        simp only [Act.put, List.setIfInBounds_toArray, List.set_cons_zero, List.set_cons_succ]
        iterate 2
          refine Gr.walk_t ?_ (Or.inl ⟨by rfl, ?_⟩) ?_
          rotate_left
          · intro w' hw'
            clear hw'
            go_simp
            try with_reducible rfl
          simp only [Act.put, List.setIfInBounds_toArray, List.set_cons_zero, List.set_cons_succ]
        refine Gr.walk_t ?_ (Or.inl ⟨by rfl, ?_⟩) ?_
        rotate_left
        · intro w' hw'
          have hc := HCM.out w' (Gr.ext_trans HXD.out hw')
          clear hw'
          go_simp
          try with_reducible rfl
        simp only [Act.put, List.setIfInBounds_toArray, List.set_cons_zero, List.set_cons_succ]
        refine Gr.walk_c (fun K hK => ?_)
        go_simp
        refine (HH.out wd HXD.out).mono ?_
        rintro e w2 ⟨rfl, rfl⟩
        try go_simp
        refine hK.out _ _ ((Gr.ext_refl _)) ?_
        clear hK K
        iterate 2
          refine Gr.walk_t ?_ (Or.inl ⟨by rfl, ?_⟩) ?_
          rotate_left
          · intro w' hw'
            clear hw'
            go_simp
            try with_reducible rfl
          simp only [Act.put, List.setIfInBounds_toArray, List.set_cons_zero, List.set_cons_succ]
        refine Gr.walk_t _ (Or.inr ⟨by rfl, rfl⟩) ?_
        simp only [Act.put, List.setIfInBounds_toArray, List.set_cons_zero, List.set_cons_succ]
        refine Gr.walk_t _ (Or.inr ⟨by rfl, rfl⟩) ?_
        simp only [Act.put, List.setIfInBounds_toArray, List.set_cons_zero, List.set_cons_succ]
        refine Gr.walk_t _ (Or.inr ⟨by rfl, rfl⟩) ?_
        simp only [Act.put, List.setIfInBounds_toArray, List.set_cons_zero, List.set_cons_succ]
        refine Gr.walk_t _ (Or.inr ⟨by rfl, rfl⟩) ?_
        simp only [Act.put, List.setIfInBounds_toArray, List.set_cons_zero, List.set_cons_succ]
        refine Gr.walk_t _ (Or.inr ⟨by rfl, rfl⟩) ?_
        simp only [Act.put, List.setIfInBounds_toArray, List.set_cons_zero, List.set_cons_succ]
        refine Gr.walk_t _ (Or.inr ⟨by rfl, rfl⟩) ?_
        simp only [Act.put, List.setIfInBounds_toArray, List.set_cons_zero, List.set_cons_succ]
        refine Gr.walk_t _ (Or.inr ⟨by rfl, rfl⟩) ?_
        simp only [Act.put, List.setIfInBounds_toArray, List.set_cons_zero, List.set_cons_succ]
        refine Gr.walk_t _ (Or.inr ⟨by rfl, rfl⟩) ?_
        simp only [Act.put, List.setIfInBounds_toArray, List.set_cons_zero, List.set_cons_succ]
        refine Gr.walk_t _ (Or.inr ⟨by rfl, rfl⟩) ?_
        simp only [Act.put, List.setIfInBounds_toArray, List.set_cons_zero, List.set_cons_succ]
        refine Gr.walk_t _ (Or.inr ⟨by rfl, rfl⟩) ?_
        simp only [Act.put, List.setIfInBounds_toArray, List.set_cons_zero, List.set_cons_succ]
        refine Gr.walk_t _ (Or.inr ⟨by rfl, rfl⟩) ?_
        simp only [Act.put, List.setIfInBounds_toArray, List.set_cons_zero, List.set_cons_succ]
        refine Gr.walk_t _ (Or.inr ⟨by rfl, rfl⟩) ?_
        simp only [Act.put, List.setIfInBounds_toArray, List.set_cons_zero, List.set_cons_succ]
        refine Gr.walk_t _ (Or.inr ⟨by rfl, rfl⟩) ?_
        simp only [Act.put, List.setIfInBounds_toArray, List.set_cons_zero, List.set_cons_succ]
        refine Gr.walk_t _ (Or.inr ⟨by rfl, rfl⟩) ?_
        simp only [Act.put, List.setIfInBounds_toArray, List.set_cons_zero, List.set_cons_succ]
        refine Gr.walk_t _ (Or.inr ⟨by rfl, rfl⟩) ?_
        simp only [Act.put, List.setIfInBounds_toArray, List.set_cons_zero, List.set_cons_succ]
        refine Gr.walk_c (fun K hK => ?_)
        rw [if_neg (by intro h; cases h)]
        refine hK.out _ _ (Gr.ext_refl _) ?_
        clear hK K
        simp only [Act.put, List.setIfInBounds_toArray, List.set_cons_zero, List.set_cons_succ]
        refine Gr.walk_t _ (Or.inr ⟨by rfl, rfl⟩) ?_
        simp only [Act.put, List.setIfInBounds_toArray, List.set_cons_zero, List.set_cons_succ]
        refine Gr.walk_nil ?_
        clear HH HCM HCL HKEY
        go_wp2
        go_roundw
        case rel => exact ⟨k + 1, b, by omega, by go_num, rfl, HXD.out, HFN.out⟩
        case measure => simp [intOf]; omega
      · rw [decide_eq_false h2] at HH
        rcases HFD.out with ⟨rfl, hL⟩ | ⟨hb0, hB⟩
        · have HFN : Hid (s.Found (k + 1) y) := .inr ⟨HY2.out, hL.first HY1.out h2⟩
          clear h2 hL HFD HNB HNR HHAS HY1 HY2 HPOS
          refine Gr.region 31 [(false,0),(false,1),(false,2),(false,3),(false,4),(false,5),(false,6),(false,7),(false,8),(false,9),(false,10),(true,11),(false,12),(false,13),(false,14),(false,15),(false,16),(false,17),(false,18),(false,19),(false,20),(false,21),(false,22),(false,23),(false,24),(false,25),(false,26),(false,27),(false,28),(true,29),(false,30)] (by kernel_rfl) (by kernel_rfl) (fun d _ _ _ _ h => by cases d <;> exact h) ?_
          simp only [Gr.pick, List.getElem?_cons_zero, List.getElem?_cons_succ, List.drop_succ_cons, List.drop_zero]
          generalize hwd : wr.drew = wd at *
          have HXD : Hid (w.Extends wd) := by rw [← hwd]; exact Gr.ext_drew HXR.out
          clear hwd
          iterate 3
            refine Gr.walk_t ?_ (Or.inl ⟨by rfl, ?_⟩) ?_
            rotate_left
            · intro w' hw'
              clear hw'
              go_simp
              try with_reducible rfl
            simp only [Act.put, List.setIfInBounds_toArray, List.set_cons_zero, List.set_cons_succ]
          refine Gr.walk_t ?_ (Or.inl ⟨by rfl, ?_⟩) ?_
          rotate_left
          · intro w' hw'
            have hc := (HCL.out w' (Gr.ext_trans HXD.out hw')).2.1
            clear hw'
            go_simp
            try with_reducible rfl
          simp only [Act.put, List.setIfInBounds_toArray, List.set_cons_zero, List.set_cons_succ]
          iterate 3
            refine Gr.walk_t ?_ (Or.inl ⟨by rfl, ?_⟩) ?_
            rotate_left
            · intro w' hw'
              clear hw'
              go_simp
              try with_reducible rfl
            simp only [Act.put, List.setIfInBounds_toArray, List.set_cons_zero, List.set_cons_succ]
          refine Gr.walk_t ?_ (Or.inl ⟨by rfl, ?_⟩) ?_
          rotate_left
          · intro w' hw'
            have hc := (HCL.out w' (Gr.ext_trans HXD.out hw')).1
            clear hw'
            go_simp
            try with_reducible rfl
          simp only [Act.put, List.setIfInBounds_toArray, List.set_cons_zero, List.set_cons_succ]
          iterate 2
            refine Gr.walk_t ?_ (Or.inl ⟨by rfl, ?_⟩) ?_
            rotate_left
            · intro w' hw'
              clear hw'
              go_simp
              try with_reducible rfl
            simp only [Act.put, List.setIfInBounds_toArray, List.set_cons_zero, List.set_cons_succ]
          refine Gr.walk_t ?_ (Or.inl ⟨by rfl, ?_⟩) ?_
          rotate_left
          · intro w' hw'
            have hc := HCM.out w' (Gr.ext_trans HXD.out hw')
            clear hw'
            go_simp
            try with_reducible rfl
          simp only [Act.put, List.setIfInBounds_toArray, List.set_cons_zero, List.set_cons_succ]
          refine Gr.walk_c (fun K hK => ?_)
          go_simp
          refine (HH.out wd HXD.out).mono ?_
          rintro e w2 ⟨rfl, rfl⟩
          try go_simp
          refine hK.out _ _ ((Gr.ext_refl _)) ?_
          clear hK K
          iterate 5
            refine Gr.walk_t ?_ (Or.inl ⟨by rfl, ?_⟩) ?_
            rotate_left
            · intro w' hw'
              clear hw'
              go_simp
              try with_reducible rfl
            simp only [Act.put, List.setIfInBounds_toArray, List.set_cons_zero, List.set_cons_succ]
          refine Gr.walk_t _ (Or.inr ⟨by rfl, rfl⟩) ?_
          simp only [Act.put, List.setIfInBounds_toArray, List.set_cons_zero, List.set_cons_succ]
          refine Gr.walk_t _ (Or.inr ⟨by rfl, rfl⟩) ?_
          simp only [Act.put, List.setIfInBounds_toArray, List.set_cons_zero, List.set_cons_succ]
          refine Gr.walk_t _ (Or.inr ⟨by rfl, rfl⟩) ?_
          simp only [Act.put, List.setIfInBounds_toArray, List.set_cons_zero, List.set_cons_succ]
          refine Gr.walk_t _ (Or.inr ⟨by rfl, rfl⟩) ?_
          simp only [Act.put, List.setIfInBounds_toArray, List.set_cons_zero, List.set_cons_succ]
          refine Gr.walk_t _ (Or.inr ⟨by rfl, rfl⟩) ?_
          simp only [Act.put, List.setIfInBounds_toArray, List.set_cons_zero, List.set_cons_succ]
          refine Gr.walk_t _ (Or.inr ⟨by rfl, rfl⟩) ?_
          simp only [Act.put, List.setIfInBounds_toArray, List.set_cons_zero, List.set_cons_succ]
          refine Gr.walk_t _ (Or.inr ⟨by rfl, rfl⟩) ?_
          simp only [Act.put, List.setIfInBounds_toArray, List.set_cons_zero, List.set_cons_succ]
          refine Gr.walk_t _ (Or.inr ⟨by rfl, rfl⟩) ?_
          simp only [Act.put, List.setIfInBounds_toArray, List.set_cons_zero, List.set_cons_succ]
          refine Gr.walk_t _ (Or.inr ⟨by rfl, rfl⟩) ?_
          simp only [Act.put, List.setIfInBounds_toArray, List.set_cons_zero, List.set_cons_succ]
          refine Gr.walk_t _ (Or.inr ⟨by rfl, rfl⟩) ?_
          simp only [Act.put, List.setIfInBounds_toArray, List.set_cons_zero, List.set_cons_succ]
          refine Gr.walk_t _ (Or.inr ⟨by rfl, rfl⟩) ?_
          simp only [Act.put, List.setIfInBounds_toArray, List.set_cons_zero, List.set_cons_succ]
          refine Gr.walk_t _ (Or.inr ⟨by rfl, rfl⟩) ?_
          simp only [Act.put, List.setIfInBounds_toArray, List.set_cons_zero, List.set_cons_succ]
          refine Gr.walk_c (fun K hK => ?_)
          rw [if_neg (by intro h; cases h)]
          refine hK.out _ _ (Gr.ext_refl _) ?_
          clear hK K
          simp only [Act.put, List.setIfInBounds_toArray, List.set_cons_zero, List.set_cons_succ]
          refine Gr.walk_t ?_ (Or.inl ⟨by rfl, ?_⟩) ?_
          rotate_left
          · intro w' hw'
            clear hw'
            go_simp
            try with_reducible rfl
          simp only [Act.put, List.setIfInBounds_toArray, List.set_cons_zero, List.set_cons_succ]
          refine Gr.walk_nil ?_
          have hc5 := (HCL.out w2 HXD.out).1
          have hc6 := HCM.out w2 HXD.out
          clear HH HCM HCL HKEY
          go_wp2
          go_roundw
          case rel => exact ⟨k + 1, y, by omega, by go_num, rfl, HXD.out, HFN.out⟩
          case measure => simp [intOf]; omega
        · have HT : Hid (KY.lt (far s.k y) (far s.k b) = true → s.Found (k + 1) y) := fun hq => .inr ⟨HY2.out, hB.turn HK.out HY1.out h2 hq⟩
          have HF : Hid (KY.lt (far s.k y) (far s.k b) = false → s.Found (k + 1) b) := fun hq => .inr ⟨hb0, hB.keep HY1.out hq⟩
          have h7 : decide (b < 0) = false := by rw [decide_eq_false_iff_not]; omega
          generalize KY.lt (far s.k y) (far s.k b) = q at *
          clear h2 hB HFD HNR HHAS HY1 HY2 HPOS hb0
          refine Gr.region 31 [(false,0),(false,1),(false,2),(false,3),(false,4),(false,5),(false,6),(false,7),(false,8),(false,9),(false,10),(true,11),(false,12),(false,13),(false,14),(false,15),(false,16),(false,17),(false,18),(false,19),(false,20),(false,21),(false,22),(false,23),(false,24),(false,25),(false,26),(false,27),(false,28),(true,29),(false,30)] (by kernel_rfl) (by kernel_rfl) (fun d _ _ _ _ h => by cases d <;> exact h) ?_
          simp only [Gr.pick, List.getElem?_cons_zero, List.getElem?_cons_succ, List.drop_succ_cons, List.drop_zero]
          generalize hwd : wr.drew = wd at *
          have HXD : Hid (w.Extends wd) := by rw [← hwd]; exact Gr.ext_drew HXR.out
          clear hwd
          iterate 3
            refine Gr.walk_t ?_ (Or.inl ⟨by rfl, ?_⟩) ?_
            rotate_left
            · intro w' hw'
              clear hw'
              go_simp
              try with_reducible rfl
            simp only [Act.put, List.setIfInBounds_toArray, List.set_cons_zero, List.set_cons_succ]
          refine Gr.walk_t ?_ (Or.inl ⟨by rfl, ?_⟩) ?_
          rotate_left
          · intro w' hw'
            have hc := (HCL.out w' (Gr.ext_trans HXD.out hw')).2.1
            clear hw'
            go_simp
            try with_reducible rfl
          simp only [Act.put, List.setIfInBounds_toArray, List.set_cons_zero, List.set_cons_succ]
          iterate 3
            refine Gr.walk_t ?_ (Or.inl ⟨by rfl, ?_⟩) ?_
            rotate_left
            · intro w' hw'
              clear hw'
              go_simp
              try with_reducible rfl
            simp only [Act.put, List.setIfInBounds_toArray, List.set_cons_zero, List.set_cons_succ]
          refine Gr.walk_t ?_ (Or.inl ⟨by rfl, ?_⟩) ?_
          rotate_left
          · intro w' hw'
            have hc := (HCL.out w' (Gr.ext_trans HXD.out hw')).1
            clear hw'
            go_simp
            try with_reducible rfl
          simp only [Act.put, List.setIfInBounds_toArray, List.set_cons_zero, List.set_cons_succ]
          iterate 2
            refine Gr.walk_t ?_ (Or.inl ⟨by rfl, ?_⟩) ?_
            rotate_left
            · intro w' hw'
              clear hw'
              go_simp
              try with_reducible rfl
            simp only [Act.put, List.setIfInBounds_toArray, List.set_cons_zero, List.set_cons_succ]
          refine Gr.walk_t ?_ (Or.inl ⟨by rfl, ?_⟩) ?_
          rotate_left
          · intro w' hw'
            have hc := HCM.out w' (Gr.ext_trans HXD.out hw')
            clear hw'
            go_simp
            try with_reducible rfl
          simp only [Act.put, List.setIfInBounds_toArray, List.set_cons_zero, List.set_cons_succ]
          refine Gr.walk_c (fun K hK => ?_)
          go_simp
          refine (HH.out wd HXD.out).mono ?_
          rintro e w2 ⟨rfl, rfl⟩
          try go_simp
          refine hK.out _ _ ((Gr.ext_refl _)) ?_
          clear hK K
          iterate 8
            refine Gr.walk_t ?_ (Or.inl ⟨by rfl, ?_⟩) ?_
            rotate_left
            · intro w' hw'
              clear hw'
              go_simp
              try with_reducible rfl
            simp only [Act.put, List.setIfInBounds_toArray, List.set_cons_zero, List.set_cons_succ]
          refine Gr.walk_t _ (Or.inl ⟨by rfl, fun w' hw' => dist_yields HKL.out (HKEY.out w' (Gr.ext_trans HXD.out hw')) (by rfl) (by rfl) (by exact HXK.out)⟩) ?_
          simp only [Act.put, List.setIfInBounds_toArray, List.set_cons_zero, List.set_cons_succ]
          iterate 3
            refine Gr.walk_t ?_ (Or.inl ⟨by rfl, ?_⟩) ?_
            rotate_left
            · intro w' hw'
              clear hw'
              go_simp
              try with_reducible rfl
            simp only [Act.put, List.setIfInBounds_toArray, List.set_cons_zero, List.set_cons_succ]
          refine Gr.walk_t ?_ (Or.inl ⟨by rfl, ?_⟩) ?_
          rotate_left
          · intro w' hw'
            have hc := (HCL.out w' (Gr.ext_trans HXD.out hw')).1
            clear hw'
            go_simp
            try with_reducible rfl
          simp only [Act.put, List.setIfInBounds_toArray, List.set_cons_zero, List.set_cons_succ]
          iterate 2
            refine Gr.walk_t ?_ (Or.inl ⟨by rfl, ?_⟩) ?_
            rotate_left
            · intro w' hw'
              clear hw'
              go_simp
              try with_reducible rfl
            simp only [Act.put, List.setIfInBounds_toArray, List.set_cons_zero, List.set_cons_succ]
          refine Gr.walk_t ?_ (Or.inl ⟨by rfl, ?_⟩) ?_
          rotate_left
          · intro w' hw'
            have hc := HCM.out w' (Gr.ext_trans HXD.out hw')
            clear hw'
            go_simp
            try with_reducible rfl
          simp only [Act.put, List.setIfInBounds_toArray, List.set_cons_zero, List.set_cons_succ]
          refine Gr.walk_t ?_ (Or.inl ⟨by rfl, ?_⟩) ?_
          rotate_left
          · intro w' hw'
            clear hw'
            go_simp
            try with_reducible rfl
          simp only [Act.put, List.setIfInBounds_toArray, List.set_cons_zero, List.set_cons_succ]
          refine Gr.walk_c (fun K hK => ?_)
          go_simp
          refine (HNB.out w2).mono ?_
          rintro e w3 ⟨rfl, hx3⟩
          try go_simp
          refine hK.out _ _ (hx3) ?_
          clear hK K
          refine Gr.walk_t ?_ (Or.inl ⟨by rfl, ?_⟩) ?_
          rotate_left
          · intro w' hw'
            clear hw'
            go_simp
            try with_reducible rfl
          simp only [Act.put, List.setIfInBounds_toArray, List.set_cons_zero, List.set_cons_succ]
          refine Gr.walk_nil ?_
          have HX3 := Lib.hid (Gr.ext_trans HXD.out hx3)
          have hc5 := (HCL.out w3 HX3.out).1
          have hc6 := HCM.out w3 HX3.out
          clear hx3 HNB HH HCM HCL HKEY
          cases q
          · go_wp2
            go_roundw
            case rel => exact ⟨k + 1, b, by omega, by go_num, rfl, HX3.out, HF.out (by simp)⟩
            case measure => simp [intOf]; omega
          · go_wp2
            go_roundw
            case rel => exact ⟨k + 1, y, by omega, by go_num, rfl, HX3.out, HT.out (by simp)⟩
            case measure => simp [intOf]; omega
    · obtain rfl : k = n := by omega
      rcases HFD.out with ⟨rfl, hL⟩ | ⟨hb0, hB⟩
      · have HP : Hid (RNextOut t D s w (.returned (.tuple #[.int .i64 0, .bool false])) wr) := .inl ⟨by rw [HN.out]; exact hL, rfl, HXR.out⟩
        clear hL HFD HNR HHAS HPOS HX HIN
        generalize RNextOut t D s w = POST at *
        go_wp2
        exact HP.out
      · have h7 : decide (b < 0) = false := by rw [decide_eq_false_iff_not]; omega
        have h8 : ¬ b < 0 := by omega
        have HB : Hid (s.Best s.known.length b) := by rw [HN.out]; exact hB
        have HXW : Hid (RLX wr t s (.slice ka k kc) ak op) := HX.out.ext HXR.out
        have hc1 := (HCL.out wr HXR.out).2.1
        clear hB HFD HNR HHAS HPOS HX HKEY HV
        have HIX : Hid (∀ wa wb, wb = World.alloc wa (.cells #[.int .i64 b] 3) → wa.Extends wb ∧ Src Try.prog 1 24 (.slice (some ⟨wa.heap.size, 0, none⟩) 1 1) 1 (i64vs [b]) wb) := fun wa wb e => by
          subst e
          exact ⟨ext_alloc _ _, one_src (heap_alloc_new _ _)⟩
        have HLA : Hid (s.asked.length + 1 ≤ 10000 ∧ s.opn.length + 1 ≤ 10000) := by
          have h1 := HXW.out.inv.most; have h2 := HXW.out.inv.few; have h3 := HXW.out.len
          exact ⟨by omega, by omega⟩
        go_wp2_with (at_builtin; refine wpList_app_ints3 rfl (.tmp 60) (.tmp 62) rfl 0 ak s.asked rfl (HXW.out.asked.ext (HIX.out wr _ rfl).1) _ 1 [b] rfl rfl (HIX.out wr _ rfl).2 HLA.out.1 (Nat.zero_le _) ?_)
        intro v' w2 ho2 hg2 loc2
        have hx1 := (HIX.out wr _ rfl).1
        obtain ⟨f3, m3, i3⟩ := HXW.out.mid HIN.out hx1 ho2 hg2 (by simpa using loc2) rfl
        have hlt2 : t < w2.heap.size := Nat.lt_of_lt_of_le HXW.out.lt (Nat.le_trans hx1.size hg2.size)
        have hr2 := (hg2.block t (Nat.lt_of_lt_of_le HXW.out.lt hx1.size) (fun e => own_ne_look HXW.out.row HXW.out.asked e.symm)).trans ((hx1.block t HXW.out.lt).trans HXW.out.row)
        have hc2 : w2.cell? ⟨t, 22, none⟩ = some ak := by rw [cell_of_row _ _ _ _ _ _ hr2]; exact (RC_get HKL.out).2.2.1
        have hf2 : w2.frozen? ⟨t, 22, none⟩ = false := frozen_of_row _ _ _ _ _ hr2
        have HM3 := Lib.hid (And.intro f3 (And.intro m3 i3))
        obtain ⟨xa, xcap, rfl⟩ := ho2.slice
        generalize (s.asked ++ [b]).length = el at *
        clear hx1 f3 m3 i3 hlt2 hr2 ho2 hg2 loc2 hc1 hc0
        go_upto_region 10 with fail
        generalize hw3 : World.setCell w2 _ _ = w3 at *
        have hc3 := (HM3.out.2.1.cells HKL.out).1
        have hf3 := (HM3.out.2.1.cells HKL.out).2 23
        clear hw3 hc2 hf2
        go_wp2_with (at_builtin; refine wpList_app_ints3 rfl (.tmp 70) (.tmp 72) rfl 0 op s.opn rfl (HM3.out.2.1.opn.ext (HIX.out w3 _ rfl).1) _ 1 [b] rfl rfl (HIX.out w3 _ rfl).2 HLA.out.2 (Nat.zero_le _) ?_)
        intro v4 w4 ho4 hg4 loc4
        have hx3 := (HIX.out w3 _ rfl).1
        obtain ⟨f5, l5⟩ := HM3.out.2.1.last HM3.out.2.2 HXW.out.inv HXW.out.len HB.out.mem hx3 ho4 hg4 (by simpa using loc4) rfl
        have hlt3 : t < w3.heap.size := (Array.getElem?_eq_some_iff.1 HM3.out.2.1.row).1
        have hr4 := (hg4.block t (Nat.lt_of_lt_of_le hlt3 hx3.size) (fun e => own_ne_look HM3.out.2.1.row HM3.out.2.1.opn e.symm)).trans ((hx3.block t hlt3).trans HM3.out.2.1.row)
        have hc4 : w4.cell? ⟨t, 23, none⟩ = some op := by rw [cell_of_row _ _ _ _ _ _ hr4]; exact (RC_get HKL.out).2.2.2
        have hf4 : w4.frozen? ⟨t, 23, none⟩ = false := frozen_of_row _ _ _ _ _ hr4
        have HP : Hid (RNextOut t D s w (.returned (.tuple #[.int .i64 b, .bool true])) (w4.setCell ⟨t, 23, none⟩ v4)) := by
          have f03 : Fr D w w3 := (Fr.ext HXR.out).trans HM3.out.1 fun i _ h => h
          refine .inr ⟨b, HB.out, rfl, (f03.next (f5.mono fun i hi => ?_)), l5.mono fun i hi => ?_⟩
          · rcases hi with hi | hi
            · exact .inl hi
            · exact .inr ⟨Nat.le_trans HXR.out.size hi.1, hi.2⟩
          · have h1 := HXR.out.size
            have h2 := HM3.out.1.size
            have h3 := f5.size
            rcases hi with (hi | hi) | hi
            · exact .inl hi
            · exact .inr ⟨by omega, by omega⟩
            · exact .inr ⟨by omega, hi.2⟩
        obtain ⟨ya, ycap, rfl⟩ := ho4.slice
        generalize (s.opn ++ [b]).length = el2 at *
        clear hx3 f5 l5 hlt3 hr4 ho4 hg4 loc4 hc3 hf3 HM3 HXW HIX HIN HB HCL
        generalize RNextOut t D s w = POST at *
        go_wp2
        exact HP.out
end Go.Proofs.Ytgjnkfbckbkcnaa
namespace Go.Proofs.Ytgjnkfbckbkcnaa
set_option maxRecDepth 20000
open Go.RowKit Go.Deep
set_option linter.unusedVariables false
structure TwoX (X : Nat → Prop) (w wr : World) (tx tr : Nat) (s r : Lk) (Dx Dr : Nat → Prop) : Prop where
  x : LAt wr tx Dx s
  r : RLAt wr tr Dr r
  off : ∀ i, Dx i → ¬ Dr i
  dx : ∀ i, Dx i → w.heap.size ≤ i ∧ i < wr.heap.size
  dr : ∀ i, Dr i → w.heap.size ≤ i ∧ i < wr.heap.size
  ext : w.Extends wr
  keep : ∀ i, X i → ¬ Dx i ∧ ¬ Dr i ∧ i < wr.heap.size
/-- In wr, a world behind w, lie the look tx of the program and the look tr of the reference, apart. -/
def Two (X : Nat → Prop) (w wr : World) (tx tr : Nat) (s r : Lk) : Prop := ∃ Dx Dr, TwoX X w wr tx tr s r Dx Dr
section
variable {w wr w1 : World} {tx tr : Nat} {s s' r r' : Lk} {Dx Dr X : Nat → Prop}
theorem TwoX.mx (h : TwoX X w wr tx tr s r Dx Dr) (hf : Fr Dx wr w1) (hl : LAt w1 tx (Nx Dx wr w1) s') : Two X w w1 tx tr s' r := by
  refine ⟨Nx Dx wr w1, Dr, hl, h.r.away hf (fun i h1 h2 => h.off i h2 h1), fun i hi hd => ?_, fun i hi => ?_, fun i hi => ⟨(h.dr i hi).1, Nat.lt_of_lt_of_le (h.dr i hi).2 hf.size⟩, hf.own h.ext fun i hi => (h.dx i hi).1, fun i hi => ?_⟩
  · rcases hi with hi | hi
    · exact h.off i hi hd
    · have := (h.dr i hd).2; omega
  · have := h.ext.size
    have := hf.size
    rcases hi with hi | hi
    · exact ⟨(h.dx i hi).1, Nat.lt_of_lt_of_le (h.dx i hi).2 hf.size⟩
    · exact ⟨by omega, hi.2⟩
  · obtain ⟨h1, h2, h3⟩ := h.keep i hi
    refine ⟨fun e => by
      rcases e with e | e
      · exact h1 e
      · omega, h2, Nat.lt_of_lt_of_le h3 hf.size⟩
theorem TwoX.mr (h : TwoX X w wr tx tr s r Dx Dr) (hf : Fr Dr wr w1) (hl : RLAt w1 tr (Nx Dr wr w1) r') : Two X w w1 tx tr s r' := by
  refine ⟨Dx, Nx Dr wr w1, h.x.away hf h.off, hl, fun i hd hi => ?_, fun i hi => ⟨(h.dx i hi).1, Nat.lt_of_lt_of_le (h.dx i hi).2 hf.size⟩, fun i hi => ?_, hf.own h.ext fun i hi => (h.dr i hi).1, fun i hi => ?_⟩
  · rcases hi with hi | hi
    · exact h.off i hd hi
    · have := (h.dx i hd).2; omega
  · have := h.ext.size
    have := hf.size
    rcases hi with hi | hi
    · exact ⟨(h.dr i hi).1, Nat.lt_of_lt_of_le (h.dr i hi).2 hf.size⟩
    · exact ⟨by omega, hi.2⟩
  · obtain ⟨h1, h2, h3⟩ := h.keep i hi
    refine ⟨h1, fun e => by
      rcases e with e | e
      · exact h2 e
      · omega, Nat.lt_of_lt_of_le h3 hf.size⟩
theorem Two.far (h : Two X w wr tx tr s r) (hx : wr.Extends w1) : Two X w w1 tx tr s r := by
  obtain ⟨Dx, Dr, h⟩ := h
  exact ⟨Dx, Dr, h.x.ext hx, h.r.ext hx, h.off, fun i hi => ⟨(h.dx i hi).1, Nat.lt_of_lt_of_le (h.dx i hi).2 hx.size⟩, fun i hi => ⟨(h.dr i hi).1, Nat.lt_of_lt_of_le (h.dr i hi).2 hx.size⟩, Gr.ext_trans h.ext hx, fun i hi => ⟨(h.keep i hi).1, (h.keep i hi).2.1, Nat.lt_of_lt_of_le (h.keep i hi).2.2 hx.size⟩⟩
theorem Two.ext (h : Two X w wr tx tr s r) : w.Extends wr := by
  obtain ⟨Dx, Dr, h⟩ := h
  exact h.ext
/-- A variable of the law's own. -/
theorem Two.box (h : Two X w wr tx tr s r) {o : Obj} (hw : w1 = wr.alloc o) : Two (fun i => i = wr.heap.size) w w1 tx tr s r := by
  obtain ⟨Dx, Dr, h⟩ := h
  have hx : wr.Extends w1 := by rw [hw]; exact ext_alloc _ _
  have hs : w1.heap.size = wr.heap.size + 1 := by rw [hw]; simp
  exact ⟨Dx, Dr, h.x.ext hx, h.r.ext hx, h.off, fun i hi => ⟨(h.dx i hi).1, Nat.lt_of_lt_of_le (h.dx i hi).2 hx.size⟩, fun i hi => ⟨(h.dr i hi).1, Nat.lt_of_lt_of_le (h.dr i hi).2 hx.size⟩, Gr.ext_trans h.ext hx, fun i hi => ⟨fun e => by have := (h.dx i e).2; omega, fun e => by have := (h.dr i e).2; omega, by omega⟩⟩
theorem Two.drop (h : Two X w wr tx tr s r) : Two (fun _ => False) w wr tx tr s r := by
  obtain ⟨Dx, Dr, h⟩ := h
  exact ⟨Dx, Dr, h.x, h.r, h.off, h.dx, h.dr, h.ext, fun i hi => hi.elim⟩
theorem Two.inv (h : Two X w wr tx tr s r) : s.Inv ∧ s.known.length ≤ 8000 := by
  obtain ⟨Dx, Dr, ⟨mk, mo, q, v, hs, hX, _⟩, _⟩ := h
  exact ⟨hX.inv, hX.len⟩
theorem Two.start (hx : LAt wr tx Dx s) (hr : RLAt w1 tr (fun i => wr.heap.size ≤ i ∧ i < w1.heap.size) r) (he : w.Extends wr) (hd : ∀ i, Dx i → w.heap.size ≤ i ∧ i < wr.heap.size) (h1 : wr.Extends w1) : Two (fun _ => False) w w1 tx tr s r :=
  ⟨Dx, _, hx.ext h1, hr, fun i h2 h3 => by have := (hd i h2).2; omega, fun i hi => ⟨(hd i hi).1, Nat.lt_of_lt_of_le (hd i hi).2 h1.size⟩, fun i hi => ⟨Nat.le_trans he.size hi.1, hi.2⟩, Gr.ext_trans he h1, fun i hi => hi.elim⟩
theorem arg_off {v : Value} {m : List Int} {D : Nat → Prop} (hv : Ints w v m) (he : w.Extends wr) (hd : ∀ i, D i → w.heap.size ≤ i) : m = [] ∨ ∀ g, v.ownBlock = some g → g < wr.heap.size ∧ ¬ D g :=
  hv.old.imp id fun h g hg => ⟨Nat.lt_of_lt_of_le (h g hg) he.size, fun e => by have := h g hg; have := hd g e; omega⟩
theorem Two.heardx (h : Two X w wr tx tr s r) {p : Int} {v : Value} {m : List Int} (hp : In64 p) (hv : Ints w v m) (hm : ∀ x ∈ m, In64 x) (hl : s.known.length + m.length ≤ 8000) :
    Calls Try.prog 11 #[.pointer (some ⟨tx, 0, none⟩), .int .i64 p, v] wr fun e w1 => e = .returned (.tuple #[]) ∧ Two X w w1 tx tr (s.heard p m) r ∧ ∀ i, X i → w1.heap[i]? = wr.heap[i]? := by
  obtain ⟨Dx, Dr, h⟩ := h
  exact (lheard_any tx Dx s p v m wr h.x hp (hv.ext h.ext) hm hl (arg_off hv h.ext fun i hi => (h.dx i hi).1)).mono fun e w1 ⟨he, hf, hl⟩ => ⟨he, h.mx hf hl, fun i hi => hf.away i (h.keep i hi).2.2 (h.keep i hi).1⟩
theorem Two.heardr (h : Two X w wr tx tr s r) {p : Int} {v : Value} {m : List Int} (hv : Ints w v m) (hm : ∀ x ∈ m, In64 x) (hl : r.known.length + m.length ≤ 8000) :
    Calls Try.prog 12 #[.pointer (some ⟨tr, 0, none⟩), .int .i64 p, v] wr fun e w1 => e = .returned (.tuple #[]) ∧ Two X w w1 tx tr s (r.heard p m) ∧ ∀ i, X i → w1.heap[i]? = wr.heap[i]? := by
  obtain ⟨Dx, Dr, h⟩ := h
  exact (rlheard_any tr Dr r p v m wr h.r (hv.ext h.ext) hm hl (arg_off hv h.ext fun i hi => (h.dr i hi).1)).mono fun e w1 ⟨he, hf, hl⟩ => ⟨he, h.mr hf hl, fun i hi => hf.away i (h.keep i hi).2.2 (h.keep i hi).2.1⟩
theorem Two.lostx (h : Two X w wr tx tr s r) {p : Int} (hp : In64 p) :
    Calls Try.prog 13 #[.pointer (some ⟨tx, 0, none⟩), .int .i64 p] wr fun e w1 => e = .returned (.tuple #[]) ∧ Two X w w1 tx tr (s.over p) r ∧ ∀ i, X i → w1.heap[i]? = wr.heap[i]? := by
  obtain ⟨Dx, Dr, h⟩ := h
  exact (llost_any tx Dx s p wr h.x hp).mono fun e w1 ⟨he, hf, hl⟩ => ⟨he, h.mx hf hl, fun i hi => hf.away i (h.keep i hi).2.2 (h.keep i hi).1⟩
theorem Two.lostr (h : Two X w wr tx tr s r) {p : Int} :
    Calls Try.prog 14 #[.pointer (some ⟨tr, 0, none⟩), .int .i64 p] wr fun e w1 => e = .returned (.tuple #[]) ∧ Two X w w1 tx tr s (r.over p) ∧ ∀ i, X i → w1.heap[i]? = wr.heap[i]? := by
  obtain ⟨Dx, Dr, h⟩ := h
  exact (rllost_any tr Dr r p wr h.r).mono fun e w1 ⟨he, hf, hl⟩ => ⟨he, h.mr hf hl, fun i hi => hf.away i (h.keep i hi).2.2 (h.keep i hi).2.1⟩
theorem Two.donex (h : Two X w wr tx tr s r) : Calls Try.prog 15 #[.pointer (some ⟨tx, 0, none⟩)] wr fun e w1 => e = .returned (.bool s.done) ∧ wr = w1 := by
  obtain ⟨Dx, Dr, h⟩ := h
  exact ldone_any tx Dx s wr h.x
theorem Two.doner (h : Two X w wr tx tr s r) : Calls Try.prog 16 #[.pointer (some ⟨tr, 0, none⟩)] wr fun e w1 => e = .returned (.bool r.done) ∧ wr.Extends w1 := by
  obtain ⟨Dx, Dr, h⟩ := h
  exact rldone_any tr Dr r wr h.r
theorem Two.askedx (h : Two X w wr tx tr s r) : Calls Try.prog 18 #[.pointer (some ⟨tx, 0, none⟩)] wr (IntsBack wr s.asked) := by
  obtain ⟨Dx, Dr, h⟩ := h
  exact lasked_any tx Dx s wr h.x
theorem Two.askedr (h : Two X w wr tx tr s r) : Calls Try.prog 19 #[.pointer (some ⟨tr, 0, none⟩)] wr (IntsBack wr r.asked) := by
  obtain ⟨Dx, Dr, h⟩ := h
  exact rlasked_any tr Dr r wr h.r
/-- What Next answers, and what is then. -/
def Lk.Nexts (s : Lk) (p : Int) (ok : Bool) (s' : Lk) : Prop := (ok = false ∧ p = 0 ∧ s' = s ∧ s.Left0 s.known.length) ∨ (ok = true ∧ s.Best s.known.length p ∧ s' = s.asks p)
theorem Lk.Nexts.uniq {s : Lk} {p q : Int} {a b : Bool} {s1 s2 : Lk} (h : s.Nexts p a s1) (g : s.Nexts q b s2) : p = q ∧ a = b ∧ s1 = s2 := by
  rcases h with ⟨rfl, rfl, rfl, hl⟩ | ⟨rfl, hb, rfl⟩
  · rcases g with ⟨rfl, rfl, rfl, _⟩ | ⟨rfl, gb, rfl⟩
    · exact ⟨rfl, rfl, rfl⟩
    · exact (hl.best gb).elim
  · rcases g with ⟨rfl, rfl, rfl, gl⟩ | ⟨rfl, gb, rfl⟩
    · exact (gl.best hb).elim
    · obtain rfl := hb.uniq gb
      exact ⟨rfl, rfl, rfl⟩
theorem Lk.Nexts.known {s : Lk} {p : Int} {a : Bool} {s1 : Lk} (h : s.Nexts p a s1) : s1.known = s.known := by
  rcases h with ⟨rfl, rfl, rfl, hl⟩ | ⟨rfl, hb, rfl⟩ <;> rfl
theorem Two.nextx (h : Two X w wr tx tr s r) : Calls Try.prog 9 #[.pointer (some ⟨tx, 0, none⟩)] wr fun e w1 => ∃ p ok s', e = .returned (.tuple #[.int .i64 p, .bool ok]) ∧ s.Nexts p ok s' ∧ Two X w w1 tx tr s' r := by
  obtain ⟨Dx, Dr, h⟩ := h
  refine (lnext_any tx Dx s wr h.x).mono fun e w1 h1 => ?_
  rcases h1 with ⟨hl, rfl, rfl⟩ | ⟨p, hp, rfl, hf, hl⟩
  · exact ⟨0, false, s, rfl, .inl ⟨rfl, rfl, rfl, hl⟩, Dx, Dr, h⟩
  · exact ⟨p, true, s.asks p, rfl, .inr ⟨rfl, hp, rfl⟩, h.mx hf hl⟩
theorem Two.nextr (h : Two X w wr tx tr s r) : Calls Try.prog 10 #[.pointer (some ⟨tr, 0, none⟩)] wr fun e w1 => ∃ p ok r', e = .returned (.tuple #[.int .i64 p, .bool ok]) ∧ r.Nexts p ok r' ∧ Two X w w1 tx tr s r' := by
  obtain ⟨Dx, Dr, h⟩ := h
  refine (rlnext_any tr Dr r wr h.r).mono fun e w1 h1 => ?_
  rcases h1 with ⟨hl, rfl, hx⟩ | ⟨p, hp, rfl, hf, hl⟩
  · exact ⟨0, false, r, rfl, .inl ⟨rfl, rfl, rfl, hl⟩, Two.far ⟨Dx, Dr, h⟩ hx⟩
  · exact ⟨p, true, r.asks p, rfl, .inr ⟨rfl, hp, rfl⟩, h.mr hf hl⟩
end
theorem Lk.heard_len (s : Lk) (p : Int) (m : List Int) : (s.heard p m).known.length ≤ s.known.length + m.length := by
  unfold Lk.heard
  split
  · exact (s.over p).more_len m
  · omega
theorem Lk.over_len (s : Lk) (p : Int) : (s.over p).known.length = s.known.length := rfl
end Go.Proofs.Ytgjnkfbckbkcnaa
namespace Go.Proofs.Ytgjnkfbckbkcnaa
set_option maxRecDepth 20000
open Go.RowKit Go.Deep
set_option linter.unusedVariables false
theorem int_wf {x : Int} (h : (Lit.int .i64 x).wf = true) : In64 x := by
  have e1 : IntKind.i64.min = -9223372036854775808 := by decide
  have e2 : IntKind.i64.max = 9223372036854775807 := by decide
  have h' : (decide (IntKind.i64.min ≤ x) && decide (x ≤ IntKind.i64.max)) = true := h
  rw [e1, e2, Bool.and_eq_true, decide_eq_true_eq, decide_eq_true_eq] at h'
  exact h'
set_option maxHeartbeats 8000000 in
theorem LookPlays_walk (K_ : List Nat) (self : Int) (kv : Value) (kl : List Int) (v : Value) (l : List AcI) (w : World) (hK : KY.Ok K_) (hself : (Lit.int .i64 self).wf = true) (hkn : Ints w kv kl ∧ ∀ y ∈ kl, -9223372036854775808 ≤ y ∧ y ≤ 9223372036854775807) (hv : ActsI w v l) :
    Calls Try.prog 3 #[KV K_, .int .i64 self, kv, v] w fun e w' => e = .returned (.bool true) ∧ Below w.heap.size w w' := by
  obtain ⟨hki, hkb⟩ := hkn
  obtain ⟨ka, kc, hke, _⟩ := hki.slice
  obtain ⟨va, vc, hve⟩ := hv.slice
  subst hke
  subst hve
  obtain ⟨m, hm⟩ : ∃ m, kl.length = m := ⟨_, rfl⟩
  obtain ⟨n, hn⟩ : ∃ n, l.length = n := ⟨_, rfl⟩
  have hml := hki.len
  have hnl := hv.len
  rw [hm] at hki hml ⊢
  rw [hn] at hv hnl ⊢
  unfold maxLen at hml hnl
  have HKI := Lib.hid hki
  have HKB : Hid (∀ x ∈ kl, In64 x) := hkb
  have HV := Lib.hid hv.at.2
  have HM := Lib.hid hm
  have HN := Lib.hid hn
  have HK := Lib.hid hK
  have HEND : Hid (∀ wr, w.Extends wr → (fun (e : Ending) w' => e = .returned (.bool true) ∧ Below w.heap.size w w') (.returned (.bool true)) wr) := fun wr hx => ⟨rfl, Gr.below_of hx⟩
  have HBX : Hid (∀ w1, w1 = w.alloc (.cells (KC K_) 23) → w.Extends w1 ∧ w1.rangeAt w.heap.size 0 (KC K_).toList) := fun w1 e => by
    subst e
    refine ⟨ext_alloc _ _, fun j u hu => ?_⟩
    rw [cell_of_row _ _ _ _ _ _ (heap_alloc_new _ _), Nat.zero_add]
    simpa using hu
  have HXN : Hid (∀ w1 u, Ints w1 u kl → m ≤ 30 → Calls Try.prog 7 #[KV K_, .int .i64 self, u] w1 (NewLOut ((Lk.new K_ self).more kl) w1)) := fun w1 u hu hb => lnew_any K_ self u kl w1 HK.out hu HKB.out (by rw [HM.out]; omega)
  have HRN : Hid (∀ w1 u, Ints w1 u kl → m ≤ 30 → Calls Try.prog 8 #[KV K_, .int .i64 self, u] w1 (RNewLOut ((Lk.new K_ self).more kl) w1)) := fun w1 u hu hb => rlnew_any K_ self u kl w1 HK.out hu HKB.out (by rw [HM.out]; omega)
  have HL0 : Hid (m ≤ 30 → ((Lk.new K_ self).more kl).known.length ≤ 30) := fun hb => by
    have := (Lk.new K_ self).more_len kl
    have h0 : (Lk.new K_ self).known.length = 0 := rfl
    rw [h0, HM.out] at this
    omega
  clear hki hkb hv hm hn hK hself
  generalize hPO : (fun (e : Ending) w' => e = .returned (.bool true) ∧ Below w.heap.size w w') = POST at *
  clear hPO
  go_enter Try.func3, Try.ntmps3
  go_upto_region 1 with fail
  generalize hw1 : World.alloc w _ = w1
  obtain ⟨hx1, hr1⟩ := HBX.out w1 hw1.symm
  have HX1 := Lib.hid hx1
  have HR1 := Lib.hid hr1
  clear hw1 HBX hx1 hr1
  generalize w.heap.size = s0 at *
  go_wp2_with fail
  refine (alive20_any w1).mono ?_
  rintro e w2 ⟨rfl, hx2⟩
  have HX2 := Lib.hid (Gr.ext_trans HX1.out hx2)
  have HR2 : Hid (w2.rangeAt s0 0 (KC K_).toList) := fun j u hu => hx2.cell_of (HR1.out j u hu)
  clear hx2 HR1 HX1
  obtain ⟨xk, hxk⟩ : ∃ x, KV K_ = x := ⟨_, rfl⟩
  have HXK := Lib.hid hxk
  rw [hxk] at HXN HRN ⊢
  clear hxk
  by_cases h1 : 30 < m
  · have HE := Lib.hid (HEND.out w2 HX2.out)
    go_wp2
    exact HE.out
  by_cases h2 : 60 < n
  · have HE := Lib.hid (HEND.out w2 HX2.out)
    go_wp2
    exact HE.out
  have hmb : m ≤ 30 := by omega
  go_wp2_with fail
  refine Gr.region 4 [(false,0),(false,1),(false,2),(true,3)] (by kernel_rfl) (by kernel_rfl) (fun d _ _ _ _ h => by cases d <;> exact h) ?_
  simp only [Gr.pick, List.getElem?_cons_zero, List.getElem?_cons_succ, List.drop_succ_cons, List.drop_zero]
  generalize hwd : w2.drew = wd at *
  have HXD : Hid (w.Extends wd) := by rw [← hwd]; exact Gr.ext_drew HX2.out
  have HRD : Hid (wd.rangeAt s0 0 (KC K_).toList) := by rw [← hwd]; exact HR2.out
  clear hwd HX2 HR2
  refine Gr.walk_t _ (Or.inl ⟨by rfl, fun w' hw' => dist_yields HK.out.1 (fun j u hu => hw'.cell_of (HRD.out j u hu)) (by rfl) (by rfl) (by exact HXK.out)⟩) ?_
  simp only [Act.put, List.setIfInBounds_toArray, List.set_cons_zero, List.set_cons_succ]
  iterate 2
    refine Gr.walk_t ?_ (Or.inl ⟨by rfl, ?_⟩) ?_
    rotate_left
    · intro w' hw'
      clear hw'
      go_simp
      try with_reducible rfl
    simp only [Act.put, List.setIfInBounds_toArray, List.set_cons_zero, List.set_cons_succ]
  refine Gr.walk_c (fun K hK => ?_)
  rw [if_pos (by rfl)]
  refine wp_app_ints3 (.const (.slice none 0 0)) (.tmp 34) rfl wd.heap.size (.slice none 0 0) [] rfl (OwnI.nil _ _) _ m kl rfl HM.out (HKI.out.ext HXD.out).src (by show 0 + kl.length ≤ 10000; rw [HM.out]; omega) (Nat.le_refl _) ?_
  intro v3 w3 ho3 hg3 _
  have hx3 : wd.Extends w3 := ext_own (Gr.ext_refl wd) hg3 (fun k hk => by cases hk)
  have HI3 : Hid (Ints w3 v3 kl) := ho3.ints
  have HX3 := Lib.hid (Gr.ext_trans HXD.out hx3)
  have HR3 : Hid (w3.rangeAt s0 0 (KC K_).toList) := fun j u hu => hx3.cell_of (HRD.out j u hu)
  simp only [Act.put, List.setIfInBounds_toArray, List.set_cons_zero, List.set_cons_succ]
  refine hK.out _ _ hx3 ?_
  clear hK K ho3 hg3 hx3 HXD HRD
  refine Gr.walk_nil ?_
  go_wp2_with fail
  refine (HXN.out w3 v3 HI3.out hmb).mono ?_
  rintro e w4 ⟨tx, rfl, hx4, hl4⟩
  have HX4 := Lib.hid (Gr.ext_trans HX3.out hx4)
  have HR4 : Hid (w4.rangeAt s0 0 (KC K_).toList) := fun j u hu => hx4.cell_of (HR3.out j u hu)
  have HL4 := Lib.hid hl4
  clear hx4 hl4 HR3 HI3 HXN
  have hr4 := HR4.out
  go_wp2_with (refine wpList_load_key rfl (.tmp 4) rfl s0 0 K_ HK.out.1 xk HXK.out rfl hr4 ?_)
  refine (HRN.out w4 _ (HKI.out.ext HX4.out) hmb).mono ?_
  rintro e w5 ⟨tr, rfl, hx5, hl5⟩
  have HT5 := Lib.hid (Two.start HL4.out hl5 HX4.out (fun i hi => ⟨Nat.le_trans HX3.out.size hi.1, hi.2⟩) hx5)
  have HLEN0 := Lib.hid (HL0.out hmb)
  clear hx5 hl5 HL4 HR4 hr4 HX4 HX3 HRN HKI HKB HL0 HM
  generalize (Lk.new K_ self).more kl = sa at *
  go_wp2_with fail
  go_loopw [12] (fun s12 wr => ∃ (k : Nat) (s : Lk), k ≤ n ∧ s12 = .int .i64 k ∧ Hid (Two (fun _ => False) w wr tx tr s s) ∧ Hid (s.known.length ≤ 30 + 20 * k)) (fun s12 _ => n - (intOf s12).toNat)
  case atStart => exact ⟨0, sa, by omega, rfl, HT5.out, by have := HLEN0.out; show _ ≤ _; omega⟩
  case round =>
    obtain ⟨k, s, hk, rfl, HT, HLEN⟩ := hrel
    by_cases h3 : k < n
    · obtain ⟨b1, o1, rfl, hb1, hc⟩ := HV.out (by omega)
      obtain ⟨a2, c2, p0, p1, p2, hai, hab, hw0, hw1⟩ := hc k h3
      clear hc hb1
      generalize l.getD k AcI.zero = ac at *
      obtain ⟨way, pn, bs⟩ := ac
      simp only at p0 p1 p2 hai hab hw0 hw1
      obtain ⟨bl, hbl⟩ : ∃ bl, bs.length = bl := ⟨_, rfl⟩
      rw [hbl] at p2 hai
      have q0 := HT.out.ext.cell_of p0
      have q1 := HT.out.ext.cell_of p1
      have q2 := HT.out.ext.cell_of p2
      have HAI := Lib.hid hai
      have HAB : Hid (∀ x ∈ bs, In64 x) := hab
      have HPN := Lib.hid (int_wf hw1)
      have HBL := Lib.hid hbl
      have hlb := hai.len
      rw [hbl] at hlb
      unfold maxLen at hlb
      clear p0 p1 p2 hai hab hw0 hw1 hbl
      by_cases h4 : 20 < bl
      · have HE : Hid (POST (.returned (.bool true)) (wr.alloc (.cells #[.int .i64 way, .int .i64 pn, .slice a2 bl c2] 32))) := HEND.out _ (Gr.ext_trans HT.out.ext (ext_alloc _ _))
        go_wp2
        exact HE.out
      · have hbb : bl ≤ 20 := by omega
        go_upto_region 12 with fail
        have HBOX : Hid (∀ w1, w1 = wr.alloc (.cells #[.int .i64 way, .int .i64 pn, .slice a2 bl c2] 32) → wr.Extends w1 ∧ w1.heap[wr.heap.size]? = some (.cells #[.int .i64 way, .int .i64 pn, .slice a2 bl c2] 32 (0, 0))) := fun w1 e => by
          subst e; exact ⟨ext_alloc _ _, heap_alloc_new _ _⟩
        generalize hwa : World.alloc wr _ = wa
        obtain ⟨hxa, hra⟩ := HBOX.out wa hwa.symm
        have HTA := Lib.hid (HT.out.box hwa.symm)
        generalize wr.heap.size = y at *
        have HRA : Hid (∀ w', wa.Extends w' → w'.cell? ⟨y, 0, none⟩ = some (.int .i64 way) ∧ w'.cell? ⟨y, 1, none⟩ = some (.int .i64 pn) ∧ w'.cell? ⟨y, 2, none⟩ = some (.slice a2 bl c2)) := fun w' hx => by
          have h := (hx.block y (Array.getElem?_eq_some_iff.1 hra).1).trans hra
          refine ⟨?_, ?_, ?_⟩ <;> rw [cell_of_row _ _ _ _ _ _ h] <;> rfl
        obtain ⟨r0, r1, r2⟩ := HRA.out wa (Gr.ext_refl _)
        have HYY : Hid (∀ i, w.heap.size ≤ i → True) := fun _ _ => trivial
        clear hwa hxa HBOX q0 q1 q2 HT HYY
        have HINV := Lib.hid HTA.out.inv
        have HB30 : Hid (s.known.length + bs.length ≤ 8000) := by
          have h1 := HLEN.out
          have h2 := HBL.out
          show _ ≤ _
          omega
        by_cases hw0 : way = 0
        · subst hw0
          have HNX := Lib.hid HTA.out.nextx
          go_wp2_with fail
          refine HNX.out.mono ?_
          rintro e wb ⟨p, ok, s1, rfl, hp1, hT1⟩
          have HP1 := Lib.hid hp1
          have HNR := Lib.hid hT1.nextr
          clear hp1 hT1 HNX
          go_wp2_with fail
          refine HNR.out.mono ?_
          rintro e wz ⟨p2, ok2, s2, rfl, hp2, hT2⟩
          obtain ⟨e1, e2, e3⟩ := HP1.out.uniq hp2
          subst e1; subst e2; subst e3
          have HT := Lib.hid hT2
          have HLEN2 : Hid (s1.known.length ≤ 30 + 20 * (k + 1)) := by
            rw [HP1.out.known]; have := HLEN.out; show _ ≤ _; omega
          have hpp : (p != p) = false := by simp
          have hoo : (ok != ok) = false := by cases ok <;> rfl
          clear hp2 hT2 HNR HP1 HTA HINV r0 r1 r2 HRA
          have HLE2 : Hid (s1.known.length ≤ 30 + 20 * (k + 1)) := HLEN2.out
          have hinv := HT.out.inv
          have HAL : Hid (Ints wz (.slice none 0 0) [] → True) := fun _ => trivial
          have HDX := Lib.hid HT.out.donex
          have HDR := Lib.hid HT.out.doner
          have hqq : (s1.done != s1.done) = false := by cases s1.done <;> rfl
          generalize s1.done = qd at *
          clear hinv HAL HLEN2
          go_wp2_with fail
          refine HDX.out.mono ?_
          rintro e wy ⟨rfl, rfl⟩
          clear HDX
          go_wp2_with fail
          refine HDR.out.mono ?_
          rintro e w5 ⟨rfl, hx5⟩
          have HT5 := Lib.hid (HT.out.far hx5)
          clear HDR hx5 HT
          have HAX := Lib.hid HT5.out.askedx
          go_wp2_with fail
          refine HAX.out.mono ?_
          rintro e w6 ⟨v6, rfl, hx6, hi6⟩
          have HT6 := Lib.hid (HT5.out.far hx6)
          have HI6 := Lib.hid hi6
          clear HAX HT5 hx6 hi6
          have HAR := Lib.hid HT6.out.askedr
          go_wp2_with fail
          refine HAR.out.mono ?_
          rintro e w7 ⟨v7, rfl, hx7, hi7⟩
          have HT7 := Lib.hid (HT6.out.far hx7)
          have HSM := Lib.hid (tsame_any v6 v7 _ w7 (HI6.out.ext hx7) hi7)
          clear HAR HT6 hx7 hi7 HI6
          go_wp2_with fail
          refine HSM.out.mono ?_
          rintro e w8 ⟨rfl, hx8⟩
          have HT8 := Lib.hid (HT7.out.far hx8)
          clear HSM HT7 hx8
          go_wp2
          go_roundw
          case rel => exact ⟨k + 1, s1, by omega, by go_num, HT8.out.drop, HLE2.out⟩
          case measure => simp [intOf]; omega
        · by_cases hw1 : way = 1
          · subst hw1
            have HHX := Lib.hid (HTA.out.heardx HPN.out HAI.out HAB.out HB30.out)
            go_wp2_with fail
            refine HHX.out.mono ?_
            rintro e wb ⟨rfl, hT1, hkp⟩
            have HHR := Lib.hid (hT1.heardr (p := pn) HAI.out HAB.out HB30.out)
            have hcy : wb.cell? ⟨y, 1, none⟩ = some (.int .i64 pn) ∧ wb.cell? ⟨y, 2, none⟩ = some (.slice a2 bl c2) := by
              exact ⟨(World.cell?_of_block (hkp y rfl)).trans r1, (World.cell?_of_block (hkp y rfl)).trans r2⟩
            obtain ⟨u1, u2⟩ := hcy
            clear hT1 HHX hkp
            go_wp2_with fail
            refine HHR.out.mono ?_
            rintro e wz ⟨rfl, hT2, _⟩
            have HT := Lib.hid hT2
            have HLEN2 : Hid ((s.heard pn bs).known.length ≤ 30 + 20 * (k + 1)) := by
              have h1 := s.heard_len pn bs; have h2 := HLEN.out; have h3 := HBL.out; show _ ≤ _; omega
            generalize s.heard pn bs = s1 at *
            clear hT2 HHR HTA HINV r0 r1 r2 HRA u1 u2
            have HLE2 : Hid (s1.known.length ≤ 30 + 20 * (k + 1)) := HLEN2.out
            have hinv := HT.out.inv
            have HAL : Hid (Ints wz (.slice none 0 0) [] → True) := fun _ => trivial
            have HDX := Lib.hid HT.out.donex
            have HDR := Lib.hid HT.out.doner
            have hqq : (s1.done != s1.done) = false := by cases s1.done <;> rfl
            generalize s1.done = qd at *
            clear hinv HAL HLEN2
            go_wp2_with fail
            refine HDX.out.mono ?_
            rintro e wy ⟨rfl, rfl⟩
            clear HDX
            go_wp2_with fail
            refine HDR.out.mono ?_
            rintro e w5 ⟨rfl, hx5⟩
            have HT5 := Lib.hid (HT.out.far hx5)
            clear HDR hx5 HT
            have HAX := Lib.hid HT5.out.askedx
            go_wp2_with fail
            refine HAX.out.mono ?_
            rintro e w6 ⟨v6, rfl, hx6, hi6⟩
            have HT6 := Lib.hid (HT5.out.far hx6)
            have HI6 := Lib.hid hi6
            clear HAX HT5 hx6 hi6
            have HAR := Lib.hid HT6.out.askedr
            go_wp2_with fail
            refine HAR.out.mono ?_
            rintro e w7 ⟨v7, rfl, hx7, hi7⟩
            have HT7 := Lib.hid (HT6.out.far hx7)
            have HSM := Lib.hid (tsame_any v6 v7 _ w7 (HI6.out.ext hx7) hi7)
            clear HAR HT6 hx7 hi7 HI6
            go_wp2_with fail
            refine HSM.out.mono ?_
            rintro e w8 ⟨rfl, hx8⟩
            have HT8 := Lib.hid (HT7.out.far hx8)
            clear HSM HT7 hx8
            go_wp2
            go_roundw
            case rel => exact ⟨k + 1, s1, by omega, by go_num, HT8.out.drop, HLE2.out⟩
            case measure => simp [intOf]; omega
          · by_cases hw2 : way = 2
            · subst hw2
              have HHX := Lib.hid (HTA.out.lostx (p := pn) HPN.out)
              go_wp2_with fail
              refine HHX.out.mono ?_
              rintro e wb ⟨rfl, hT1, hkp⟩
              have HHR := Lib.hid (hT1.lostr (p := pn))
              have u1 : wb.cell? ⟨y, 1, none⟩ = some (.int .i64 pn) := (World.cell?_of_block (hkp y rfl)).trans r1
              clear hT1 HHX hkp
              go_wp2_with fail
              refine HHR.out.mono ?_
              rintro e wz ⟨rfl, hT2, _⟩
              have HT := Lib.hid hT2
              have HLEN2 : Hid ((s.over pn).known.length ≤ 30 + 20 * (k + 1)) := by
                rw [s.over_len]; have h2 := HLEN.out; show _ ≤ _; omega
              generalize s.over pn = s1 at *
              clear hT2 HHR HTA HINV r0 r1 r2 HRA u1
              have HLE2 : Hid (s1.known.length ≤ 30 + 20 * (k + 1)) := HLEN2.out
              have hinv := HT.out.inv
              have HAL : Hid (Ints wz (.slice none 0 0) [] → True) := fun _ => trivial
              have HDX := Lib.hid HT.out.donex
              have HDR := Lib.hid HT.out.doner
              have hqq : (s1.done != s1.done) = false := by cases s1.done <;> rfl
              generalize s1.done = qd at *
              clear hinv HAL HLEN2
              go_wp2_with fail
              refine HDX.out.mono ?_
              rintro e wy ⟨rfl, rfl⟩
              clear HDX
              go_wp2_with fail
              refine HDR.out.mono ?_
              rintro e w5 ⟨rfl, hx5⟩
              have HT5 := Lib.hid (HT.out.far hx5)
              clear HDR hx5 HT
              have HAX := Lib.hid HT5.out.askedx
              go_wp2_with fail
              refine HAX.out.mono ?_
              rintro e w6 ⟨v6, rfl, hx6, hi6⟩
              have HT6 := Lib.hid (HT5.out.far hx6)
              have HI6 := Lib.hid hi6
              clear HAX HT5 hx6 hi6
              have HAR := Lib.hid HT6.out.askedr
              go_wp2_with fail
              refine HAR.out.mono ?_
              rintro e w7 ⟨v7, rfl, hx7, hi7⟩
              have HT7 := Lib.hid (HT6.out.far hx7)
              have HSM := Lib.hid (tsame_any v6 v7 _ w7 (HI6.out.ext hx7) hi7)
              clear HAR HT6 hx7 hi7 HI6
              go_wp2_with fail
              refine HSM.out.mono ?_
              rintro e w8 ⟨rfl, hx8⟩
              have HT8 := Lib.hid (HT7.out.far hx8)
              clear HSM HT7 hx8
              go_wp2
              go_roundw
              case rel => exact ⟨k + 1, s1, by omega, by go_num, HT8.out.drop, HLE2.out⟩
              case measure => simp [intOf]; omega
            · have h5 : (way == 0) = false := by simp [hw0]
              have h6 : (way == 1) = false := by simp [hw1]
              have h7 : (way == 2) = false := by simp [hw2]
              have HT := HTA
              have HLEN2 : Hid (s.known.length ≤ 30 + 20 * (k + 1)) := by have h2 := HLEN.out; show _ ≤ _; omega
              generalize wa = wz at *
              clear HTA HINV HRA
              have HLE2 : Hid (s.known.length ≤ 30 + 20 * (k + 1)) := HLEN2.out
              have hinv := HT.out.inv
              have HAL : Hid (Ints wz (.slice none 0 0) [] → True) := fun _ => trivial
              have HDX := Lib.hid HT.out.donex
              have HDR := Lib.hid HT.out.doner
              have hqq : (s.done != s.done) = false := by cases s.done <;> rfl
              generalize s.done = qd at *
              clear hinv HAL HLEN2
              go_wp2_with fail
              refine HDX.out.mono ?_
              rintro e wy ⟨rfl, rfl⟩
              clear HDX
              go_wp2_with fail
              refine HDR.out.mono ?_
              rintro e w5 ⟨rfl, hx5⟩
              have HT5 := Lib.hid (HT.out.far hx5)
              clear HDR hx5 HT
              have HAX := Lib.hid HT5.out.askedx
              go_wp2_with fail
              refine HAX.out.mono ?_
              rintro e w6 ⟨v6, rfl, hx6, hi6⟩
              have HT6 := Lib.hid (HT5.out.far hx6)
              have HI6 := Lib.hid hi6
              clear HAX HT5 hx6 hi6
              have HAR := Lib.hid HT6.out.askedr
              go_wp2_with fail
              refine HAR.out.mono ?_
              rintro e w7 ⟨v7, rfl, hx7, hi7⟩
              have HT7 := Lib.hid (HT6.out.far hx7)
              have HSM := Lib.hid (tsame_any v6 v7 _ w7 (HI6.out.ext hx7) hi7)
              clear HAR HT6 hx7 hi7 HI6
              go_wp2_with fail
              refine HSM.out.mono ?_
              rintro e w8 ⟨rfl, hx8⟩
              have HT8 := Lib.hid (HT7.out.far hx8)
              clear HSM HT7 hx8
              go_wp2
              go_roundw
              case rel => exact ⟨k + 1, s, by omega, by go_num, HT8.out.drop, HLE2.out⟩
              case measure => simp [intOf]; omega
    · obtain rfl : k = n := by omega
      have HE := Lib.hid (HEND.out wr HT.out.ext)
      go_wp2
      exact HE.out
end Go.Proofs.Ytgjnkfbckbkcnaa
