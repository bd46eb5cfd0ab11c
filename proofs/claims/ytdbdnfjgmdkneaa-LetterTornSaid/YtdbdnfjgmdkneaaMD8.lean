/- In one text: RecRefRead. -/
import Derived.Test.YtdbdnfjgmdkneaaMD5
import Derived.Test.YtdbdnfjgmdkneaaMD6
import Derived.Test.YtdbdnfjgmdkneaaMD7
namespace Go.Proofs.Ytdbdnfjgmdkneaa
set_option maxRecDepth 20000
open Go.RowKit Go.Deep
set_option linter.unusedVariables false
/-- What the reference takes: of a tombstone no data. -/
def KM.rk (xs : List Nat) : Rc := ⟨(KM.tk xs).1.p, (KM.tk xs).1.n, (KM.tk xs).1.b, (KM.tk xs).1.s, (KM.tk xs).1.m, (KM.tk xs).1.k, (KM.tk xs).1.e, (KM.tk xs).1.g, (KM.tk xs).1.u, if (KM.tk xs).1.g then [] else (KM.tk xs).1.d⟩
theorem conv_rb {w : World} {v : Value} {xs : List Nat} (h : U8s w v xs) : (convert 26 9 v).run Try.prog w = .ok (.string (strOf xs)) w := conv_any h _ _ _ Try.underlying26 Try.underlying5 Try.underlying9
/-- Whether bytes are a record's, as the reference tells it. -/
def Good (xs : List Nat) : Prop := (KM.tk xs).2.2 = false ∧ KM.Right (KM.rk xs) ∧ KM.bytes (KM.rk xs) = xs
def RROut (w : World) (xs : List Nat) (e : Ending) (w' : World) : Prop := (Good xs → ROutN (KM.rk xs) 0 w e w') ∧ (¬ Good xs → ROutN Rc.zero 2 w e w')
set_option maxHeartbeats 4000000 in
theorem rread_gone (v : Value) (xs : List Nat) (w : World) (hv : U8s w v xs) (hk : KM.gn 1 (xs, false) = 1) (hxs : xs.length ≤ 1000000000) : Calls Try.prog 17 #[v] w (RROut w xs) := by
  obtain ⟨va, vc, rfl, hcap, hcm⟩ := hv.slice
  have hxlen : xs.length ≤ maxLen := Nat.le_trans hcap hcm
  unfold maxLen at hxlen
  obtain ⟨xl, hxl⟩ : ∃ xl, xl = xs.length := ⟨_, rfl⟩
  rw [← hxl] at hv hxlen ⊢
  have HV := Lib.hid hv
  have HXL := Lib.hid hxl
  obtain ⟨s0, hs0⟩ : ∃ s, s = ((xs, false) : List Nat × Bool) := ⟨_, rfl⟩
  have HS0 := Lib.hid hs0
  have HKI : Hid (KM.gn 1 s0 = 1) := by rw [hs0]; exact hk
  have HNW : Hid (∀ w' t, w' = w.alloc (.cells ([.int .i64 0, .int .i64 0, .int .i64 0, .int .i64 0, .int .i64 0, .int .i64 0, .int .i64 0, .bool false, .int .i64 0, .slice none 0 0] : List Value).toArray 28) → t = w'.heap.size → CurAt 102 (w'.alloc (.cells #[.slice va xl vc, .bool false] 102)) t s0) := fun w' t hw ht => by subst hw; subst ht; rw [hs0, hxl]; exact CurAt.new (by rw [← hxl]; exact HV.out.ext (ext_alloc _ _))
  have HRS0 : Hid (xs.length ≤ 1000000000) := hxs
  clear hv hxl hs0 hk hcap hcm hxs
  go_enter Try.func17, Try.ntmps17
  go_wp2_with fail
  generalize hw1 : World.alloc w _ = w1
  generalize hw2 : World.alloc w1 _ = w2
  have hx1 : w.Extends w1 := by subst hw1; exact ext_alloc _ _
  have hx2 : w1.Extends w2 := by subst hw2; exact ext_alloc _ _
  have ha : R10 w1 w.heap.size [.int .i64 0, .int .i64 0, .int .i64 0, .int .i64 0, .int .i64 0, .int .i64 0, .int .i64 0, .bool false, .int .i64 0, .slice none 0 0] := by subst hw1; exact heap_alloc_new _ _
  have hs1 : w1.heap.size = w.heap.size + 1 := by subst hw1; simp
  have hc : CurAt 102 w2 (w.heap.size + 1) s0 := by subst hw2; exact HNW.out w1 _ hw1.symm hs1.symm
  obtain ⟨B, hB⟩ : ∃ B, B = w.heap.size := ⟨_, rfl⟩
  obtain ⟨t, ht⟩ : ∃ t, t = w.heap.size + 1 := ⟨_, rfl⟩
  obtain ⟨b2, hb2⟩ : ∃ b, b = w.heap.size := ⟨_, rfl⟩
  rw [← ht] at hc ⊢
  rw [← hb2] at ha ⊢
  have HE : Hid (∀ w', Below B w w' → w.Extends w') := fun w' h => ext_below h hB
  have HBW : Hid (w.heap.size ≤ B) := by rw [hB]; exact Nat.le_refl _
  have HNE : Hid (b2 ≠ t ∧ B ≤ t ∧ B ≤ b2) := by show _ ∧ _; omega
  have HA2 := Lib.hid (ha.ext hx2)
  have HC2 := Lib.hid hc
  have HB2 : Hid (Below B w w2) := by rw [hB]; exact Gr.below_of (Gr.ext_trans hx1 hx2)
  have HSZ2 : Hid (B ≤ w2.heap.size) := by have := hx2.size; show _ ≤ _; omega
  clear hw1 hw2 hx1 hx2 ha hs1 hc ht hb2 hB HNW
  refine (get_any t 1 s0 w2 (by omega) HC2.out).mono ?_
  rintro e' w3 ⟨rfl, hc, hg⟩
  obtain ⟨q, hL⟩ : ∃ q, q = KM.gn 1 s0 := ⟨_, rfl⟩
  obtain ⟨s1, hs⟩ : ∃ s', s' = KM.gs 1 s0 := ⟨_, rfl⟩
  rw [← hL]
  rw [← hs] at hc
  have HLq := Lib.hid hL
  have HS1 := Lib.hid hs
  have HC3 := Lib.hid hc
  have HB3 := Lib.hid (HB2.out.grown hg HSZ2.out (fun j hj => by simp at hj; have := HNE.out; omega))
  have HSZ3 : Hid (B ≤ w3.heap.size) := Nat.le_trans HSZ2.out hg.size
  have HA3 := Lib.hid (HA2.out.kept hg HNE.out.1)
  clear hL hs hc hg HC2 HB2 HA2 HSZ2
  have hq1 : (((q : Int)) == 1) = true := by have h := HKI.out; rw [← HLq.out] at h; rw [beq_iff_eq]; omega
  have hlt := HA3.out.lt
  go_wp2_with fail
  clear hq1
  generalize hw4 : World.alloc w3 _ = w4
  have hx : w3.Extends w4 := by subst hw4; exact ext_alloc _ _
  have hr : R10 w4 w3.heap.size [.int .i64 0, .int .i64 0, .int .i64 0, .int .i64 0, .int .i64 0, .int .i64 0, .int .i64 0, .bool true, .int .i64 0, .slice none 0 0] := by subst hw4; exact heap_alloc_new _ _
  have htt := HC3.out.lt
  obtain ⟨b5, hb5⟩ : ∃ b, b = w3.heap.size := ⟨_, rfl⟩
  rw [← hb5] at hr ⊢
  have HN4 : Hid (b5 ≠ t ∧ b2 ≠ b5 ∧ B ≤ b5) := by have := HNE.out; show _ ∧ _; omega
  have HR4 := Lib.hid hr
  have HA4 := Lib.hid (HA3.out.ext hx)
  have HC4 := Lib.hid (HC3.out.ext hx)
  have HB4 := Lib.hid (below_ext HB3.out hx HSZ3.out)
  have HSZ4 : Hid (B ≤ w4.heap.size) := Nat.le_trans HSZ3.out hx.size
  clear hw4 hx hr htt hlt hb5 HA3 HC3 HB3 HSZ3
  refine (get_any t 4 s1 w4 (by omega) HC4.out).mono ?_
  rintro e' w5 ⟨rfl, hc, hg⟩
  obtain ⟨p, hL⟩ : ∃ p, p = KM.gn 4 s1 := ⟨_, rfl⟩
  obtain ⟨s2, hs⟩ : ∃ s', s' = KM.gs 4 s1 := ⟨_, rfl⟩
  rw [← hL]
  rw [← hs] at hc
  have HLp := Lib.hid hL
  have HS2 := Lib.hid hs
  have HC5 := Lib.hid hc
  have HB5 := Lib.hid (HB4.out.grown hg HSZ4.out (fun j hj => by simp at hj; have := HNE.out; omega))
  have HSZ5 : Hid (B ≤ w5.heap.size) := Nat.le_trans HSZ4.out hg.size
  have HA5 := Lib.hid (HA4.out.kept hg HNE.out.1)
  have HR5 := Lib.hid (HR4.out.kept hg HN4.out.1)
  clear hL hs hc hg HC4 HB4 HA4 HSZ4 HR4
  go_wp2_with fail
  refine (get_any t 4 s2 w5 (by omega) HC5.out).mono ?_
  rintro e' w6 ⟨rfl, hc, hg⟩
  obtain ⟨n, hL⟩ : ∃ n, n = KM.gn 4 s2 := ⟨_, rfl⟩
  obtain ⟨s3, hs⟩ : ∃ s', s' = KM.gs 4 s2 := ⟨_, rfl⟩
  rw [← hL]
  rw [← hs] at hc
  have HLn := Lib.hid hL
  have HS3 := Lib.hid hs
  have HC6 := Lib.hid hc
  have HB6 := Lib.hid (HB5.out.grown hg HSZ5.out (fun j hj => by simp at hj; have := HNE.out; omega))
  have HSZ6 : Hid (B ≤ w6.heap.size) := Nat.le_trans HSZ5.out hg.size
  have HA6 := Lib.hid (HA5.out.kept hg HNE.out.1)
  have HR6 := Lib.hid (HR5.out.kept hg HN4.out.1)
  clear hL hs hc hg HC5 HB5 HA5 HSZ5 HR5
  have t0 := HR6.out.cell 0 _ rfl
  have t1 := HR6.out.cell 1 _ rfl
  have f0 := HR6.out.frozen 0
  have f1 := HR6.out.frozen 1
  have hb := HR6.out.lt
  go_wp2_with fail
  clear t0 f0 t1 f1 hb
  obtain ⟨w7, hw⟩ : ∃ w', w' = (w6.setCell ⟨b5, 0, none⟩ (.int .i64 (p : Nat))).setCell ⟨b5, 1, none⟩ (.int .i64 (n : Nat)) := ⟨_, rfl⟩
  rw [← hw]
  have hg : w6.grownBy w7 (some b5) := by subst hw; exact (grown_set w6 b5 0 (.int .i64 (p : Nat))).trans (grown_set _ b5 1 (.int .i64 (n : Nat)))
  have HR7 : Hid (R10 w7 b5 [.int .i64 (p : Nat), .int .i64 (n : Nat), .int .i64 0, .int .i64 0, .int .i64 0, .int .i64 0, .int .i64 0, .bool true, .int .i64 0, .slice none 0 0]) := by subst hw; exact ((HR6.out.set 0 (.int .i64 (p : Nat))).set 1 (.int .i64 (n : Nat)))
  have HA7 := Lib.hid (HA6.out.kept hg HN4.out.2.1)
  have HC7 := Lib.hid (HC6.out.by10 HR6.out (by intro y hy n e; subst e; simp at hy) hg HN4.out.1)
  have HB7 := Lib.hid (HB6.out.grown hg HSZ6.out (fun j hj => by simp at hj; have := HN4.out; omega))
  have HSZ7 : Hid (B ≤ w7.heap.size) := Nat.le_trans HSZ6.out hg.size
  clear hw hg HR6 HA6 HC6 HB6 HSZ6
  refine (get_any t 4 s3 w7 (by omega) HC7.out).mono ?_
  rintro e' w8 ⟨rfl, hc, hg⟩
  obtain ⟨u, hL⟩ : ∃ u, u = KM.gn 4 s3 := ⟨_, rfl⟩
  obtain ⟨s4, hs⟩ : ∃ s', s' = KM.gs 4 s3 := ⟨_, rfl⟩
  rw [← hL]
  rw [← hs] at hc
  have HLu := Lib.hid hL
  have HS4 := Lib.hid hs
  have HC8 := Lib.hid hc
  have HB8 := Lib.hid (HB7.out.grown hg HSZ7.out (fun j hj => by simp at hj; have := HNE.out; omega))
  have HSZ8 : Hid (B ≤ w8.heap.size) := Nat.le_trans HSZ7.out hg.size
  have HA8 := Lib.hid (HA7.out.kept hg HNE.out.1)
  have HR8 := Lib.hid (HR7.out.kept hg HN4.out.1)
  clear hL hs hc hg HC7 HB7 HA7 HSZ7 HR7
  have t0 := HR8.out.cell 0 _ rfl
  have t1 := HR8.out.cell 1 _ rfl
  have t2 := HR8.out.cell 2 _ rfl
  have t3 := HR8.out.cell 3 _ rfl
  have t4 := HR8.out.cell 4 _ rfl
  have t5 := HR8.out.cell 5 _ rfl
  have t6 := HR8.out.cell 6 _ rfl
  have t7 := HR8.out.cell 7 _ rfl
  have t8 := HR8.out.cell 8 _ rfl
  have t9 := HR8.out.cell 9 _ rfl
  have f8 := HR8.out.frozen 8
  have hb := HR8.out.lt
  go_wp2_with fail
  clear t0 t1 t2 t3 t4 t5 t6 t7 t9
  clear t8 f8 hb
  obtain ⟨w9, hw⟩ : ∃ w', w' = w8.setCell ⟨b5, 8, none⟩ (.int .i64 (u : Nat)) := ⟨_, rfl⟩
  rw [← hw]
  have hg : w8.grownBy w9 (some b5) := by subst hw; exact grown_set w8 b5 8 (.int .i64 (u : Nat))
  have HR9 : Hid (R10 w9 b5 [.int .i64 (p : Nat), .int .i64 (n : Nat), .int .i64 0, .int .i64 0, .int .i64 0, .int .i64 0, .int .i64 0, .bool true, .int .i64 (u : Nat), .slice none 0 0]) := by subst hw; exact (HR8.out.set 8 (.int .i64 (u : Nat)))
  have HA9 := Lib.hid (HA8.out.kept hg HN4.out.2.1)
  have HC9 := Lib.hid (HC8.out.by10 HR8.out (by intro y hy n e; subst e; simp at hy) hg HN4.out.1)
  have HB9 := Lib.hid (HB8.out.grown hg HSZ8.out (fun j hj => by simp at hj; have := HN4.out; omega))
  have HSZ9 : Hid (B ≤ w9.heap.size) := Nat.le_trans HSZ8.out hg.size
  clear hw hg HR8 HA8 HC8 HB8 HSZ8
  obtain ⟨rs, rb⟩ := s4
  have HTK : Hid (KM.rk xs = ⟨(p : Nat), (n : Nat), 0, 0, 0, 0, 0, true, (u : Nat), []⟩ ∧ (KM.tk xs).2.2 = rb) := by
    unfold KM.rk KM.tk
    simp only
    rw [← HS0.out, ← HS1.out, ← HS2.out, ← HS3.out, ← HS4.out, ← HLq.out, ← HLp.out, ← HLn.out, ← HLu.out, if_pos (show q = 1 by rw [HLq.out]; exact HKI.out)]
    exact ⟨rfl, rfl⟩
  have HGD : Hid (Good xs ↔ rb = false ∧ KM.Right ⟨(p : Nat), (n : Nat), 0, 0, 0, 0, 0, true, (u : Nat), []⟩ ∧ KM.bytes ⟨(p : Nat), (n : Nat), 0, 0, 0, 0, 0, true, (u : Nat), []⟩ = xs) := by show _ ↔ _; unfold Good; rw [HTK.out.1, HTK.out.2]
  have HRK : Hid (KM.rk xs = ⟨(p : Nat), (n : Nat), 0, 0, 0, 0, 0, true, (u : Nat), []⟩) := HTK.out.1
  clear HTK
  have HYES : Hid (∀ w', U8s w' (.slice none 0 0) [] → KM.Right ⟨(p : Nat), (n : Nat), 0, 0, 0, 0, 0, true, (u : Nat), []⟩ → Calls Try.prog 19 #[.agg #[.int .i64 (p : Nat), .int .i64 (n : Nat), .int .i64 0, .int .i64 0, .int .i64 0, .int .i64 0, .int .i64 0, .bool true, .int .i64 (u : Nat), .slice none 0 0]] w' (MadeBytes w' (KM.bytes ⟨(p : Nat), (n : Nat), 0, 0, 0, 0, 0, true, (u : Nat), []⟩))) := fun w' hu h => by
    have h2 := rbytes14_yes ⟨(p : Nat), (n : Nat), 0, 0, 0, 0, 0, true, (u : Nat), []⟩ none 0 w' h (by exact hu)
    exact h2
  have HNOT : Hid (∀ w', ¬ KM.Right ⟨(p : Nat), (n : Nat), 0, 0, 0, 0, 0, true, (u : Nat), []⟩ → Calls Try.prog 19 #[.agg #[.int .i64 (p : Nat), .int .i64 (n : Nat), .int .i64 0, .int .i64 0, .int .i64 0, .int .i64 0, .int .i64 0, .bool true, .int .i64 (u : Nat), .slice none 0 0]] w' (MadeBytes w' [])) := fun w' h => by
    have h2 := rbytes14_no ⟨(p : Nat), (n : Nat), 0, 0, 0, 0, 0, true, (u : Nat), []⟩ none 0 w' h
    exact h2
  have HBP := Lib.hid (KM.bytes_pos ⟨(p : Nat), (n : Nat), 0, 0, 0, 0, 0, true, (u : Nat), []⟩)
  have HBL : Hid (∀ x ∈ KM.bytes ⟨(p : Nat), (n : Nat), 0, 0, 0, 0, 0, true, (u : Nat), []⟩, x < 256) := KM.bytes_lt _ (by intro x hx; cases hx)
  generalize KM.bytes ⟨(p : Nat), (n : Nat), 0, 0, 0, 0, 0, true, (u : Nat), []⟩ = bs at *
  obtain ⟨RI, hri⟩ : ∃ RI, RI ↔ KM.Right ⟨(p : Nat), (n : Nat), 0, 0, 0, 0, 0, true, (u : Nat), []⟩ := ⟨_, Iff.rfl⟩
  have HYES2 : Hid (∀ w', U8s w' (.slice none 0 0) [] → RI → Calls Try.prog 19 #[.agg #[.int .i64 (p : Nat), .int .i64 (n : Nat), .int .i64 0, .int .i64 0, .int .i64 0, .int .i64 0, .int .i64 0, .bool true, .int .i64 (u : Nat), .slice none 0 0]] w' (MadeBytes w' bs)) := fun w' hu h => HYES.out w' hu (hri.1 h)
  have HNOT2 : Hid (∀ w', ¬ RI → Calls Try.prog 19 #[.agg #[.int .i64 (p : Nat), .int .i64 (n : Nat), .int .i64 0, .int .i64 0, .int .i64 0, .int .i64 0, .int .i64 0, .bool true, .int .i64 (u : Nat), .slice none 0 0]] w' (MadeBytes w' [])) := fun w' h => HNOT.out w' (fun h' => h (hri.2 h'))
  rw [← hri] at HGD
  clear HYES HNOT hri
  by_cases hri : RI
  case neg =>
    refine (HNOT2.out w9 hri).mono ?_
    rintro e' w10 ⟨vy, rfl, hy, hx⟩
    obtain ⟨ya, yc, rfl, _, _⟩ := hy.slice
    have HNG : Hid (¬ Good xs) := fun h => hri (HGD.out.1 h).2.1
    have HA10 := Lib.hid (HA9.out.ext hx)
    have HC10 := Lib.hid (HC9.out.ext hx)
    have HB10 := Lib.hid (below_ext HB9.out hx HSZ9.out)
    have HSZ10 : Hid (B ≤ w10.heap.size) := Nat.le_trans HSZ9.out hx.size
    clear hx hy
    obtain ⟨ca, cc, c0, c1, z0, z1, hu, hh⟩ := HC10.out.cells
    simp only at c0 c1
    have htl := HC10.out.lt
    clear hu hh z0 z1 c0 HA9 HC9 HR9 HB9 HSZ9
    rw [show ([] : List Nat).length = 0 from rfl]
    cases rb
    case true =>
      have t0 := HA10.out.cell 0 _ rfl
      have t1 := HA10.out.cell 1 _ rfl
      have t2 := HA10.out.cell 2 _ rfl
      have t3 := HA10.out.cell 3 _ rfl
      have t4 := HA10.out.cell 4 _ rfl
      have t5 := HA10.out.cell 5 _ rfl
      have t6 := HA10.out.cell 6 _ rfl
      have t7 := HA10.out.cell 7 _ rfl
      have t8 := HA10.out.cell 8 _ rfl
      have t9 := HA10.out.cell 9 _ rfl
      have f0 := HA10.out.frozen 0
      have f1 := HA10.out.frozen 1
      have f2 := HA10.out.frozen 2
      have f3 := HA10.out.frozen 3
      have f4 := HA10.out.frozen 4
      have f5 := HA10.out.frozen 5
      have f6 := HA10.out.frozen 6
      have f7 := HA10.out.frozen 7
      have f8 := HA10.out.frozen 8
      have f9 := HA10.out.frozen 9
      have hbl := HA10.out.lt
      go_wp2
      clear t0 t1 t2 t3 t4 t5 t6 t7 t8 t9 f0 f1 f2 f3 f4 f5 f6 f7 f8 f9 hbl
      obtain ⟨wf, hw⟩ : ∃ w', w' = (((((((((w10.setCell ⟨b2, 0, none⟩ (.int .i64 0)).setCell ⟨b2, 1, none⟩ (.int .i64 0)).setCell ⟨b2, 2, none⟩ (.int .i64 0)).setCell ⟨b2, 3, none⟩ (.int .i64 0)).setCell ⟨b2, 4, none⟩ (.int .i64 0)).setCell ⟨b2, 5, none⟩ (.int .i64 0)).setCell ⟨b2, 6, none⟩ (.int .i64 0)).setCell ⟨b2, 7, none⟩ (.bool false)).setCell ⟨b2, 8, none⟩ (.int .i64 0)).setCell ⟨b2, 9, none⟩ (.slice none 0 0) := ⟨_, rfl⟩
      rw [← hw]
      have hg : w10.grownBy wf (some b2) := by subst hw; exact (((((((((grown_set w10 b2 0 (.int .i64 0)).trans (grown_set _ b2 1 (.int .i64 0))).trans (grown_set _ b2 2 (.int .i64 0))).trans (grown_set _ b2 3 (.int .i64 0))).trans (grown_set _ b2 4 (.int .i64 0))).trans (grown_set _ b2 5 (.int .i64 0))).trans (grown_set _ b2 6 (.int .i64 0))).trans (grown_set _ b2 7 (.bool false))).trans (grown_set _ b2 8 (.int .i64 0))).trans (grown_set _ b2 9 (.slice none 0 0))
      have HAF : R10 wf b2 [.int .i64 0, .int .i64 0, .int .i64 0, .int .i64 0, .int .i64 0, .int .i64 0, .int .i64 0, .bool false, .int .i64 0, .slice none 0 0] := by subst hw; exact ((((((((((HA10.out.set 0 (.int .i64 0)).set 1 (.int .i64 0)).set 2 (.int .i64 0)).set 3 (.int .i64 0)).set 4 (.int .i64 0)).set 5 (.int .i64 0)).set 6 (.int .i64 0)).set 7 (.bool false)).set 8 (.int .i64 0)).set 9 (.slice none 0 0))
      have HP : Hid (RROut w xs (.returned (.tuple #[.agg #[.int .i64 0, .int .i64 0, .int .i64 0, .int .i64 0, .int .i64 0, .int .i64 0, .int .i64 0, .bool false, .int .i64 0, .slice none 0 0], .int .i64 2])) wf) := ⟨fun h => absurd h HNG.out, fun _ => ⟨none, 0, rfl, nil_u8s _ _ _, HE.out _ (HB10.out.grown hg HSZ10.out (fun j hj => by simp at hj; have := HNE.out; omega)), fun g hg => by cases hg⟩⟩
      clear hw hg
      have t0 := HAF.cell 0 _ rfl
      have t1 := HAF.cell 1 _ rfl
      have t2 := HAF.cell 2 _ rfl
      have t3 := HAF.cell 3 _ rfl
      have t4 := HAF.cell 4 _ rfl
      have t5 := HAF.cell 5 _ rfl
      have t6 := HAF.cell 6 _ rfl
      have t7 := HAF.cell 7 _ rfl
      have t8 := HAF.cell 8 _ rfl
      have t9 := HAF.cell 9 _ rfl
      have hbl := HAF.lt
      clear HAF
      refine bodyPost_ret (by simp [results, Try.results17, go_sem, t0, t1, t2, t3, t4, t5, t6, t7, t8, t9]; try rfl) rfl ?_
      exact HP.out
    case false =>
      have t0 := HA10.out.cell 0 _ rfl
      have t1 := HA10.out.cell 1 _ rfl
      have t2 := HA10.out.cell 2 _ rfl
      have t3 := HA10.out.cell 3 _ rfl
      have t4 := HA10.out.cell 4 _ rfl
      have t5 := HA10.out.cell 5 _ rfl
      have t6 := HA10.out.cell 6 _ rfl
      have t7 := HA10.out.cell 7 _ rfl
      have t8 := HA10.out.cell 8 _ rfl
      have t9 := HA10.out.cell 9 _ rfl
      have f0 := HA10.out.frozen 0
      have f1 := HA10.out.frozen 1
      have f2 := HA10.out.frozen 2
      have f3 := HA10.out.frozen 3
      have f4 := HA10.out.frozen 4
      have f5 := HA10.out.frozen 5
      have f6 := HA10.out.frozen 6
      have f7 := HA10.out.frozen 7
      have f8 := HA10.out.frozen 8
      have f9 := HA10.out.frozen 9
      have hbl := HA10.out.lt
      go_wp2
      clear t0 t1 t2 t3 t4 t5 t6 t7 t8 t9 f0 f1 f2 f3 f4 f5 f6 f7 f8 f9 hbl
      obtain ⟨wf, hw⟩ : ∃ w', w' = (((((((((w10.setCell ⟨b2, 0, none⟩ (.int .i64 0)).setCell ⟨b2, 1, none⟩ (.int .i64 0)).setCell ⟨b2, 2, none⟩ (.int .i64 0)).setCell ⟨b2, 3, none⟩ (.int .i64 0)).setCell ⟨b2, 4, none⟩ (.int .i64 0)).setCell ⟨b2, 5, none⟩ (.int .i64 0)).setCell ⟨b2, 6, none⟩ (.int .i64 0)).setCell ⟨b2, 7, none⟩ (.bool false)).setCell ⟨b2, 8, none⟩ (.int .i64 0)).setCell ⟨b2, 9, none⟩ (.slice none 0 0) := ⟨_, rfl⟩
      rw [← hw]
      have hg : w10.grownBy wf (some b2) := by subst hw; exact (((((((((grown_set w10 b2 0 (.int .i64 0)).trans (grown_set _ b2 1 (.int .i64 0))).trans (grown_set _ b2 2 (.int .i64 0))).trans (grown_set _ b2 3 (.int .i64 0))).trans (grown_set _ b2 4 (.int .i64 0))).trans (grown_set _ b2 5 (.int .i64 0))).trans (grown_set _ b2 6 (.int .i64 0))).trans (grown_set _ b2 7 (.bool false))).trans (grown_set _ b2 8 (.int .i64 0))).trans (grown_set _ b2 9 (.slice none 0 0))
      have HAF : R10 wf b2 [.int .i64 0, .int .i64 0, .int .i64 0, .int .i64 0, .int .i64 0, .int .i64 0, .int .i64 0, .bool false, .int .i64 0, .slice none 0 0] := by subst hw; exact ((((((((((HA10.out.set 0 (.int .i64 0)).set 1 (.int .i64 0)).set 2 (.int .i64 0)).set 3 (.int .i64 0)).set 4 (.int .i64 0)).set 5 (.int .i64 0)).set 6 (.int .i64 0)).set 7 (.bool false)).set 8 (.int .i64 0)).set 9 (.slice none 0 0))
      have HP : Hid (RROut w xs (.returned (.tuple #[.agg #[.int .i64 0, .int .i64 0, .int .i64 0, .int .i64 0, .int .i64 0, .int .i64 0, .int .i64 0, .bool false, .int .i64 0, .slice none 0 0], .int .i64 2])) wf) := ⟨fun h => absurd h HNG.out, fun _ => ⟨none, 0, rfl, nil_u8s _ _ _, HE.out _ (HB10.out.grown hg HSZ10.out (fun j hj => by simp at hj; have := HNE.out; omega)), fun g hg => by cases hg⟩⟩
      clear hw hg
      have t0 := HAF.cell 0 _ rfl
      have t1 := HAF.cell 1 _ rfl
      have t2 := HAF.cell 2 _ rfl
      have t3 := HAF.cell 3 _ rfl
      have t4 := HAF.cell 4 _ rfl
      have t5 := HAF.cell 5 _ rfl
      have t6 := HAF.cell 6 _ rfl
      have t7 := HAF.cell 7 _ rfl
      have t8 := HAF.cell 8 _ rfl
      have t9 := HAF.cell 9 _ rfl
      have hbl := HAF.lt
      clear HAF
      refine bodyPost_ret (by simp [results, Try.results17, go_sem, t0, t1, t2, t3, t4, t5, t6, t7, t8, t9]; try rfl) rfl ?_
      exact HP.out
  refine (HYES2.out w9 (nil_u8s _ _ _) hri).mono ?_
  rintro e' w10 ⟨vy, rfl, hy, hx⟩
  obtain ⟨yl, hyl⟩ : ∃ yl, yl = bs.length := ⟨_, rfl⟩
  have hyp : 13 ≤ yl := by rw [hyl]; exact HBP.out
  obtain ⟨ya, yc, rfl, hyc, hym⟩ := hy.slice
  rw [← hyl] at hy hyc ⊢
  have HY := Lib.hid hy
  have HYL := Lib.hid hyl
  have hlen0 : (((yl : Int)) == 0) = false := by rw [beq_eq_false_iff_ne]; omega
  have HA10 := Lib.hid (HA9.out.ext hx)
  have HC10 := Lib.hid (HC9.out.ext hx)
  have HR10 := Lib.hid (HR9.out.ext hx)
  have HB10 := Lib.hid (below_ext HB9.out hx HSZ9.out)
  have HSZ10 : Hid (B ≤ w10.heap.size) := Nat.le_trans HSZ9.out hx.size
  clear hx hy hyl hyc hym
  obtain ⟨ca, cc, c0, c1, z0, z1, hu, hh⟩ := HC10.out.cells
  simp only at c0 c1
  have htl := HC10.out.lt
  clear hu hh z0 z1 c0 HA9 HC9 HR9 HB9 HSZ9 hyp
  cases rb
  case true =>
    have HNG : Hid (¬ Good xs) := fun h => by have := (HGD.out.1 h).1; cases this
    have t0 := HA10.out.cell 0 _ rfl
    have t1 := HA10.out.cell 1 _ rfl
    have t2 := HA10.out.cell 2 _ rfl
    have t3 := HA10.out.cell 3 _ rfl
    have t4 := HA10.out.cell 4 _ rfl
    have t5 := HA10.out.cell 5 _ rfl
    have t6 := HA10.out.cell 6 _ rfl
    have t7 := HA10.out.cell 7 _ rfl
    have t8 := HA10.out.cell 8 _ rfl
    have t9 := HA10.out.cell 9 _ rfl
    have f0 := HA10.out.frozen 0
    have f1 := HA10.out.frozen 1
    have f2 := HA10.out.frozen 2
    have f3 := HA10.out.frozen 3
    have f4 := HA10.out.frozen 4
    have f5 := HA10.out.frozen 5
    have f6 := HA10.out.frozen 6
    have f7 := HA10.out.frozen 7
    have f8 := HA10.out.frozen 8
    have f9 := HA10.out.frozen 9
    have hbl := HA10.out.lt
    go_wp2
    clear t0 t1 t2 t3 t4 t5 t6 t7 t8 t9 f0 f1 f2 f3 f4 f5 f6 f7 f8 f9 hbl
    obtain ⟨wf, hw⟩ : ∃ w', w' = (((((((((w10.setCell ⟨b2, 0, none⟩ (.int .i64 0)).setCell ⟨b2, 1, none⟩ (.int .i64 0)).setCell ⟨b2, 2, none⟩ (.int .i64 0)).setCell ⟨b2, 3, none⟩ (.int .i64 0)).setCell ⟨b2, 4, none⟩ (.int .i64 0)).setCell ⟨b2, 5, none⟩ (.int .i64 0)).setCell ⟨b2, 6, none⟩ (.int .i64 0)).setCell ⟨b2, 7, none⟩ (.bool false)).setCell ⟨b2, 8, none⟩ (.int .i64 0)).setCell ⟨b2, 9, none⟩ (.slice none 0 0) := ⟨_, rfl⟩
    rw [← hw]
    have hg : w10.grownBy wf (some b2) := by subst hw; exact (((((((((grown_set w10 b2 0 (.int .i64 0)).trans (grown_set _ b2 1 (.int .i64 0))).trans (grown_set _ b2 2 (.int .i64 0))).trans (grown_set _ b2 3 (.int .i64 0))).trans (grown_set _ b2 4 (.int .i64 0))).trans (grown_set _ b2 5 (.int .i64 0))).trans (grown_set _ b2 6 (.int .i64 0))).trans (grown_set _ b2 7 (.bool false))).trans (grown_set _ b2 8 (.int .i64 0))).trans (grown_set _ b2 9 (.slice none 0 0))
    have HAF : R10 wf b2 [.int .i64 0, .int .i64 0, .int .i64 0, .int .i64 0, .int .i64 0, .int .i64 0, .int .i64 0, .bool false, .int .i64 0, .slice none 0 0] := by subst hw; exact ((((((((((HA10.out.set 0 (.int .i64 0)).set 1 (.int .i64 0)).set 2 (.int .i64 0)).set 3 (.int .i64 0)).set 4 (.int .i64 0)).set 5 (.int .i64 0)).set 6 (.int .i64 0)).set 7 (.bool false)).set 8 (.int .i64 0)).set 9 (.slice none 0 0))
    have HP : Hid (RROut w xs (.returned (.tuple #[.agg #[.int .i64 0, .int .i64 0, .int .i64 0, .int .i64 0, .int .i64 0, .int .i64 0, .int .i64 0, .bool false, .int .i64 0, .slice none 0 0], .int .i64 2])) wf) := ⟨fun h => absurd h HNG.out, fun _ => ⟨none, 0, rfl, nil_u8s _ _ _, HE.out _ (HB10.out.grown hg HSZ10.out (fun j hj => by simp at hj; have := HNE.out; omega)), fun g hg => by cases hg⟩⟩
    clear hw hg
    have t0 := HAF.cell 0 _ rfl
    have t1 := HAF.cell 1 _ rfl
    have t2 := HAF.cell 2 _ rfl
    have t3 := HAF.cell 3 _ rfl
    have t4 := HAF.cell 4 _ rfl
    have t5 := HAF.cell 5 _ rfl
    have t6 := HAF.cell 6 _ rfl
    have t7 := HAF.cell 7 _ rfl
    have t8 := HAF.cell 8 _ rfl
    have t9 := HAF.cell 9 _ rfl
    have hbl := HAF.lt
    clear HAF
    refine bodyPost_ret (by simp [results, Try.results17, go_sem, t0, t1, t2, t3, t4, t5, t6, t7, t8, t9]; try rfl) rfl ?_
    exact HP.out
  have hv1 := conv_rb HY.out
  have hv2 := conv_rb (HV.out.ext (HE.out w10 HB10.out))
  obtain ⟨sx, hsx⟩ : ∃ sx, sx = strOf xs := ⟨_, rfl⟩
  rw [← hsx] at hv2
  by_cases he : bs = xs
  case neg =>
    have HNG : Hid (¬ Good xs) := fun h => he (HGD.out.1 h).2.2
    obtain ⟨sy, hsy⟩ : ∃ sy, sy = strOf bs := ⟨_, rfl⟩
    rw [← hsy] at hv1
    have hne : sy ≠ sx := fun h => he (strOf_inj HBL.out HV.out.lt (by rw [← hsy, ← hsx]; exact h))
    have hne1 : (sy.toList == sx.toList) = false := str_list_ne hne
    clear hsy hsx he hne
    have t0 := HA10.out.cell 0 _ rfl
    have t1 := HA10.out.cell 1 _ rfl
    have t2 := HA10.out.cell 2 _ rfl
    have t3 := HA10.out.cell 3 _ rfl
    have t4 := HA10.out.cell 4 _ rfl
    have t5 := HA10.out.cell 5 _ rfl
    have t6 := HA10.out.cell 6 _ rfl
    have t7 := HA10.out.cell 7 _ rfl
    have t8 := HA10.out.cell 8 _ rfl
    have t9 := HA10.out.cell 9 _ rfl
    have f0 := HA10.out.frozen 0
    have f1 := HA10.out.frozen 1
    have f2 := HA10.out.frozen 2
    have f3 := HA10.out.frozen 3
    have f4 := HA10.out.frozen 4
    have f5 := HA10.out.frozen 5
    have f6 := HA10.out.frozen 6
    have f7 := HA10.out.frozen 7
    have f8 := HA10.out.frozen 8
    have f9 := HA10.out.frozen 9
    have hbl := HA10.out.lt
    go_wp2
    clear t0 t1 t2 t3 t4 t5 t6 t7 t8 t9 f0 f1 f2 f3 f4 f5 f6 f7 f8 f9 hbl
    obtain ⟨wf, hw⟩ : ∃ w', w' = (((((((((w10.setCell ⟨b2, 0, none⟩ (.int .i64 0)).setCell ⟨b2, 1, none⟩ (.int .i64 0)).setCell ⟨b2, 2, none⟩ (.int .i64 0)).setCell ⟨b2, 3, none⟩ (.int .i64 0)).setCell ⟨b2, 4, none⟩ (.int .i64 0)).setCell ⟨b2, 5, none⟩ (.int .i64 0)).setCell ⟨b2, 6, none⟩ (.int .i64 0)).setCell ⟨b2, 7, none⟩ (.bool false)).setCell ⟨b2, 8, none⟩ (.int .i64 0)).setCell ⟨b2, 9, none⟩ (.slice none 0 0) := ⟨_, rfl⟩
    rw [← hw]
    have hg : w10.grownBy wf (some b2) := by subst hw; exact (((((((((grown_set w10 b2 0 (.int .i64 0)).trans (grown_set _ b2 1 (.int .i64 0))).trans (grown_set _ b2 2 (.int .i64 0))).trans (grown_set _ b2 3 (.int .i64 0))).trans (grown_set _ b2 4 (.int .i64 0))).trans (grown_set _ b2 5 (.int .i64 0))).trans (grown_set _ b2 6 (.int .i64 0))).trans (grown_set _ b2 7 (.bool false))).trans (grown_set _ b2 8 (.int .i64 0))).trans (grown_set _ b2 9 (.slice none 0 0))
    have HAF : R10 wf b2 [.int .i64 0, .int .i64 0, .int .i64 0, .int .i64 0, .int .i64 0, .int .i64 0, .int .i64 0, .bool false, .int .i64 0, .slice none 0 0] := by subst hw; exact ((((((((((HA10.out.set 0 (.int .i64 0)).set 1 (.int .i64 0)).set 2 (.int .i64 0)).set 3 (.int .i64 0)).set 4 (.int .i64 0)).set 5 (.int .i64 0)).set 6 (.int .i64 0)).set 7 (.bool false)).set 8 (.int .i64 0)).set 9 (.slice none 0 0))
    have HP : Hid (RROut w xs (.returned (.tuple #[.agg #[.int .i64 0, .int .i64 0, .int .i64 0, .int .i64 0, .int .i64 0, .int .i64 0, .int .i64 0, .bool false, .int .i64 0, .slice none 0 0], .int .i64 2])) wf) := ⟨fun h => absurd h HNG.out, fun _ => ⟨none, 0, rfl, nil_u8s _ _ _, HE.out _ (HB10.out.grown hg HSZ10.out (fun j hj => by simp at hj; have := HNE.out; omega)), fun g hg => by cases hg⟩⟩
    clear hw hg
    have t0 := HAF.cell 0 _ rfl
    have t1 := HAF.cell 1 _ rfl
    have t2 := HAF.cell 2 _ rfl
    have t3 := HAF.cell 3 _ rfl
    have t4 := HAF.cell 4 _ rfl
    have t5 := HAF.cell 5 _ rfl
    have t6 := HAF.cell 6 _ rfl
    have t7 := HAF.cell 7 _ rfl
    have t8 := HAF.cell 8 _ rfl
    have t9 := HAF.cell 9 _ rfl
    have hbl := HAF.lt
    clear HAF
    refine bodyPost_ret (by simp [results, Try.results17, go_sem, t0, t1, t2, t3, t4, t5, t6, t7, t8, t9]; try rfl) rfl ?_
    exact HP.out
  rw [he, ← hsx] at hv1
  have HG : Hid (Good xs) := HGD.out.2 ⟨rfl, hri, he⟩
  clear hsx he
  have hne := HN4.out.2.1
  have t0 := HA10.out.cell 0 _ rfl
  have t1 := HA10.out.cell 1 _ rfl
  have t2 := HA10.out.cell 2 _ rfl
  have t3 := HA10.out.cell 3 _ rfl
  have t4 := HA10.out.cell 4 _ rfl
  have t5 := HA10.out.cell 5 _ rfl
  have t6 := HA10.out.cell 6 _ rfl
  have t7 := HA10.out.cell 7 _ rfl
  have t8 := HA10.out.cell 8 _ rfl
  have t9 := HA10.out.cell 9 _ rfl
  have f0 := HA10.out.frozen 0
  have f1 := HA10.out.frozen 1
  have f2 := HA10.out.frozen 2
  have f3 := HA10.out.frozen 3
  have f4 := HA10.out.frozen 4
  have f5 := HA10.out.frozen 5
  have f6 := HA10.out.frozen 6
  have f7 := HA10.out.frozen 7
  have f8 := HA10.out.frozen 8
  have f9 := HA10.out.frozen 9
  have r0 := HR10.out.cell 0 _ rfl
  have r1 := HR10.out.cell 1 _ rfl
  have r2 := HR10.out.cell 2 _ rfl
  have r3 := HR10.out.cell 3 _ rfl
  have r4 := HR10.out.cell 4 _ rfl
  have r5 := HR10.out.cell 5 _ rfl
  have r6 := HR10.out.cell 6 _ rfl
  have r7 := HR10.out.cell 7 _ rfl
  have r8 := HR10.out.cell 8 _ rfl
  have r9 := HR10.out.cell 9 _ rfl
  have hb2 := HA10.out.lt
  have hb4 := HR10.out.lt
  go_wp2
  clear t0 t1 t2 t3 t4 t5 t6 t7 t8 t9 f0 f1 f2 f3 f4 f5 f6 f7 f8 f9 r0 r1 r2 r3 r4 r5 r6 r7 r8 r9 hb2 hb4 hne hv1 hv2 c1 htl
  obtain ⟨wf, hw⟩ : ∃ w', w' = (((((((((w10.setCell ⟨b2, 0, none⟩ (.int .i64 (p : Nat))).setCell ⟨b2, 1, none⟩ (.int .i64 (n : Nat))).setCell ⟨b2, 2, none⟩ (.int .i64 0)).setCell ⟨b2, 3, none⟩ (.int .i64 0)).setCell ⟨b2, 4, none⟩ (.int .i64 0)).setCell ⟨b2, 5, none⟩ (.int .i64 0)).setCell ⟨b2, 6, none⟩ (.int .i64 0)).setCell ⟨b2, 7, none⟩ (.bool true)).setCell ⟨b2, 8, none⟩ (.int .i64 (u : Nat))).setCell ⟨b2, 9, none⟩ (.slice none 0 0) := ⟨_, rfl⟩
  rw [← hw]
  have hg : w10.grownBy wf (some b2) := by subst hw; exact (((((((((grown_set w10 b2 0 (.int .i64 (p : Nat))).trans (grown_set _ b2 1 (.int .i64 (n : Nat)))).trans (grown_set _ b2 2 (.int .i64 0))).trans (grown_set _ b2 3 (.int .i64 0))).trans (grown_set _ b2 4 (.int .i64 0))).trans (grown_set _ b2 5 (.int .i64 0))).trans (grown_set _ b2 6 (.int .i64 0))).trans (grown_set _ b2 7 (.bool true))).trans (grown_set _ b2 8 (.int .i64 (u : Nat)))).trans (grown_set _ b2 9 (.slice none 0 0))
  have HAF : R10 wf b2 [.int .i64 (p : Nat), .int .i64 (n : Nat), .int .i64 0, .int .i64 0, .int .i64 0, .int .i64 0, .int .i64 0, .bool true, .int .i64 (u : Nat), .slice none 0 0] := by subst hw; exact ((((((((((HA10.out.set 0 (.int .i64 (p : Nat))).set 1 (.int .i64 (n : Nat))).set 2 (.int .i64 0)).set 3 (.int .i64 0)).set 4 (.int .i64 0)).set 5 (.int .i64 0)).set 6 (.int .i64 0)).set 7 (.bool true)).set 8 (.int .i64 (u : Nat))).set 9 (.slice none 0 0))
  have HP : Hid (RROut w xs (.returned (.tuple #[.agg #[.int .i64 (p : Nat), .int .i64 (n : Nat), .int .i64 0, .int .i64 0, .int .i64 0, .int .i64 0, .int .i64 0, .bool true, .int .i64 (u : Nat), .slice none 0 0], .int .i64 0])) wf) := by
    refine ⟨fun _ => ?_, fun h => absurd HG.out h⟩
    rw [HRK.out]
    refine ⟨none, 0, rfl, ?_, HE.out _ (HB10.out.grown hg HSZ10.out (fun j hj => by simp at hj; have := HNE.out; omega)), fun g hg => by cases hg⟩
    exact nil_u8s _ _ _
  clear hw hg
  have t0 := HAF.cell 0 _ rfl
  have t1 := HAF.cell 1 _ rfl
  have t2 := HAF.cell 2 _ rfl
  have t3 := HAF.cell 3 _ rfl
  have t4 := HAF.cell 4 _ rfl
  have t5 := HAF.cell 5 _ rfl
  have t6 := HAF.cell 6 _ rfl
  have t7 := HAF.cell 7 _ rfl
  have t8 := HAF.cell 8 _ rfl
  have t9 := HAF.cell 9 _ rfl
  have hbl := HAF.lt
  clear HAF
  refine bodyPost_ret (by simp [results, Try.results17, go_sem, t0, t1, t2, t3, t4, t5, t6, t7, t8, t9]; try rfl) rfl ?_
  exact HP.out
set_option maxHeartbeats 4000000 in
theorem rread_sym (v : Value) (xs : List Nat) (w : World) (hv : U8s w v xs) (hk : ¬ KM.gn 1 (xs, false) = 1) (hxs : xs.length ≤ 1000000000) : Calls Try.prog 17 #[v] w (RROut w xs) := by
  obtain ⟨va, vc, rfl, hcap, hcm⟩ := hv.slice
  have hxlen : xs.length ≤ maxLen := Nat.le_trans hcap hcm
  unfold maxLen at hxlen
  obtain ⟨xl, hxl⟩ : ∃ xl, xl = xs.length := ⟨_, rfl⟩
  rw [← hxl] at hv hxlen ⊢
  have HV := Lib.hid hv
  have HXL := Lib.hid hxl
  obtain ⟨s0, hs0⟩ : ∃ s, s = ((xs, false) : List Nat × Bool) := ⟨_, rfl⟩
  have HS0 := Lib.hid hs0
  have HKI : Hid (¬ KM.gn 1 s0 = 1) := by rw [hs0]; exact hk
  have HNW : Hid (∀ w' t, w' = w.alloc (.cells ([.int .i64 0, .int .i64 0, .int .i64 0, .int .i64 0, .int .i64 0, .int .i64 0, .int .i64 0, .bool false, .int .i64 0, .slice none 0 0] : List Value).toArray 28) → t = w'.heap.size → CurAt 102 (w'.alloc (.cells #[.slice va xl vc, .bool false] 102)) t s0) := fun w' t hw ht => by subst hw; subst ht; rw [hs0, hxl]; exact CurAt.new (by rw [← hxl]; exact HV.out.ext (ext_alloc _ _))
  have HRS0 : Hid (xs.length ≤ 1000000000) := hxs
  clear hv hxl hs0 hk hcap hcm hxs
  go_enter Try.func17, Try.ntmps17
  go_wp2_with fail
  generalize hw1 : World.alloc w _ = w1
  generalize hw2 : World.alloc w1 _ = w2
  have hx1 : w.Extends w1 := by subst hw1; exact ext_alloc _ _
  have hx2 : w1.Extends w2 := by subst hw2; exact ext_alloc _ _
  have ha : R10 w1 w.heap.size [.int .i64 0, .int .i64 0, .int .i64 0, .int .i64 0, .int .i64 0, .int .i64 0, .int .i64 0, .bool false, .int .i64 0, .slice none 0 0] := by subst hw1; exact heap_alloc_new _ _
  have hs1 : w1.heap.size = w.heap.size + 1 := by subst hw1; simp
  have hc : CurAt 102 w2 (w.heap.size + 1) s0 := by subst hw2; exact HNW.out w1 _ hw1.symm hs1.symm
  obtain ⟨B, hB⟩ : ∃ B, B = w.heap.size := ⟨_, rfl⟩
  obtain ⟨t, ht⟩ : ∃ t, t = w.heap.size + 1 := ⟨_, rfl⟩
  obtain ⟨b2, hb2⟩ : ∃ b, b = w.heap.size := ⟨_, rfl⟩
  rw [← ht] at hc ⊢
  rw [← hb2] at ha ⊢
  have HE : Hid (∀ w', Below B w w' → w.Extends w') := fun w' h => ext_below h hB
  have HBW : Hid (w.heap.size ≤ B) := by rw [hB]; exact Nat.le_refl _
  have HNE : Hid (b2 ≠ t ∧ B ≤ t ∧ B ≤ b2) := by show _ ∧ _; omega
  have HA2 := Lib.hid (ha.ext hx2)
  have HC2 := Lib.hid hc
  have HB2 : Hid (Below B w w2) := by rw [hB]; exact Gr.below_of (Gr.ext_trans hx1 hx2)
  have HSZ2 : Hid (B ≤ w2.heap.size) := by have := hx2.size; show _ ≤ _; omega
  clear hw1 hw2 hx1 hx2 ha hs1 hc ht hb2 hB HNW
  refine (get_any t 1 s0 w2 (by omega) HC2.out).mono ?_
  rintro e' w3 ⟨rfl, hc, hg⟩
  obtain ⟨q, hL⟩ : ∃ q, q = KM.gn 1 s0 := ⟨_, rfl⟩
  obtain ⟨s1, hs⟩ : ∃ s', s' = KM.gs 1 s0 := ⟨_, rfl⟩
  rw [← hL]
  rw [← hs] at hc
  have HLq := Lib.hid hL
  have HS1 := Lib.hid hs
  have HC3 := Lib.hid hc
  have HB3 := Lib.hid (HB2.out.grown hg HSZ2.out (fun j hj => by simp at hj; have := HNE.out; omega))
  have HSZ3 : Hid (B ≤ w3.heap.size) := Nat.le_trans HSZ2.out hg.size
  have HA3 := Lib.hid (HA2.out.kept hg HNE.out.1)
  clear hL hs hc hg HC2 HB2 HA2 HSZ2
  have hq1 : (((q : Int)) == 1) = false := by have h := HKI.out; rw [← HLq.out] at h; rw [beq_eq_false_iff_ne]; omega
  have hlt := HA3.out.lt
  go_wp2_with fail
  clear hq1
  generalize hw4 : World.alloc w3 _ = w4
  have hx : w3.Extends w4 := by subst hw4; exact ext_alloc _ _
  have hr : R10 w4 w3.heap.size [.int .i64 0, .int .i64 0, .int .i64 0, .int .i64 0, .int .i64 0, .int .i64 0, .int .i64 0, .bool false, .int .i64 0, .slice none 0 0] := by subst hw4; exact heap_alloc_new _ _
  have htt := HC3.out.lt
  obtain ⟨b5, hb5⟩ : ∃ b, b = w3.heap.size := ⟨_, rfl⟩
  rw [← hb5] at hr ⊢
  have HN4 : Hid (b5 ≠ t ∧ b2 ≠ b5 ∧ B ≤ b5) := by have := HNE.out; show _ ∧ _; omega
  have HR4 := Lib.hid hr
  have HA4 := Lib.hid (HA3.out.ext hx)
  have HC4 := Lib.hid (HC3.out.ext hx)
  have HB4 := Lib.hid (below_ext HB3.out hx HSZ3.out)
  have HSZ4 : Hid (B ≤ w4.heap.size) := Nat.le_trans HSZ3.out hx.size
  clear hw4 hx hr htt hlt hb5 HA3 HC3 HB3 HSZ3
  refine (get_any t 4 s1 w4 (by omega) HC4.out).mono ?_
  rintro e' w5 ⟨rfl, hc, hg⟩
  obtain ⟨p, hL⟩ : ∃ p, p = KM.gn 4 s1 := ⟨_, rfl⟩
  obtain ⟨s2, hs⟩ : ∃ s', s' = KM.gs 4 s1 := ⟨_, rfl⟩
  rw [← hL]
  rw [← hs] at hc
  have HLp := Lib.hid hL
  have HS2 := Lib.hid hs
  have HC5 := Lib.hid hc
  have HB5 := Lib.hid (HB4.out.grown hg HSZ4.out (fun j hj => by simp at hj; have := HNE.out; omega))
  have HSZ5 : Hid (B ≤ w5.heap.size) := Nat.le_trans HSZ4.out hg.size
  have HA5 := Lib.hid (HA4.out.kept hg HNE.out.1)
  have HR5 := Lib.hid (HR4.out.kept hg HN4.out.1)
  clear hL hs hc hg HC4 HB4 HA4 HSZ4 HR4
  go_wp2_with fail
  refine (get_any t 4 s2 w5 (by omega) HC5.out).mono ?_
  rintro e' w6 ⟨rfl, hc, hg⟩
  obtain ⟨n, hL⟩ : ∃ n, n = KM.gn 4 s2 := ⟨_, rfl⟩
  obtain ⟨s3, hs⟩ : ∃ s', s' = KM.gs 4 s2 := ⟨_, rfl⟩
  rw [← hL]
  rw [← hs] at hc
  have HLn := Lib.hid hL
  have HS3 := Lib.hid hs
  have HC6 := Lib.hid hc
  have HB6 := Lib.hid (HB5.out.grown hg HSZ5.out (fun j hj => by simp at hj; have := HNE.out; omega))
  have HSZ6 : Hid (B ≤ w6.heap.size) := Nat.le_trans HSZ5.out hg.size
  have HA6 := Lib.hid (HA5.out.kept hg HNE.out.1)
  have HR6 := Lib.hid (HR5.out.kept hg HN4.out.1)
  clear hL hs hc hg HC5 HB5 HA5 HSZ5 HR5
  have t0 := HR6.out.cell 0 _ rfl
  have t1 := HR6.out.cell 1 _ rfl
  have f0 := HR6.out.frozen 0
  have f1 := HR6.out.frozen 1
  have hb := HR6.out.lt
  go_wp2_with fail
  clear t0 f0 t1 f1 hb
  obtain ⟨w7, hw⟩ : ∃ w', w' = (w6.setCell ⟨b5, 0, none⟩ (.int .i64 (p : Nat))).setCell ⟨b5, 1, none⟩ (.int .i64 (n : Nat)) := ⟨_, rfl⟩
  rw [← hw]
  have hg : w6.grownBy w7 (some b5) := by subst hw; exact (grown_set w6 b5 0 (.int .i64 (p : Nat))).trans (grown_set _ b5 1 (.int .i64 (n : Nat)))
  have HR7 : Hid (R10 w7 b5 [.int .i64 (p : Nat), .int .i64 (n : Nat), .int .i64 0, .int .i64 0, .int .i64 0, .int .i64 0, .int .i64 0, .bool false, .int .i64 0, .slice none 0 0]) := by subst hw; exact ((HR6.out.set 0 (.int .i64 (p : Nat))).set 1 (.int .i64 (n : Nat)))
  have HA7 := Lib.hid (HA6.out.kept hg HN4.out.2.1)
  have HC7 := Lib.hid (HC6.out.by10 HR6.out (by intro y hy n e; subst e; simp at hy) hg HN4.out.1)
  have HB7 := Lib.hid (HB6.out.grown hg HSZ6.out (fun j hj => by simp at hj; have := HN4.out; omega))
  have HSZ7 : Hid (B ≤ w7.heap.size) := Nat.le_trans HSZ6.out hg.size
  clear hw hg HR6 HA6 HC6 HB6 HSZ6
  refine (get_any t 4 s3 w7 (by omega) HC7.out).mono ?_
  rintro e' w8 ⟨rfl, hc, hg⟩
  obtain ⟨u, hL⟩ : ∃ u, u = KM.gn 4 s3 := ⟨_, rfl⟩
  obtain ⟨s4, hs⟩ : ∃ s', s' = KM.gs 4 s3 := ⟨_, rfl⟩
  rw [← hL]
  rw [← hs] at hc
  have HLu := Lib.hid hL
  have HS4 := Lib.hid hs
  have HC8 := Lib.hid hc
  have HB8 := Lib.hid (HB7.out.grown hg HSZ7.out (fun j hj => by simp at hj; have := HNE.out; omega))
  have HSZ8 : Hid (B ≤ w8.heap.size) := Nat.le_trans HSZ7.out hg.size
  have HA8 := Lib.hid (HA7.out.kept hg HNE.out.1)
  have HR8 := Lib.hid (HR7.out.kept hg HN4.out.1)
  clear hL hs hc hg HC7 HB7 HA7 HSZ7 HR7
  have t7 := HR8.out.cell 7 _ rfl
  have t8 := HR8.out.cell 8 _ rfl
  have f7 := HR8.out.frozen 7
  have f8 := HR8.out.frozen 8
  have hb := HR8.out.lt
  go_wp2_with fail
  clear t7 f7
  clear t8 f8 hb
  obtain ⟨w9, hw⟩ : ∃ w', w' = w8.setCell ⟨b5, 8, none⟩ (.int .i64 (u : Nat)) := ⟨_, rfl⟩
  rw [← hw]
  have hg : w8.grownBy w9 (some b5) := by subst hw; exact grown_set w8 b5 8 (.int .i64 (u : Nat))
  have HR9 : Hid (R10 w9 b5 [.int .i64 (p : Nat), .int .i64 (n : Nat), .int .i64 0, .int .i64 0, .int .i64 0, .int .i64 0, .int .i64 0, .bool false, .int .i64 (u : Nat), .slice none 0 0]) := by subst hw; exact (HR8.out.set 8 (.int .i64 (u : Nat)))
  have HA9 := Lib.hid (HA8.out.kept hg HN4.out.2.1)
  have HC9 := Lib.hid (HC8.out.by10 HR8.out (by intro y hy n e; subst e; simp at hy) hg HN4.out.1)
  have HB9 := Lib.hid (HB8.out.grown hg HSZ8.out (fun j hj => by simp at hj; have := HN4.out; omega))
  have HSZ9 : Hid (B ≤ w9.heap.size) := Nat.le_trans HSZ8.out hg.size
  clear hw hg HR8 HA8 HC8 HB8 HSZ8
  refine (get_any t 2 s4 w9 (by omega) HC9.out).mono ?_
  rintro e' w10 ⟨rfl, hc, hg⟩
  obtain ⟨b, hL⟩ : ∃ b, b = KM.gn 2 s4 := ⟨_, rfl⟩
  obtain ⟨s5, hs⟩ : ∃ s', s' = KM.gs 2 s4 := ⟨_, rfl⟩
  rw [← hL]
  rw [← hs] at hc
  have HLb := Lib.hid hL
  have HS5 := Lib.hid hs
  have HC10 := Lib.hid hc
  have HB10 := Lib.hid (HB9.out.grown hg HSZ9.out (fun j hj => by simp at hj; have := HNE.out; omega))
  have HSZ10 : Hid (B ≤ w10.heap.size) := Nat.le_trans HSZ9.out hg.size
  have HA10 := Lib.hid (HA9.out.kept hg HNE.out.1)
  have HR10 := Lib.hid (HR9.out.kept hg HN4.out.1)
  clear hL hs hc hg HC9 HB9 HA9 HSZ9 HR9
  go_wp2_with fail
  refine (get_any t 2 s5 w10 (by omega) HC10.out).mono ?_
  rintro e' w11 ⟨rfl, hc, hg⟩
  obtain ⟨s, hL⟩ : ∃ s, s = KM.gn 2 s5 := ⟨_, rfl⟩
  obtain ⟨s6, hs⟩ : ∃ s', s' = KM.gs 2 s5 := ⟨_, rfl⟩
  rw [← hL]
  rw [← hs] at hc
  have HLs := Lib.hid hL
  have HS6 := Lib.hid hs
  have HC11 := Lib.hid hc
  have HB11 := Lib.hid (HB10.out.grown hg HSZ10.out (fun j hj => by simp at hj; have := HNE.out; omega))
  have HSZ11 : Hid (B ≤ w11.heap.size) := Nat.le_trans HSZ10.out hg.size
  have HA11 := Lib.hid (HA10.out.kept hg HNE.out.1)
  have HR11 := Lib.hid (HR10.out.kept hg HN4.out.1)
  clear hL hs hc hg HC10 HB10 HA10 HSZ10 HR10
  go_wp2_with fail
  refine (get_any t 2 s6 w11 (by omega) HC11.out).mono ?_
  rintro e' w12 ⟨rfl, hc, hg⟩
  obtain ⟨m, hL⟩ : ∃ m, m = KM.gn 2 s6 := ⟨_, rfl⟩
  obtain ⟨s7, hs⟩ : ∃ s', s' = KM.gs 2 s6 := ⟨_, rfl⟩
  rw [← hL]
  rw [← hs] at hc
  have HLm := Lib.hid hL
  have HS7 := Lib.hid hs
  have HC12 := Lib.hid hc
  have HB12 := Lib.hid (HB11.out.grown hg HSZ11.out (fun j hj => by simp at hj; have := HNE.out; omega))
  have HSZ12 : Hid (B ≤ w12.heap.size) := Nat.le_trans HSZ11.out hg.size
  have HA12 := Lib.hid (HA11.out.kept hg HNE.out.1)
  have HR12 := Lib.hid (HR11.out.kept hg HN4.out.1)
  clear hL hs hc hg HC11 HB11 HA11 HSZ11 HR11
  have t2 := HR12.out.cell 2 _ rfl
  have t3 := HR12.out.cell 3 _ rfl
  have t4 := HR12.out.cell 4 _ rfl
  have f2 := HR12.out.frozen 2
  have f3 := HR12.out.frozen 3
  have f4 := HR12.out.frozen 4
  have hb := HR12.out.lt
  go_wp2_with fail
  clear t2 f2 t3 f3 t4 f4 hb
  obtain ⟨w13, hw⟩ : ∃ w', w' = ((w12.setCell ⟨b5, 2, none⟩ (.int .i64 (b : Nat))).setCell ⟨b5, 3, none⟩ (.int .i64 (s : Nat))).setCell ⟨b5, 4, none⟩ (.int .i64 (m : Nat)) := ⟨_, rfl⟩
  rw [← hw]
  have hg : w12.grownBy w13 (some b5) := by subst hw; exact ((grown_set w12 b5 2 (.int .i64 (b : Nat))).trans (grown_set _ b5 3 (.int .i64 (s : Nat)))).trans (grown_set _ b5 4 (.int .i64 (m : Nat)))
  have HR13 : Hid (R10 w13 b5 [.int .i64 (p : Nat), .int .i64 (n : Nat), .int .i64 (b : Nat), .int .i64 (s : Nat), .int .i64 (m : Nat), .int .i64 0, .int .i64 0, .bool false, .int .i64 (u : Nat), .slice none 0 0]) := by subst hw; exact (((HR12.out.set 2 (.int .i64 (b : Nat))).set 3 (.int .i64 (s : Nat))).set 4 (.int .i64 (m : Nat)))
  have HA13 := Lib.hid (HA12.out.kept hg HN4.out.2.1)
  have HC13 := Lib.hid (HC12.out.by10 HR12.out (by intro y hy n e; subst e; simp at hy) hg HN4.out.1)
  have HB13 := Lib.hid (HB12.out.grown hg HSZ12.out (fun j hj => by simp at hj; have := HN4.out; omega))
  have HSZ13 : Hid (B ≤ w13.heap.size) := Nat.le_trans HSZ12.out hg.size
  clear hw hg HR12 HA12 HC12 HB12 HSZ12
  refine (get_any t 2 s7 w13 (by omega) HC13.out).mono ?_
  rintro e' w14 ⟨rfl, hc, hg⟩
  obtain ⟨j, hL⟩ : ∃ j, j = KM.gn 2 s7 := ⟨_, rfl⟩
  obtain ⟨s8, hs⟩ : ∃ s', s' = KM.gs 2 s7 := ⟨_, rfl⟩
  rw [← hL]
  rw [← hs] at hc
  have HLj := Lib.hid hL
  have HS8 := Lib.hid hs
  have HC14 := Lib.hid hc
  have HB14 := Lib.hid (HB13.out.grown hg HSZ13.out (fun j hj => by simp at hj; have := HNE.out; omega))
  have HSZ14 : Hid (B ≤ w14.heap.size) := Nat.le_trans HSZ13.out hg.size
  have HA14 := Lib.hid (HA13.out.kept hg HNE.out.1)
  have HR14 := Lib.hid (HR13.out.kept hg HN4.out.1)
  clear hL hs hc hg HC13 HB13 HA13 HSZ13 HR13
  have t5 := HR14.out.cell 5 _ rfl
  have f5 := HR14.out.frozen 5
  have hb := HR14.out.lt
  go_wp2_with fail
  clear t5 f5 hb
  obtain ⟨w15, hw⟩ : ∃ w', w' = w14.setCell ⟨b5, 5, none⟩ (.int .i64 (j : Nat)) := ⟨_, rfl⟩
  rw [← hw]
  have hg : w14.grownBy w15 (some b5) := by subst hw; exact grown_set w14 b5 5 (.int .i64 (j : Nat))
  have HR15 : Hid (R10 w15 b5 [.int .i64 (p : Nat), .int .i64 (n : Nat), .int .i64 (b : Nat), .int .i64 (s : Nat), .int .i64 (m : Nat), .int .i64 (j : Nat), .int .i64 0, .bool false, .int .i64 (u : Nat), .slice none 0 0]) := by subst hw; exact (HR14.out.set 5 (.int .i64 (j : Nat)))
  have HA15 := Lib.hid (HA14.out.kept hg HN4.out.2.1)
  have HC15 := Lib.hid (HC14.out.by10 HR14.out (by intro y hy n e; subst e; simp at hy) hg HN4.out.1)
  have HB15 := Lib.hid (HB14.out.grown hg HSZ14.out (fun j hj => by simp at hj; have := HN4.out; omega))
  have HSZ15 : Hid (B ≤ w15.heap.size) := Nat.le_trans HSZ14.out hg.size
  clear hw hg HR14 HA14 HC14 HB14 HSZ14
  refine (get_any t 3 s8 w15 (by omega) HC15.out).mono ?_
  rintro e' w16 ⟨rfl, hc, hg⟩
  obtain ⟨e, hL⟩ : ∃ e, e = KM.gn 3 s8 := ⟨_, rfl⟩
  obtain ⟨s9, hs⟩ : ∃ s', s' = KM.gs 3 s8 := ⟨_, rfl⟩
  rw [← hL]
  rw [← hs] at hc
  have HLe := Lib.hid hL
  have HS9 := Lib.hid hs
  have HC16 := Lib.hid hc
  have HB16 := Lib.hid (HB15.out.grown hg HSZ15.out (fun j hj => by simp at hj; have := HNE.out; omega))
  have HSZ16 : Hid (B ≤ w16.heap.size) := Nat.le_trans HSZ15.out hg.size
  have HA16 := Lib.hid (HA15.out.kept hg HNE.out.1)
  have HR16 := Lib.hid (HR15.out.kept hg HN4.out.1)
  clear hL hs hc hg HC15 HB15 HA15 HSZ15 HR15
  have t6 := HR16.out.cell 6 _ rfl
  have f6 := HR16.out.frozen 6
  have hb := HR16.out.lt
  go_upto_region 9 with fail
  clear t6 f6 hb
  obtain ⟨w17, hw⟩ : ∃ w', w' = w16.setCell ⟨b5, 6, none⟩ (.int .i64 (e : Nat)) := ⟨_, rfl⟩
  rw [← hw]
  have hg : w16.grownBy w17 (some b5) := by subst hw; exact grown_set w16 b5 6 (.int .i64 (e : Nat))
  have HR17 : Hid (R10 w17 b5 [.int .i64 (p : Nat), .int .i64 (n : Nat), .int .i64 (b : Nat), .int .i64 (s : Nat), .int .i64 (m : Nat), .int .i64 (j : Nat), .int .i64 (e : Nat), .bool false, .int .i64 (u : Nat), .slice none 0 0]) := by subst hw; exact (HR16.out.set 6 (.int .i64 (e : Nat)))
  have HA17 := Lib.hid (HA16.out.kept hg HN4.out.2.1)
  have HC17 := Lib.hid (HC16.out.by10 HR16.out (by intro y hy n e; subst e; simp at hy) hg HN4.out.1)
  have HB17 := Lib.hid (HB16.out.grown hg HSZ16.out (fun j hj => by simp at hj; have := HN4.out; omega))
  have HSZ17 : Hid (B ≤ w17.heap.size) := Nat.le_trans HSZ16.out hg.size
  clear hw hg HR16 HA16 HC16 HB16 HSZ16
  obtain ⟨rs, rb⟩ := s9
  obtain ⟨rl, hrl⟩ : ∃ rl, rl = rs.length := ⟨_, rfl⟩
  have HRL := Lib.hid hrl
  obtain ⟨ra, rc, c0, c1, z0, z1, hu, hh⟩ := HC17.out.cells
  simp only at c0 c1 hu hh
  rw [← hrl] at c0 hu hh
  have hrs : rl ≤ 1000000000 := by
    have l0 := HRS0.out
    have l1 := KM.gs_len 1 s0
    have l2 := KM.gs_len 4 s1
    have l3 := KM.gs_len 4 s2
    have l4 := KM.gs_len 4 s3
    have l5 := KM.gs_len 2 s4
    have l6 := KM.gs_len 2 s5
    have l7 := KM.gs_len 2 s6
    have l8 := KM.gs_len 2 s7
    have l9 := KM.gs_len 3 s8
    rw [← HS1.out] at l1
    rw [← HS2.out] at l2
    rw [← HS3.out] at l3
    rw [← HS4.out] at l4
    rw [← HS5.out] at l5
    rw [← HS6.out] at l6
    rw [← HS7.out] at l7
    rw [← HS8.out] at l8
    rw [← HS9.out] at l9
    rw [HS0.out] at l1
    simp only at l1 l9
    omega
  have HRS := Lib.hid hrs
  have hrb : rl ≤ 9223372036854775807 := by have := hu.len; unfold maxLen at this; omega
  obtain ⟨iu, hiu, hz0, hz1, hz2⟩ := info_parts byteinfo
  have HI := Lib.hid hiu
  have HZ0 := Lib.hid hz0
  have HZ1 := Lib.hid hz1
  have HZ2 := Lib.hid hz2
  have HUQ := Lib.hid hu
  have htl := HC17.out.lt
  clear hiu hz0 hz1 hz2 hu hh hrl z0 z1
  go_wp2_with (at_builtin; refine wpList_append_own_src _ rfl _ _ 26 26 rfl w17.heap.size 5 iu (.int .u8 0) 1 1 Try.underlying26 HI.out HZ0.out HZ1.out HZ2.out rfl (.slice none 0 0) 0 [] rfl (World.ownsRow_nil _ _ _ _) _ rl (u8vs rs) rfl (by have h := HUQ.out; rw [HRL.out] at h ⊢; exact h.src Try.underlying26) (by unfold maxLen; omega) (by have := HRS.out; omega) (Nat.le_refl _) ?_)
  intro v9 w18 ho9 hg9 _
  obtain ⟨a9, c9, rfl⟩ := owns_slice ho9
  have hx9 : w17.Extends w18 := ext_below ⟨hg9.os, hg9.tape, hg9.output, hg9.size, fun i hi => hg9.block i hi (by simp [Value.ownBlock])⟩ rfl
  have HU18 : Hid (U8s w18 (.slice a9 rl c9) rs) := by have h := owns_u8s ho9 HUQ.out.lt; exact h
  have HO9 : Hid (∀ g, (Value.slice a9 rl c9).ownBlock = some g → w.heap.size ≤ g) := fun g hg => by have h1 := (ho9.lt g hg).1; have h2 := HSZ17.out; have h3 := HBW.out; omega
  have HA18 := Lib.hid (HA17.out.ext hx9)
  have HR18 := Lib.hid (HR17.out.ext hx9)
  have HC18 := Lib.hid (HC17.out.ext hx9)
  have HB18 := Lib.hid (below_ext HB17.out hx9 HSZ17.out)
  have HSZ18 : Hid (B ≤ w18.heap.size) := Nat.le_trans HSZ17.out hx9.size
  clear ho9 hg9 hx9 c0 c1 htl HUQ HR17 HA17 HC17 HB17 HSZ17
  have t0 := HR18.out.cell 0 _ rfl
  have t1 := HR18.out.cell 1 _ rfl
  have t2 := HR18.out.cell 2 _ rfl
  have t3 := HR18.out.cell 3 _ rfl
  have t4 := HR18.out.cell 4 _ rfl
  have t5 := HR18.out.cell 5 _ rfl
  have t6 := HR18.out.cell 6 _ rfl
  have t7 := HR18.out.cell 7 _ rfl
  have t8 := HR18.out.cell 8 _ rfl
  have t9 := HR18.out.cell 9 _ rfl
  have f9 := HR18.out.frozen 9
  have hb := HR18.out.lt
  go_wp2_with fail
  clear t0 t1 t2 t3 t4 t5 t6 t7 t8
  clear t9 f9 hb
  obtain ⟨w19, hw⟩ : ∃ w', w' = w18.setCell ⟨b5, 9, none⟩ (.slice a9 rl c9) := ⟨_, rfl⟩
  rw [← hw]
  have hg : w18.grownBy w19 (some b5) := by subst hw; exact grown_set w18 b5 9 (.slice a9 rl c9)
  have HR19 : Hid (R10 w19 b5 [.int .i64 (p : Nat), .int .i64 (n : Nat), .int .i64 (b : Nat), .int .i64 (s : Nat), .int .i64 (m : Nat), .int .i64 (j : Nat), .int .i64 (e : Nat), .bool false, .int .i64 (u : Nat), .slice a9 rl c9]) := by subst hw; exact (HR18.out.set 9 (.slice a9 rl c9))
  have HA19 := Lib.hid (HA18.out.kept hg HN4.out.2.1)
  have HC19 := Lib.hid (HC18.out.by10 HR18.out (by intro y hy n e; subst e; simp at hy) hg HN4.out.1)
  have HB19 := Lib.hid (HB18.out.grown hg HSZ18.out (fun j hj => by simp at hj; have := HN4.out; omega))
  have HSZ19 : Hid (B ≤ w19.heap.size) := Nat.le_trans HSZ18.out hg.size
  have HU19 := Lib.hid (HU18.out.by10 HR18.out (by intro y hy n e; subst e; simp at hy) hg)
  clear HU18
  clear hw hg HR18 HA18 HC18 HB18 HSZ18
  have HTK : Hid (KM.rk xs = ⟨(p : Nat), (n : Nat), (b : Nat), (s : Nat), (m : Nat), (j : Nat), (e : Nat), false, (u : Nat), rs⟩ ∧ (KM.tk xs).2.2 = rb) := by
    unfold KM.rk KM.tk
    simp only
    rw [← HS0.out, ← HS1.out, ← HS2.out, ← HS3.out, ← HS4.out, ← HS5.out, ← HS6.out, ← HS7.out, ← HS8.out, ← HS9.out, ← HLq.out, ← HLp.out, ← HLn.out, ← HLu.out, ← HLb.out, ← HLs.out, ← HLm.out, ← HLj.out, ← HLe.out, if_neg (show ¬ q = 1 by rw [HLq.out]; exact HKI.out)]
    exact ⟨rfl, rfl⟩
  have HGD : Hid (Good xs ↔ rb = false ∧ KM.Right ⟨(p : Nat), (n : Nat), (b : Nat), (s : Nat), (m : Nat), (j : Nat), (e : Nat), false, (u : Nat), rs⟩ ∧ KM.bytes ⟨(p : Nat), (n : Nat), (b : Nat), (s : Nat), (m : Nat), (j : Nat), (e : Nat), false, (u : Nat), rs⟩ = xs) := by show _ ↔ _; unfold Good; rw [HTK.out.1, HTK.out.2]
  have HRK : Hid (KM.rk xs = ⟨(p : Nat), (n : Nat), (b : Nat), (s : Nat), (m : Nat), (j : Nat), (e : Nat), false, (u : Nat), rs⟩) := HTK.out.1
  clear HTK
  have HYES : Hid (∀ w', U8s w' (.slice a9 rl c9) rs → KM.Right ⟨(p : Nat), (n : Nat), (b : Nat), (s : Nat), (m : Nat), (j : Nat), (e : Nat), false, (u : Nat), rs⟩ → Calls Try.prog 19 #[.agg #[.int .i64 (p : Nat), .int .i64 (n : Nat), .int .i64 (b : Nat), .int .i64 (s : Nat), .int .i64 (m : Nat), .int .i64 (j : Nat), .int .i64 (e : Nat), .bool false, .int .i64 (u : Nat), .slice a9 rl c9]] w' (MadeBytes w' (KM.bytes ⟨(p : Nat), (n : Nat), (b : Nat), (s : Nat), (m : Nat), (j : Nat), (e : Nat), false, (u : Nat), rs⟩))) := fun w' hu h => by
    have h2 := rbytes14_yes ⟨(p : Nat), (n : Nat), (b : Nat), (s : Nat), (m : Nat), (j : Nat), (e : Nat), false, (u : Nat), rs⟩ a9 c9 w' h (by show U8s w' (.slice a9 rs.length c9) rs; rw [← HRL.out]; exact hu)
    rw [HRL.out]; exact h2
  have HNOT : Hid (∀ w', ¬ KM.Right ⟨(p : Nat), (n : Nat), (b : Nat), (s : Nat), (m : Nat), (j : Nat), (e : Nat), false, (u : Nat), rs⟩ → Calls Try.prog 19 #[.agg #[.int .i64 (p : Nat), .int .i64 (n : Nat), .int .i64 (b : Nat), .int .i64 (s : Nat), .int .i64 (m : Nat), .int .i64 (j : Nat), .int .i64 (e : Nat), .bool false, .int .i64 (u : Nat), .slice a9 rl c9]] w' (MadeBytes w' [])) := fun w' h => by
    have h2 := rbytes14_no ⟨(p : Nat), (n : Nat), (b : Nat), (s : Nat), (m : Nat), (j : Nat), (e : Nat), false, (u : Nat), rs⟩ a9 c9 w' h
    rw [HRL.out]; exact h2
  have HBP := Lib.hid (KM.bytes_pos ⟨(p : Nat), (n : Nat), (b : Nat), (s : Nat), (m : Nat), (j : Nat), (e : Nat), false, (u : Nat), rs⟩)
  have HBL : Hid (∀ x ∈ KM.bytes ⟨(p : Nat), (n : Nat), (b : Nat), (s : Nat), (m : Nat), (j : Nat), (e : Nat), false, (u : Nat), rs⟩, x < 256) := KM.bytes_lt _ HU19.out.lt
  generalize KM.bytes ⟨(p : Nat), (n : Nat), (b : Nat), (s : Nat), (m : Nat), (j : Nat), (e : Nat), false, (u : Nat), rs⟩ = bs at *
  obtain ⟨RI, hri⟩ : ∃ RI, RI ↔ KM.Right ⟨(p : Nat), (n : Nat), (b : Nat), (s : Nat), (m : Nat), (j : Nat), (e : Nat), false, (u : Nat), rs⟩ := ⟨_, Iff.rfl⟩
  have HYES2 : Hid (∀ w', U8s w' (.slice a9 rl c9) rs → RI → Calls Try.prog 19 #[.agg #[.int .i64 (p : Nat), .int .i64 (n : Nat), .int .i64 (b : Nat), .int .i64 (s : Nat), .int .i64 (m : Nat), .int .i64 (j : Nat), .int .i64 (e : Nat), .bool false, .int .i64 (u : Nat), .slice a9 rl c9]] w' (MadeBytes w' bs)) := fun w' hu h => HYES.out w' hu (hri.1 h)
  have HNOT2 : Hid (∀ w', ¬ RI → Calls Try.prog 19 #[.agg #[.int .i64 (p : Nat), .int .i64 (n : Nat), .int .i64 (b : Nat), .int .i64 (s : Nat), .int .i64 (m : Nat), .int .i64 (j : Nat), .int .i64 (e : Nat), .bool false, .int .i64 (u : Nat), .slice a9 rl c9]] w' (MadeBytes w' [])) := fun w' h => HNOT.out w' (fun h' => h (hri.2 h'))
  rw [← hri] at HGD
  clear HYES HNOT hri
  by_cases hri : RI
  case neg =>
    refine (HNOT2.out w19 hri).mono ?_
    rintro e' w20 ⟨vy, rfl, hy, hx⟩
    obtain ⟨ya, yc, rfl, _, _⟩ := hy.slice
    have HNG : Hid (¬ Good xs) := fun h => hri (HGD.out.1 h).2.1
    have HA20 := Lib.hid (HA19.out.ext hx)
    have HC20 := Lib.hid (HC19.out.ext hx)
    have HB20 := Lib.hid (below_ext HB19.out hx HSZ19.out)
    have HSZ20 : Hid (B ≤ w20.heap.size) := Nat.le_trans HSZ19.out hx.size
    clear hx hy
    obtain ⟨ca, cc, c0, c1, z0, z1, hu, hh⟩ := HC20.out.cells
    simp only at c0 c1
    have htl := HC20.out.lt
    clear hu hh z0 z1 c0 HA19 HC19 HR19 HB19 HSZ19
    rw [show ([] : List Nat).length = 0 from rfl]
    cases rb
    case true =>
      have t0 := HA20.out.cell 0 _ rfl
      have t1 := HA20.out.cell 1 _ rfl
      have t2 := HA20.out.cell 2 _ rfl
      have t3 := HA20.out.cell 3 _ rfl
      have t4 := HA20.out.cell 4 _ rfl
      have t5 := HA20.out.cell 5 _ rfl
      have t6 := HA20.out.cell 6 _ rfl
      have t7 := HA20.out.cell 7 _ rfl
      have t8 := HA20.out.cell 8 _ rfl
      have t9 := HA20.out.cell 9 _ rfl
      have f0 := HA20.out.frozen 0
      have f1 := HA20.out.frozen 1
      have f2 := HA20.out.frozen 2
      have f3 := HA20.out.frozen 3
      have f4 := HA20.out.frozen 4
      have f5 := HA20.out.frozen 5
      have f6 := HA20.out.frozen 6
      have f7 := HA20.out.frozen 7
      have f8 := HA20.out.frozen 8
      have f9 := HA20.out.frozen 9
      have hbl := HA20.out.lt
      go_wp2
      clear t0 t1 t2 t3 t4 t5 t6 t7 t8 t9 f0 f1 f2 f3 f4 f5 f6 f7 f8 f9 hbl
      obtain ⟨wf, hw⟩ : ∃ w', w' = (((((((((w20.setCell ⟨b2, 0, none⟩ (.int .i64 0)).setCell ⟨b2, 1, none⟩ (.int .i64 0)).setCell ⟨b2, 2, none⟩ (.int .i64 0)).setCell ⟨b2, 3, none⟩ (.int .i64 0)).setCell ⟨b2, 4, none⟩ (.int .i64 0)).setCell ⟨b2, 5, none⟩ (.int .i64 0)).setCell ⟨b2, 6, none⟩ (.int .i64 0)).setCell ⟨b2, 7, none⟩ (.bool false)).setCell ⟨b2, 8, none⟩ (.int .i64 0)).setCell ⟨b2, 9, none⟩ (.slice none 0 0) := ⟨_, rfl⟩
      rw [← hw]
      have hg : w20.grownBy wf (some b2) := by subst hw; exact (((((((((grown_set w20 b2 0 (.int .i64 0)).trans (grown_set _ b2 1 (.int .i64 0))).trans (grown_set _ b2 2 (.int .i64 0))).trans (grown_set _ b2 3 (.int .i64 0))).trans (grown_set _ b2 4 (.int .i64 0))).trans (grown_set _ b2 5 (.int .i64 0))).trans (grown_set _ b2 6 (.int .i64 0))).trans (grown_set _ b2 7 (.bool false))).trans (grown_set _ b2 8 (.int .i64 0))).trans (grown_set _ b2 9 (.slice none 0 0))
      have HAF : R10 wf b2 [.int .i64 0, .int .i64 0, .int .i64 0, .int .i64 0, .int .i64 0, .int .i64 0, .int .i64 0, .bool false, .int .i64 0, .slice none 0 0] := by subst hw; exact ((((((((((HA20.out.set 0 (.int .i64 0)).set 1 (.int .i64 0)).set 2 (.int .i64 0)).set 3 (.int .i64 0)).set 4 (.int .i64 0)).set 5 (.int .i64 0)).set 6 (.int .i64 0)).set 7 (.bool false)).set 8 (.int .i64 0)).set 9 (.slice none 0 0))
      have HP : Hid (RROut w xs (.returned (.tuple #[.agg #[.int .i64 0, .int .i64 0, .int .i64 0, .int .i64 0, .int .i64 0, .int .i64 0, .int .i64 0, .bool false, .int .i64 0, .slice none 0 0], .int .i64 2])) wf) := ⟨fun h => absurd h HNG.out, fun _ => ⟨none, 0, rfl, nil_u8s _ _ _, HE.out _ (HB20.out.grown hg HSZ20.out (fun j hj => by simp at hj; have := HNE.out; omega)), fun g hg => by cases hg⟩⟩
      clear hw hg
      have t0 := HAF.cell 0 _ rfl
      have t1 := HAF.cell 1 _ rfl
      have t2 := HAF.cell 2 _ rfl
      have t3 := HAF.cell 3 _ rfl
      have t4 := HAF.cell 4 _ rfl
      have t5 := HAF.cell 5 _ rfl
      have t6 := HAF.cell 6 _ rfl
      have t7 := HAF.cell 7 _ rfl
      have t8 := HAF.cell 8 _ rfl
      have t9 := HAF.cell 9 _ rfl
      have hbl := HAF.lt
      clear HAF
      refine bodyPost_ret (by simp [results, Try.results17, go_sem, t0, t1, t2, t3, t4, t5, t6, t7, t8, t9]; try rfl) rfl ?_
      exact HP.out
    case false =>
      have t0 := HA20.out.cell 0 _ rfl
      have t1 := HA20.out.cell 1 _ rfl
      have t2 := HA20.out.cell 2 _ rfl
      have t3 := HA20.out.cell 3 _ rfl
      have t4 := HA20.out.cell 4 _ rfl
      have t5 := HA20.out.cell 5 _ rfl
      have t6 := HA20.out.cell 6 _ rfl
      have t7 := HA20.out.cell 7 _ rfl
      have t8 := HA20.out.cell 8 _ rfl
      have t9 := HA20.out.cell 9 _ rfl
      have f0 := HA20.out.frozen 0
      have f1 := HA20.out.frozen 1
      have f2 := HA20.out.frozen 2
      have f3 := HA20.out.frozen 3
      have f4 := HA20.out.frozen 4
      have f5 := HA20.out.frozen 5
      have f6 := HA20.out.frozen 6
      have f7 := HA20.out.frozen 7
      have f8 := HA20.out.frozen 8
      have f9 := HA20.out.frozen 9
      have hbl := HA20.out.lt
      go_wp2
      clear t0 t1 t2 t3 t4 t5 t6 t7 t8 t9 f0 f1 f2 f3 f4 f5 f6 f7 f8 f9 hbl
      obtain ⟨wf, hw⟩ : ∃ w', w' = (((((((((w20.setCell ⟨b2, 0, none⟩ (.int .i64 0)).setCell ⟨b2, 1, none⟩ (.int .i64 0)).setCell ⟨b2, 2, none⟩ (.int .i64 0)).setCell ⟨b2, 3, none⟩ (.int .i64 0)).setCell ⟨b2, 4, none⟩ (.int .i64 0)).setCell ⟨b2, 5, none⟩ (.int .i64 0)).setCell ⟨b2, 6, none⟩ (.int .i64 0)).setCell ⟨b2, 7, none⟩ (.bool false)).setCell ⟨b2, 8, none⟩ (.int .i64 0)).setCell ⟨b2, 9, none⟩ (.slice none 0 0) := ⟨_, rfl⟩
      rw [← hw]
      have hg : w20.grownBy wf (some b2) := by subst hw; exact (((((((((grown_set w20 b2 0 (.int .i64 0)).trans (grown_set _ b2 1 (.int .i64 0))).trans (grown_set _ b2 2 (.int .i64 0))).trans (grown_set _ b2 3 (.int .i64 0))).trans (grown_set _ b2 4 (.int .i64 0))).trans (grown_set _ b2 5 (.int .i64 0))).trans (grown_set _ b2 6 (.int .i64 0))).trans (grown_set _ b2 7 (.bool false))).trans (grown_set _ b2 8 (.int .i64 0))).trans (grown_set _ b2 9 (.slice none 0 0))
      have HAF : R10 wf b2 [.int .i64 0, .int .i64 0, .int .i64 0, .int .i64 0, .int .i64 0, .int .i64 0, .int .i64 0, .bool false, .int .i64 0, .slice none 0 0] := by subst hw; exact ((((((((((HA20.out.set 0 (.int .i64 0)).set 1 (.int .i64 0)).set 2 (.int .i64 0)).set 3 (.int .i64 0)).set 4 (.int .i64 0)).set 5 (.int .i64 0)).set 6 (.int .i64 0)).set 7 (.bool false)).set 8 (.int .i64 0)).set 9 (.slice none 0 0))
      have HP : Hid (RROut w xs (.returned (.tuple #[.agg #[.int .i64 0, .int .i64 0, .int .i64 0, .int .i64 0, .int .i64 0, .int .i64 0, .int .i64 0, .bool false, .int .i64 0, .slice none 0 0], .int .i64 2])) wf) := ⟨fun h => absurd h HNG.out, fun _ => ⟨none, 0, rfl, nil_u8s _ _ _, HE.out _ (HB20.out.grown hg HSZ20.out (fun j hj => by simp at hj; have := HNE.out; omega)), fun g hg => by cases hg⟩⟩
      clear hw hg
      have t0 := HAF.cell 0 _ rfl
      have t1 := HAF.cell 1 _ rfl
      have t2 := HAF.cell 2 _ rfl
      have t3 := HAF.cell 3 _ rfl
      have t4 := HAF.cell 4 _ rfl
      have t5 := HAF.cell 5 _ rfl
      have t6 := HAF.cell 6 _ rfl
      have t7 := HAF.cell 7 _ rfl
      have t8 := HAF.cell 8 _ rfl
      have t9 := HAF.cell 9 _ rfl
      have hbl := HAF.lt
      clear HAF
      refine bodyPost_ret (by simp [results, Try.results17, go_sem, t0, t1, t2, t3, t4, t5, t6, t7, t8, t9]; try rfl) rfl ?_
      exact HP.out
  refine (HYES2.out w19 HU19.out hri).mono ?_
  rintro e' w20 ⟨vy, rfl, hy, hx⟩
  obtain ⟨yl, hyl⟩ : ∃ yl, yl = bs.length := ⟨_, rfl⟩
  have hyp : 13 ≤ yl := by rw [hyl]; exact HBP.out
  obtain ⟨ya, yc, rfl, hyc, hym⟩ := hy.slice
  rw [← hyl] at hy hyc ⊢
  have HY := Lib.hid hy
  have HYL := Lib.hid hyl
  have hlen0 : (((yl : Int)) == 0) = false := by rw [beq_eq_false_iff_ne]; omega
  have HA20 := Lib.hid (HA19.out.ext hx)
  have HC20 := Lib.hid (HC19.out.ext hx)
  have HR20 := Lib.hid (HR19.out.ext hx)
  have HU20 := Lib.hid (HU19.out.ext hx)
  have HB20 := Lib.hid (below_ext HB19.out hx HSZ19.out)
  have HSZ20 : Hid (B ≤ w20.heap.size) := Nat.le_trans HSZ19.out hx.size
  clear hx hy hyl hyc hym
  obtain ⟨ca, cc, c0, c1, z0, z1, hu, hh⟩ := HC20.out.cells
  simp only at c0 c1
  have htl := HC20.out.lt
  clear hu hh z0 z1 c0 HA19 HC19 HR19 HB19 HSZ19 hyp HU19
  cases rb
  case true =>
    have HNG : Hid (¬ Good xs) := fun h => by have := (HGD.out.1 h).1; cases this
    have t0 := HA20.out.cell 0 _ rfl
    have t1 := HA20.out.cell 1 _ rfl
    have t2 := HA20.out.cell 2 _ rfl
    have t3 := HA20.out.cell 3 _ rfl
    have t4 := HA20.out.cell 4 _ rfl
    have t5 := HA20.out.cell 5 _ rfl
    have t6 := HA20.out.cell 6 _ rfl
    have t7 := HA20.out.cell 7 _ rfl
    have t8 := HA20.out.cell 8 _ rfl
    have t9 := HA20.out.cell 9 _ rfl
    have f0 := HA20.out.frozen 0
    have f1 := HA20.out.frozen 1
    have f2 := HA20.out.frozen 2
    have f3 := HA20.out.frozen 3
    have f4 := HA20.out.frozen 4
    have f5 := HA20.out.frozen 5
    have f6 := HA20.out.frozen 6
    have f7 := HA20.out.frozen 7
    have f8 := HA20.out.frozen 8
    have f9 := HA20.out.frozen 9
    have hbl := HA20.out.lt
    go_wp2
    clear t0 t1 t2 t3 t4 t5 t6 t7 t8 t9 f0 f1 f2 f3 f4 f5 f6 f7 f8 f9 hbl
    obtain ⟨wf, hw⟩ : ∃ w', w' = (((((((((w20.setCell ⟨b2, 0, none⟩ (.int .i64 0)).setCell ⟨b2, 1, none⟩ (.int .i64 0)).setCell ⟨b2, 2, none⟩ (.int .i64 0)).setCell ⟨b2, 3, none⟩ (.int .i64 0)).setCell ⟨b2, 4, none⟩ (.int .i64 0)).setCell ⟨b2, 5, none⟩ (.int .i64 0)).setCell ⟨b2, 6, none⟩ (.int .i64 0)).setCell ⟨b2, 7, none⟩ (.bool false)).setCell ⟨b2, 8, none⟩ (.int .i64 0)).setCell ⟨b2, 9, none⟩ (.slice none 0 0) := ⟨_, rfl⟩
    rw [← hw]
    have hg : w20.grownBy wf (some b2) := by subst hw; exact (((((((((grown_set w20 b2 0 (.int .i64 0)).trans (grown_set _ b2 1 (.int .i64 0))).trans (grown_set _ b2 2 (.int .i64 0))).trans (grown_set _ b2 3 (.int .i64 0))).trans (grown_set _ b2 4 (.int .i64 0))).trans (grown_set _ b2 5 (.int .i64 0))).trans (grown_set _ b2 6 (.int .i64 0))).trans (grown_set _ b2 7 (.bool false))).trans (grown_set _ b2 8 (.int .i64 0))).trans (grown_set _ b2 9 (.slice none 0 0))
    have HAF : R10 wf b2 [.int .i64 0, .int .i64 0, .int .i64 0, .int .i64 0, .int .i64 0, .int .i64 0, .int .i64 0, .bool false, .int .i64 0, .slice none 0 0] := by subst hw; exact ((((((((((HA20.out.set 0 (.int .i64 0)).set 1 (.int .i64 0)).set 2 (.int .i64 0)).set 3 (.int .i64 0)).set 4 (.int .i64 0)).set 5 (.int .i64 0)).set 6 (.int .i64 0)).set 7 (.bool false)).set 8 (.int .i64 0)).set 9 (.slice none 0 0))
    have HP : Hid (RROut w xs (.returned (.tuple #[.agg #[.int .i64 0, .int .i64 0, .int .i64 0, .int .i64 0, .int .i64 0, .int .i64 0, .int .i64 0, .bool false, .int .i64 0, .slice none 0 0], .int .i64 2])) wf) := ⟨fun h => absurd h HNG.out, fun _ => ⟨none, 0, rfl, nil_u8s _ _ _, HE.out _ (HB20.out.grown hg HSZ20.out (fun j hj => by simp at hj; have := HNE.out; omega)), fun g hg => by cases hg⟩⟩
    clear hw hg
    have t0 := HAF.cell 0 _ rfl
    have t1 := HAF.cell 1 _ rfl
    have t2 := HAF.cell 2 _ rfl
    have t3 := HAF.cell 3 _ rfl
    have t4 := HAF.cell 4 _ rfl
    have t5 := HAF.cell 5 _ rfl
    have t6 := HAF.cell 6 _ rfl
    have t7 := HAF.cell 7 _ rfl
    have t8 := HAF.cell 8 _ rfl
    have t9 := HAF.cell 9 _ rfl
    have hbl := HAF.lt
    clear HAF
    refine bodyPost_ret (by simp [results, Try.results17, go_sem, t0, t1, t2, t3, t4, t5, t6, t7, t8, t9]; try rfl) rfl ?_
    exact HP.out
  have hv1 := conv_rb HY.out
  have hv2 := conv_rb (HV.out.ext (HE.out w20 HB20.out))
  obtain ⟨sx, hsx⟩ : ∃ sx, sx = strOf xs := ⟨_, rfl⟩
  rw [← hsx] at hv2
  by_cases he : bs = xs
  case neg =>
    have HNG : Hid (¬ Good xs) := fun h => he (HGD.out.1 h).2.2
    obtain ⟨sy, hsy⟩ : ∃ sy, sy = strOf bs := ⟨_, rfl⟩
    rw [← hsy] at hv1
    have hne : sy ≠ sx := fun h => he (strOf_inj HBL.out HV.out.lt (by rw [← hsy, ← hsx]; exact h))
    have hne1 : (sy.toList == sx.toList) = false := str_list_ne hne
    clear hsy hsx he hne
    have t0 := HA20.out.cell 0 _ rfl
    have t1 := HA20.out.cell 1 _ rfl
    have t2 := HA20.out.cell 2 _ rfl
    have t3 := HA20.out.cell 3 _ rfl
    have t4 := HA20.out.cell 4 _ rfl
    have t5 := HA20.out.cell 5 _ rfl
    have t6 := HA20.out.cell 6 _ rfl
    have t7 := HA20.out.cell 7 _ rfl
    have t8 := HA20.out.cell 8 _ rfl
    have t9 := HA20.out.cell 9 _ rfl
    have f0 := HA20.out.frozen 0
    have f1 := HA20.out.frozen 1
    have f2 := HA20.out.frozen 2
    have f3 := HA20.out.frozen 3
    have f4 := HA20.out.frozen 4
    have f5 := HA20.out.frozen 5
    have f6 := HA20.out.frozen 6
    have f7 := HA20.out.frozen 7
    have f8 := HA20.out.frozen 8
    have f9 := HA20.out.frozen 9
    have hbl := HA20.out.lt
    go_wp2
    clear t0 t1 t2 t3 t4 t5 t6 t7 t8 t9 f0 f1 f2 f3 f4 f5 f6 f7 f8 f9 hbl
    obtain ⟨wf, hw⟩ : ∃ w', w' = (((((((((w20.setCell ⟨b2, 0, none⟩ (.int .i64 0)).setCell ⟨b2, 1, none⟩ (.int .i64 0)).setCell ⟨b2, 2, none⟩ (.int .i64 0)).setCell ⟨b2, 3, none⟩ (.int .i64 0)).setCell ⟨b2, 4, none⟩ (.int .i64 0)).setCell ⟨b2, 5, none⟩ (.int .i64 0)).setCell ⟨b2, 6, none⟩ (.int .i64 0)).setCell ⟨b2, 7, none⟩ (.bool false)).setCell ⟨b2, 8, none⟩ (.int .i64 0)).setCell ⟨b2, 9, none⟩ (.slice none 0 0) := ⟨_, rfl⟩
    rw [← hw]
    have hg : w20.grownBy wf (some b2) := by subst hw; exact (((((((((grown_set w20 b2 0 (.int .i64 0)).trans (grown_set _ b2 1 (.int .i64 0))).trans (grown_set _ b2 2 (.int .i64 0))).trans (grown_set _ b2 3 (.int .i64 0))).trans (grown_set _ b2 4 (.int .i64 0))).trans (grown_set _ b2 5 (.int .i64 0))).trans (grown_set _ b2 6 (.int .i64 0))).trans (grown_set _ b2 7 (.bool false))).trans (grown_set _ b2 8 (.int .i64 0))).trans (grown_set _ b2 9 (.slice none 0 0))
    have HAF : R10 wf b2 [.int .i64 0, .int .i64 0, .int .i64 0, .int .i64 0, .int .i64 0, .int .i64 0, .int .i64 0, .bool false, .int .i64 0, .slice none 0 0] := by subst hw; exact ((((((((((HA20.out.set 0 (.int .i64 0)).set 1 (.int .i64 0)).set 2 (.int .i64 0)).set 3 (.int .i64 0)).set 4 (.int .i64 0)).set 5 (.int .i64 0)).set 6 (.int .i64 0)).set 7 (.bool false)).set 8 (.int .i64 0)).set 9 (.slice none 0 0))
    have HP : Hid (RROut w xs (.returned (.tuple #[.agg #[.int .i64 0, .int .i64 0, .int .i64 0, .int .i64 0, .int .i64 0, .int .i64 0, .int .i64 0, .bool false, .int .i64 0, .slice none 0 0], .int .i64 2])) wf) := ⟨fun h => absurd h HNG.out, fun _ => ⟨none, 0, rfl, nil_u8s _ _ _, HE.out _ (HB20.out.grown hg HSZ20.out (fun j hj => by simp at hj; have := HNE.out; omega)), fun g hg => by cases hg⟩⟩
    clear hw hg
    have t0 := HAF.cell 0 _ rfl
    have t1 := HAF.cell 1 _ rfl
    have t2 := HAF.cell 2 _ rfl
    have t3 := HAF.cell 3 _ rfl
    have t4 := HAF.cell 4 _ rfl
    have t5 := HAF.cell 5 _ rfl
    have t6 := HAF.cell 6 _ rfl
    have t7 := HAF.cell 7 _ rfl
    have t8 := HAF.cell 8 _ rfl
    have t9 := HAF.cell 9 _ rfl
    have hbl := HAF.lt
    clear HAF
    refine bodyPost_ret (by simp [results, Try.results17, go_sem, t0, t1, t2, t3, t4, t5, t6, t7, t8, t9]; try rfl) rfl ?_
    exact HP.out
  rw [he, ← hsx] at hv1
  have HG : Hid (Good xs) := HGD.out.2 ⟨rfl, hri, he⟩
  clear hsx he
  have hne := HN4.out.2.1
  have t0 := HA20.out.cell 0 _ rfl
  have t1 := HA20.out.cell 1 _ rfl
  have t2 := HA20.out.cell 2 _ rfl
  have t3 := HA20.out.cell 3 _ rfl
  have t4 := HA20.out.cell 4 _ rfl
  have t5 := HA20.out.cell 5 _ rfl
  have t6 := HA20.out.cell 6 _ rfl
  have t7 := HA20.out.cell 7 _ rfl
  have t8 := HA20.out.cell 8 _ rfl
  have t9 := HA20.out.cell 9 _ rfl
  have f0 := HA20.out.frozen 0
  have f1 := HA20.out.frozen 1
  have f2 := HA20.out.frozen 2
  have f3 := HA20.out.frozen 3
  have f4 := HA20.out.frozen 4
  have f5 := HA20.out.frozen 5
  have f6 := HA20.out.frozen 6
  have f7 := HA20.out.frozen 7
  have f8 := HA20.out.frozen 8
  have f9 := HA20.out.frozen 9
  have r0 := HR20.out.cell 0 _ rfl
  have r1 := HR20.out.cell 1 _ rfl
  have r2 := HR20.out.cell 2 _ rfl
  have r3 := HR20.out.cell 3 _ rfl
  have r4 := HR20.out.cell 4 _ rfl
  have r5 := HR20.out.cell 5 _ rfl
  have r6 := HR20.out.cell 6 _ rfl
  have r7 := HR20.out.cell 7 _ rfl
  have r8 := HR20.out.cell 8 _ rfl
  have r9 := HR20.out.cell 9 _ rfl
  have hb2 := HA20.out.lt
  have hb4 := HR20.out.lt
  go_wp2
  clear t0 t1 t2 t3 t4 t5 t6 t7 t8 t9 f0 f1 f2 f3 f4 f5 f6 f7 f8 f9 r0 r1 r2 r3 r4 r5 r6 r7 r8 r9 hb2 hb4 hne hv1 hv2 c1 htl
  obtain ⟨wf, hw⟩ : ∃ w', w' = (((((((((w20.setCell ⟨b2, 0, none⟩ (.int .i64 (p : Nat))).setCell ⟨b2, 1, none⟩ (.int .i64 (n : Nat))).setCell ⟨b2, 2, none⟩ (.int .i64 (b : Nat))).setCell ⟨b2, 3, none⟩ (.int .i64 (s : Nat))).setCell ⟨b2, 4, none⟩ (.int .i64 (m : Nat))).setCell ⟨b2, 5, none⟩ (.int .i64 (j : Nat))).setCell ⟨b2, 6, none⟩ (.int .i64 (e : Nat))).setCell ⟨b2, 7, none⟩ (.bool false)).setCell ⟨b2, 8, none⟩ (.int .i64 (u : Nat))).setCell ⟨b2, 9, none⟩ (.slice a9 rl c9) := ⟨_, rfl⟩
  rw [← hw]
  have hg : w20.grownBy wf (some b2) := by subst hw; exact (((((((((grown_set w20 b2 0 (.int .i64 (p : Nat))).trans (grown_set _ b2 1 (.int .i64 (n : Nat)))).trans (grown_set _ b2 2 (.int .i64 (b : Nat)))).trans (grown_set _ b2 3 (.int .i64 (s : Nat)))).trans (grown_set _ b2 4 (.int .i64 (m : Nat)))).trans (grown_set _ b2 5 (.int .i64 (j : Nat)))).trans (grown_set _ b2 6 (.int .i64 (e : Nat)))).trans (grown_set _ b2 7 (.bool false))).trans (grown_set _ b2 8 (.int .i64 (u : Nat)))).trans (grown_set _ b2 9 (.slice a9 rl c9))
  have HAF : R10 wf b2 [.int .i64 (p : Nat), .int .i64 (n : Nat), .int .i64 (b : Nat), .int .i64 (s : Nat), .int .i64 (m : Nat), .int .i64 (j : Nat), .int .i64 (e : Nat), .bool false, .int .i64 (u : Nat), .slice a9 rl c9] := by subst hw; exact ((((((((((HA20.out.set 0 (.int .i64 (p : Nat))).set 1 (.int .i64 (n : Nat))).set 2 (.int .i64 (b : Nat))).set 3 (.int .i64 (s : Nat))).set 4 (.int .i64 (m : Nat))).set 5 (.int .i64 (j : Nat))).set 6 (.int .i64 (e : Nat))).set 7 (.bool false)).set 8 (.int .i64 (u : Nat))).set 9 (.slice a9 rl c9))
  have HP : Hid (RROut w xs (.returned (.tuple #[.agg #[.int .i64 (p : Nat), .int .i64 (n : Nat), .int .i64 (b : Nat), .int .i64 (s : Nat), .int .i64 (m : Nat), .int .i64 (j : Nat), .int .i64 (e : Nat), .bool false, .int .i64 (u : Nat), .slice a9 rl c9], .int .i64 0])) wf) := by
    refine ⟨fun _ => ?_, fun h => absurd HG.out h⟩
    rw [HRK.out]
    refine ⟨a9, c9, by rw [HRL.out]; rfl, ?_, HE.out _ (HB20.out.grown hg HSZ20.out (fun j hj => by simp at hj; have := HNE.out; omega)), fun g hg => HO9.out g (own_len hg)⟩
    show U8s wf (.slice a9 rs.length c9) rs
    rw [← HRL.out]; exact HU20.out.by10 HA20.out (by intro y hy n e; subst e; simp at hy) hg
  clear hw hg
  have t0 := HAF.cell 0 _ rfl
  have t1 := HAF.cell 1 _ rfl
  have t2 := HAF.cell 2 _ rfl
  have t3 := HAF.cell 3 _ rfl
  have t4 := HAF.cell 4 _ rfl
  have t5 := HAF.cell 5 _ rfl
  have t6 := HAF.cell 6 _ rfl
  have t7 := HAF.cell 7 _ rfl
  have t8 := HAF.cell 8 _ rfl
  have t9 := HAF.cell 9 _ rfl
  have hbl := HAF.lt
  clear HAF
  refine bodyPost_ret (by simp [results, Try.results17, go_sem, t0, t1, t2, t3, t4, t5, t6, t7, t8, t9]; try rfl) rfl ?_
  exact HP.out
end Go.Proofs.Ytdbdnfjgmdkneaa
