/- In one text: LetTaken, LetRight, LetRightAny. -/
import Derived.Deep.DeepCutAuto
import Derived.Test.YtdbdnfjgmdkneaaMD5
import Derived.Test.YtdbdnfjgmdkneaaMD9
import Derived.Test.YtdbdnfjgmdkneaaMD10
namespace Go.Proofs.Ytdbdnfjgmdkneaa
set_option maxRecDepth 20000
open Go.RowKit Go.Deep
set_option linter.unusedVariables false
/-- What taking a letter answers: it, or that there was none. -/
def LTakenOut (w : World) (t : Nat) (xs : List Nat) (e : Ending) (w' : World) : Prop :=
  ∃ (l : Lt) (vp vr : Value) (ok : Bool), e = .returned (.tuple #[l.val vp vr, .bool ok]) ∧ LetV w' vp vr l ∧ w.grownBy w' (some t) ∧ (ok = true → LQ.bytes l = xs) ∧ (∀ l', LQ.Right l' → LQ.bytes l' = xs → ok = true ∧ l = l') ∧ ∀ g, vp.ownBlock = some g ∨ vr.ownBlock = some g → w.heap.size ≤ g
theorem grown_then {w a b : World} {r : Option Nat} (h : w.grownBy a r) (hx : a.Extends b) : w.grownBy b r := ⟨hx.os.trans h.os, hx.tape.trans h.tape, hx.output.trans h.output, Nat.le_trans h.size hx.size, fun i hi hr => (hx.block i (Nat.lt_of_lt_of_le hi h.size)).trans (h.block i hi hr)⟩
theorem fr_one {D : Nat → Prop} {w w' : World} {g : Nat} (h : w.grownBy w' (some g)) (hd : D g) : Fr D w w' := Fr.grown h fun i e => by have := Option.some.inj e; subst this; exact hd
set_option maxHeartbeats 8000000 in
theorem ltaken_any (xs : List Nat) (t : Nat) (w : World) (h : CurAt 126 w t (xs, false)) (hlt : ∀ x ∈ xs, x < 256) (hxs : xs.length ≤ 1000000000) :
    Calls Try.prog 80 #[.pointer (some ⟨t, 0, none⟩)] w (LTakenOut w t xs) := by
  have ht := h.lt
  obtain ⟨s0, hs0⟩ : ∃ s, s = ((xs, false) : List Nat × Bool) := ⟨_, rfl⟩
  rw [← hs0] at h
  have HS0 := Lib.hid hs0
  have H0 := Lib.hid h
  have HLT := Lib.hid hlt
  have HXS := Lib.hid hxs
  clear h hs0 hlt hxs
  go_enter Try.func80, Try.ntmps80
  go_wp2_with fail
  generalize hw1 : World.alloc (World.alloc w _) _ = w1
  have hx1 : w.Extends w1 := by subst hw1; exact Gr.ext_trans (ext_alloc _ _) (ext_alloc _ _)
  have ha : L8 w1 w.heap.size [.int .i64 0, .int .i64 0, .int .i64 0, .int .i64 0, .int .i64 0, .int .i64 0, .slice none 0 0, .slice none 0 0] := by subst hw1; unfold L8; rw [Go.heap_alloc_old (h := by simp)]; exact heap_alloc_new _ _
  have hr : L8 w1 (w.heap.size + 1) [.int .i64 0, .int .i64 0, .int .i64 0, .int .i64 0, .int .i64 0, .int .i64 0, .slice none 0 0, .slice none 0 0] := by subst hw1; have h := heap_alloc_new (w.alloc (.cells ([.int .i64 0, .int .i64 0, .int .i64 0, .int .i64 0, .int .i64 0, .int .i64 0, .slice none 0 0, .slice none 0 0] : List Value).toArray 83)) (.cells ([.int .i64 0, .int .i64 0, .int .i64 0, .int .i64 0, .int .i64 0, .int .i64 0, .slice none 0 0, .slice none 0 0] : List Value).toArray 83); rw [show (w.alloc (.cells ([.int .i64 0, .int .i64 0, .int .i64 0, .int .i64 0, .int .i64 0, .int .i64 0, .slice none 0 0, .slice none 0 0] : List Value).toArray 83)).heap.size = w.heap.size + 1 by simp] at h; exact h
  have HC1 := Lib.hid (H0.out.ext hx1)
  have HG1 : Hid (w.grownBy w1 (some t)) := ⟨hx1.os, hx1.tape, hx1.output, hx1.size, fun i hi _ => hx1.block i hi⟩
  obtain ⟨B, hB⟩ : ∃ B, B = w1.heap.size := ⟨_, rfl⟩
  have HB1 : Hid (B ≤ w1.heap.size) := Nat.le_of_eq hB
  obtain ⟨b4, hb4⟩ : ∃ b, b = w.heap.size + 1 := ⟨_, rfl⟩
  obtain ⟨b2, hb2⟩ : ∃ b, b = w.heap.size := ⟨_, rfl⟩
  rw [← hb4] at hr ⊢
  rw [← hb2] at ha ⊢
  have HA1 := Lib.hid ha
  have HR1 := Lib.hid hr
  have hb4B : b4 < B := by rw [hB]; exact hr.lt
  have HNE : Hid (b2 ≠ t ∧ b4 ≠ t ∧ b4 ≠ b2 ∧ w.heap.size ≤ b2 ∧ w.heap.size ≤ b4 ∧ t < B ∧ b2 < B ∧ b4 < B) := by show _ ∧ _; omega
  clear hw1 hx1 ha hr hb2 hb4 ht H0 hB hb4B
  refine (number_any t 1 s0 w1 (by omega) HC1.out).mono ?_
  rintro e' w2 ⟨rfl, hc, hg⟩
  obtain ⟨kk, hL⟩ : ∃ q, q = KM.gn 1 s0 := ⟨_, rfl⟩
  obtain ⟨s1, hs⟩ : ∃ s', s' = KM.gs 1 s0 := ⟨_, rfl⟩
  rw [← hL]
  rw [← hs] at hc
  have HLkk := Lib.hid hL
  have HS1 := Lib.hid hs
  have HC2 := Lib.hid hc
  have HG2 := Lib.hid (HG1.out.trans hg)
  have HB2 : Hid (B ≤ w2.heap.size) := Nat.le_trans HB1.out hg.size
  have HA2 := Lib.hid (HA1.out.kept hg HNE.out.1)
  have HR2 := Lib.hid (HR1.out.kept hg HNE.out.2.1)
  clear hL hs hc hg HC1 HG1 HA1 HR1
  have t0 := HR2.out.cell 0 _ rfl
  have f0 := HR2.out.frozen 0
  have hb := HR2.out.lt
  go_wp2_with fail
  clear t0 f0 hb
  obtain ⟨w3, hw⟩ : ∃ w', w' = w2.setCell ⟨b4, 0, none⟩ (.int .i64 (kk : Nat)) := ⟨_, rfl⟩
  rw [← hw]
  have hg : w2.grownBy w3 (some b4) := by subst hw; exact (grown_set w2 b4 0 (.int .i64 (kk : Nat)))
  have HR3 : Hid (L8 w3 b4 [.int .i64 (kk : Nat), .int .i64 0, .int .i64 0, .int .i64 0, .int .i64 0, .int .i64 0, .slice none 0 0, .slice none 0 0]) := by subst hw; exact (HR2.out.set 0 (.int .i64 (kk : Nat)))
  have HA3 := Lib.hid (HA2.out.kept hg (fun e => HNE.out.2.2.1 e.symm))
  have HC3 := Lib.hid (HC2.out.by8 HR2.out (by intro y hy n e; subst e; simp at hy) hg HNE.out.2.1)
  have HG3 := Lib.hid (HG2.out.andThen hg (fun j hj => .inl (by have := HNE.out; simp at hj; omega)))
  have HB3 : Hid (B ≤ w3.heap.size) := Nat.le_trans HB2.out hg.size
  clear hw hg HB2 HR2 HA2 HC2 HG2
  refine (number_any t 4 s1 w3 (by omega) HC3.out).mono ?_
  rintro e' w4 ⟨rfl, hc, hg⟩
  obtain ⟨ff, hL⟩ : ∃ q, q = KM.gn 4 s1 := ⟨_, rfl⟩
  obtain ⟨s2, hs⟩ : ∃ s', s' = KM.gs 4 s1 := ⟨_, rfl⟩
  rw [← hL]
  rw [← hs] at hc
  have HLff := Lib.hid hL
  have HS2 := Lib.hid hs
  have HC4 := Lib.hid hc
  have HG4 := Lib.hid (HG3.out.trans hg)
  have HB4 : Hid (B ≤ w4.heap.size) := Nat.le_trans HB3.out hg.size
  have HA4 := Lib.hid (HA3.out.kept hg HNE.out.1)
  have HR4 := Lib.hid (HR3.out.kept hg HNE.out.2.1)
  clear hL hs hc hg HC3 HG3 HA3 HR3
  go_wp2_with fail
  refine (number_any t 4 s2 w4 (by omega) HC4.out).mono ?_
  rintro e' w5 ⟨rfl, hc, hg⟩
  obtain ⟨tt, hL⟩ : ∃ q, q = KM.gn 4 s2 := ⟨_, rfl⟩
  obtain ⟨s3, hs⟩ : ∃ s', s' = KM.gs 4 s2 := ⟨_, rfl⟩
  rw [← hL]
  rw [← hs] at hc
  have HLtt := Lib.hid hL
  have HS3 := Lib.hid hs
  have HC5 := Lib.hid hc
  have HG5 := Lib.hid (HG4.out.trans hg)
  have HB5 : Hid (B ≤ w5.heap.size) := Nat.le_trans HB4.out hg.size
  have HA5 := Lib.hid (HA4.out.kept hg HNE.out.1)
  have HR5 := Lib.hid (HR4.out.kept hg HNE.out.2.1)
  clear hL hs hc hg HC4 HG4 HA4 HR4
  go_wp2_with fail
  refine (number_any t 4 s3 w5 (by omega) HC5.out).mono ?_
  rintro e' w6 ⟨rfl, hc, hg⟩
  obtain ⟨gg, hL⟩ : ∃ q, q = KM.gn 4 s3 := ⟨_, rfl⟩
  obtain ⟨s4, hs⟩ : ∃ s', s' = KM.gs 4 s3 := ⟨_, rfl⟩
  rw [← hL]
  rw [← hs] at hc
  have HLgg := Lib.hid hL
  have HS4 := Lib.hid hs
  have HC6 := Lib.hid hc
  have HG6 := Lib.hid (HG5.out.trans hg)
  have HB6 : Hid (B ≤ w6.heap.size) := Nat.le_trans HB5.out hg.size
  have HA6 := Lib.hid (HA5.out.kept hg HNE.out.1)
  have HR6 := Lib.hid (HR5.out.kept hg HNE.out.2.1)
  clear hL hs hc hg HC5 HG5 HA5 HR5
  have t1 := HR6.out.cell 1 _ rfl
  have f1 := HR6.out.frozen 1
  have t2 := HR6.out.cell 2 _ rfl
  have f2 := HR6.out.frozen 2
  have t3 := HR6.out.cell 3 _ rfl
  have f3 := HR6.out.frozen 3
  have hb := HR6.out.lt
  go_wp2_with fail
  clear t1 f1 t2 f2 t3 f3 hb
  obtain ⟨w7, hw⟩ : ∃ w', w' = ((w6.setCell ⟨b4, 1, none⟩ (.int .i64 (ff : Nat))).setCell ⟨b4, 2, none⟩ (.int .i64 (tt : Nat))).setCell ⟨b4, 3, none⟩ (.int .i64 (gg : Nat)) := ⟨_, rfl⟩
  rw [← hw]
  have hg : w6.grownBy w7 (some b4) := by subst hw; exact (((grown_set w6 b4 1 (.int .i64 (ff : Nat))).trans (grown_set _ b4 2 (.int .i64 (tt : Nat)))).trans (grown_set _ b4 3 (.int .i64 (gg : Nat))))
  have HR7 : Hid (L8 w7 b4 [.int .i64 (kk : Nat), .int .i64 (ff : Nat), .int .i64 (tt : Nat), .int .i64 (gg : Nat), .int .i64 0, .int .i64 0, .slice none 0 0, .slice none 0 0]) := by subst hw; exact (((HR6.out.set 1 (.int .i64 (ff : Nat))).set 2 (.int .i64 (tt : Nat))).set 3 (.int .i64 (gg : Nat)))
  have HA7 := Lib.hid (HA6.out.kept hg (fun e => HNE.out.2.2.1 e.symm))
  have HC7 := Lib.hid (HC6.out.by8 HR6.out (by intro y hy n e; subst e; simp at hy) hg HNE.out.2.1)
  have HG7 := Lib.hid (HG6.out.andThen hg (fun j hj => .inl (by have := HNE.out; simp at hj; omega)))
  have HB7 : Hid (B ≤ w7.heap.size) := Nat.le_trans HB6.out hg.size
  clear hw hg HB6 HR6 HA6 HC6 HG6
  refine (number_any t 4 s4 w7 (by omega) HC7.out).mono ?_
  rintro e' w8 ⟨rfl, hc, hg⟩
  obtain ⟨pp, hL⟩ : ∃ q, q = KM.gn 4 s4 := ⟨_, rfl⟩
  obtain ⟨s5, hs⟩ : ∃ s', s' = KM.gs 4 s4 := ⟨_, rfl⟩
  rw [← hL]
  rw [← hs] at hc
  have HLpp := Lib.hid hL
  have HS5 := Lib.hid hs
  have HC8 := Lib.hid hc
  have HG8 := Lib.hid (HG7.out.trans hg)
  have HB8 : Hid (B ≤ w8.heap.size) := Nat.le_trans HB7.out hg.size
  have HA8 := Lib.hid (HA7.out.kept hg HNE.out.1)
  have HR8 := Lib.hid (HR7.out.kept hg HNE.out.2.1)
  clear hL hs hc hg HC7 HG7 HA7 HR7
  go_wp2_with fail
  refine (number_any t 4 s5 w8 (by omega) HC8.out).mono ?_
  rintro e' w9 ⟨rfl, hc, hg⟩
  obtain ⟨nn, hL⟩ : ∃ q, q = KM.gn 4 s5 := ⟨_, rfl⟩
  obtain ⟨s6, hs⟩ : ∃ s', s' = KM.gs 4 s5 := ⟨_, rfl⟩
  rw [← hL]
  rw [← hs] at hc
  have HLnn := Lib.hid hL
  have HS6 := Lib.hid hs
  have HC9 := Lib.hid hc
  have HG9 := Lib.hid (HG8.out.trans hg)
  have HB9 : Hid (B ≤ w9.heap.size) := Nat.le_trans HB8.out hg.size
  have HA9 := Lib.hid (HA8.out.kept hg HNE.out.1)
  have HR9 := Lib.hid (HR8.out.kept hg HNE.out.2.1)
  clear hL hs hc hg HC8 HG8 HA8 HR8
  have t4 := HR9.out.cell 4 _ rfl
  have f4 := HR9.out.frozen 4
  have t5 := HR9.out.cell 5 _ rfl
  have f5 := HR9.out.frozen 5
  have hb := HR9.out.lt
  go_wp2_with fail
  clear t4 f4 t5 f5 hb
  obtain ⟨w10, hw⟩ : ∃ w', w' = (w9.setCell ⟨b4, 4, none⟩ (.int .i64 (pp : Nat))).setCell ⟨b4, 5, none⟩ (.int .i64 (nn : Nat)) := ⟨_, rfl⟩
  rw [← hw]
  have hg : w9.grownBy w10 (some b4) := by subst hw; exact ((grown_set w9 b4 4 (.int .i64 (pp : Nat))).trans (grown_set _ b4 5 (.int .i64 (nn : Nat))))
  have HR10 : Hid (L8 w10 b4 [.int .i64 (kk : Nat), .int .i64 (ff : Nat), .int .i64 (tt : Nat), .int .i64 (gg : Nat), .int .i64 (pp : Nat), .int .i64 (nn : Nat), .slice none 0 0, .slice none 0 0]) := by subst hw; exact ((HR9.out.set 4 (.int .i64 (pp : Nat))).set 5 (.int .i64 (nn : Nat)))
  have HA10 := Lib.hid (HA9.out.kept hg (fun e => HNE.out.2.2.1 e.symm))
  have HC10 := Lib.hid (HC9.out.by8 HR9.out (by intro y hy n e; subst e; simp at hy) hg HNE.out.2.1)
  have HG10 := Lib.hid (HG9.out.andThen hg (fun j hj => .inl (by have := HNE.out; simp at hj; omega)))
  have HB10 : Hid (B ≤ w10.heap.size) := Nat.le_trans HB9.out hg.size
  clear hw hg HB9 HR9 HA9 HC9 HG9
  refine (number_any t 1 s6 w10 (by omega) HC10.out).mono ?_
  rintro e' w11 ⟨rfl, hc, hg⟩
  obtain ⟨cc, hL⟩ : ∃ q, q = KM.gn 1 s6 := ⟨_, rfl⟩
  obtain ⟨s7, hs⟩ : ∃ s', s' = KM.gs 1 s6 := ⟨_, rfl⟩
  rw [← hL]
  rw [← hs] at hc
  have HLcc := Lib.hid hL
  have HS7 := Lib.hid hs
  have HC11 := Lib.hid hc
  have HG11 := Lib.hid (HG10.out.trans hg)
  have HB11 : Hid (B ≤ w11.heap.size) := Nat.le_trans HB10.out hg.size
  have HA11 := Lib.hid (HA10.out.kept hg HNE.out.1)
  have HR11 := Lib.hid (HR10.out.kept hg HNE.out.2.1)
  clear hL hs hc hg HC10 HG10 HA10 HR10
  have HHD : Hid (LQ.hd xs = ⟨kk, ff, tt, gg, pp, nn, cc, s7⟩) := by
    show _ = _
    unfold LQ.hd
    simp only
    rw [← HS0.out, ← HS1.out, ← HS2.out, ← HS3.out, ← HS4.out, ← HS5.out, ← HS6.out, ← HS7.out, ← HLkk.out, ← HLff.out, ← HLtt.out, ← HLgg.out, ← HLpp.out, ← HLnn.out, ← HLcc.out]
  have HCC : Hid (cc < 256) := by have h := LQ.hd_c HLT.out; rw [HHD.out] at h; exact h
  clear HS0 HS1 HS2 HS3 HS4 HS5 HS6 HS7 HLkk HLff HLtt HLgg HLpp HLnn HLcc
  have hcc := HCC.out
  go_wp2_with fail
  go_loopw [29] (fun s29 wr => ∃ (q : Nat) (pa : Option Addr) (pc : Nat) (ps : List Int) (s : List Nat × Bool), q ≤ cc ∧ s29 = .int .i64 (q : Nat) ∧ Hid (ps = (LQ.tkp q s7).1 ∧ s = (LQ.tkp q s7).2) ∧ Hid (CurAt 126 wr t s) ∧ Hid (L8 wr b2 [.int .i64 0, .int .i64 0, .int .i64 0, .int .i64 0, .int .i64 0, .int .i64 0, .slice none 0 0, .slice none 0 0]) ∧ Hid (L8 wr b4 [.int .i64 (kk : Nat), .int .i64 (ff : Nat), .int .i64 (tt : Nat), .int .i64 (gg : Nat), .int .i64 (pp : Nat), .int .i64 (nn : Nat), .slice pa q pc, .slice none 0 0]) ∧ Hid (OI wr B (.slice pa q pc) ps) ∧ Hid (w.grownBy wr (some t)) ∧ Hid (B ≤ wr.heap.size)) (fun s29 _ => cc - (intOf s29).toNat)
  case atStart => exact ⟨0, none, 0, [], s7, by omega, by rfl, ⟨rfl, rfl⟩, HC11, HA11, HR11, OI.nil _ _, HG11, HB11⟩
  case round =>
    obtain ⟨q, pa, pc, ps, s, hq, rfl, HT, HC, HA, HR, HO, HG, HB⟩ := hrel
    clear HC11 HA11 HR11 HG11
    by_cases h1 : q < cc
    · have hxd : wr.Extends wr.drew := Gr.ext_drew (Gr.ext_refl wr)
      have HCd := Lib.hid (HC.out.ext hxd)
      have HAd := Lib.hid (HA.out.ext hxd)
      have HRd := Lib.hid (HR.out.ext hxd)
      have HOd := Lib.hid (HO.out.ext hxd)
      have HGd : Hid (w.grownBy wr.drew (some t)) := ⟨HG.out.os, HG.out.tape, HG.out.output, HG.out.size, HG.out.block⟩
      have HBd : Hid (B ≤ wr.drew.heap.size) := Nat.le_trans HB.out hxd.size
      clear HC HA HR HO HG HB hxd
      have HPL : Hid (ps.length = q) := by show _ = _; rw [HT.out.1, LQ.tkp_len]
      go_wp2_with fail
      refine GrF.region (fun i => ¬ i = b4) 5 [(false,0),(false,1),(false,2),(true,3),(true,4)] (by kernel_rfl) (by kernel_rfl) (fun d _ _ _ _ h => by cases d <;> exact h) ?_
      simp only [Gr.pick, List.getElem?_cons_zero, List.getElem?_cons_succ, List.drop_succ_cons, List.drop_zero]
      generalize wr.drew = wd at *
      iterate 3
        refine GrF.walk_t ?_ (Or.inl ⟨by rfl, ?_⟩) ?_
        rotate_left
        · intro w' hw'
          have hq5 := HRd.out.away hw' (fun h => h rfl)
          have q6 := hq5.cell 6 _ rfl
          have hlt5 := hq5.lt
          clear hq5
          clear hw'
          go_simp
          try with_reducible rfl
        simp only [Act.put, List.setIfInBounds_toArray, List.set_cons_zero, List.set_cons_succ]
      refine GrF.walk_c (fun K hK => ?_)
      go_simp
      refine (number_any t 4 s wd (by omega) HCd.out).mono ?_
      rintro e w2 ⟨rfl, hc, hg⟩
      obtain ⟨n, hL⟩ : ∃ n, n = KM.gn 4 s := ⟨_, rfl⟩
      obtain ⟨s', hs⟩ : ∃ s', s' = KM.gs 4 s := ⟨_, rfl⟩
      rw [← hL]
      rw [← hs] at hc
      have HN : Hid (ps ++ [(n : Int)] = (LQ.tkp (q + 1) s7).1 ∧ s' = (LQ.tkp (q + 1) s7).2) := by
        show _ ∧ _
        rw [hL, hs, HT.out.1, HT.out.2]
        exact ⟨rfl, rfl⟩
      have HC2 := Lib.hid hc
      have HA2 := Lib.hid (HAd.out.kept hg HNE.out.1)
      have HR2 := Lib.hid (HRd.out.kept hg HNE.out.2.1)
      have HO2 := Lib.hid (HOd.out.lo hg HNE.out.2.2.2.2.2.1)
      have HG2 := Lib.hid (HGd.out.trans hg)
      have HB2 : Hid (B ≤ w2.heap.size) := Nat.le_trans HBd.out hg.size
      have hfr := fr_one (D := fun i => ¬ i = b4) hg (fun e => HNE.out.2.1 e.symm)
      clear hL hs hc hg
      try go_simp
      refine hK.out _ _ (hfr) ?_
      clear hK K
      clear hfr HCd HAd HRd HOd HGd HBd HT
      refine GrF.walk_c (fun K hK => ?_)
      go_simp
      generalize hw : World.alloc _ _ = w3
      have hx : w2.Extends w3 := by subst hw; exact ext_alloc _ _
      have HSRC : Hid (Src Try.prog 1 76 (.slice (some ⟨w2.heap.size, 0, none⟩) 1 1) 1 (i64vs [(n : Int)]) w3) := by subst hw; exact one_src (heap_alloc_new _ _)
      have HC3 := Lib.hid (HC2.out.ext hx)
      have HA3 := Lib.hid (HA2.out.ext hx)
      have HR3 := Lib.hid (HR2.out.ext hx)
      have HO3 := Lib.hid (HO2.out.ext hx)
      have HG3 := Lib.hid (grown_then HG2.out hx)
      have HB3 : Hid (B ≤ w3.heap.size) := Nat.le_trans HB2.out hx.size
      refine hK.out _ _ (Fr.ext hx) ?_
      clear hK K hw hx HC2 HA2 HR2 HO2 HG2 HB2
      refine GrF.walk_nil ?_
      go_wp2_with (at_builtin; refine wpList_app_oi rfl (.tmp 32) (.tmp 35) rfl B _ ps rfl HO3.out _ 1 [(n : Int)] rfl rfl HSRC.out (by rw [HPL.out]; show q + 1 ≤ _; omega) HB3.out ?_)
      intro v9 w4 ho4 hg4
      obtain ⟨a9, c9, hv9⟩ := ho4.slice
      rw [List.length_append, HPL.out] at hv9
      obtain rfl : v9 = .slice a9 (q + 1) c9 := hv9
      have HC4 := Lib.hid (HC3.out.row HO3.out.own HO3.out.clean hg4 HNE.out.2.2.2.2.2.1)
      have HA4 := Lib.hid (HA3.out.own HO3.out.own hg4 HNE.out.2.2.2.2.2.2.1)
      have HR4 := Lib.hid (HR3.out.own HO3.out.own hg4 HNE.out.2.2.2.2.2.2.2)
      have HG4 := Lib.hid (HG3.out.andThen hg4 (fun j hj => .inl (by have h1 := (HO3.out.own.lt j hj).1; have h2 := HNE.out; omega)))
      have HB4 : Hid (B ≤ w4.heap.size) := Nat.le_trans HB3.out hg4.size
      have HO4 := Lib.hid ho4
      clear ho4 hg4 HC3 HA3 HR3 HO3 HG3 HB3 HSRC
      have t6 := HR4.out.cell 6 _ rfl
      have f6 := HR4.out.frozen 6
      have hb := HR4.out.lt
      go_wp2_with fail
      clear t6 f6 hb
      obtain ⟨w5, hw⟩ : ∃ w', w' = w4.setCell ⟨b4, 6, none⟩ (.slice a9 (q + 1) c9) := ⟨_, rfl⟩
      have hg : w4.grownBy w5 (some b4) := by subst hw; exact grown_set w4 b4 6 _
      have HR5 : Hid (L8 w5 b4 [.int .i64 (kk : Nat), .int .i64 (ff : Nat), .int .i64 (tt : Nat), .int .i64 (gg : Nat), .int .i64 (pp : Nat), .int .i64 (nn : Nat), .slice a9 (q + 1) c9, .slice none 0 0]) := by subst hw; exact HR4.out.set 6 _
      have HA5 := Lib.hid (HA4.out.kept hg (fun e => HNE.out.2.2.1 e.symm))
      have HC5 := Lib.hid (HC4.out.by8 HR4.out (by intro y hy n e; subst e; simp at hy) hg HNE.out.2.1)
      have HG5 := Lib.hid (HG4.out.andThen hg (fun j hj => .inl (by have := HNE.out; simp at hj; omega)))
      have HO5 := Lib.hid (HO4.out.lo hg HNE.out.2.2.2.2.2.2.2)
      have HB5 : Hid (B ≤ w5.heap.size) := Nat.le_trans HB4.out hg.size
      try rw [← hw]
      clear hw hg HR4 HA4 HC4 HG4 HO4 HB4
      go_wp2
      go_roundw
      case rel => exact ⟨q + 1, a9, c9, _, s', by omega, by go_num, HN, HC5, HA5, HR5, HO5, HG5, HB5⟩
      case measure => simp [intOf]; omega
    · obtain rfl : q = cc := by omega
      obtain ⟨rfl, hs⟩ := HT.out
      have HTC := Lib.hid hs
      have HPL : Hid (((LQ.tkp q s7).1).length = q) := by show _ = _; rw [LQ.tkp_len]
      have HSF : Hid ((∀ l, LQ.Right l → LQ.bytes l = xs → True)) := fun _ _ _ => trivial
      have HCM : Hid (LQ.cm xs = KM.gn 1 s ∧ LQ.sm xs = KM.gs 1 s) := by
        show _ ∧ _
        unfold LQ.cm LQ.sm
        rw [HHD.out]
        simp only
        rw [hs]
        exact ⟨rfl, rfl⟩
      have HFAR : Hid (∀ rs, LQ.far xs (LQ.hd xs).c rs = ⟨kk, ff, tt, gg, pp, nn, (LQ.tkp q s7).1, rs⟩) := fun rs => by
        unfold LQ.far
        rw [HHD.out]
      clear hs HT HTC HSF
      generalize (LQ.tkp q s7).1 = ps at *
      go_wp2_with fail
      refine (number_any t 1 s wr (by omega) HC.out).mono ?_
      rintro e' w12 ⟨rfl, hc, hg⟩
      obtain ⟨m, hL⟩ : ∃ m, m = KM.gn 1 s := ⟨_, rfl⟩
      obtain ⟨s9, hs⟩ : ∃ s', s' = KM.gs 1 s := ⟨_, rfl⟩
      rw [← hL]
      rw [← hs] at hc
      have HM : Hid (LQ.cm xs = m ∧ LQ.sm xs = s9) := by show _ ∧ _; rw [hL, hs]; exact HCM.out
      have HMB : Hid (m < 256) := by have h := LQ.cm_lt HLT.out; rw [HM.out.1] at h; exact h
      have HC12 := Lib.hid hc
      have HA12 := Lib.hid (HA.out.kept hg HNE.out.1)
      have HR12 := Lib.hid (HR.out.kept hg HNE.out.2.1)
      have HO12 := Lib.hid (HO.out.lo hg HNE.out.2.2.2.2.2.1)
      have HG12 := Lib.hid (HG.out.trans hg)
      have HB12 : Hid (B ≤ w12.heap.size) := Nat.le_trans HB.out hg.size
      clear hL hs hc hg HC HA HR HO HG HB HCM HB11 h1 hcc
      have hmb := HMB.out
      go_wp2_with fail
      go_loopw [41] (fun s41 wr => ∃ (j : Nat) (ra : Option Addr) (rc : Nat) (rs : List Pr) (s : List Nat × Bool), j ≤ m ∧ s41 = .int .i64 (j : Nat) ∧ Hid (LQ.RT j s9 (rs.map Prod.fst) s) ∧ Hid (CurAt 126 wr t s) ∧ Hid (L8 wr b2 [.int .i64 0, .int .i64 0, .int .i64 0, .int .i64 0, .int .i64 0, .int .i64 0, .slice none 0 0, .slice none 0 0]) ∧ Hid (L8 wr b4 [.int .i64 (kk : Nat), .int .i64 (ff : Nat), .int .i64 (tt : Nat), .int .i64 (gg : Nat), .int .i64 (pp : Nat), .int .i64 (nn : Nat), .slice pa q pc, .slice ra j rc]) ∧ Hid (OI wr B (.slice pa q pc) ps) ∧ Hid (RS wr B (.slice ra j rc) rs) ∧ Hid (w.grownBy wr (some t)) ∧ Hid (B ≤ wr.heap.size)) (fun s41 _ => m - (intOf s41).toNat)
      case atStart => exact ⟨0, none, 0, [], s9, by omega, by rfl, ⟨rfl, rfl⟩, HC12, HA12, HR12, HO12, RS.nil _ _, HG12, HB12⟩
      case round =>
        clear HC12 HA12 HR12 HO12 HG12 HB12
        obtain ⟨j, ra, rc, rs, s, hj, rfl, HT, HC, HA, HR, HO, HS, HG, HB⟩ := hrel
        have HRL : Hid (rs.length = j) := by have h := HT.out.len; rw [List.length_map] at h; exact h
        by_cases h1 : j < m
        · have HLS : Hid (∀ x ∈ s.1, x < 256) := HT.out.lt (by rw [← HM.out.2]; exact LQ.sm_lt HLT.out)
          have HLN : Hid (s.1.length ≤ 1000000000) := by
            have h1 := HT.out.slen
            have h2 := LQ.sm_len xs
            rw [HM.out.2] at h2
            have h3 := HXS.out
            show _ ≤ _
            omega
          go_wp2_with fail
          refine (number_any t 2 s wr (by omega) HC.out).mono ?_
          rintro e' w2 ⟨rfl, hc, hg⟩
          obtain ⟨k, hL⟩ : ∃ k, k = KM.gn 2 s := ⟨_, rfl⟩
          obtain ⟨sa, hs⟩ : ∃ s', s' = KM.gs 2 s := ⟨_, rfl⟩
          rw [← hL]
          rw [← hs] at hc
          have hkb : k < 65536 := by rw [hL]; exact KM.gn_lt (W := 2) HLS.out
          have HLSA : Hid (∀ x ∈ sa.1, x < 256) := by rw [hs]; exact KM.gs_lt HLS.out
          have HLNA : Hid (sa.1.length ≤ 1000000000) := by rw [hs]; exact Nat.le_trans (KM.gs_len _ _) HLN.out
          have HKS : Hid (k = KM.gn 2 s ∧ sa = KM.gs 2 s) := ⟨hL, hs⟩
          have HC2 := Lib.hid hc
          have HA2 := Lib.hid (HA.out.kept hg HNE.out.1)
          have HR2 := Lib.hid (HR.out.kept hg HNE.out.2.1)
          have HO2 := Lib.hid (HO.out.lo hg HNE.out.2.2.2.2.2.1)
          have HS2 := Lib.hid (HS.out.byCur HC.out hg HNE.out.2.2.2.2.2.1)
          have HG2 := Lib.hid (HG.out.trans hg)
          have HB2 : Hid (B ≤ w2.heap.size) := Nat.le_trans HB.out hg.size
          clear hL hs hc hg HC HA HR HO HS HG HB
          go_wp2_with fail
          refine (piece_any t k sa w2 (by omega) HC2.out).mono ?_
          rintro e' w3 ⟨ya, yc, rfl, hy, hc, hg⟩
          obtain ⟨sb, hs⟩ : ∃ s', s' = KM.gs k sa := ⟨_, rfl⟩
          obtain ⟨ys, hys⟩ : ∃ ys, ys = KM.pc k sa := ⟨_, rfl⟩
          rw [← hs] at hc
          rw [← hys] at hy ⊢
          have HYL : Hid (∀ x ∈ ys, x < 256) := hy.lt
          have HYN : Hid (ys.length ≤ 1000000000) := by
            have h := KM.pc_len k sa
            show _ ≤ _
            rw [hys]; omega
          have HSB : Hid (sb = KM.gs (KM.gn 2 s) (KM.gs 2 s) ∧ ys = KM.pc (KM.gn 2 s) (KM.gs 2 s)) := by
            show _ ∧ _
            rw [hs, hys, HKS.out.1, HKS.out.2]
            exact ⟨rfl, rfl⟩
          have HC3 := Lib.hid hc
          have HA3 := Lib.hid (HA2.out.kept hg HNE.out.1)
          have HR3 := Lib.hid (HR2.out.kept hg HNE.out.2.1)
          have HO3 := Lib.hid (HO2.out.lo hg HNE.out.2.2.2.2.2.1)
          have HS3 := Lib.hid (HS2.out.byCur HC2.out hg HNE.out.2.2.2.2.2.1)
          have HG3 := Lib.hid (HG2.out.trans hg)
          have HB3 : Hid (B ≤ w3.heap.size) := Nat.le_trans HB2.out hg.size
          have HY3 := Lib.hid hy
          clear hs hys hc hg hy HC2 HA2 HR2 HO2 HS2 HG2 HB2 HKS HLSA HLNA HLS HLN
          obtain ⟨r, er, hri, hrd, _⟩ := asked14_new ys HYL.out HYN.out
          have HRI := Lib.hid hri
          have HRD := Lib.hid (hrd (.slice ya ys.length yc) w3 HY3.out)
          clear hri hrd HYL HYN HY3
          generalize ys.length = yl at *
          obtain ⟨dl, hdl⟩ : ∃ dl, dl = r.d.length := ⟨_, rfl⟩
          have HDL := Lib.hid hdl
          clear hdl
          go_wp2_with fail
          refine HRD.out.mono ?_
          rintro e' w4 ⟨da, dc, rfl, hu, hx, hn⟩
          rw [← HDL.out] at hu ⊢
          have HU4 := Lib.hid hu
          have HC4 := Lib.hid (HC3.out.ext hx)
          have HA4 := Lib.hid (HA3.out.ext hx)
          have HR4 := Lib.hid (HR3.out.ext hx)
          have HO4 := Lib.hid (HO3.out.ext hx)
          have HS4 := Lib.hid (HS3.out.ext hx)
          have HG4 := Lib.hid (grown_then HG3.out hx)
          have HB4 : Hid (B ≤ w4.heap.size) := Nat.le_trans HB3.out hx.size
          clear hu hx hn HC3 HA3 HR3 HO3 HS3 HG3 HB3 HRD
          simp only [Rc.val]
          rcases HRI.out with ⟨rfl, hrr, hrb⟩ | ⟨rfl, rfl, hrn⟩
          · have HRT : Hid (LQ.RT (j + 1) s9 ((rs ++ [((r, Value.slice da dl dc) : Pr)]).map Prod.fst) sb) := by
              refine ⟨rs.map Prod.fst, s, r, HT.out, by rw [List.map_append]; rfl, hrr, by rw [hrb]; exact HSB.out.2, HSB.out.1⟩
            have HSLC : Hid (Slc ((r, Value.slice da dl dc) : Pr)) := ⟨da, dc, by rw [HDL.out]⟩
            clear hrr hrb HRI
            go_upto_region 14 with fail
            generalize hw : World.alloc w4 _ = w5
            have hx : w4.Extends w5 := by subst hw; exact ext_alloc _ _
            have hbx : R10 w5 w4.heap.size [.int .i64 r.p, .int .i64 r.n, .int .i64 r.b, .int .i64 r.s, .int .i64 r.m, .int .i64 r.k, .int .i64 r.e, .bool r.g, .int .i64 r.u, .slice da dl dc] := by subst hw; exact heap_alloc_new _ _
            obtain ⟨bx, hbn⟩ : ∃ b, b = w4.heap.size := ⟨_, rfl⟩
            rw [← hbn] at hbx ⊢
            have HBX := Lib.hid hbx
            have HU5 := Lib.hid (HU4.out.ext hx)
            have HC5 := Lib.hid (HC4.out.ext hx)
            have HA5 := Lib.hid (HA4.out.ext hx)
            have HR5 := Lib.hid (HR4.out.ext hx)
            have HO5 := Lib.hid (HO4.out.ext hx)
            have HS5 := Lib.hid (HS4.out.ext hx)
            have HG5 := Lib.hid (grown_then HG4.out hx)
            have HB5 : Hid (B ≤ w5.heap.size) := Nat.le_trans HB4.out hx.size
            clear hw hx hbx hbn HC4 HA4 HR4 HO4 HS4 HG4 HB4 HU4
            have q7 := HR5.out.cell 7 _ rfl
            have hlt := HR5.out.lt
            have d0 := HBX.out.cell 0 _ rfl
            have d1 := HBX.out.cell 1 _ rfl
            have d2 := HBX.out.cell 2 _ rfl
            have d3 := HBX.out.cell 3 _ rfl
            have d4 := HBX.out.cell 4 _ rfl
            have d5 := HBX.out.cell 5 _ rfl
            have d6 := HBX.out.cell 6 _ rfl
            have d7 := HBX.out.cell 7 _ rfl
            have d8 := HBX.out.cell 8 _ rfl
            have d9 := HBX.out.cell 9 _ rfl
            have dlt := HBX.out.lt
            go_wp2_with (at_builtin; refine wpList_app_rs rfl (.tmp 55) (.tmp 57) rfl B _ rs rfl (HS5.out.ext (ext_alloc _ _)) _ ((r, Value.slice da dl dc) : Pr) rfl (src_rec (r := r) Try.underlying47 _ _ rfl rfl) HSLC.out (HU5.out.ext (ext_alloc _ _)) (by rw [HRL.out]; omega) (Nat.le_trans HB5.out (ext_alloc _ _).size) ?_)
            intro v9 w6 ho6 hg6
            obtain ⟨a9, c9, hv9⟩ := ho6.slice
            rw [List.length_append, HRL.out] at hv9
            obtain rfl : v9 = .slice a9 (j + 1) c9 := hv9
            have HS6 := Lib.hid ho6
            have HC6 := Lib.hid ((HC5.out.ext (ext_alloc _ _)).row (HS5.out.ext (ext_alloc _ _)).own (HS5.out.ext (ext_alloc _ _)).clean hg6 HNE.out.2.2.2.2.2.1)
            have HA6 := Lib.hid ((HA5.out.ext (ext_alloc _ _)).own (HS5.out.ext (ext_alloc _ _)).own hg6 HNE.out.2.2.2.2.2.2.1)
            have HR6 := Lib.hid ((HR5.out.ext (ext_alloc _ _)).own (HS5.out.ext (ext_alloc _ _)).own hg6 HNE.out.2.2.2.2.2.2.2)
            have HO6 := Lib.hid ((HO5.out.ext (ext_alloc _ _)).kept hg6 (owns_unlike HO5.out.own HS5.out.own (by decide)))
            have HG6 := Lib.hid ((grown_then HG5.out (ext_alloc _ _)).andThen hg6 (fun i hi => .inl (by have h1 := (HS5.out.own.lt i hi).1; have h2 := HNE.out; omega)))
            have HB6 : Hid (B ≤ w6.heap.size) := Nat.le_trans HB5.out (Nat.le_trans (ext_alloc _ _).size hg6.size)
            clear ho6 hg6 q7 hlt d0 d1 d2 d3 d4 d5 d6 d7 d8 d9 dlt HBX HC5 HA5 HR5 HO5 HS5 HG5 HB5 HU5
            have t7 := HR6.out.cell 7 _ rfl
            have f7 := HR6.out.frozen 7
            have hb := HR6.out.lt
            go_wp2_with fail
            clear t7 f7 hb
            obtain ⟨w7, hw⟩ : ∃ w', w' = w6.setCell ⟨b4, 7, none⟩ (.slice a9 (j + 1) c9) := ⟨_, rfl⟩
            have hg : w6.grownBy w7 (some b4) := by subst hw; exact grown_set w6 b4 7 _
            have HR7 : Hid (L8 w7 b4 [.int .i64 (kk : Nat), .int .i64 (ff : Nat), .int .i64 (tt : Nat), .int .i64 (gg : Nat), .int .i64 (pp : Nat), .int .i64 (nn : Nat), .slice pa q pc, .slice a9 (j + 1) c9]) := by subst hw; exact HR6.out.set 7 _
            have HA7 := Lib.hid (HA6.out.kept hg (fun e => HNE.out.2.2.1 e.symm))
            have HC7 := Lib.hid (HC6.out.by8 HR6.out (by intro y hy n e; subst e; simp at hy) hg HNE.out.2.1)
            have HG7 := Lib.hid (HG6.out.andThen hg (fun i hi => .inl (by have := HNE.out; simp at hi; omega)))
            have HO7 := Lib.hid (HO6.out.lo hg HNE.out.2.2.2.2.2.2.2)
            have HS7 := Lib.hid (HS6.out.by8 HR6.out (by intro y hy n e; subst e; simp at hy) hg HNE.out.2.2.2.2.2.2.2)
            have HB7 : Hid (B ≤ w7.heap.size) := Nat.le_trans HB6.out hg.size
            try rw [← hw]
            clear hw hg HR6 HA6 HC6 HG6 HO6 HS6 HB6
            go_wp2
            go_roundw
            case rel => exact ⟨j + 1, a9, c9, _, sb, by omega, by go_num, HRT, HC7, HA7, HR7, HO7, HS7, HG7, HB7⟩
            case measure => simp [intOf]; omega
          · have HNO : Hid (∀ l, LQ.Right l → LQ.bytes l ≠ xs) := by
              have hT := HT.out
              rw [← HM.out.2] at hT
              exact LQ.none_rec hT (by rw [HM.out.1]; exact h1) (fun r' h2 h3 => hrn r' h2 (by rw [h3]; exact HSB.out.2.symm))
            clear hrn HRI HC4 HR4 HO4 HS4 HU4 HT HRL HFAR HHD HSB
            go_upto_region 13 with fail
            generalize hw : World.alloc w4 _ = w5
            have hx : w4.Extends w5 := by subst hw; exact ext_alloc _ _
            have HA5 := Lib.hid (HA4.out.ext hx)
            have HG5 := Lib.hid (grown_then HG4.out hx)
            clear hw hx HA4 HG4
            obtain ⟨t0, t1, t2, t3, t4, t5, t6, t7⟩ := HA5.out.all
            obtain ⟨f0, f1, f2, f3, f4, f5, f6, f7⟩ := HA5.out.still
            have hbl := HA5.out.lt
            go_wp2
            clear t0 t1 t2 t3 t4 t5 t6 t7 f0 f1 f2 f3 f4 f5 f6 f7 hbl
            obtain ⟨wf, hw⟩ : ∃ w', w' = (((((((w5.setCell ⟨b2, 0, none⟩ (.int .i64 0)).setCell ⟨b2, 1, none⟩ (.int .i64 0)).setCell ⟨b2, 2, none⟩ (.int .i64 0)).setCell ⟨b2, 3, none⟩ (.int .i64 0)).setCell ⟨b2, 4, none⟩ (.int .i64 0)).setCell ⟨b2, 5, none⟩ (.int .i64 0)).setCell ⟨b2, 6, none⟩ (.slice none 0 0)).setCell ⟨b2, 7, none⟩ (.slice none 0 0) := ⟨_, rfl⟩
            rw [← hw]
            obtain ⟨hg, haf⟩ := HA5.out.fill hw
            have HP : Hid (LTakenOut w t xs (.returned (.tuple #[.agg #[.int .i64 0, .int .i64 0, .int .i64 0, .int .i64 0, .int .i64 0, .int .i64 0, .slice none 0 0, .slice none 0 0], .bool false])) wf) :=
              ⟨LQ.zero, .slice none 0 0, .slice none 0 0, false, rfl, ⟨nil_ints _ _ _, Recs.nil _ _ _⟩, HG5.out.andThen hg (fun i hi => .inl (by have := HNE.out; simp at hi; omega)), (fun e => by cases e), (fun l' h2 h3 => absurd h3 (HNO.out l' h2)), fun g hg => by rcases hg with hg | hg <;> cases hg⟩
            clear hw hg HG5 HA5
            obtain ⟨t0, t1, t2, t3, t4, t5, t6, t7⟩ := haf.all
            have hbl := haf.lt
            clear haf
            refine bodyPost_ret (by simp [results, Try.results80, go_sem, t0, t1, t2, t3, t4, t5, t6, t7]; try rfl) rfl ?_
            exact HP.out
        · obtain rfl : j = m := by omega
          have hxd : wr.Extends wr.drew := Gr.ext_drew (Gr.ext_refl wr)
          have HCd := Lib.hid (HC.out.ext hxd)
          have HAd := Lib.hid (HA.out.ext hxd)
          have HRd := Lib.hid (HR.out.ext hxd)
          have HOd := Lib.hid (HO.out.ext hxd)
          have HSd := Lib.hid (HS.out.ext hxd)
          have HGd : Hid (w.grownBy wr.drew (some t)) := ⟨HG.out.os, HG.out.tape, HG.out.output, HG.out.size, HG.out.block⟩
          clear HC HA HR HO HS HG HB hxd
          have HEND : Hid (∀ ok : Bool, ok = (!s.2 && decide (s.1 = [])) → (ok = true → LQ.bytes ⟨kk, ff, tt, gg, pp, nn, ps, rs.map Prod.fst⟩ = xs) ∧ ∀ l', LQ.Right l' → LQ.bytes l' = xs → ok = true ∧ (⟨kk, ff, tt, gg, pp, nn, ps, rs.map Prod.fst⟩ : Lt) = l') := fun ok hok => by
            have hT := HT.out
            rw [← HM.out.1, ← HM.out.2] at hT
            refine ⟨fun h => ?_, fun l' h2 h3 => ?_⟩
            · rw [h] at hok
              have hok := hok.symm
              simp only [Bool.and_eq_true, Bool.not_eq_true', decide_eq_true_eq] at hok
              have := LQ.far_bytes HLT.out hT hok.1 hok.2
              rwa [HFAR.out] at this
            · obtain ⟨e1, e2⟩ := LQ.all_rec hT h2 h3
              rw [HFAR.out] at e1
              rw [e2] at hok
              exact ⟨hok, e1⟩
          clear HT HFAR HHD HM HCC HMB HPL
          obtain ⟨sl, sb⟩ := s
          simp only at HEND
          have HLZ : Hid (((sl.length : Int) == 0) = decide (sl = [])) := by
            show _ = _
            cases sl <;> simp
            omega
          clear HRL
          go_wp2_with fail
          refine GrF.region (fun i => ¬ i = b4) 11 [(false,0),(false,1),(true,2),(false,3),(false,4),(false,5),(true,6),(false,7),(false,8),(false,9),(true,10)] (by kernel_rfl) (by kernel_rfl) (fun d _ _ _ _ h => by cases d <;> exact h) ?_
          simp only [Gr.pick, List.getElem?_cons_zero, List.getElem?_cons_succ, List.drop_succ_cons, List.drop_zero]
          generalize wr.drew = wd at *
          iterate 2
            refine GrF.walk_t ?_ (Or.inl ⟨by rfl, ?_⟩) ?_
            rotate_left
            · intro w' hw'
              have hq5 := HRd.out.away hw' (fun h => h rfl)
              obtain ⟨q0, q1, q2, q3, q4, q5, q6, q7⟩ := hq5.all
              have hlt5 := hq5.lt
              clear hq5
              clear hw'
              go_simp
              try with_reducible rfl
            simp only [Act.put, List.setIfInBounds_toArray, List.set_cons_zero, List.set_cons_succ]
          refine GrF.walk_c (fun K hK => ?_)
          go_simp
          refine (short_any t (sl, sb) wd HCd.out).mono ?_
          rintro e w2 ⟨rfl, rfl⟩
          try go_simp
          refine hK.out _ _ (Fr.refl _ _) ?_
          clear hK K
          have HFIN : Hid (∀ (ok : Bool) (wa wf : World), ok = (!sb && decide (sl = [])) → Ints wa (.slice pa q pc) ps → RS wa B (.slice ra j rc) rs → L8 wa b2 [.int .i64 0, .int .i64 0, .int .i64 0, .int .i64 0, .int .i64 0, .int .i64 0, .slice none 0 0, .slice none 0 0] → w.grownBy wa (some t) → wa.grownBy wf (some b2) → OI wa B (.slice pa q pc) ps → LTakenOut w t xs (.returned (.tuple #[.agg #[.int .i64 (kk : Nat), .int .i64 (ff : Nat), .int .i64 (tt : Nat), .int .i64 (gg : Nat), .int .i64 (pp : Nat), .int .i64 (nn : Nat), .slice pa q pc, .slice ra j rc], .bool ok])) wf) := fun ok wa wf hok _ hs ha hg hgf ho => by
            obtain ⟨e1, e2⟩ := HEND.out ok hok
            refine ⟨_, .slice pa q pc, .slice ra j rc, ok, rfl, ⟨(ho.lo hgf HNE.out.2.2.2.2.2.2.1).own.ints, (hs.by8 ha (by intro y hy n e; subst e; simp at hy) hgf HNE.out.2.2.2.2.2.2.1).recs⟩, hg.andThen hgf (fun i hi => .inl (by have := HNE.out; simp at hi; omega)), e1, e2, fun g hg2 => ?_⟩
            have h2 := HNE.out
            rcases hg2 with hg2 | hg2
            · have := (ho.own.lt g hg2).1; omega
            · have := (hs.own.lt g hg2).1; omega
          clear HEND
          cases sb with
          | true =>
            have HP := Lib.hid (fun wf => HFIN.out false wd wf rfl HOd.out.own.ints HSd.out HAd.out HGd.out)
            clear HFIN HLZ HCd
            iterate 2
              refine GrF.walk_t ?_ (Or.inl ⟨by rfl, ?_⟩) ?_
              rotate_left
              · intro w' hw'
                clear hw'
                go_simp
                try with_reducible rfl
              simp only [Act.put, List.setIfInBounds_toArray, List.set_cons_zero, List.set_cons_succ]
            refine GrF.walk_t _ (Or.inr ⟨by rfl, rfl⟩) ?_
            simp only [Act.put, List.setIfInBounds_toArray, List.set_cons_zero, List.set_cons_succ]
            refine GrF.walk_c (fun K hK => ?_)
            rw [if_neg (by intro h; cases h)]
            refine hK.out _ _ (Fr.refl _ _) ?_
            clear hK K
            simp only [Act.put, List.setIfInBounds_toArray, List.set_cons_zero, List.set_cons_succ]
            refine GrF.walk_t _ (Or.inr ⟨by rfl, rfl⟩) ?_
            simp only [Act.put, List.setIfInBounds_toArray, List.set_cons_zero, List.set_cons_succ]
            refine GrF.walk_t _ (Or.inr ⟨by rfl, rfl⟩) ?_
            simp only [Act.put, List.setIfInBounds_toArray, List.set_cons_zero, List.set_cons_succ]
            refine GrF.walk_t ?_ (Or.inl ⟨by rfl, ?_⟩) ?_
            rotate_left
            · intro w' hw'
              clear hw'
              go_simp
              try with_reducible rfl
            simp only [Act.put, List.setIfInBounds_toArray, List.set_cons_zero, List.set_cons_succ]
            refine GrF.walk_c (fun K hK => ?_)
            obtain ⟨t0, t1, t2, t3, t4, t5, t6, t7⟩ := HAd.out.all
            obtain ⟨f0, f1, f2, f3, f4, f5, f6, f7⟩ := HAd.out.still
            go_simp
            clear t0 t1 t2 t3 t4 t5 t6 t7 f0 f1 f2 f3 f4 f5 f6 f7
            obtain ⟨wf, hw⟩ : ∃ w', w' = (((((((wd.setCell ⟨b2, 0, none⟩ (.int .i64 (kk : Nat))).setCell ⟨b2, 1, none⟩ (.int .i64 (ff : Nat))).setCell ⟨b2, 2, none⟩ (.int .i64 (tt : Nat))).setCell ⟨b2, 3, none⟩ (.int .i64 (gg : Nat))).setCell ⟨b2, 4, none⟩ (.int .i64 (pp : Nat))).setCell ⟨b2, 5, none⟩ (.int .i64 (nn : Nat))).setCell ⟨b2, 6, none⟩ (.slice pa q pc)).setCell ⟨b2, 7, none⟩ (.slice ra j rc) := ⟨_, rfl⟩
            rw [← hw]
            obtain ⟨hg, haf⟩ := HAd.out.fill hw
            have HPF := Lib.hid (HP.out wf hg HOd.out)
            have hfr := fr_one (D := fun i => ¬ i = b4) hg (fun e => HNE.out.2.2.1 e.symm)
            refine hK.out _ _ hfr ?_
            clear hK K hw hg hfr HP
            refine GrF.walk_nil ?_
            obtain ⟨t0, t1, t2, t3, t4, t5, t6, t7⟩ := haf.all
            have hbl := haf.lt
            clear haf
            go_wp2
            refine bodyPost_ret (by simp [results, Try.results80, go_sem, t0, t1, t2, t3, t4, t5, t6, t7]; try rfl) rfl ?_
            exact HPF.out
          | false =>
            obtain ⟨ok, hok⟩ : ∃ ok, ok = decide (sl = []) := ⟨_, rfl⟩
            rw [← hok] at HFIN HLZ
            clear hok
            iterate 3
              refine GrF.walk_t ?_ (Or.inl ⟨by rfl, ?_⟩) ?_
              rotate_left
              · intro w' hw'
                clear hw'
                go_simp
                try with_reducible rfl
              simp only [Act.put, List.setIfInBounds_toArray, List.set_cons_zero, List.set_cons_succ]
            refine GrF.walk_c (fun K hK => ?_)
            go_simp
            refine (rest_any t (sl, false) wd HCd.out).mono ?_
            rintro e w3 ⟨ya, yc, rfl, hy, hc, hg⟩
            have HA3 := Lib.hid (HAd.out.kept hg HNE.out.1)
            have HO3 := Lib.hid (HOd.out.lo hg HNE.out.2.2.2.2.2.1)
            have HS3 := Lib.hid (HSd.out.byCur HCd.out hg HNE.out.2.2.2.2.2.1)
            have HG3 := Lib.hid (HGd.out.trans hg)
            have HP := Lib.hid (fun wf => HFIN.out ok w3 wf (by simp) HO3.out.own.ints HS3.out HA3.out HG3.out)
            have hfr := fr_one (D := fun i => ¬ i = b4) hg (fun e => HNE.out.2.1 e.symm)
            clear hy hc hg
            try go_simp
            refine hK.out _ _ (hfr) ?_
            clear hK K
            clear hfr HAd HOd HSd HGd HCd HFIN HRd
            refine GrF.walk_t ?_ (Or.inl ⟨by rfl, ?_⟩) ?_
            rotate_left
            · intro w' hw'
              clear hw'
              go_simp
              try with_reducible rfl
            simp only [Act.put, List.setIfInBounds_toArray, List.set_cons_zero, List.set_cons_succ]
            refine GrF.walk_t ?_ (Or.inl ⟨by rfl, ?_⟩) ?_
            rotate_left
            · intro w' hw'
              have hz := HLZ.out
              clear hw'
              go_simp
              try with_reducible rfl
            simp only [Act.put, List.setIfInBounds_toArray, List.set_cons_zero, List.set_cons_succ]
            refine GrF.walk_t ?_ (Or.inl ⟨by rfl, ?_⟩) ?_
            rotate_left
            · intro w' hw'
              clear hw'
              go_simp
              try with_reducible rfl
            simp only [Act.put, List.setIfInBounds_toArray, List.set_cons_zero, List.set_cons_succ]
            refine GrF.walk_c (fun K hK => ?_)
            obtain ⟨t0, t1, t2, t3, t4, t5, t6, t7⟩ := HA3.out.all
            obtain ⟨f0, f1, f2, f3, f4, f5, f6, f7⟩ := HA3.out.still
            go_simp
            clear t0 t1 t2 t3 t4 t5 t6 t7 f0 f1 f2 f3 f4 f5 f6 f7
            obtain ⟨wf, hw⟩ : ∃ w', w' = (((((((w3.setCell ⟨b2, 0, none⟩ (.int .i64 (kk : Nat))).setCell ⟨b2, 1, none⟩ (.int .i64 (ff : Nat))).setCell ⟨b2, 2, none⟩ (.int .i64 (tt : Nat))).setCell ⟨b2, 3, none⟩ (.int .i64 (gg : Nat))).setCell ⟨b2, 4, none⟩ (.int .i64 (pp : Nat))).setCell ⟨b2, 5, none⟩ (.int .i64 (nn : Nat))).setCell ⟨b2, 6, none⟩ (.slice pa q pc)).setCell ⟨b2, 7, none⟩ (.slice ra j rc) := ⟨_, rfl⟩
            rw [← hw]
            obtain ⟨hg, haf⟩ := HA3.out.fill hw
            have HPF := Lib.hid (HP.out wf hg HO3.out)
            have hfr := fr_one (D := fun i => ¬ i = b4) hg (fun e => HNE.out.2.2.1 e.symm)
            refine hK.out _ _ hfr ?_
            clear hK K hw hg hfr HP
            refine GrF.walk_nil ?_
            obtain ⟨t0, t1, t2, t3, t4, t5, t6, t7⟩ := haf.all
            have hbl := haf.lt
            clear haf
            go_wp2
            refine bodyPost_ret (by simp [results, Try.results80, go_sem, t0, t1, t2, t3, t4, t5, t6, t7]; try rfl) rfl ?_
            exact HPF.out
end Go.Proofs.Ytdbdnfjgmdkneaa
namespace Go.Proofs.Ytdbdnfjgmdkneaa
set_option maxRecDepth 20000
open Go.RowKit Go.Deep
set_option linter.unusedVariables false
theorem lwi_yes (n l m : Int) (w : World) (h1 : l ≤ n) (h2 : n ≤ m) :
    Calls Try.prog 97 #[.int .i64 n, .int .i64 l, .int .i64 m] w fun e w' => e = .returned (.bool true) ∧ w = w' := by
  go_enter Try.func97, Try.ntmps97
  go_wp2
  go_ret
  exact ⟨rfl, rfl⟩
theorem lwi_no (n l m : Int) (w : World) (h : ¬ (l ≤ n ∧ n ≤ m)) :
    Calls Try.prog 97 #[.int .i64 n, .int .i64 l, .int .i64 m] w fun e w' => e = .returned (.bool false) ∧ w = w' := by
  by_cases h1 : n < l
  · have h1' : decide ((n : Int) ≥ l) = false := by simp; omega
    go_enter Try.func97, Try.ntmps97
    go_wp2
    go_ret
    exact ⟨rfl, rfl⟩
  · have h2 : decide (n ≤ m) = false := by simp; omega
    go_enter Try.func97, Try.ntmps97
    go_wp2
    go_ret
    exact ⟨rfl, rfl⟩
theorem lwi_any (n l m : Int) (w : World) :
    Calls Try.prog 97 #[.int .i64 n, .int .i64 l, .int .i64 m] w fun e w' => ∃ x : Bool, e = .returned (.bool x) ∧ (x = true ↔ l ≤ n ∧ n ≤ m) ∧ w = w' := by
  by_cases h : l ≤ n ∧ n ≤ m
  · exact (lwi_yes n l m w h.1 h.2).mono fun e w' ⟨h1, h2⟩ => ⟨true, h1, ⟨fun _ => h, fun _ => rfl⟩, h2⟩
  · exact (lwi_no n l m w h).mono fun e w' ⟨h1, h2⟩ => ⟨false, h1, ⟨(fun e => by cases e), fun e => absurd e h⟩, h2⟩
/-- A test of a call: its answer says whether P holds. -/
def TestOut (P : Prop) (w : World) (e : Ending) (w' : World) : Prop := ∃ x : Bool, e = .returned (.bool x) ∧ (x = true ↔ P) ∧ w.Extends w'
theorem alln_any (v : Value) (xs : List Int) (w : World) (hv : Ints w v xs) :
    Calls Try.prog 98 #[v] w (TestOut (∀ x ∈ xs, LQ.N31 x) w) := by
  have hm := hv.len
  unfold maxLen at hm
  obtain ⟨a, cap, rfl, _⟩ := hv.slice
  have HV := Lib.hid hv.cell.2
  have HNO : Hid (∀ k, k < xs.length → ¬ LQ.N31 (xs.getD k 0) → ¬ ∀ x ∈ xs, LQ.N31 x) := fun k hk h h2 => h (h2 _ (by rw [List.getD_eq_getElem?_getD, List.getElem?_eq_getElem hk]; exact List.getElem_mem _))
  have HYES : Hid ((∀ k, k < xs.length → LQ.N31 (xs.getD k 0)) → ∀ x ∈ xs, LQ.N31 x) := fun h x hx => by
    obtain ⟨k, hk, rfl⟩ := List.mem_iff_getElem.1 hx
    have := h k hk
    rwa [show xs.getD k 0 = xs[k] by simp [hk]] at this
  generalize hP : (∀ x ∈ xs, LQ.N31 x) = P at *
  clear hv hP
  generalize xs.length = n at *
  go_enter Try.func98, Try.ntmps98
  go_wp2_with fail
  go_loopw [7] (fun s7 wr => ∃ k : Nat, k ≤ n ∧ s7 = .int .i64 k ∧ wr = w ∧ Hid (∀ m, m < k → LQ.N31 (xs.getD m 0))) (fun s7 _ => n - (intOf s7).toNat)
  case atStart => exact ⟨0, by omega, rfl, rfl, fun m hm => absurd hm (Nat.not_lt_zero _)⟩
  case round =>
    obtain ⟨k, hk, rfl, rfl, HN⟩ := hrel
    by_cases h1 : k < n
    · obtain ⟨b1, o1, rfl, hb1, hc1⟩ := HV.out (by omega)
      have hc := hc1 k h1
      have HNX : Hid (LQ.N31 (xs.getD k 0) → ∀ m, m < k + 1 → LQ.N31 (xs.getD m 0)) := fun h m hm => by
        rcases Nat.lt_or_ge m k with h2 | h2
        · exact HN.out m h2
        · obtain rfl : m = k := by omega
          exact h
      have HNK := Lib.hid (HNO.out k h1)
      generalize xs.getD k 0 = x at *
      clear hc1
      go_wp2_with fail
      refine (lwi_any x 0 2147483647 wr).mono ?_
      rintro e w2 ⟨y, rfl, hy, rfl⟩
      cases y with
      | true =>
        have HN2 := Lib.hid (HNX.out (hy.1 rfl))
        clear hy
        go_wp2
        go_roundw
        case rel => exact ⟨k + 1, by omega, by go_num, trivial, HN2⟩
        case measure => simp [intOf]; omega
      | false =>
        have HF := Lib.hid (HNK.out (fun h => by have := hy.2 h; cases this))
        clear hy
        go_wp2
        go_ret
        exact ⟨false, rfl, ⟨(fun e => by cases e), fun e => absurd e HF.out⟩, Gr.ext_refl _⟩
    · obtain rfl : k = n := by omega
      have HT := Lib.hid (HYES.out HN.out)
      go_wp2
      go_ret
      exact ⟨true, rfl, ⟨fun _ => HT.out, fun _ => rfl⟩, Gr.ext_refl _⟩
/-- A literal of five ints. -/
theorem ints_lit (w : World) (g n c : Nat) (xs : List Int) (cs : Array Value) (hg : g = w.heap.size) (hn : n = xs.length) (hc : c = xs.length) (hcs : cs = (i64vs xs).toArray) (hl : xs.length ≤ 1000) : Ints (w.alloc (.cells cs 3)) (.slice (some ⟨g, 0, none⟩) n c) xs := by
  subst hg; subst hn; subst hc; subst hcs
  refine .inr ⟨w.heap.size, 0, xs.length, rfl, Nat.le_refl _, by unfold maxLen; omega, by simp, fun k hk => ?_⟩
  rw [cell_of_row _ _ _ _ _ _ (heap_alloc_new _ _), List.getElem?_toArray, Nat.zero_add]
  simp [i64vs, hk]
theorem lwrong_any (r : Rc) (a : Option Addr) (c : Nat) (w : World) :
    Calls Try.prog 100 #[r.val (.slice a r.d.length c)] w (TestOut (¬ KM.Right r) w) := by
  have HR : Hid (∀ w', Calls Try.prog 18 #[r.val (.slice a r.d.length c)] w' (RightOut r w')) := fun w' => right14_any r a c w'
  generalize hP : KM.Right r = P at *
  have HR2 : Hid (∀ w', Calls Try.prog 18 #[r.val (.slice a r.d.length c)] w' fun e w2 => ∃ x, e = .returned (.bool x) ∧ (x = true ↔ P) ∧ w'.Extends w2) := by rw [← hP]; exact HR.out
  clear HR hP
  obtain ⟨p, n, b, s, m, k, e, g, u, d⟩ := r
  generalize d.length = dl at *
  have HR3 : Hid (∀ w', Calls Try.prog 18 #[.agg #[.int .i64 p, .int .i64 n, .int .i64 b, .int .i64 s, .int .i64 m, .int .i64 k, .int .i64 e, .bool g, .int .i64 u, .slice a dl c]] w' fun e w2 => ∃ x, e = .returned (.bool x) ∧ (x = true ↔ P) ∧ w'.Extends w2) := HR2.out
  clear HR2
  show Calls Try.prog 100 #[.agg #[.int .i64 p, .int .i64 n, .int .i64 b, .int .i64 s, .int .i64 m, .int .i64 k, .int .i64 e, .bool g, .int .i64 u, .slice a dl c]] w _
  go_enter Try.func100, Try.ntmps100
  go_wp2_with fail
  generalize hw1 : World.alloc w _ = w1
  have HX1 : Hid (w.Extends w1) := by subst hw1; exact ext_alloc _ _
  clear hw1
  refine (HR3.out w1).mono ?_
  rintro e w2 ⟨x, rfl, hp, hx⟩
  have HP : Hid (TestOut (¬ P) w (.returned (.bool !x)) w2) := ⟨!x, rfl, by cases x <;> simp_all, Gr.ext_trans HX1.out hx⟩
  clear hp hx HX1 HR3
  go_wp2
  go_ret
  exact HP.out
set_option maxHeartbeats 1000000 in
/-- slices.IndexFunc of records, with letter.wrong: -1 where all may be. -/
theorem idxw_any (v : Value) (l : List Rc) (w : World) (hv : Recs w v l) :
    Calls Try.prog 94 #[v, .func (.func 100) #[] #[]] w fun e w' => ∃ i : Int, e = .returned (.int .i64 i) ∧ (0 ≤ i ↔ ¬ ∀ r ∈ l, KM.Right r) ∧ w.Extends w' := by
  have hm := hv.len
  unfold maxLen at hm
  obtain ⟨a, cap, rfl⟩ := hv.slice
  have HV := Lib.hid hv.at.2
  have HNO : Hid (∀ k, k < l.length → ¬ KM.Right (l.getD k Rc.zero) → ¬ ∀ r ∈ l, KM.Right r) := fun k hk h h2 => h (h2 _ (by rw [List.getD_eq_getElem?_getD, List.getElem?_eq_getElem hk]; exact List.getElem_mem _))
  have HYES : Hid ((∀ k, k < l.length → KM.Right (l.getD k Rc.zero)) → ∀ r ∈ l, KM.Right r) := fun h x hx => by
    obtain ⟨k, hk, rfl⟩ := List.mem_iff_getElem.1 hx
    have := h k hk
    rwa [show l.getD k Rc.zero = l[k] by simp [hk]] at this
  generalize hP : (∀ r ∈ l, KM.Right r) = P at *
  clear hv hP
  generalize l.length = n at *
  go_enter Try.func94, Try.ntmps94
  go_wp2_with fail
  go_loopw [8] (fun s8 wr => ∃ k : Nat, k ≤ n ∧ s8 = .int .i64 k ∧ Hid (w.Extends wr) ∧ Hid (∀ m, m < k → KM.Right (l.getD m Rc.zero))) (fun s8 _ => n - (intOf s8).toNat)
  case atStart => exact ⟨0, by omega, rfl, Gr.ext_refl _, fun m hm => absurd hm (Nat.not_lt_zero _)⟩
  case round =>
    obtain ⟨k, hk, rfl, HX, HN⟩ := hrel
    by_cases h1 : k < n
    · obtain ⟨b1, o1, rfl, hb1, hc1⟩ := HV.out (by omega)
      obtain ⟨ra, rc, hr, _⟩ := hc1 k h1
      have hr := rangeAt_ext hr HX.out
      obtain ⟨c0, c1, c2, c3, c4, c5, c6, c7, c8, c9⟩ := RCell.ten hr
      have HNX : Hid (KM.Right (l.getD k Rc.zero) → ∀ m, m < k + 1 → KM.Right (l.getD m Rc.zero)) := fun h m hm => by
        rcases Nat.lt_or_ge m k with h2 | h2
        · exact HN.out m h2
        · obtain rfl : m = k := by omega
          exact h
      have HNK := Lib.hid (HNO.out k h1)
      generalize l.getD k Rc.zero = r at *
      have HW := Lib.hid (lwrong_any r ra rc wr)
      generalize KM.Right r = RR at *
      obtain ⟨xp, xn, xb, xs, xm, xk, xe, xg, xu, xd⟩ := r
      simp only at c0 c1 c2 c3 c4 c5 c6 c7 c8 c9
      clear hc1 hr
      generalize xd.length = dl at *
      have HW2 : Hid (Calls Try.prog 100 #[.agg #[.int .i64 xp, .int .i64 xn, .int .i64 xb, .int .i64 xs, .int .i64 xm, .int .i64 xk, .int .i64 xe, .bool xg, .int .i64 xu, .slice ra dl rc]] wr (TestOut (¬ RR) wr)) := HW.out
      clear HW
      go_wp2_with fail
      refine HW2.out.mono ?_
      rintro e w2 ⟨x, rfl, hx, hx2⟩
      have HX2 := Lib.hid (Gr.ext_trans HX.out hx2)
      have HXX := Lib.hid hx
      clear hx2 HW2 c0 c1 c2 c3 c4 c5 c6 c7 c8 c9 hx
      cases x with
      | true =>
        have HF := Lib.hid (HNK.out (HXX.out.1 rfl))
        go_wp2
        go_ret
        exact ⟨_, rfl, ⟨fun _ => HF.out, fun _ => by omega⟩, HX2.out⟩
      | false =>
        have HN2 := Lib.hid (HNX.out (by
          by_cases h : RR
          · exact h
          · have := HXX.out.2 h; cases this))
        clear HNX HXX
        go_wp2
        go_roundw
        case rel => exact ⟨k + 1, by omega, by go_num, HX2, HN2⟩
        case measure => simp [intOf]; omega
    · obtain rfl : k = n := by omega
      have HT := Lib.hid (HYES.out HN.out)
      go_wp2
      go_ret
      exact ⟨-1, rfl, ⟨fun h => absurd h (by decide), fun h => absurd HT.out h⟩, HX.out⟩
theorem conw_any (v : Value) (l : List Rc) (w : World) (hv : Recs w v l) :
    Calls Try.prog 99 #[v, .func (.func 100) #[] #[]] w (TestOut (¬ ∀ r ∈ l, KM.Right r) w) := by
  have H := Lib.hid (idxw_any v l w hv)
  obtain ⟨a, cap, rfl⟩ := hv.slice
  generalize (∀ r ∈ l, KM.Right r) = P at *
  clear hv
  go_enter Try.func99, Try.ntmps99
  go_wp2_with fail
  refine H.out.mono ?_
  rintro e w2 ⟨i, rfl, hi, hx⟩
  have HP : Hid (TestOut (¬ P) w (.returned (.bool (decide (i ≥ 0)))) w2) := ⟨_, rfl, by simp only [decide_eq_true_eq]; exact hi, hx⟩
  clear hi hx H
  go_wp2
  go_ret
  exact HP.out
end Go.Proofs.Ytdbdnfjgmdkneaa
namespace Go.Proofs.Ytdbdnfjgmdkneaa
set_option maxRecDepth 20000
open Go.RowKit Go.Deep
set_option linter.unusedVariables false
theorem len_u8 (n : Nat) : (decide ((n : Int) ≤ 255) = true) ↔ n ≤ 255 := by
  rw [decide_eq_true_iff]; omega
set_option maxHeartbeats 2000000 in
theorem lright_any (l : Lt) (vp vr : Value) (w : World) (hv : LetV w vp vr l) :
    Calls Try.prog 79 #[l.val vp vr] w (TestOut (LQ.Right l) w) := by
  obtain ⟨pa, pc, ra, rc, rfl, rfl⟩ := hv.parts
  have hpm := hv.1.len
  have hrm := hv.2.len
  unfold maxLen at hpm hrm
  have HALL : Hid (∀ w', w.Extends w' → Calls Try.prog 98 #[.slice pa l.ps.length pc] w' (TestOut (∀ x ∈ l.ps, LQ.N31 x) w')) := fun w' hx => alln_any _ _ w' (hv.1.ext hx)
  have HCON : Hid (∀ w', w.Extends w' → Calls Try.prog 99 #[.slice ra l.rs.length rc, .func (.func 100) #[] #[]] w' (TestOut (¬ ∀ r ∈ l.rs, KM.Right r) w')) := fun w' hx => conw_any _ _ w' (hv.2.ext hx)
  have HPOST : Hid (∀ w' (x : Bool), w.Extends w' → (x = true ↔ LQ.Right l) → TestOut (LQ.Right l) w (.returned (.bool x)) w') := fun w' x hx h => ⟨x, rfl, h, hx⟩
  have HR : Hid (LQ.Right l ↔ (1 ≤ l.k ∧ l.k ≤ 3) ∧ (∀ x ∈ [l.f, l.t, l.g, l.p, l.n], LQ.N31 x) ∧ l.ps.length ≤ 255 ∧ (∀ x ∈ l.ps, LQ.N31 x) ∧ l.rs.length ≤ 255 ∧ ∀ r ∈ l.rs, KM.Right r) := by
    show _ ↔ _
    unfold LQ.Right
    simp only [List.mem_cons, List.not_mem_nil, or_false, forall_eq_or_imp, forall_eq]
    constructor
    · rintro ⟨h1, h2, ⟨h3, h4⟩, h5, h6⟩; exact ⟨h1, h2, h3, h4, h5, h6⟩
    · rintro ⟨h1, h2, h3, h4, h5, h6⟩; exact ⟨h1, h2, ⟨h3, h4⟩, h5, h6⟩
  generalize TestOut (LQ.Right l) w = POST at *
  generalize hP4 : (∀ x ∈ l.ps, LQ.N31 x) = P4 at *
  generalize hP6 : (∀ r ∈ l.rs, KM.Right r) = P6 at *
  generalize LQ.Right l = RR at *
  obtain ⟨k, f, t, g, p, n, ps, rs⟩ := l
  simp only at *
  clear hP4 hP6 hv
  generalize ps.length = np at *
  generalize rs.length = nr at *
  show Calls Try.prog 79 #[.agg #[.int .i64 k, .int .i64 f, .int .i64 t, .int .i64 g, .int .i64 p, .int .i64 n, .slice pa np pc, .slice ra nr rc]] w _
  go_enter Try.func79, Try.ntmps79
  go_wp2_with fail
  generalize hw1 : World.alloc w _ = w1
  have hx1 : w.Extends w1 := by subst hw1; exact ext_alloc _ _
  have hl1 : L8 w1 w.heap.size [.int .i64 k, .int .i64 f, .int .i64 t, .int .i64 g, .int .i64 p, .int .i64 n, .slice pa np pc, .slice ra nr rc] := by subst hw1; exact heap_alloc_new _ _
  generalize w.heap.size = b at *
  have HX1 := Lib.hid hx1
  have HL1 := Lib.hid hl1
  clear hw1 hx1 hl1
  refine (lwi_any k 1 3 w1).mono ?_
  rintro e w2 ⟨x1, rfl, h1, rfl⟩
  cases x1 with
  | false =>
    have HP := HPOST.out w1 false HX1.out ⟨(fun e => by cases e), fun e => h1.2 (HR.out.1 e).1⟩
    clear h1
    go_wp2
    exact HP
  | true =>
    have H1 := Lib.hid (h1.1 rfl)
    clear h1
    obtain ⟨c0, c1, c2, c3, c4, c5, c6, c7⟩ := HL1.out.all
    have hb1 := HL1.out.lt
    go_wp2_with fail
    clear c0 c1 c2 c3 c4 c5 c6 c7 hb1
    have hi2 : Ints (w1.alloc (.cells #[.int .i64 f, .int .i64 t, .int .i64 g, .int .i64 p, .int .i64 n] 3)) (.slice (some ⟨w1.heap.size, 0, none⟩) 5 5) [f, t, g, p, n] := ints_lit w1 _ _ _ _ _ rfl rfl rfl rfl (by simp)
    generalize hw2 : World.alloc w1 _ = w2 at *
    have hx2 : w1.Extends w2 := by subst hw2; exact ext_alloc _ _
    generalize w1.heap.size = b2 at *
    have HX2 := Lib.hid (Gr.ext_trans HX1.out hx2)
    have HL2 := Lib.hid (HL1.out.ext hx2)
    have HI2 := Lib.hid hi2
    clear hw2 hx2 hi2 HX1 HL1
    refine (alln_any _ _ w2 HI2.out).mono ?_
    rintro e w3 ⟨x2, rfl, h2, hx3⟩
    have HX3 := Lib.hid (Gr.ext_trans HX2.out hx3)
    have HL3 := Lib.hid (HL2.out.ext hx3)
    clear hx3 HX2 HL2 HI2
    cases x2 with
    | false =>
      have HP := HPOST.out w3 false HX3.out ⟨(fun e => by cases e), fun e => h2.2 (HR.out.1 e).2.1⟩
      clear h2
      go_wp2
      exact HP
    | true =>
      have H2 := Lib.hid (h2.1 rfl)
      clear h2
      obtain ⟨c0, c1, c2, c3, c4, c5, c6, c7⟩ := HL3.out.all
      have hb3 := HL3.out.lt
      by_cases h3 : np ≤ 255
      · have d3 : decide ((np : Int) ≤ 255) = true := (len_u8 np).2 h3
        go_wp2_with fail
        refine (HALL.out w3 HX3.out).mono ?_
        rintro e w4 ⟨x4, rfl, h4, hx4⟩
        have HX4 := Lib.hid (Gr.ext_trans HX3.out hx4)
        have HL4 := Lib.hid (HL3.out.ext hx4)
        clear hx4 HX3 HL3 HALL c0 c1 c2 c3 c4 c5 c6 c7 hb3 d3
        cases x4 with
        | false =>
          have HP := HPOST.out w4 false HX4.out ⟨(fun e => by cases e), fun e => h4.2 (HR.out.1 e).2.2.2.1⟩
          clear h4
          go_wp2
          exact HP
        | true =>
          have H4 := Lib.hid (h4.1 rfl)
          clear h4
          obtain ⟨c0, c1, c2, c3, c4, c5, c6, c7⟩ := HL4.out.all
          have hb4 := HL4.out.lt
          by_cases h5 : nr ≤ 255
          · have d5 : decide ((nr : Int) ≤ 255) = true := (len_u8 nr).2 h5
            go_wp2_with fail
            refine (HCON.out w4 HX4.out).mono ?_
            rintro e w5 ⟨x6, rfl, h6, hx5⟩
            have HX5 := Lib.hid (Gr.ext_trans HX4.out hx5)
            clear hx5 HX4 HL4 HCON c0 c1 c2 c3 c4 c5 c6 c7 hb4 d5
            have HP := HPOST.out w5 (!x6) HX5.out (by
              rw [HR.out]
              cases x6 with
              | true => exact ⟨(fun e => by cases e), fun e => absurd e.2.2.2.2.2 (h6.1 rfl)⟩
              | false => exact ⟨fun _ => ⟨H1.out, H2.out, h3, H4.out, h5, Classical.byContradiction fun hn => by have := h6.2 hn; cases this⟩, fun _ => rfl⟩)
            clear h6
            go_wp2
            exact HP
          · have d5 : decide ((nr : Int) ≤ 255) = false := by rw [decide_eq_false_iff_not]; omega
            have HP := HPOST.out w4 false HX4.out ⟨(fun e => by cases e), fun e => absurd (HR.out.1 e).2.2.2.2.1 h5⟩
            go_wp2
            exact HP
      · have d3 : decide ((np : Int) ≤ 255) = false := by rw [decide_eq_false_iff_not]; omega
        have HP := HPOST.out w3 false HX3.out ⟨(fun e => by cases e), fun e => absurd (HR.out.1 e).2.2.1 h3⟩
        go_wp2
        exact HP
end Go.Proofs.Ytdbdnfjgmdkneaa
