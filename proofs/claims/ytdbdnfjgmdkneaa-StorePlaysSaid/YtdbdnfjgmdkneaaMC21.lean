/- In one text: RecIs, StoRest, StoMade, StoNum, StoLaw, StoCrashM, RefTomb, RefWrite, RefCut. -/
import Derived.Deep.DeepCutAuto
import Derived.Test.YtdbdnfjgmdkneaaMC2
import Derived.Test.YtdbdnfjgmdkneaaMC3
import Derived.Test.YtdbdnfjgmdkneaaMC4
import Derived.Test.YtdbdnfjgmdkneaaMC11
import Derived.Test.YtdbdnfjgmdkneaaMC12
import Derived.Test.YtdbdnfjgmdkneaaMC13
import Derived.Test.YtdbdnfjgmdkneaaMC14
import Derived.Test.YtdbdnfjgmdkneaaMC15
import Derived.Test.YtdbdnfjgmdkneaaMC16
import Derived.Test.YtdbdnfjgmdkneaaMC20
namespace Go.Proofs.Ytdbdnfjgmdkneaa
set_option maxRecDepth 20000
open Go.RowKit Go.Deep
set_option linter.unusedVariables false
/-- Which record bytes are: it, and no error; or none. -/
def RecIs (xs : List Nat) (r : Rc) (er : Nat) : Prop := (er = 0 ∧ KM.Right r ∧ KM.bytes r = xs) ∨ (er = 2 ∧ r = Rc.zero ∧ ∀ r', KM.Right r' → KM.bytes r' ≠ xs)
theorem KM.rk_right {r : Rc} {xs : List Nat} (h : KM.Right r) (hb : KM.bytes r = xs) : KM.rk xs = r := by
  have ht := KM.tk_bytes h
  rw [hb] at ht
  unfold KM.rk
  rw [ht]
  obtain ⟨p, n, b, s, m, k, e, g, u, d⟩ := r
  cases g with
  | false => rfl
  | true =>
    have hd := (h.2.2.2.1 rfl).2.2
    simp only at hd
    subst hd
    rfl
theorem asked14_new (xs : List Nat) (hlt : ∀ x ∈ xs, x < 256) (hn : xs.length ≤ 1000000000) : ∃ r er, RecIs xs r er ∧ (∀ v w, U8s w v xs → Calls Try.prog 16 #[v] w (ROutN r (er : Nat) w)) ∧ (∀ v w, U8s w v xs → Calls Try.prog 17 #[v] w (ROutN r (er : Nat) w)) := by
  have hrr : ∀ v w, U8s w v xs → Calls Try.prog 17 #[v] w (RROut w xs) := fun v w hv => by
    by_cases c : KM.gn 1 (xs, false) = 1
    · exact rread_gone v xs w hv c hn
    · exact rread_sym v xs w hv c hn
  by_cases hex : ∃ r, KM.Right r ∧ KM.bytes r = xs
  · obtain ⟨r, hr, hb⟩ := hex
    have hrk := KM.rk_right hr hb
    have hgood : Good xs := by
      have ht := KM.tk_bytes hr
      rw [hb] at ht
      refine ⟨by rw [ht], ?_, ?_⟩
      · rw [hrk]; exact hr
      · rw [hrk]; exact hb
    refine ⟨r, 0, .inl ⟨rfl, hr, hb⟩, fun v w hv => ?_, fun v w hv => (hrr v w hv).mono fun e w' h => ?_⟩
    · refine read_yes v xs w hv r (fun t w' hc => (taken_any xs t w' hc).mono fun e w2 h => ?_) hr
      obtain ⟨a, c, he, hu, hg⟩ := h
      have ht := KM.tk_bytes hr
      rw [hb] at ht
      rw [ht] at he hu
      refine ⟨a, c, ?_, hu, hg⟩
      rw [he]
      cases r.g <;> rfl
    · have := h.1 hgood
      rw [hrk] at this
      exact this
  · have hno : ∀ r', KM.Right r' → KM.bytes r' ≠ xs := fun r' h1 h2 => hex ⟨r', h1, h2⟩
    have hngood : ¬ Good xs := fun h => hno _ h.2.1 h.2.2
    refine ⟨Rc.zero, 2, .inr ⟨rfl, rfl, hno⟩, fun v w hv => ?_, fun v w hv => (hrr v w hv).mono fun e w' h => h.2 hngood⟩
    cases hok : ((decide ((KM.tk xs).2.1 = 0) || decide ((KM.tk xs).2.1 = 1)) && !(KM.tk xs).2.2) with
    | false =>
      refine read_bad v xs w hv (KM.tk xs).1 (fun t w' hc => (taken_any xs t w' hc).mono fun e w2 h => ?_)
      obtain ⟨a, c, he, hu, hg⟩ := h
      rw [hok] at he
      exact ⟨a, c, he, hu, hg⟩
    | true =>
      refine read_no v xs w hv (KM.tk xs).1 (fun t w' hc => (taken_any xs t w' hc).mono fun e w2 h => ?_) (fun hr => ?_)
      · obtain ⟨a, c, he, hu, hg⟩ := h
        rw [hok] at he
        exact ⟨a, c, he, hu, hg⟩
      · rw [Bool.and_eq_true, Bool.or_eq_true, decide_eq_true_eq, decide_eq_true_eq] at hok
        exact hno _ hr (KM.bytes_tk hlt (by simpa using hok.2) hok.1 fun hg => (hr.2.2.2.1 hg).2.2)
end Go.Proofs.Ytdbdnfjgmdkneaa
namespace Go.Proofs.Ytdbdnfjgmdkneaa
set_option maxRecDepth 20000
open Go.RowKit Go.Deep Go.Maps
set_option linter.unusedVariables false
instance (xs : List Nat) : Decidable (Good xs) := by unfold Good; infer_instance
namespace SM
/-- What is left of a store behind a crash, before it is read again. -/
def crashed (st : Sto) (keep : Int) : Sto := ⟨st.m, [], [], LM.upto (LM.keep st.s keep (LM.size st.lg)) st.lg, LM.size (LM.upto (LM.keep st.s keep (LM.size st.lg)) st.lg)⟩
/-- A piece of the log, read again. -/
def redo (st : Sto) (x : List Nat) : Sto := if Good x then (keepOf st (KM.rk x)).1 else st
def redos (st : Sto) (l : List (List Nat)) : Sto := l.foldl redo st
def restart (st : Sto) (keep : Int) : Sto := redos (crashed st keep) (crashed st keep).lg
theorem redos_step {st : Sto} {l : List (List Nat)} {k : Nat} (h : k < l.length) : redos st (l.drop k) = redos (redo st (l.getD k [])) (l.drop (k + 1)) := by
  rw [List.drop_eq_getElem_cons h, List.getD_eq_getElem?_getD, List.getElem?_eq_getElem h]; rfl
theorem crashed_inv {st : Sto} (h : Inv st) (keep : Int) : Inv (crashed st keep) :=
  ⟨List.Pairwise.nil, fun r hr => (nomatch hr), fun r hr => (nomatch hr), List.Pairwise.nil, fun r hr => (nomatch hr), h.most, Nat.zero_le _, LM.upto_fine h.fine, Nat.le_refl _⟩
end SM
theorem good_of {xs : List Nat} {r : Rc} (hr : KM.Right r) (hb : KM.bytes r = xs) : Good xs ∧ KM.rk xs = r := by
  have hrk := KM.rk_right hr hb
  have ht := KM.tk_bytes hr
  rw [hb] at ht
  refine ⟨⟨by rw [ht], ?_, ?_⟩, hrk⟩
  · rw [hrk]; exact hr
  · rw [hrk]; exact hb
theorem lm_len : ∀ (l : List (List Nat)), l.length ≤ LM.size l
  | [] => Nat.zero_le _
  | x :: l => by have := lm_len l; simp only [LM.size, List.length_cons]; omega
theorem RowB.still {w w' : World} {u : Value} {xs : List Nat} (h : RowB w u xs) (hs : w.heap.size ≤ w'.heap.size) (hb : Still 5 w w') : RowB w' u xs := by
  rcases h.2 with h2 | h2
  · exact ⟨h.1.same hs (.inl h2), .inl h2⟩
  · refine ⟨h.1.same hs (.inr fun g hg => ?_), .inr fun g hg => ?_⟩
    · obtain ⟨cs, f, h3⟩ := h2 g hg
      exact hb g cs f h3
    · obtain ⟨cs, f, h3⟩ := h2 g hg
      exact ⟨cs, f, (hb g cs f h3).trans h3⟩
/-- Its symbols and tombstones gone. -/
theorem SAtX.emptied {w w1 w2 : World} {t : Nat} {D : Nat → Prop} {st : Sto} {v : Value} {mp : Option Nat} {ps : List Pr} (h : SAtX w t D st v mp ps) (hw1 : w1 = w.setCell ⟨t, 3, none⟩ (.slice none 0 0)) (hw2 : w2 = w1.setCell ⟨t, 4, none⟩ (.map none)) :
    SAt w2 t D { st with l := [], t := [] } ∧ PFr D w w2 := by
  obtain ⟨h1, g1⟩ := h.log.rest (i := 1) (.slice none 0 0) hw1
  obtain ⟨h2, g2⟩ := h1.rest (i := 2) (.map none) hw2
  obtain ⟨p, hb, _⟩ := h.cells
  have hg : w.grownBy w2 (some t) := grown_trans g1 g2
  have hst : ∀ T, T ≠ 60 → Still T w w2 := fun T hT => Still.grown hg hb (Ne.symm hT)
  exact ⟨⟨.slice none 0 0, none, [], ⟨h2, h.here, OwnR.nil _, rfl, fun g hg => (nomatch hg), fun p hp => (nomatch hp), .inl ⟨rfl, rfl⟩⟩⟩, Fr.grown hg (fun g e => by have := Option.some.inj e; subst this; exact h.here), hst _ (by decide), hst _ (by decide)⟩
set_option maxHeartbeats 4000000 in
theorem restart_any (t : Nat) (D : Nat → Prop) (st : Sto) (keep : Int) (w : World) (h : SAt w t D st) (hD : ∀ i, D i → i < w.heap.size) (hi : SM.Inv st) (hz : LM.size st.lg ≤ 900000) (hk : -9223372036854775808 ≤ keep ∧ keep ≤ 9223372036854775807) :
    Calls Try.prog 34 #[.pointer (some ⟨t, 0, none⟩), .int .i64 keep] w fun e w' => e = .returned (.tuple #[]) ∧ Left w t D (SM.restart st keep) w' ∧ SM.Inv (SM.restart st keep) ∧ (SM.restart st keep).t.length ≤ LM.size st.lg := by
  obtain ⟨v, mp, ps, h⟩ := h
  have hcl : LM.size (SM.crashed st keep).lg ≤ LM.size st.lg := LM.upto_le _ _
  have HCR := Lib.hid (crash15_any t st.s st.lg keep w h.log hi.sure (by omega) hk)
  have HLG : Hid (∀ w1, LAt w1 t [.int .i64 ((st.m : Nat) : Int), v, .map mp] 60 (LM.upto (LM.keep st.s keep (LM.size st.lg)) st.lg) (LM.size (LM.upto (LM.keep st.s keep (LM.size st.lg)) st.lg)) → w.grownBy w1 (some t) → SAtX w1 t D { st with lg := (SM.crashed st keep).lg, s := (SM.crashed st keep).s } v mp ps ∧ PFr D w w1) := fun w1 hl hg => h.logged hl hg
  have HEM : Hid (∀ w1 w2 w3, SAtX w1 t D { st with lg := (SM.crashed st keep).lg, s := (SM.crashed st keep).s } v mp ps → w2 = w1.setCell ⟨t, 3, none⟩ (.slice none 0 0) → w3 = w2.setCell ⟨t, 4, none⟩ (.map none) → SAt w3 t D (SM.crashed st keep) ∧ PFr D w1 w3) := fun w1 w2 w3 h1 e1 e2 => h1.emptied e1 e2
  have HALL : Hid (∀ w3, SAt w3 t D (SM.crashed st keep) → Calls Try.prog 74 #[.pointer (some ⟨t, 0, none⟩)] w3 (LMade w3 (SM.crashed st keep).lg)) := fun w3 h3 => by
    obtain ⟨v', mp', ps', h3⟩ := h3
    exact all15_new t _ _ w3 h3.log (by have := lm_len (SM.crashed st keep).lg; omega)
  have HIC := Lib.hid (SM.crashed_inv hi keep)
  have HRS : Hid (SM.redos (SM.crashed st keep) ((SM.crashed st keep).lg.drop 0) = SM.restart st keep) := by rw [List.drop_zero]; rfl
  have hnl : (SM.crashed st keep).lg.length ≤ LM.size st.lg := Nat.le_trans (lm_len _) hcl
  have HFI : Hid (∀ x ∈ (SM.crashed st keep).lg, x.length ≤ 65535 ∧ ∀ y ∈ x, y < 256) := (SM.crashed_inv hi keep).fine
  have HT0 : Hid ((SM.crashed st keep).t.length ≤ 0) := by show (0 : Nat) ≤ 0; exact Nat.le_refl _
  have HD := Lib.hid hD
  have htl := h.lt
  have HCELLS : Hid (∀ w1, SAtX w1 t D { st with lg := (SM.crashed st keep).lg, s := (SM.crashed st keep).s } v mp ps → (w1.frozen? ⟨t, 3, none⟩ = false ∧ w1.cell? ⟨t, 3, none⟩ = some v) ∧ (w1.frozen? ⟨t, 4, none⟩ = false ∧ w1.cell? ⟨t, 4, none⟩ = some (.map mp))) := fun w1 h1 => by
    obtain ⟨p, _, _, c3, c4, f3, f4⟩ := h1.cells
    exact ⟨⟨f3, c3⟩, f4, c4⟩
  have HEND : Hid (∀ st' : Sto, SM.redos st' ((SM.crashed st keep).lg.drop (SM.crashed st keep).lg.length) = st') := fun st' => by rw [List.drop_length]; rfl
  have HSTEP : Hid (∀ st' k, k < (SM.crashed st keep).lg.length → SM.redos st' ((SM.crashed st keep).lg.drop k) = SM.redos (SM.redo st' ((SM.crashed st keep).lg.getD k [])) ((SM.crashed st keep).lg.drop (k + 1))) := fun st' k hk => SM.redos_step hk
  clear h hD hi hcl
  generalize LM.size st.lg = z0 at *
  generalize LM.upto (LM.keep st.s keep z0) st.lg = lg0 at *
  generalize SM.restart st keep = R at *
  generalize SM.crashed st keep = st0 at *
  generalize st0.lg = l at *
  generalize hnn : l.length = n at *
  have HNN := Lib.hid hnn
  clear hnn
  go_enter Try.func34, Try.ntmps34
  go_wp2_with fail
  refine HCR.out.mono ?_
  rintro e w1 ⟨rfl, hl1, hg1⟩
  obtain ⟨hs1, hf1⟩ := HLG.out w1 hl1 hg1
  obtain ⟨⟨f3, c3⟩, f4, c4⟩ := HCELLS.out w1 hs1
  have HS1 := Lib.hid hs1
  have HF1 := Lib.hid hf1
  clear hl1 hg1 hs1 hf1 HCR HLG HCELLS
  go_upto_region 3 with fail
  generalize hw2 : World.setCell w1 _ _ = w2
  generalize hw3 : World.setCell w2 _ _ = w3
  obtain ⟨hs3, hf3⟩ := HEM.out w1 w2 w3 HS1.out hw2.symm hw3.symm
  have HF3 : Hid (PFr D w w3) := HF1.out.trans hf3
  have HS3 := Lib.hid hs3
  clear hw2 hw3 f3 c3 f4 c4 hs3 hf3 HS1 HF1 HEM
  go_wp2_with fail
  refine (HALL.out w3 HS3.out).mono ?_
  rintro e w4 ⟨v4, rfl, hx4, hrw⟩
  obtain ⟨ra, rc, hv4, _⟩ := hrw.old.slice
  rw [HNN.out] at hv4
  subst hv4
  have hb3 : w.heap.size ≤ w3.heap.size := HF3.out.fr.size
  have HROW : Hid (∀ wr k, PFr D w4 wr → k < n → ∃ b off u, ra = some ⟨b, off, none⟩ ∧ wr.cell? ⟨b, off + k, none⟩ = some u ∧ U8s wr u (l.getD k [])) := fun wr k hf hk => by
    rcases hrw with ⟨e, _⟩ | ⟨b, off, cap, e, _, _, hb, hbl, hc⟩
    · have := HNN.out; rw [e] at this; simp at this; omega
    · simp only [Value.slice.injEq] at e
      obtain ⟨u, h1, h2⟩ := hc k (by rw [HNN.out]; exact hk)
      refine ⟨b, off, u, e.1, ?_, (h2.still hf.fr.size hf.bytes).1⟩
      rw [World.cell?_of_block (w := w4) (w' := wr) (a := ⟨b, off + k, none⟩) (hf.fr.away b hbl (fun hd => by have := HD.out b hd; omega))]
      exact h1
  have HF4 : Hid (PFr D w w4) := HF3.out.trans (PFr.ext hx4)
  have HS4 : Hid (SAt w4 t D st0) := HS3.out.ext hx4
  have HLT : Hid (w.heap.size ≤ w4.heap.size) := HF4.out.fr.size
  clear hx4 hrw HALL HS3 HF3 hb3
  go_wp2_with fail
  go_loopw [26] (fun s26 wr => ∃ (k : Nat) (st' : Sto) (D' : Nat → Prop), k ≤ n ∧ s26 = .int .i64 k ∧ Hid (SAt wr t D' st') ∧ Hid (∀ i, D' i → i < wr.heap.size ∧ (D i ∨ w4.heap.size ≤ i)) ∧ Hid (PFr D w4 wr) ∧ Hid (SM.redos st' (l.drop k) = R) ∧ Hid (SM.Inv st' ∧ st'.t.length ≤ k)) (fun s26 _ => n - (intOf s26).toNat)
  case atStart => exact ⟨0, st0, D, by omega, by rfl, HS4, Lib.hid (fun i hi => ⟨by have := HD.out i hi; have := HLT.out; omega, .inl hi⟩), Lib.hid (PFr.refl _ _), HRS, Lib.hid ⟨HIC.out, HT0.out⟩⟩
  case round =>
    obtain ⟨k, st', D', hk, rfl, HS, HDD, HF, HR, HIN⟩ := hrel
    by_cases h1 : k < n
    · obtain ⟨b, off, u, rfl, hc, hu⟩ := HROW.out wr k HF.out h1
      obtain ⟨ua, uc, rfl, _⟩ := hu.slice
      have hfi := HFI.out (l.getD k []) (by rw [List.getD_eq_getElem?_getD, List.getElem?_eq_getElem (by rw [HNN.out]; exact h1)]; exact List.getElem_mem _)
      obtain ⟨r, er, hri, hrd, _⟩ := asked14_new (l.getD k []) hfi.2 (by omega)
      have HRD := Lib.hid (hrd _ wr hu)
      have hst := HSTEP.out st' k h1
      rw [HR.out] at hst
      have HST := Lib.hid hst
      have HRI := Lib.hid hri
      clear hst hfi hrd hri hu HR
      generalize l.getD k [] = x at *
      generalize hxl : x.length = xl at *
      clear hxl
      go_wp2_with fail
      refine HRD.out.mono ?_
      rintro e w5 ⟨a5, c5, rfl, hu5, hx5, hn5⟩
      have HX5 := Lib.hid hx5
      have HU5 := Lib.hid hu5
      have HN5 := Lib.hid hn5
      clear HRD hu5 hx5 hn5 hc
      simp only [Rc.val]
      rcases HRI.out with ⟨rfl, hr, hb⟩ | ⟨rfl, rfl, hno⟩
      · obtain ⟨hg, hrk⟩ := good_of hr hb
        have HRE : Hid (SM.redos (SM.keepOf st' r).1 (l.drop (k + 1)) = R) := by
          show _ = _
          rw [HST.out, SM.redo, if_pos hg, hrk]
        have h8 := HU5.out.lt
        have hin := SM.keep_inv HIN.out.1 h8
        have HNI : Hid (SM.Inv (SM.keepOf st' r).1 ∧ (SM.keepOf st' r).1.t.length ≤ k + 1) := ⟨hin.1, by have := hin.2.t; have := HIN.out.2; omega⟩
        have HKK : Hid (∀ w6 : World, w5.Extends w6 → Calls Try.prog 67 #[.pointer (some ⟨t, 0, none⟩), r.val (.slice a5 r.d.length c5)] w6 (KeepOut w6 t D' st' r)) := fun w6 hx => by
          have hx2 := Gr.ext_trans HX5.out hx
          refine keep_any t D' st' r a5 c5 w6 (HS.out.ext hx2) (fun i hd => Nat.lt_of_lt_of_le (HDD.out i hd).1 hx2.size) HIN.out.1 (by have := HIN.out.2; omega) (HU5.out.ext hx) (.inr fun g hg hd => ?_)
          have e1 := HN5.out g hg
          have e2 := (HDD.out g hd).1
          omega
        clear hg hrk hr hb hin h8 HRI HST HU5 HN5
        obtain ⟨rp, rn, rb, rs, rm, rk, re, rg, ru, rd⟩ := r
        simp only
        unfold KeepOut at HKK
        generalize SM.keepOf st' ⟨rp, rn, rb, rs, rm, rk, re, rg, ru, rd⟩ = kk at *
        rw [show ((0 : Nat) : Int) = 0 from rfl]
        go_upto_region 7 with fail
        generalize hwb : World.alloc w5 _ = w6
        have hxb : w5.Extends w6 := by subst hwb; exact ext_alloc _ _
        have hbx : w6.rangeAt w5.heap.size 0 (Rc.cells ⟨rp, rn, rb, rs, rm, rk, re, rg, ru, rd⟩ (.slice a5 rd.length c5)) := by subst hwb; exact box_rec w5 28 ⟨rp, rn, rb, rs, rm, rk, re, rg, ru, rd⟩ _
        obtain ⟨c0, c1, c2, c3, c4, c5', c6, c7, c8, c9⟩ := RCell.ten hbx
        simp only [Nat.zero_add] at c0 c1 c2 c3 c4 c5' c6 c7 c8 c9
        have HXB := Lib.hid hxb
        clear hwb hxb hbx
        generalize w5.heap.size = y at *
        go_wp2_with fail
        refine (HKK.out w6 HXB.out).mono ?_
        rintro e w7 ⟨⟨qp, qn, qb, qs, qm, qk, qe, qg, qu, qd⟩, qa, qc, rfl, hL, _⟩
        have hx6 := Gr.ext_trans HX5.out HXB.out
        have HP : Hid (SAt w7 t (Nx D' w6 w7) kk.1 ∧ (∀ i, Nx D' w6 w7 i → i < w7.heap.size ∧ (D i ∨ w4.heap.size ≤ i)) ∧ PFr D w4 w7) := by
          have hs := hL.2.fr.size
          have h46 := HF.out.fr.size
          have h66 := hx6.size
          refine ⟨hL.1, fun i hi => ?_, ?_, ?_, ?_⟩
          · rcases hi with hi | hi
            · have := HDD.out i hi
              exact ⟨by omega, this.2⟩
            · exact ⟨hi.2, .inr (by omega)⟩
          · exact (HF.out.fr.trans (Fr.ext (D := D) hx6) fun _ _ h => h).trans hL.2.fr (fun i hi hd => by
              rcases (HDD.out i hd).2 with h | h
              · exact h
              · omega)
          · exact (HF.out.piece.trans (Still.ext hx6)).trans hL.2.piece
          · exact (HF.out.bytes.trans (Still.ext hx6)).trans hL.2.bytes
        clear hL hx6 HKK HXB HX5 HS HDD HF c0 c1 c2 c3 c4 c5' c6 c7 c8 c9
        simp only [Rc.val]
        go_wp2
        go_roundw
        case rel => exact ⟨k + 1, kk.1, _, by omega, by go_num, Lib.hid HP.out.1, Lib.hid HP.out.2.1, Lib.hid HP.out.2.2, HRE, HNI⟩
        case measure => simp [intOf]; omega
      · have HRE : Hid (SM.redos st' (l.drop (k + 1)) = R) := by
          show _ = _
          rw [HST.out, SM.redo, if_neg (fun h => hno _ h.2.1 h.2.2)]
        clear hno HRI HST HU5 HN5
        have HP : Hid (∀ w6, w5.Extends w6 → SAt w6 t D' st' ∧ (∀ i, D' i → i < w6.heap.size ∧ (D i ∨ w4.heap.size ≤ i)) ∧ PFr D w4 w6) := fun w6 hx => by
          have hx6 := Gr.ext_trans HX5.out hx
          exact ⟨HS.out.ext hx6, fun i hi => ⟨Nat.lt_of_lt_of_le (HDD.out i hi).1 hx6.size, (HDD.out i hi).2⟩, HF.out.trans (PFr.ext hx6)⟩
        clear HX5 HS HDD HF
        simp only [Rc.zero]
        rw [show ((2 : Nat) : Int) = 2 from rfl]
        go_upto_region 7 with fail
        generalize hwb : World.alloc w5 _ = w6
        have HQ := Lib.hid (HP.out w6 (by subst hwb; exact ext_alloc _ _))
        clear hwb HP
        generalize w5.heap.size = y at *
        go_wp2
        go_roundw
        case rel => exact ⟨k + 1, st', D', by omega, by go_num, Lib.hid HQ.out.1, Lib.hid HQ.out.2.1, Lib.hid HQ.out.2.2, HRE, Lib.hid ⟨HIN.out.1, by have := HIN.out.2; omega⟩⟩
        case measure => simp [intOf]; omega
    · obtain rfl : k = n := by omega
      have hr := HR.out
      have he := HEND.out st'
      try rw [HNN.out] at he
      rw [he] at hr
      subst hr
      have HP : Hid (Left w t D st' wr ∧ SM.Inv st' ∧ st'.t.length ≤ z0) := by
        have h4 := HF.out.fr.size
        have h5 := HLT.out
        refine ⟨⟨HS.out.mono fun i hi => ?_, HF4.out.trans HF.out⟩, HIN.out.1, by have := HIN.out.2; omega⟩
        obtain ⟨h6, h7⟩ := HDD.out i hi
        rcases h7 with h7 | h7
        · exact .inl h7
        · exact .inr (by omega)
      go_wp2
      go_end0
      exact ⟨rfl, HP.out⟩
end Go.Proofs.Ytdbdnfjgmdkneaa
namespace Go.Proofs.Ytdbdnfjgmdkneaa
set_option maxRecDepth 20000
open Go.RowKit Go.Deep Go.Maps
set_option linter.unusedVariables false
namespace SM
/-- Stores that hold the same, whatever their logs. -/
def Alike (a b : Sto) : Prop := a.m = b.m ∧ a.l = b.l ∧ a.t = b.t
theorem Alike.refl (a : Sto) : Alike a a := ⟨rfl, rfl, rfl⟩
theorem Alike.trans {a b c : Sto} (h : Alike a b) (k : Alike b c) : Alike a c := ⟨h.1.trans k.1, h.2.1.trans k.2.1, h.2.2.trans k.2.2⟩
theorem Alike.symm {a b : Sto} (h : Alike a b) : Alike b a := ⟨h.1.symm, h.2.1.symm, h.2.2.symm⟩
/-- An empty store for so many. -/
def none (m : Nat) : Sto := ⟨m, [], [], [], 0⟩
/-- Records put one by one. -/
def run (st : Sto) (l : List Rc) : Sto := l.foldl put1 st
theorem keep_lg (st : Sto) (r : Rc) : (keepOf st r).1.lg = st.lg ∧ (keepOf st r).1.m = st.m ∧ (keepOf st r).1.s = st.s := by
  unfold keepOf
  split
  · split
    · unfold buryOf
      split
      · split <;> exact ⟨rfl, rfl, rfl⟩
      · exact ⟨rfl, rfl, rfl⟩
    · unfold addOf
      split
      · exact ⟨rfl, rfl, rfl⟩
      · split
        · split <;> exact ⟨rfl, rfl, rfl⟩
        · split
          · exact ⟨rfl, rfl, rfl⟩
          · split <;> exact ⟨rfl, rfl, rfl⟩
  · exact ⟨rfl, rfl, rfl⟩
end SM
end Go.Proofs.Ytdbdnfjgmdkneaa
namespace Go.Proofs.Ytdbdnfjgmdkneaa
set_option maxRecDepth 20000
open Go.RowKit Go.Deep
set_option linter.unusedVariables false
theorem num16_any (n : Int) (w : World) : Calls Try.prog 28 #[.int .i64 n] w fun e w' => e = .returned (.int .i64 n) ∧ w = w' := by
  go_enter Try.func28, Try.ntmps28
  go_wp2
  go_ret
  exact ⟨rfl, rfl⟩
/-- Are records few and short enough? -/
def FewL (l : List Rc) : Prop := (∀ r ∈ l, r.d.length ≤ 100) ∧ l.length ≤ 60
instance (l : List Rc) : Decidable (FewL l) := by unfold FewL; infer_instance
set_option maxHeartbeats 1000000 in
theorem few16_any (v : Value) (l : List Rc) (w : World) (h : Recs w v l) :
    Calls Try.prog 25 #[v] w fun e w' => e = .returned (.bool (decide (FewL l))) ∧ w.Extends w' := by
  obtain ⟨a, cap, rfl⟩ := h.slice
  have HLM := h.len
  have HAT : Hid (∀ k, k < l.length → ∃ b off, a = some ⟨b, off, none⟩ ∧ RCell w b (off + k * 10) (l.getD k Rc.zero)) := fun k hk => by
    obtain ⟨_, h2⟩ := h.at
    obtain ⟨b, off, e, _, h3⟩ := h2 (by omega)
    exact ⟨b, off, e, h3 k hk⟩
  have HNO : Hid (∀ k, k < l.length → ¬ (l.getD k Rc.zero).d.length ≤ 100 → decide (FewL l) = false) := fun k hk hn => decide_eq_false fun hf => hn (hf.1 _ (by rw [List.getD_eq_getElem?_getD, List.getElem?_eq_getElem hk]; exact List.getElem_mem hk))
  have HYES : Hid ((∀ k, k < l.length → (l.getD k Rc.zero).d.length ≤ 100) → decide (FewL l) = decide (l.length ≤ 60)) := fun hy => by
    have : FewL l ↔ l.length ≤ 60 := ⟨fun hf => hf.2, fun h6 => ⟨fun r hr => by
      obtain ⟨k, hk, rfl⟩ := List.mem_iff_getElem.1 hr
      have := hy k hk
      rwa [List.getD_eq_getElem?_getD, List.getElem?_eq_getElem hk] at this, h6⟩⟩
    exact decide_eq_decide.2 this
  unfold maxLen at HLM
  clear h
  generalize decide (FewL l) = B at *
  generalize l.length = n at *
  go_enter Try.func25, Try.ntmps25
  go_wp2_with fail
  go_loopw [3] (fun s3 wr => ∃ k : Nat, k ≤ n ∧ s3 = .int .i64 k ∧ Hid (∀ j, j < k → (l.getD j Rc.zero).d.length ≤ 100) ∧ Hid (w.Extends wr)) (fun s3 _ => n - (intOf s3).toNat)
  case atStart => exact ⟨0, by omega, by rfl, Lib.hid (fun j hj => absurd hj (Nat.not_lt_zero _)), Lib.hid (Gr.ext_refl _)⟩
  case round =>
    obtain ⟨k, hk, rfl, HN, HX⟩ := hrel
    by_cases h1 : k < n
    · obtain ⟨b, off, rfl, ua, uc, hr, hu⟩ := HAT.out k h1
      have hr := rangeAt_ext hr HX.out
      have HNK := Lib.hid (HNO.out k h1)
      have HN2 : Hid ((l.getD k Rc.zero).d.length ≤ 100 → ∀ j, j < k + 1 → (l.getD j Rc.zero).d.length ≤ 100) := fun h j hj => by
        by_cases e : j = k
        · subst e; exact h
        · exact HN.out j (by omega)
      clear hu
      generalize l.getD k Rc.zero = p at *
      obtain ⟨xp, xn, xb, xs, xm, xk, xe, xg, xu, xd⟩ := p
      obtain ⟨c0, c1, c2, c3, c4, c5, c6, c7, c8, c9⟩ := RCell.ten hr
      simp only at c0 c1 c2 c3 c4 c5 c6 c7 c8 c9 HNK HN2
      clear hr c0 c1 c2 c3 c4 c5 c6 c7 c8
      generalize xd.length = q at *
      by_cases hq : q ≤ 100
      · have HNN := Lib.hid (HN2.out hq)
        clear HN2 HNK
        go_wp2
        go_roundw
        case rel => exact ⟨k + 1, by omega, by go_num, HNN, HX⟩
        case measure => simp [intOf]; omega
      · have hB := HNK.out hq
        clear HN2 HNK
        subst hB
        go_wp2
        go_ret
        exact ⟨rfl, HX.out⟩
    · obtain rfl : k = n := by omega
      have HB := Lib.hid (HYES.out HN.out)
      by_cases h6 : k ≤ 60
      · have hB : B = true := by rw [HB.out]; exact decide_eq_true h6
        clear HB
        go_wp2
        go_ret
        exact ⟨by rw [hB]; show Ending.returned (.bool (decide ((k : Int) ≤ 60))) = _; rw [decide_eq_true (show (k : Int) ≤ 60 by omega)], HX.out⟩
      · have hB : B = false := by rw [HB.out]; exact decide_eq_false h6
        clear HB
        go_wp2
        go_ret
        exact ⟨by rw [hB]; show Ending.returned (.bool (decide ((k : Int) ≤ 60))) = _; rw [decide_eq_false (show ¬ (k : Int) ≤ 60 by omega)], HX.out⟩
end Go.Proofs.Ytdbdnfjgmdkneaa
namespace Go.Proofs.Ytdbdnfjgmdkneaa
set_option maxRecDepth 20000
open Go.RowKit Go.Deep Go.Maps
set_option linter.unusedVariables false
/-- A store of the law's own: it lies in memory that the law has made; c: how many records were put. -/
structure SOk (w0 w : World) (t : Nat) (st : Sto) (c : Nat) : Prop where
  at_ : SAt w t (fun i => w0.heap.size ≤ i ∧ i < w.heap.size) st
  inv : SM.Inv st
  ext : w0.Extends w
  size : LM.size st.lg ≤ 90 * c
  few : st.t.length ≤ c
theorem SOk.later {w0 w w' : World} {t c : Nat} {st : Sto} (h : SOk w0 w t st c) (hx : w.Extends w') : SOk w0 w' t st c :=
  ⟨(h.at_.ext hx).mono fun i hi => ⟨hi.1, Nat.lt_of_lt_of_le hi.2 hx.size⟩, h.inv, Gr.ext_trans h.ext hx, h.size, h.few⟩
theorem Fr.extends {D : Nat → Prop} {w0 w w' : World} (h : w0.Extends w) (k : Fr D w w') (hD : ∀ i, D i → w0.heap.size ≤ i) : w0.Extends w' :=
  Gr.ext_of ((Gr.below_of h).trans (k.below h.size hD))
theorem SOk.left {w0 w w1 w2 : World} {t c c' : Nat} {st st' : Sto} (h : SOk w0 w t st c) (hx : w.Extends w1) (hL : Left w1 t (fun i => w0.heap.size ≤ i ∧ i < w.heap.size) st' w2) (hi : SM.Inv st') (hz : LM.size st'.lg ≤ 90 * c') (hf : st'.t.length ≤ c') : SOk w0 w2 t st' c' := by
  have h1 := hx.size
  have h2 := hL.2.fr.size
  have h0 := h.ext.size
  refine ⟨hL.1.mono fun i hi => ?_, hi, Fr.extends (Gr.ext_trans h.ext hx) hL.2.fr fun i hi => hi.1, hz, hf⟩
  rcases hi with hi | hi
  · exact ⟨hi.1, by omega⟩
  · exact ⟨by omega, hi.2⟩
theorem puts_one (st : Sto) (r : Rc) : SM.puts st [r] = (SM.put1 st r, (SM.keepOf st r).2.2) := by
  unfold SM.puts
  split
  · rename_i h; rw [h]; rfl
  · rfl
theorem recs_lit (w : World) (D : Nat → Prop) (r : Rc) (a : Option Addr) (c : Nat) (hu : U8s w (.slice a r.d.length c) r.d) (hb : r.d = [] ∨ ∀ g, (Value.slice a r.d.length c).ownBlock = some g → ¬ D g ∧ g < w.heap.size) (hD : ∀ i, D i → i < w.heap.size) :
    RecsD (w.alloc (.cells (r.cells (.slice a r.d.length c)).toArray 28)) D (.slice (some ⟨w.heap.size, 0, none⟩) 1 1) [r] := by
  refine .inr ⟨w.heap.size, 0, 1, rfl, by simp, fun hd => by have := hD _ hd; omega, fun k hk => ?_⟩
  obtain rfl : k = 0 := by simp at hk; omega
  exact ⟨a, c, by simpa using box_rec w 28 r (.slice a r.d.length c), hu.ext (ext_alloc _ _), hb.imp id fun hb g hg => ⟨(hb g hg).1, by have := (hb g hg).2; simp; omega⟩⟩
/-- A record, typed in the law, put. -/
theorem put_one {w0 w w1 w2 : World} {t c : Nat} {st : Sto} {r : Rc} {a : Option Addr} {cc : Nat} (h : SOk w0 w t st c) (hc : c ≤ 9000) (hx : w.Extends w1) (hu : U8s w1 (.slice a r.d.length cc) r.d) (hb : r.d = [] ∨ ∀ g, (Value.slice a r.d.length cc).ownBlock = some g → (g < w0.heap.size ∨ w.heap.size ≤ g) ∧ g < w1.heap.size) (h2 : w2 = w1.alloc (.cells (r.cells (.slice a r.d.length cc)).toArray 28)) :
    Calls Try.prog 26 #[.pointer (some ⟨t, 0, none⟩), .slice (some ⟨w1.heap.size, 0, none⟩) 1 1] w2 fun e w' => e = .returned (.int .i64 (((SM.keepOf st r).2.2 : Nat) : Int)) ∧ SOk w0 w' t (SM.put1 st r) (c + 1) := by
  subst h2
  have hx2 := Gr.ext_trans hx (ext_alloc w1 (.cells (r.cells (.slice a r.d.length cc)).toArray 28))
  have hs := hx.size
  have := sput_any t (fun i => w0.heap.size ≤ i ∧ i < w.heap.size) st _ [r] _ (h.at_.ext hx2) (fun i hi => Nat.lt_of_lt_of_le hi.2 hx2.size) h.inv (recs_lit w1 _ r a cc hu (hb.imp id fun hb g hg => ⟨fun hd => by have := (hb g hg).1; omega, (hb g hg).2⟩) (fun i hi => by omega)) (by simp) (by have := h.few; omega) (by have := h.size; omega)
  rw [puts_one] at this
  refine this.mono ?_
  rintro e w' ⟨h1, h2, h3, h4, h5⟩
  exact ⟨h1, h.left hx2 h2 h3 (by have := h.size; simp only [List.length_singleton] at h4; omega) (by have := h.few; simp only [List.length_singleton] at h5; omega)⟩
/-- The document's example. -/
def stone16 : Rc := ⟨0, 1, 0, 0, 0, 0, 0, true, 0, []⟩
theorem stone16_right : KM.Right stone16 := by unfold KM.Right CM.Right; decide
set_option maxHeartbeats 1000000 in
theorem alive16_any (w : World) : Calls Try.prog 22 #[] w fun e w' => e = .returned (.bool true) ∧ w.Extends w' := by
  have hk : SM.keepOf (SM.new 3) stone16 = ({ SM.new 3 with t := [stone16] }, some stone16, 0) := by
    unfold SM.keepOf
    rw [if_pos stone16_right]; rfl
  have hp : SM.put1 (SM.new 3) stone16 = { SM.new 3 with t := [stone16], lg := [KM.bytes stone16] } := by rw [SM.put1_eq, hk]; rfl
  have HKE : Hid ((SM.keepOf (SM.new 3) stone16).2.2 = 0) := by show _ = _; rw [hk]
  have HHAS : Hid (decide (SM.Has (SM.put1 (SM.new 3) stone16).t stone16) = true) := by show _ = _; rw [hp]; decide
  have HSZ : Hid (∃ z : Nat, LM.size (SM.put1 (SM.new 3) stone16).lg = z + 1) := ⟨14, by rw [hp]; rfl⟩
  have HLN : Hid ((SM.new 3).l.length = 0) := rfl
  clear hk hp
  go_enter Try.func22, Try.ntmps22
  go_wp2_with fail
  refine (new16_any 3 w (by omega)).mono ?_
  rintro e w1 ⟨rfl, hx1, hs1, hsz1⟩
  have HS1 : Hid (SOk w w1 w.heap.size (SM.new 3) 0) := ⟨hs1.mono fun i hi => by omega, SM.inv_new 3, hx1, Nat.zero_le _, Nat.zero_le _⟩
  have hcn := count_any w.heap.size _ _ w1 HS1.out.at_
  rw [HLN.out] at hcn
  have HCN := Lib.hid hcn
  clear hx1 hs1 hsz1 hcn
  generalize w.heap.size = t at *
  go_wp2_with fail
  refine HCN.out.mono ?_
  rintro e w2 ⟨rfl, rfl⟩
  have HPT : Hid (∀ w2, w2 = w1.alloc (.cells (stone16.cells (.slice none 0 0)).toArray 28) → Calls Try.prog 26 #[.pointer (some ⟨t, 0, none⟩), .slice (some ⟨w1.heap.size, 0, none⟩) 1 1] w2 fun e w' => e = .returned (.int .i64 0) ∧ SOk w w' t (SM.put1 (SM.new 3) stone16) 1) := fun w2 e => by
    have := put_one (r := stone16) (a := none) (cc := 0) HS1.out (by omega) (Gr.ext_refl _) (nil_u8s _ _ _) (.inl rfl) e
    rw [HKE.out] at this
    exact this
  clear HCN HS1
  go_wp2_with fail
  refine (HPT.out _ rfl).mono ?_
  rintro e w3 ⟨rfl, hs3⟩
  have HS3 := Lib.hid hs3
  have HG := Lib.hid (gone_any t _ _ stone16 w3 hs3.at_ ⟨by decide, by decide⟩)
  rw [HHAS.out] at HG
  obtain ⟨z, hz⟩ := HSZ.out
  have HZ := Lib.hid hz
  clear hs3 HPT hz
  go_wp2_with fail
  refine (num16_any 0 w3).mono ?_
  rintro e w4 ⟨rfl, rfl⟩
  go_wp2_with fail
  refine HG.out.mono ?_
  rintro e w5 ⟨rfl, hx5⟩
  have HS5 := Lib.hid (HS3.out.later hx5)
  have HLE := Lib.hid (slen_any t _ _ w5 HS5.out.at_)
  rw [HZ.out] at HLE
  clear hx5 HG
  go_wp2_with fail
  refine HLE.out.mono ?_
  rintro e w6 ⟨rfl, rfl⟩
  have hz0 : (0 : Int) < ((z + 1 : Nat) : Int) := by omega
  go_wp2
  go_ret
  exact ⟨rfl, HS5.out.ext⟩
end Go.Proofs.Ytdbdnfjgmdkneaa
namespace Go.Proofs.Ytdbdnfjgmdkneaa
set_option maxRecDepth 20000
open Go.RowKit Go.Deep Go.Maps
set_option linter.unusedVariables false
namespace SM
theorem redo_lg (st : Sto) (x : List Nat) : (redo st x).lg = st.lg ∧ (redo st x).m = st.m ∧ (redo st x).s = st.s := by
  unfold redo
  split
  · exact keep_lg st _
  · exact ⟨rfl, rfl, rfl⟩
theorem redos_lg : ∀ (l : List (List Nat)) (st : Sto), (redos st l).lg = st.lg ∧ (redos st l).m = st.m ∧ (redos st l).s = st.s
  | [], st => ⟨rfl, rfl, rfl⟩
  | x :: l, st => by
    obtain ⟨h1, h2, h3⟩ := redos_lg l (redo st x)
    obtain ⟨k1, k2, k3⟩ := redo_lg st x
    exact ⟨h1.trans k1, h2.trans k2, h3.trans k3⟩
theorem restart_lg (st : Sto) (keep : Int) : (restart st keep).lg = LM.upto (LM.keep st.s keep (LM.size st.lg)) st.lg ∧ (restart st keep).m = st.m ∧ (restart st keep).s = LM.size (restart st keep).lg := by
  obtain ⟨h1, h2, h3⟩ := redos_lg (crashed st keep).lg (crashed st keep)
  refine ⟨h1, h2, ?_⟩
  show (redos _ _).s = LM.size (redos _ _).lg
  rw [h3, h1]; rfl
end SM
end Go.Proofs.Ytdbdnfjgmdkneaa
namespace Go.Proofs.Ytdbdnfjgmdkneaa
set_option maxRecDepth 20000
open Go.RowKit Go.Deep Go.Maps
set_option linter.unusedVariables false
/-- A record, and whether it is one. -/
def TombOut (w : World) (b : Bool) (e : Ending) (w' : World) : Prop := ∃ (r : Rc) (u : Value), e = .returned (.tuple #[r.val u, .bool b]) ∧ w.Extends w' ∧ Slc (r, u)
theorem getD_mem0 {l : List Rc} {k : Nat} (h : k < l.length) : l.getD k Rc.zero ∈ l := by
  rw [List.getD_eq_getElem?_getD, List.getElem?_eq_getElem h]; exact List.getElem_mem h
set_option maxHeartbeats 2000000 in
theorem rtomb_any (t : Nat) (D : Nat → Prop) (st : Sto) (r : Rc) (w : World) (h : RSt w t D st) (hl : st.t.length ≤ 1000000) :
    Calls Try.prog 41 #[.pointer (some ⟨t, 0, none⟩), .agg #[.int .i64 r.p, .int .i64 r.n]] w (TombOut w (decide (SM.Has st.t r))) := by
  obtain ⟨DB, v1, v2, ps, qs, h⟩ := h
  have HAT := Lib.hid h.own2.at_
  have HSL : Hid (∀ k, k < qs.length → Slc (qs.getD k zp)) := fun k hk => h.own2.2 _ (getD_mem hk)
  obtain ⟨sa, sc, hb, c0, c1, c2, c3, f1, f2⟩ := h.cells
  have HC := Lib.hid c2
  have HYES : Hid (∀ k, k < qs.length → (qs.getD k zp).1.p = r.p → (qs.getD k zp).1.n = r.n → decide (SM.Has st.t r) = true) := fun k hk e1 e2 => by
    rw [decide_eq_true_eq, SM.has_iff]
    refine ⟨(qs.getD k zp).1, ?_, e1, e2⟩
    rw [← h.recs2]
    exact List.mem_map.2 ⟨_, getD_mem hk, rfl⟩
  have HNO : Hid ((∀ k, k < qs.length → ¬ ((qs.getD k zp).1.p = r.p ∧ (qs.getD k zp).1.n = r.n)) → decide (SM.Has st.t r) = false) := fun hn => by
    rw [decide_eq_false_iff_not, SM.has_iff]
    rintro ⟨x, hx, h1, h2⟩
    rw [← h.recs2] at hx
    obtain ⟨p, hp, rfl⟩ := List.mem_map.1 hx
    obtain ⟨k, hk, rfl⟩ := List.mem_iff_getElem.1 hp
    refine hn k hk ?_
    rw [show qs.getD k zp = qs[k] by simp [hk]]
    exact ⟨h1, h2⟩
  rw [← h.len2] at hl
  obtain ⟨a, cap, rfl⟩ := h.own2.slice
  clear h hb c0 c1 c2 c3 f1 f2
  generalize decide (SM.Has st.t r) = B at *
  generalize qs.length = n at *
  generalize r.p = rp at *
  generalize r.n = rn at *
  go_enter Try.func41, Try.ntmps41
  go_upto_region 1 with fail
  generalize hw1 : World.alloc w _ = w1
  generalize hw2 : World.alloc w1 _ = w2
  have hx1 : w.Extends w1 := by subst hw1; exact ext_alloc _ _
  have hx2 : w1.Extends w2 := by subst hw2; exact ext_alloc _ _
  have hs1 : w1.heap.size = w.heap.size + 1 := by subst hw1; simp
  obtain ⟨d0, d1⟩ : w1.cell? ⟨w.heap.size, 0, none⟩ = some (.int .i64 rp) ∧ w1.cell? ⟨w.heap.size, 1, none⟩ = some (.int .i64 rn) := by subst hw1; exact box_id w 23 rp rn
  have ha : Arr w2 (w.heap.size + 1) 1 1 (fun _ => zp) := by rw [← hs1]; subst hw2; exact Arr.box w1 Rc.zero (.slice none 0 0)
  have HX2 := Lib.hid (Gr.ext_trans hx1 hx2)
  have HD0 := Lib.hid (hx2.cell_of d0)
  have HD1 := Lib.hid (hx2.cell_of d1)
  have HA := Lib.hid ha
  obtain ⟨z, hz⟩ : ∃ z, z = w.heap.size + 1 := ⟨_, rfl⟩
  rw [← hz] at HA ⊢
  have HZW : Hid (w.heap.size ≤ z) := by show _ ≤ _; omega
  have hc2 := HX2.out.cell_of HC.out
  clear hw1 hw2 hx1 hx2 hs1 d0 d1 ha hz
  obtain ⟨y, hy⟩ : ∃ y, y = w.heap.size := ⟨_, rfl⟩
  rw [← hy] at HD0 HD1 ⊢
  clear hy
  go_wp2_with fail
  go_loopw [6] (fun s6 wr => ∃ k : Nat, k ≤ n ∧ s6 = .int .i64 k ∧ Hid (∀ j, j < k → ¬ ((qs.getD j zp).1.p = rp ∧ (qs.getD j zp).1.n = rn)) ∧ Hid (w2.Extends wr)) (fun s6 _ => n - (intOf s6).toNat)
  case atStart => exact ⟨0, by omega, by rfl, Lib.hid (fun j hj => absurd hj (Nat.not_lt_zero _)), Lib.hid (Gr.ext_refl _)⟩
  case round =>
    clear hc2
    obtain ⟨k, hk, rfl, HN, HX⟩ := hrel
    have e2 := HX.out.cell_of (HX2.out.cell_of HC.out)
    by_cases h1 : k < n
    · obtain ⟨g, ⟨cap', e⟩, hr⟩ := HAT.out k h1
      cases e
      have HRG : Hid (∀ w', wr.Extends w' → w'.rangeAt g (k * 10) ((qs.getD k zp).1.cells (qs.getD k zp).2) ∧ w'.cell? ⟨t, 2, none⟩ = some (.slice (some ⟨g, 0, none⟩) n cap) ∧ w'.cell? ⟨y, 0, none⟩ = some (.int .i64 rp) ∧ w'.cell? ⟨y, 1, none⟩ = some (.int .i64 rn)) := fun w' hx => by
        have h2 := Gr.ext_trans HX.out hx
        exact ⟨rangeAt_ext hr (Gr.ext_trans HX2.out h2), h2.cell_of (HX2.out.cell_of HC.out), h2.cell_of HD0.out, h2.cell_of HD1.out⟩
      have HSK := Lib.hid (HSL.out k h1)
      have HYK := Lib.hid (HYES.out k h1)
      have HNK : Hid (¬ ((qs.getD k zp).1.p = rp ∧ (qs.getD k zp).1.n = rn) → ∀ j, j < k + 1 → ¬ ((qs.getD j zp).1.p = rp ∧ (qs.getD j zp).1.n = rn)) := fun hne j hj => by
        by_cases hjk : j = k
        · subst hjk; exact hne
        · exact HN.out j (by omega)
      have HXD := Lib.hid (Gr.ext_drew (Gr.ext_refl wr))
      have HXF : Hid (w2.Extends wr.drew) := Gr.ext_trans HX.out HXD.out
      clear hr
      generalize qs.getD k zp = p at *
      obtain ⟨⟨xp, xn, xb, xs, xm, xk, xe, xg, xu, xd⟩, u⟩ := p
      obtain ⟨ua, uc, hu⟩ := id HSK.out
      simp only at hu
      subst hu
      go_wp2_with fail
      refine Gr.region 9 [(false,0),(false,1),(false,2),(false,3),(false,4),(false,5),(false,6),(false,7),(false,8)] (by kernel_rfl) (by kernel_rfl) (fun d _ _ _ _ h => by cases d <;> exact h) ?_
      simp only [Gr.pick, List.getElem?_cons_zero, List.getElem?_cons_succ, List.drop_succ_cons, List.drop_zero]
      generalize wr.drew = wd at *
      iterate 9
        refine Gr.walk_t ?_ (Or.inl ⟨by rfl, ?_⟩) ?_
        rotate_left
        · intro w' hw'
          obtain ⟨hr, b0, d0, d1⟩ := HRG.out w' (Gr.ext_trans HXD.out hw')
          obtain ⟨c0, c1, c2, c3, c4, c5, c6, c7, c8, c9⟩ := RCell.ten hr
          clear hw'
          go_simp
          try with_reducible rfl
        simp only [Act.put, List.setIfInBounds_toArray, List.set_cons_zero, List.set_cons_succ]
      refine Gr.walk_nil ?_
      by_cases hid : xp = rp ∧ xn = rn
      · have hB := HYK.out hid.1 hid.2
        obtain ⟨rfl, rfl⟩ := hid
        have HAD := Lib.hid (HA.out.ext HXF.out)
        have HSP : Hid (Slc ((⟨xp, xn, xb, xs, xm, xk, xe, xg, xu, xd⟩, .slice ua xd.length uc) : Pr)) := HSK.out
        obtain ⟨hr, b0, d0, d1⟩ := HRG.out wd HXD.out
        obtain ⟨c0, c1, c2, c3, c4, c5, c6, c7, c8, c9⟩ := RCell.ten hr
        simp only at c0 c1 c2 c3 c4 c5 c6 c7 c8 c9
        clear hr HRG HYK HNK HSK
        go_wp2_with (refine wpList_store_rec rfl 28 recsize _ _ rfl z 0 0 1 1 _ (⟨xp, xn, xb, xs, xm, xk, xe, xg, xu, xd⟩, .slice ua xd.length uc) rfl rfl rfl HAD.out (by omega) HSP.out ?_)
        intro w4 ha4 hg4
        have HP : Hid (w.Extends w4) := (Gr.ext_trans HX2.out HXF.out).grown hg4 (fun j hj => by have := Option.some.inj hj; have := HZW.out; omega)
        clear c0 c1 c2 c3 c4 c5 c6 c7 c8 c9 b0 d0 d1 hg4
        obtain ⟨c0, c1, c2, c3, c4, c5, c6, c7, c8, c9⟩ := RCell.ten (ha4.one (p := (⟨xp, xn, xb, xs, xm, xk, xe, xg, xu, xd⟩, .slice ua xd.length uc)) rfl)
        simp only [Nat.zero_add] at c0 c1 c2 c3 c4 c5 c6 c7 c8 c9
        clear ha4
        go_wp2
        refine bodyPost_ret (v := .tuple #[Rc.val ⟨xp, xn, xb, xs, xm, xk, xe, xg, xu, xd⟩ (.slice ua xd.length uc), .bool true]) (by simp [results, Try.results41, go_sem, c0, c1, c2, c3, c4, c5, c6, c7, c8, c9]; try rfl) rfl ?_
        rw [hB]
        exact ⟨_, _, rfl, HP.out, ⟨_, _, rfl⟩⟩
      · have HNN := Lib.hid (HNK.out hid)
        clear HYK HNK HRG
        by_cases hp : xp = rp
        · have hn2 : ¬ xn = rn := fun e => hid ⟨hp, e⟩
          subst hp
          clear hid
          go_wp2
          go_roundw
          case rel => exact ⟨k + 1, by omega, by go_num, HNN, HXF⟩
          case measure => simp [intOf]; omega
        · clear hid
          go_wp2
          go_roundw
          case rel => exact ⟨k + 1, by omega, by go_num, HNN, HXF⟩
          case measure => simp [intOf]; omega
    · obtain rfl : k = n := by omega
      have hB := HNO.out HN.out
      have HAD := Lib.hid (HA.out.ext HX.out)
      go_wp2_with (refine wpList_store_rec rfl 28 recsize _ _ rfl z 0 0 1 1 _ zp rfl rfl rfl HAD.out (by omega) ⟨none, 0, rfl⟩ ?_)
      intro w4 ha4 hg4
      have HP : Hid (w.Extends w4) := (Gr.ext_trans HX2.out HX.out).grown hg4 (fun j hj => by have := Option.some.inj hj; have := HZW.out; omega)
      clear hg4 e2
      obtain ⟨c0, c1, c2, c3, c4, c5, c6, c7, c8, c9⟩ := RCell.ten (ha4.one (p := zp) rfl)
      simp only [Nat.zero_add, zp, Rc.zero] at c0 c1 c2 c3 c4 c5 c6 c7 c8 c9
      clear ha4
      go_wp2
      refine bodyPost_ret (v := .tuple #[Rc.val Rc.zero (.slice none 0 0), .bool false]) (by simp [results, Try.results41, go_sem, c0, c1, c2, c3, c4, c5, c6, c7, c8, c9, Rc.val, Rc.zero]; try rfl) rfl ?_
      rw [hB]
      exact ⟨_, _, rfl, HP.out, ⟨_, _, rfl⟩⟩
end Go.Proofs.Ytdbdnfjgmdkneaa
namespace Go.Proofs.Ytdbdnfjgmdkneaa
set_option maxRecDepth 20000
open Go.RowKit Go.Deep Go.Maps
set_option linter.unusedVariables false
theorem RLeft.close {w w1 w2 w3 : World} {t z : Nat} {D : Nat → Prop} {st' : Sto} (hx : w.Extends w1) (hL : RLeft w1 t D st' w2) (hg : w2.grownBy w3 (some z)) (hz : w.heap.size ≤ z) (hz1 : z < w1.heap.size) (hD : ∀ i, D i → i < w.heap.size) : RLeft w t D st' w3 := by
  have hs := hx.size
  have h2 := hL.2.size
  have h3 := hg.size
  have hnz : ∀ i, Nx D w1 w2 i → i ≠ z := fun i hi e => by
    subst e
    rcases hi with hi | hi
    · have := hD i hi; omega
    · omega
  refine ⟨(hL.1.away h3 (fun g hg' hl => hg.block g hl (fun e => hnz g hg' (Option.some.inj e)))).mono fun i hi => ?_, ?_⟩
  · rcases hi with hi | hi
    · exact .inl hi
    · exact .inr (by omega)
  · exact ((Fr.ext (D := D) hx).trans hL.2 fun _ _ h => h).trans (Fr.grown (D := fun i => i = z) hg fun g e => (Option.some.inj e).symm) fun i hi e => by subst e; omega
section
variable {w wr w5 : World} {t : Nat} {D DB : Nat → Prop} {st : Sto} {v1 v2 : Value} {ps qs : List Pr}
theorem RSX.beside {z : Nat} (h : RSX w t D DB st v1 v2 ps qs) (hg : w.grownBy w5 (some z)) (hz : ¬ D z) : RSX w5 t D DB st v1 v2 ps qs := h.away hg.size fun g hg' hl => hg.block g hl fun e => hz ((Option.some.inj e) ▸ hg')
/-- Other symbols, in an array of the call's own. -/
theorem RSX.putL (h : RSX w t D DB st v1 v2 ps qs) (hx : w.Extends wr) {u1 : Value} {ps' : List Pr} (h1 : OwnR wr u1 ps') (b1 : ∀ g, u1.ownBlock = some g → w.heap.size ≤ g)
    (hps : ∀ p ∈ ps', p ∈ ps ∨ (U8s wr p.2 p.1.d ∧ ∀ g, p.2.ownBlock = some g → w.heap.size ≤ g ∧ ∃ cs, wr.heap[g]? = some (.cells cs 5 (0, 0)))) (hw5 : w5 = wr.setCell ⟨t, 1, none⟩ u1) : RSX w5 t (Nx D w w5) DB { st with l := recs ps' } u1 v2 ps' qs ∧ Fr D w w5 := by
  have hr := h.ext hx
  obtain ⟨l5, g5⟩ := hr.log.front (i := 1) (by omega) hw5
  have hlt := h.lt
  obtain ⟨sa, sc, hb, _⟩ := hr.cells
  have hst : ∀ T, T ≠ 64 → Still T wr w5 := fun T hT => Still.grown g5 hb (Ne.symm hT)
  have hsz : wr.heap.size ≤ w5.heap.size := g5.size
  have hxs := hx.size
  have hne1 : u1.ownBlock ≠ some t := fun e => by have := b1 t e; omega
  have hne2 : v2.ownBlock ≠ some t := fun e => by
    obtain ⟨cs, hc⟩ := hr.own2.block t e
    rw [hb] at hc
    simp only [Option.some.injEq, Obj.cells.injEq] at hc
    exact absurd hc.2.1 (by decide)
  refine ⟨⟨l5, .inl h.here, h1.kept g5 (.inr hne1), hr.own2.kept g5 (.inr hne2), rfl, h.recs2, fun g hg => .inr ⟨b1 g hg, Nat.lt_of_lt_of_le (h1.1.lt g hg).2 hsz⟩, fun g hg => .inl (h.in2 g hg), fun g hgB => ?_, fun g hg1 hg2 => ?_, fun p hp => ?_, fun p hp => ?_⟩, ?_⟩
  · obtain ⟨k1, cs, k2⟩ := hr.inB g hgB
    exact ⟨.inl k1, cs, (hst _ (by decide) g cs _ k2).trans k2⟩
  · have := b1 g hg1
    have := (h.own2.1.lt g hg2).2
    omega
  · rcases hps p hp with hp | ⟨k1, k2⟩
    · exact ((hr.data p hp).mono fun i hi => .inl hi).still hsz (hst _ (by decide))
    · refine ⟨k1.same hsz (.inr fun g hg => ?_), .inr fun g hg => ?_⟩
      · obtain ⟨_, cs, k3⟩ := k2 g hg
        exact hst _ (by decide) g cs _ k3
      · obtain ⟨k4, cs, k3⟩ := k2 g hg
        exact ⟨.inr ⟨k4, Nat.lt_of_lt_of_le (Array.getElem?_eq_some_iff.1 k3).1 hsz⟩, cs, _, (hst _ (by decide) g cs _ k3).trans k3⟩
  · rcases hps p hp with hp | ⟨k1, k2⟩
    · exact h.dataB p hp
    · refine .inr fun g hg hB => ?_
      obtain ⟨_, cs, k3⟩ := h.inB g hB
      have := (Array.getElem?_eq_some_iff.1 k3).1
      have := (k2 g hg).1
      omega
  · exact (Fr.ext (D := D) hx).trans (Fr.grown (D := D) g5 (fun g e => by have := Option.some.inj e; subst this; exact h.here)) fun _ _ h => h
theorem set_getD {ps : List Pr} {k i : Nat} (x : Pr) (hk : k < ps.length) : upd (fun j => ps.getD j zp) k x i = (ps.set k x).getD i zp := by
  unfold upd
  rw [List.getD_eq_getElem?_getD, List.getElem?_set]
  by_cases h : i = k
  · subst h; rw [if_pos rfl, if_pos rfl, if_pos hk]; rfl
  · rw [if_neg h, if_neg (fun e => h e.symm), ← List.getD_eq_getElem?_getD]
theorem OwnR.till {g n cap k : Nat} (h : OwnR w (.slice (some ⟨g, 0, none⟩) n cap) ps) (hk : k < ps.length) (u : Int) (hw : w5 = w.setCell ⟨g, k * 10 + 8, none⟩ (.int .i64 u)) : OwnR w5 (.slice (some ⟨g, 0, none⟩) n cap) (ps.set k ({ (ps.getD k zp).1 with u := u }, (ps.getD k zp).2)) ∧ w.grownBy w5 (some g) := by
  obtain ⟨ha, hn⟩ := h.arr
  obtain ⟨h1, h2⟩ := ha.till (i := k) (by omega) u hw
  refine ⟨h1.own (Nat.le_refl _) (by rw [List.length_set]; exact hn.symm) (fun j hj => ?_) (fun p hp => ?_), h2⟩
  · exact set_getD _ hk
  · rcases List.mem_or_eq_of_mem_set hp with hp | rfl
    · exact h.2 p hp
    · obtain ⟨a, c, e⟩ := h.2 _ (getD_mem hk)
      exact ⟨a, c, e⟩
/-- An array of records is another block than the store's, and holds no bytes. -/
theorem RSX.rec_ne {g : Nat} (h : RSX w t D DB st v1 v2 ps qs) (hg : ∃ cs, w.heap[g]? = some (.cells cs 28 (0, 0))) : t ≠ g := fun e => by
  obtain ⟨sa, sc, hb, _⟩ := h.cells
  obtain ⟨cs, hc⟩ := hg
  subst e
  rw [hb] at hc
  simp only [Option.some.injEq, Obj.cells.injEq] at hc
  exact absurd hc.2.1 (by decide)
/-- A symbol's Until, in place. -/
theorem RSX.tillL {g n cap k : Nat} (h : RSX w t D DB st (.slice (some ⟨g, 0, none⟩) n cap) v2 ps qs) (hk : k < ps.length) (u : Int) (hw : w5 = w.setCell ⟨g, k * 10 + 8, none⟩ (.int .i64 u)) :
    RSX w5 t D DB { st with l := st.l.set k (SM.till (st.l.getD k Rc.zero) u) } (.slice (some ⟨g, 0, none⟩) n cap) v2 (ps.set k ({ (ps.getD k zp).1 with u := u }, (ps.getD k zp).2)) qs ∧ Fr D w w5 := by
  obtain ⟨h1, h2⟩ := h.own1.till hk u hw
  have hgb := h.own1.block g rfl
  obtain ⟨cg, hcg⟩ := hgb
  have hst : ∀ T, T ≠ 28 → Still T w w5 := fun T hT => Still.grown h2 hcg (Ne.symm hT)
  have hmem : ∀ p ∈ ps.set k ({ (ps.getD k zp).1 with u := u }, (ps.getD k zp).2), ∃ q ∈ ps, p.2 = q.2 ∧ p.1.d = q.1.d := fun p hp => by
    rcases List.mem_or_eq_of_mem_set hp with hp | rfl
    · exact ⟨p, hp, rfl, rfl⟩
    · exact ⟨_, getD_mem hk, rfl, rfl⟩
  refine ⟨⟨h.log.grown h2 (h.rec_ne ⟨cg, hcg⟩) (.inr ⟨cg, _, _, hcg, by decide⟩), h.here, h1, h.own2.kept h2 ?_, ?_, h.recs2, h.in1, h.in2, fun g' hg' => ?_, h.apart, fun p hp => ?_, fun p hp => ?_⟩, Fr.grown h2 fun g' e => by have := Option.some.inj e; subst this; exact h.in1 _ rfl⟩
  · exact .inr fun e => h.apart g rfl e
  · show List.map _ _ = _
    rw [List.map_set, ← h.recs1, recs_at]; rfl
  · obtain ⟨k1, cs, k2⟩ := h.inB g' hg'
    exact ⟨k1, cs, (hst _ (by decide) g' cs _ k2).trans k2⟩
  · obtain ⟨q, hq, e1, e2⟩ := hmem p hp
    rw [e1, e2]
    exact (h.data q hq).still h2.size (hst _ (by decide))
  · obtain ⟨q, hq, e1, e2⟩ := hmem p hp
    rw [e1, e2]
    exact h.dataB q hq
/-- A tombstone's Until, in place. -/
theorem RSX.tillT {g n cap k : Nat} (h : RSX w t D DB st v1 (.slice (some ⟨g, 0, none⟩) n cap) ps qs) (hk : k < qs.length) (u : Int) (hw : w5 = w.setCell ⟨g, k * 10 + 8, none⟩ (.int .i64 u)) :
    RSX w5 t D DB { st with t := st.t.set k (SM.till (st.t.getD k Rc.zero) u) } v1 (.slice (some ⟨g, 0, none⟩) n cap) ps (qs.set k ({ (qs.getD k zp).1 with u := u }, (qs.getD k zp).2)) ∧ Fr D w w5 := by
  obtain ⟨h1, h2⟩ := h.own2.till hk u hw
  have hgb := h.own2.block g rfl
  obtain ⟨cg, hcg⟩ := hgb
  have hst : ∀ T, T ≠ 28 → Still T w w5 := fun T hT => Still.grown h2 hcg (Ne.symm hT)
  refine ⟨⟨h.log.grown h2 (h.rec_ne ⟨cg, hcg⟩) (.inr ⟨cg, _, _, hcg, by decide⟩), h.here, h.own1.kept h2 ?_, h1, h.recs1, ?_, h.in1, h.in2, fun g' hg' => ?_, h.apart, fun p hp => ?_, h.dataB⟩, Fr.grown h2 fun g' e => by have := Option.some.inj e; subst this; exact h.in2 _ rfl⟩
  · exact .inr fun e => h.apart g e rfl
  · show List.map _ _ = _
    rw [List.map_set, ← h.recs2, recs_at]; rfl
  · obtain ⟨k1, cs, k2⟩ := h.inB g' hg'
    exact ⟨k1, cs, (hst _ (by decide) g' cs _ k2).trans k2⟩
  · exact (h.data p hp).still h2.size (hst _ (by decide))
/-- Other tombstones, in the old array or a new one. -/
theorem RSX.putT {w9 : World} (h : RSX w t D DB st v1 v2 ps qs) (hg9 : w.grownBy w9 v2.ownBlock) {u2 : Value} {qs' : List Pr} (h2 : OwnR w9 u2 qs') (hn : NewBlk w v2 u2) (hw5 : w5 = w9.setCell ⟨t, 2, none⟩ u2) :
    RSX w5 t (Nx D w w5) DB { st with t := recs qs' } v1 u2 ps qs' ∧ Fr D w w5 := by
  have hlt := h.lt
  obtain ⟨sa, sc, hb, _⟩ := h.cells
  have hv2 : ∀ T, T ≠ 28 → Still T w w9 := fun T hT => by
    cases hv : v2.ownBlock with
    | none => rw [hv] at hg9; exact fun i cs f hi => hg9.block i (Array.getElem?_eq_some_iff.1 hi).1 (fun e => nomatch e)
    | some g =>
      obtain ⟨cg, hcg⟩ := h.own2.block g hv
      rw [hv] at hg9
      exact Still.grown hg9 hcg (Ne.symm hT)
  have hb9 := (hv2 _ (by decide) t _ _ hb).trans hb
  have hl9 := h.log.keep (hv2 _ (by decide) t _ _ hb) (fun g cs _ hc => hv2 _ (by decide) g cs _ hc)
  obtain ⟨l5, g5⟩ := hl9.front (i := 2) (by omega) hw5
  have hst : ∀ T, T ≠ 64 → Still T w9 w5 := fun T hT => Still.grown g5 hb9 (Ne.symm hT)
  have hby := (hv2 5 (by decide)).trans (hst _ (by decide))
  have hne1 : v1.ownBlock ≠ some t := fun e => h.rec_ne (h.own1.block t e) rfl
  have hne2 : u2.ownBlock ≠ some t := fun e => by
    rcases hn with h0 | ⟨g, h0, h3⟩
    · rw [h0] at e; exact h.rec_ne (h.own2.block t e) rfl
    · rw [h0] at e; have := Option.some.inj e; omega
  have hs9 := hg9.size
  have hs5 := g5.size
  refine ⟨⟨l5, .inl h.here, (h.own1.kept hg9 ?_).kept g5 (.inr hne1), h2.kept g5 (.inr hne2), h.recs1, rfl, fun g hg => .inl (h.in1 g hg), fun g hg => ?_, fun g hgB => ?_, fun g hg1 hg2 => ?_, fun p hp => ((h.data p hp).mono fun i hi => .inl hi).still (Nat.le_trans hs9 hs5) hby, h.dataB⟩, ?_⟩
  · cases hv : v1.ownBlock with
    | none => exact .inl rfl
    | some g => exact .inr fun e => h.apart g hv e.symm
  · rcases hn with h0 | ⟨g', h0, h3⟩
    · exact .inl (h.in2 g (h0 ▸ hg))
    · have hl := (h2.1.lt g hg).2
      rw [h0] at hg; have := Option.some.inj hg; subst this
      exact .inr ⟨h3, Nat.lt_of_lt_of_le hl hs5⟩
  · obtain ⟨k1, cs, k2⟩ := h.inB g hgB
    exact ⟨.inl k1, cs, (hby g cs _ k2).trans k2⟩
  · rcases hn with h0 | ⟨g', h0, h3⟩
    · exact h.apart g hg1 (h0 ▸ hg2)
    · have := (h.own1.1.lt g hg1).2
      rw [h0] at hg2; have := Option.some.inj hg2; omega
  · exact (Fr.grown (D := D) hg9 (fun g e => h.in2 g e)).trans (Fr.grown (D := D) g5 (fun g e => by have := Option.some.inj e; subst this; exact h.here)) fun _ _ h => h
end
end Go.Proofs.Ytdbdnfjgmdkneaa
namespace Go.Proofs.Ytdbdnfjgmdkneaa
set_option maxRecDepth 20000
open Go.RowKit Go.Deep Go.Maps
set_option linter.unusedVariables false
theorem OwnB.app {w' : World} {B : Nat} {v' : Value} {ps qs : List Pr} (hs : ∀ q ∈ ps, Slc q) (hq : ∀ q ∈ qs, Slc q) (ho : w'.ownsRow B 28 10 v' (ps.length + qs.length) (flat ps ++ flat qs)) : OwnB w' B v' (ps ++ qs) := by
  refine ⟨by rw [flat_append, List.length_append]; exact ho, fun q hq' => ?_⟩
  rcases List.mem_append.1 hq' with h | h
  · exact hs q h
  · exact hq q h
theorem wp_app_recs {o : Oper} {a : Act} {K : Act → World → Prop} {Q : Exit → Act → World → Prop} {w : World} (s x : Operand)
    (ho : o.op = .call { callee := .builtin .append, args := #[s, x], argTypes := #[47, 47] })
    (B : Nat) (v : Value) (ps : List Pr) (hs : a.eval s = v) (hown : OwnB w B v ps) (y : Value) (m : Nat) (qs : List Pr) (hx : a.eval x = y) (hm : qs.length = m) (hsrc : Src Try.prog 10 47 y m (flat qs) w) (hq : ∀ q ∈ qs, Slc q)
    (h63 : ps.length + qs.length ≤ 10000) (hB : B ≤ w.heap.size) (h : ∀ v' w', OwnB w' B v' (ps ++ qs) → w.grownBy w' v.ownBlock → K (a.put o.dst v') w') : o.wp Try.prog a w K Q := by
  subst hm
  obtain ⟨i, hi, hz0, hz1, hz2⟩ := info_parts recinfo
  refine wp_append_own_src3 w s x 47 47 ho B 28 i (Rc.zero.val (.slice none 0 0)) 10 96 recUnder hi hz0 hz1 hz2 rfl v ps.length (flat ps) hs hown.1 y qs.length (flat qs) hx hsrc (by unfold maxLen; omega) (by omega) hB (fun _ => True) (fun _ _ _ _ _ _ _ _ => trivial) (fun _ _ => trivial) (fun _ _ => trivial) ?_
  intro v' w' ho' hg' _ _
  exact h v' w' (OwnB.app hown.2 hq ho') hg'
theorem seg_take (ps : List Pr) (k : Nat) (hk : k ≤ ps.length) : seg (fun j => ps.getD j zp) 0 k = ps.take k := by
  apply List.ext_getElem?
  intro j
  unfold seg
  rw [List.getElem?_map, List.getElem?_take]
  by_cases h : j < k
  · rw [if_pos h, List.getElem?_range h]
    simp [show j < ps.length by omega]
  · rw [if_neg h, List.getElem?_eq_none (by simpa using h)]; rfl
theorem seg_drop (ps : List Pr) (k : Nat) (hk : k ≤ ps.length) : seg (fun j => ps.getD j zp) k (ps.length - k) = ps.drop k := by
  apply List.ext_getElem?
  intro j
  unfold seg
  rw [List.getElem?_map, List.getElem?_drop]
  by_cases h : j < ps.length - k
  · rw [List.getElem?_range h]
    simp [show k + j < ps.length by omega]
  · rw [List.getElem?_eq_none (by simpa using h), List.getElem?_eq_none (by omega)]; rfl
/-- x[:k] and x[k:]. -/
theorem OwnR.cuts {w : World} {v : Value} {ps : List Pr} (h : OwnR w v ps) {k : Nat} (hk : k ≤ ps.length) : ∃ a1 c1 a2 c2,
    (∀ w' : World, (Instr.slice 47 v none (some (.int .i64 (k : Nat))) none).run Try.prog w' = .ok (.slice a1 k c1) w') ∧
    (∀ w' : World, OwnR w' v ps → Src Try.prog 10 47 (.slice a1 k c1) k (flat (ps.take k)) w') ∧
    (∀ w' : World, (Instr.slice 47 v (some (.int .i64 (k : Nat))) none none).run Try.prog w' = .ok (.slice a2 (ps.length - k) c2) w') ∧
    (∀ w' : World, OwnR w' v ps → Src Try.prog 10 47 (.slice a2 (ps.length - k) c2) (ps.length - k) (flat (ps.drop k)) w') := by
  rcases h.kinds with ⟨rfl, rfl⟩ | ⟨g, cap, rfl⟩
  · obtain rfl : k = 0 := by simpa using hk
    refine ⟨none, 0, none, 0, fun w' => ?_, fun w' _ => Src.ofNil w' recUnder 0, fun w' => ?_, fun w' _ => Src.ofNil w' recUnder 0⟩
    · rw [run_slice_h (P := Try.prog) w' 47 _ 0 0 elemRec .i64 ((0 : Nat) : Int) (by omega) (by omega), sizeRec]
      simp [Result.andThen_ok, sliced]
    · rw [run_slice_l (P := Try.prog) w' 47 _ 0 0 elemRec .i64 ((0 : Nat) : Int) (by omega) (by omega), sizeRec]
      simp [Result.andThen_ok, sliced]
  · obtain ⟨ha, hn⟩ := h.arr
    have hcap : ps.length ≤ cap := by obtain ⟨cur, _, _, h3, _⟩ := ha; exact h3
    obtain ⟨o, h1, h2⟩ := cutr_from g ps.length cap k hk hcap
    refine ⟨some ⟨g, 0, none⟩, cap, some ⟨g, o, none⟩, cap - k, fun w' => cutr_to g ps.length cap k (by omega) w', fun w' ho => ?_, h1, fun w' ho => ?_⟩
    · have := ho.arr.1.src (fun j hj => ho.2 _ (getD_mem hj)) 0 k cap (by omega)
      rw [seg_take ps k hk, Nat.zero_mul] at this
      exact this
    · rcases h2 with rfl | h2
      · have := ho.arr.1.src (fun j hj => ho.2 _ (getD_mem hj)) k (ps.length - k) (cap - k) (by omega)
        rw [seg_drop ps k hk] at this
        exact this
      · subst h2
        rw [Nat.sub_self, List.drop_length]
        exact Src.ofSlice w' recUnder ⟨g, o, none⟩ 0 (cap - ps.length) [] rfl (by simp) (by simp)
theorem take_drop_erase (ps : List Pr) (m : Nat) : ps.take m ++ ps.drop (m + 1) = ps.eraseIdx m := (List.eraseIdx_eq_take_drop_succ ps m).symm
end Go.Proofs.Ytdbdnfjgmdkneaa
