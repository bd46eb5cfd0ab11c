/- In one text: RefOne1, RefPut, RefRest. -/
import Derived.Deep.DeepCutAuto
import Derived.Test.YtdbdnfjgmdkneaaMC12
import Derived.Test.YtdbdnfjgmdkneaaMC24
namespace Go.Proofs.Ytdbdnfjgmdkneaa
set_option maxRecDepth 20000
open Go.RowKit Go.Deep Go.Maps
set_option linter.unusedVariables false
/-- What one answers, and leaves. -/
def ROneOut (w : World) (t : Nat) (D : Nat → Prop) (st : Sto) (r : Rc) (wr : Bool) (e : Ending) (w' : World) : Prop := e = .returned (.int .i64 (((SM.keepOf st r).2.2 : Nat) : Int)) ∧ RLeft w t D (if wr = true then SM.put1 st r else (SM.keepOf st r).1) w'
set_option maxHeartbeats 2000000 in
theorem rone_wrong (t : Nat) (D : Nat → Prop) (st : Sto) (r : Rc) (ua : Option Addr) (uc : Nat) (wr : Bool) (w : World) (h : RSt w t D st) (hD : ∀ i, D i → i < w.heap.size) (hi : SM.Inv st) (htl : st.t.length ≤ 1000000) (hu : U8s w (.slice ua r.d.length uc) r.d) (hsep : r.d = [] ∨ ∀ g, (Value.slice ua r.d.length uc).ownBlock = some g → ¬ D g) (hz : LM.size st.lg ≤ 900000) (hr : ¬ KM.Right r) :
    Calls Try.prog 70 #[.pointer (some ⟨t, 0, none⟩), r.val (.slice ua r.d.length uc), .bool wr] w (ROneOut w t D st r wr) := by
  have HK : Hid (SM.keepOf st r = (st, none, 1)) := if_neg hr
  have HRT : Hid (∀ w', Calls Try.prog 14 #[r.val (.slice ua r.d.length uc)] w' fun e w2 => e = .returned (.bool false) ∧ w'.Extends w2) := fun w' => rright14_no r ua uc w' hr
  have HOUT : Hid (∀ w', w.Extends w' → ROneOut w t D st r wr (.returned (.int .i64 1)) w') := fun w' hx => by
    unfold ROneOut
    rw [SM.put1_eq, HK.out]
    exact ⟨rfl, by simpa [SM.addLog] using RLeft.ext h hx⟩
  clear h hD hi htl hu hsep hz hr HK
  obtain ⟨rp, rn, rb, rs, rm, rk, re, rg, ru, rd⟩ := r
  show Calls Try.prog 70 #[_, .agg #[.int .i64 rp, .int .i64 rn, .int .i64 rb, .int .i64 rs, .int .i64 rm, .int .i64 rk, .int .i64 re, .bool rg, .int .i64 ru, .slice ua rd.length uc], _] w _
  generalize ROneOut w t D st ⟨rp, rn, rb, rs, rm, rk, re, rg, ru, rd⟩ wr = Q at *
  go_enter Try.func70, Try.ntmps70
  go_upto_region 1 with fail
  generalize hw1 : World.alloc w _ = w1
  have HX1 : Hid (w.Extends w1) := by subst hw1; exact ext_alloc _ _
  have HA1 : Hid (Arr w1 w.heap.size 1 1 (fun _ => ((⟨rp, rn, rb, rs, rm, rk, re, rg, ru, rd⟩ : Rc), (.slice ua rd.length uc)))) := by subst hw1; exact Arr.box w (⟨rp, rn, rb, rs, rm, rk, re, rg, ru, rd⟩ : Rc) _
  obtain ⟨y, hy⟩ : ∃ y, y = w.heap.size := ⟨_, rfl⟩
  rw [← hy] at HA1 ⊢
  have HYW := Lib.hid hy
  obtain ⟨c0, c1, c2, c3, c4, c5, c6, c7, c8, c9⟩ := RCell.ten (HA1.out.one rfl)
  simp only [Nat.zero_add] at c0 c1 c2 c3 c4 c5 c6 c7 c8 c9
  clear hw1 hy
  go_wp2_with fail
  refine (HRT.out w1).mono ?_
  rintro e w2 ⟨rfl, hx2⟩
  have HP := Lib.hid (HOUT.out w2 (Gr.ext_trans HX1.out hx2))
  clear hx2 HRT HX1 HA1 c0 c1 c2 c3 c4 c5 c6 c7 c8 c9
  go_wp2
  exact HP.out
set_option maxHeartbeats 4000000 in
theorem rone_gone (t : Nat) (D : Nat → Prop) (st : Sto) (r : Rc) (ua : Option Addr) (uc : Nat) (wr : Bool) (w : World) (h : RSt w t D st) (hD : ∀ i, D i → i < w.heap.size) (hi : SM.Inv st) (htl : st.t.length ≤ 1000000) (hu : U8s w (.slice ua r.d.length uc) r.d) (hsep : r.d = [] ∨ ∀ g, (Value.slice ua r.d.length uc).ownBlock = some g → ¬ D g) (hz : LM.size st.lg ≤ 900000) (hr : KM.Right r) (hg : r.g = true) :
    Calls Try.prog 70 #[.pointer (some ⟨t, 0, none⟩), r.val (.slice ua r.d.length uc), .bool wr] w (ROneOut w t D st r wr) := by
  have HD := Lib.hid hD
  have hke : SM.keepOf st r = SM.buryOf st r := by unfold SM.keepOf; rw [if_pos hr, if_pos hg]
  have HRT : Hid (∀ w', Calls Try.prog 14 #[r.val (.slice ua r.d.length uc)] w' fun e w2 => e = .returned (.bool true) ∧ w'.Extends w2) := fun w' => rright14_yes r ua uc w' hr
  have h8 := hu.lt
  have HFI : Hid (∀ w4 w5 w6 z, w.Extends w4 → RLeft w4 t D (SM.keepOf st r).1 w5 → w5.grownBy w6 (some z) → w.heap.size ≤ z → z < w4.heap.size → RSt w6 t (Nx D w4 w6) (SM.keepOf st r).1 ∧ RLeft w t D (SM.keepOf st r).1 w6 ∧ ∀ w7 w8 st2, w6.Extends w7 → RLeft w7 t (Nx D w4 w6) st2 w8 → RLeft w t D st2 w8) := fun w4 w5 w6 z hx hL hg hz hz4 => RLeft.fin hx hL hg hz hz4 hD
  have hgrow := SM.keep_inv hi h8
  have HLZ : Hid (LM.size (SM.keepOf st r).1.lg ≤ 900000) := by show _ ≤ _; rw [hgrow.2.lg]; exact hz
  have HKR : Hid (∀ q, (SM.keepOf st r).2.1 = some q → KM.Right q) := fun q hq => (SM.kept_right hi h8 hq).1
  have HO0 : Hid (∀ w', ((SM.keepOf st r).2.1 = none ∨ wr = false) → RLeft w t D (SM.keepOf st r).1 w' → ROneOut w t D st r wr (.returned (.int .i64 (((SM.keepOf st r).2.2 : Nat) : Int))) w') := fun w' hc hL => by
    refine ⟨rfl, ?_⟩
    rw [SM.put1_eq]
    rcases hc with hc | hc
    · rw [hc]; simpa [SM.addLog] using hL
    · rw [hc]; simpa using hL
  have HO1 : Hid (∀ w' q, (SM.keepOf st r).2.1 = some q → wr = true → RLeft w t D { (SM.keepOf st r).1 with lg := (SM.keepOf st r).1.lg ++ [KM.bytes q] } w' → ROneOut w t D st r wr (.returned (.int .i64 (((SM.keepOf st r).2.2 : Nat) : Int))) w') := fun w' q hq hw hL => by
    refine ⟨rfl, ?_⟩
    rw [SM.put1_eq, hq, hw]; exact hL
  have HCALL : Hid (∀ w', w.Extends w' → Calls Try.prog 91 #[.pointer (some ⟨t, 0, none⟩), r.val (.slice ua r.d.length uc)] w' fun e w2 => ∃ (a : Option Addr) (c : Nat) (kr : Rc), e = .returned (.tuple #[kr.val (.slice a 0 c), .bool (SM.keepOf st r).2.1.isSome]) ∧ RLeft w' t D (SM.keepOf st r).1 w2 ∧ (∀ k, (SM.keepOf st r).2.1 = some k → kr = k) ∧ kr.d = []) := fun w' hx => by
    rw [hke]
    exact rbury_any t D st r ua uc w' (h.ext hx) (fun i hd => Nat.lt_of_lt_of_le (hD i hd) hx.size) hi htl hr hg
  have HER : Hid ((SM.keepOf st r).2.2 = 0) := by show _ = _; rw [hke]; exact bury_err st r
  have HKG : Hid (∀ k, (SM.keepOf st r).2.1 = some k → k.g = true) := fun k hk => by
    rw [hke] at hk
    rw [bury_kept hk]; exact hg
  clear h hD hi htl hu hsep hz hr hke h8 hgrow
  obtain ⟨rp, rn, rb, rs, rm, rk, re, rg, ru, rd⟩ := r
  obtain rfl : rg = true := hg
  show Calls Try.prog 70 #[_, .agg #[.int .i64 rp, .int .i64 rn, .int .i64 rb, .int .i64 rs, .int .i64 rm, .int .i64 rk, .int .i64 re, .bool true, .int .i64 ru, .slice ua rd.length uc], _] w _
  generalize hok : (SM.keepOf st ⟨rp, rn, rb, rs, rm, rk, re, true, ru, rd⟩).2.1 = ok at *
  generalize (SM.keepOf st ⟨rp, rn, rb, rs, rm, rk, re, true, ru, rd⟩).2.2 = er at *
  generalize (SM.keepOf st ⟨rp, rn, rb, rs, rm, rk, re, true, ru, rd⟩).1 = st1 at *
  clear hok
  generalize ROneOut w t D st ⟨rp, rn, rb, rs, rm, rk, re, true, ru, rd⟩ wr = Q at *
  go_enter Try.func70, Try.ntmps70
  go_upto_region 1 with fail
  generalize hw1 : World.alloc w _ = w1
  have HX1 : Hid (w.Extends w1) := by subst hw1; exact ext_alloc _ _
  have HA1 : Hid (Arr w1 w.heap.size 1 1 (fun _ => ((⟨rp, rn, rb, rs, rm, rk, re, true, ru, rd⟩ : Rc), (.slice ua rd.length uc)))) := by subst hw1; exact Arr.box w (⟨rp, rn, rb, rs, rm, rk, re, true, ru, rd⟩ : Rc) _
  obtain ⟨y, hy⟩ : ∃ y, y = w.heap.size := ⟨_, rfl⟩
  rw [← hy] at HA1 ⊢
  have HYW := Lib.hid hy
  obtain ⟨c0, c1, c2, c3, c4, c5, c6, c7, c8, c9⟩ := RCell.ten (HA1.out.one rfl)
  simp only [Nat.zero_add] at c0 c1 c2 c3 c4 c5 c6 c7 c8 c9
  clear hw1 hy
  go_wp2_with fail
  refine (HRT.out w1).mono ?_
  rintro e w2 ⟨rfl, hx2⟩
  have HX2 := Lib.hid (Gr.ext_trans HX1.out hx2)
  have HA2 := Lib.hid (HA1.out.ext hx2)
  clear hx2 HRT HX1 HA1 c0 c1 c2 c3 c4 c5 c6 c7 c8 c9
  go_upto_region 4 with fail
  generalize hw3 : World.alloc w2 _ = w3
  have hx3 : w2.Extends w3 := by subst hw3; exact ext_alloc _ _
  have HX3 := Lib.hid (Gr.ext_trans HX2.out hx3)
  have HA3 := Lib.hid (HA2.out.ext hx3)
  have HZ3 : Hid (Arr w3 w2.heap.size 1 1 (fun _ => (Rc.zero, .slice none 0 0))) := by subst hw3; exact Arr.box w2 Rc.zero _
  have HZL : Hid (w.heap.size ≤ w2.heap.size ∧ w2.heap.size < w3.heap.size) := ⟨HX2.out.size, HZ3.out.lt⟩
  clear hw3 hx3 HX2 HA2
  generalize w2.heap.size = z at *
  obtain ⟨c0, c1, c2, c3, c4, c5, c6, c7, c8, c9⟩ := RCell.ten (HA3.out.one rfl)
  simp only [Nat.zero_add] at c0 c1 c2 c3 c4 c5 c6 c7 c8 c9
  go_wp2_with fail
  refine (HCALL.out w3 HX3.out).mono ?_
  rintro e w5 ⟨ka, kc, ⟨qp, qn, qb, qs', qm, qk, qe, qg, qu, qd⟩, rfl, hL, hq, hqd⟩
  have HLF := Lib.hid hL
  have HQ := Lib.hid hq
  have HZ5 : Hid (Arr w5 z 1 1 (fun _ => (Rc.zero, .slice none 0 0))) := HZ3.out.kept (hL.2.away z HZ3.out.lt (fun hd => by have := HD.out z hd; have := HZL.out; omega))
  clear hL hq HCALL c0 c1 c2 c3 c4 c5 c6 c7 c8 c9 HA3 HZ3
  simp only [Rc.val]
  simp only at hqd
  subst hqd
  have her := HER.out
  subst her
  have HUF : Hid (∀ q, ok = some q → ∀ w6, w5.grownBy w6 (some z) → ⟨qp, qn, qb, qs', qm, qk, qe, qg, qu, []⟩ = q ∧ (q.g = true ∨ U8s w6 (.slice ka 0 kc) [])) := fun q hq w6 hg => ⟨HQ.out q hq, .inl (HKG.out q hq)⟩
  have HSLC : Hid (Slc ((⟨qp, qn, qb, qs', qm, qk, qe, qg, qu, []⟩, (.slice ka 0 kc)) : Pr)) := ⟨_, _, rfl⟩
  go_wp2_with (refine wpList_store_rec rfl 28 recsize _ _ rfl z 0 0 1 1 _ (⟨qp, qn, qb, qs', qm, qk, qe, qg, qu, []⟩, (.slice ka 0 kc)) rfl rfl rfl HZ5.out (by omega) HSLC.out ?_)
  intro w6 ha6 hg6
  have HF6 := Lib.hid (HFI.out w3 w5 w6 z HX3.out HLF.out hg6 HZL.out.1 HZL.out.2)
  have HA6 : Hid (Arr w6 z 1 1 (fun _ => (⟨qp, qn, qb, qs', qm, qk, qe, qg, qu, []⟩, (.slice ka 0 kc)))) := ha6.congr fun k hk => by
    obtain rfl : k = 0 := by omega
    rfl
  have HU6 := Lib.hid (fun q hq => HUF.out q hq w6 hg6)
  clear ha6 hg6 HFI HLF HZ5 HX3 HUF HSLC
  cases ok with
  | none =>
    have HP := Lib.hid (HO0.out w6 (.inl rfl) HF6.out.2.1)
    clear HF6 HA6 HO0 HO1 HU6
    rw [show (none : Option Rc).isSome = false from rfl]
    go_wp2
    exact HP.out
  | some q =>
    rw [show (some q).isSome = true from rfl]
    cases wr with
    | false =>
      have HP := Lib.hid (HO0.out w6 (.inr rfl) HF6.out.2.1)
      clear HF6 HA6 HO0 HO1 HU6
      go_wp2
      exact HP.out
    | true =>
      obtain ⟨hqe, hu6⟩ := HU6.out q rfl
      subst hqe
      have HRQ := Lib.hid (HKR.out _ rfl)
      have HUK := Lib.hid hu6
      clear hu6 HU6 HKR HO0
      go_wp2_with fail
      refine Gr.region 5 [(false,0),(false,1),(false,2),(false,3),(true,4)] (by kernel_rfl) (by kernel_rfl) (fun d _ _ _ _ h => by cases d <;> exact h) ?_
      simp only [Gr.pick, List.getElem?_cons_zero, List.getElem?_cons_succ, List.drop_succ_cons, List.drop_zero]
      have HXD : Hid (w6.Extends w6.drew) := Gr.ext_drew (Gr.ext_refl w6)
      generalize w6.drew = wd at *
      iterate 3
        refine Gr.walk_t ?_ (Or.inl ⟨by rfl, ?_⟩) ?_
        rotate_left
        · intro w' hw'
          clear hw'
          go_simp
          try with_reducible rfl
        simp only [Act.put, List.setIfInBounds_toArray, List.set_cons_zero, List.set_cons_succ]
      refine Gr.walk_t ?_ (Or.inl ⟨by rfl, ?_⟩) ?_
      rotate_left
      · intro w' hw'
        obtain ⟨c0, c1, c2, c3, c4, c5, c6, c7, c8, c9⟩ := RCell.ten ((HA6.out.ext (Gr.ext_trans HXD.out hw')).one rfl)
        simp only [Nat.zero_add] at c0 c1 c2 c3 c4 c5 c6 c7 c8 c9
        clear hw'
        go_simp
        try with_reducible rfl
      simp only [Act.put, List.setIfInBounds_toArray, List.set_cons_zero, List.set_cons_succ]
      have HBY := Lib.hid (rbytes14_new ⟨qp, qn, qb, qs', qm, qk, qe, qg, qu, []⟩ ka kc wd HRQ.out (HUK.out.imp id fun h => h.ext HXD.out))
      refine Gr.walk_c (fun K hK => ?_)
      go_simp
      refine (HBY.out).mono ?_
      rintro e w7 ⟨bv, rfl, hub, hx7, hbv⟩
      have HX7 : Hid (w6.Extends w7) := Gr.ext_trans HXD.out hx7
      have HUB := Lib.hid hub
      have HBL : Hid ((KM.bytes ⟨qp, qn, qb, qs', qm, qk, qe, qg, qu, []⟩).length ≤ 65535) := Nat.le_trans (SM.bytes_len HRQ.out) (by decide)
      have HBV : Hid (∀ g, bv.ownBlock = some g → ¬ Nx D w3 w6 g) := fun g hg hd => by
        have h1 := hbv g hg
        have h2 := HXD.out.size
        rcases hd with hd | hd
        · have := HD.out g hd
          have := HF6.out.2.1.2.size
          omega
        · omega
      try go_simp
      refine hK.out _ _ (hx7) ?_
      clear hK K
      clear hub hx7 hbv HXD HUK HA6 HBY
      obtain ⟨ba, bc, rfl, _, _⟩ := HUB.out.slice
      refine Gr.walk_nil ?_
      go_wp2_with fail
      refine (rlog_any t (Nx D w3 w6) st1 _ (KM.bytes ⟨qp, qn, qb, qs', qm, qk, qe, qg, qu, []⟩) w7 (HF6.out.1.ext HX7.out) HUB.out HBL.out HLZ.out HBV.out).mono ?_
      rintro e w8 ⟨rfl, hL8⟩
      have HP := Lib.hid (HO1.out w8 _ (by first | rfl | trivial) (by first | rfl | trivial) (HF6.out.2.2 w7 w8 _ HX7.out hL8))
      clear hL8 HF6 HUB HBL HBV HX7 HRQ HLZ HO1
      go_wp2
      exact HP.out
set_option maxHeartbeats 4000000 in
theorem rone_sym (t : Nat) (D : Nat → Prop) (st : Sto) (r : Rc) (ua : Option Addr) (uc : Nat) (wr : Bool) (w : World) (h : RSt w t D st) (hD : ∀ i, D i → i < w.heap.size) (hi : SM.Inv st) (htl : st.t.length ≤ 1000000) (hu : U8s w (.slice ua r.d.length uc) r.d) (hsep : r.d = [] ∨ ∀ g, (Value.slice ua r.d.length uc).ownBlock = some g → ¬ D g) (hz : LM.size st.lg ≤ 900000) (hr : KM.Right r) (hg : r.g = false) :
    Calls Try.prog 70 #[.pointer (some ⟨t, 0, none⟩), r.val (.slice ua r.d.length uc), .bool wr] w (ROneOut w t D st r wr) := by
  have HD := Lib.hid hD
  have hke : SM.keepOf st r = SM.addOf st r := by unfold SM.keepOf; rw [if_pos hr, if_neg (by rw [hg]; decide)]
  have HRT : Hid (∀ w', Calls Try.prog 14 #[r.val (.slice ua r.d.length uc)] w' fun e w2 => e = .returned (.bool true) ∧ w'.Extends w2) := fun w' => rright14_yes r ua uc w' hr
  have h8 := hu.lt
  have HFI : Hid (∀ w4 w5 w6 z, w.Extends w4 → RLeft w4 t D (SM.keepOf st r).1 w5 → w5.grownBy w6 (some z) → w.heap.size ≤ z → z < w4.heap.size → RSt w6 t (Nx D w4 w6) (SM.keepOf st r).1 ∧ RLeft w t D (SM.keepOf st r).1 w6 ∧ ∀ w7 w8 st2, w6.Extends w7 → RLeft w7 t (Nx D w4 w6) st2 w8 → RLeft w t D st2 w8) := fun w4 w5 w6 z hx hL hg hz hz4 => RLeft.fin hx hL hg hz hz4 hD
  have hgrow := SM.keep_inv hi h8
  have HLZ : Hid (LM.size (SM.keepOf st r).1.lg ≤ 900000) := by show _ ≤ _; rw [hgrow.2.lg]; exact hz
  have HKR : Hid (∀ q, (SM.keepOf st r).2.1 = some q → KM.Right q) := fun q hq => (SM.kept_right hi h8 hq).1
  have HO0 : Hid (∀ w', ((SM.keepOf st r).2.1 = none ∨ wr = false) → RLeft w t D (SM.keepOf st r).1 w' → ROneOut w t D st r wr (.returned (.int .i64 (((SM.keepOf st r).2.2 : Nat) : Int))) w') := fun w' hc hL => by
    refine ⟨rfl, ?_⟩
    rw [SM.put1_eq]
    rcases hc with hc | hc
    · rw [hc]; simpa [SM.addLog] using hL
    · rw [hc]; simpa using hL
  have HO1 : Hid (∀ w' q, (SM.keepOf st r).2.1 = some q → wr = true → RLeft w t D { (SM.keepOf st r).1 with lg := (SM.keepOf st r).1.lg ++ [KM.bytes q] } w' → ROneOut w t D st r wr (.returned (.int .i64 (((SM.keepOf st r).2.2 : Nat) : Int))) w') := fun w' q hq hw hL => by
    refine ⟨rfl, ?_⟩
    rw [SM.put1_eq, hq, hw]; exact hL
  have HCALL : Hid (∀ w', w.Extends w' → Calls Try.prog 92 #[.pointer (some ⟨t, 0, none⟩), r.val (.slice ua r.d.length uc)] w' fun e w2 => ∃ (kr : Rc) (a : Option Addr) (c : Nat), e = .returned (.tuple #[kr.val (.slice a kr.d.length c), .bool (SM.keepOf st r).2.1.isSome, .int .i64 (((SM.keepOf st r).2.2 : Nat) : Int)]) ∧ RLeft w' t D (SM.keepOf st r).1 w2 ∧ ∀ k, (SM.keepOf st r).2.1 = some k → kr = k ∧ U8s w2 (.slice a kr.d.length c) kr.d) := fun w' hx => by
    rw [hke]
    obtain ⟨⟨⟨_, _, _, h6, _⟩, _⟩, _, h8⟩ := hr.2.2.2.2 hg
    exact radd_any t D st r ua uc w' (h.ext hx) (fun i hd => Nat.lt_of_lt_of_le (hD i hd) hx.size) hi htl (hu.ext hx) hsep (by omega)
  clear h hD hi htl hu hsep hz hr hke h8 hgrow
  obtain ⟨rp, rn, rb, rs, rm, rk, re, rg, ru, rd⟩ := r
  obtain rfl : rg = false := hg
  show Calls Try.prog 70 #[_, .agg #[.int .i64 rp, .int .i64 rn, .int .i64 rb, .int .i64 rs, .int .i64 rm, .int .i64 rk, .int .i64 re, .bool false, .int .i64 ru, .slice ua rd.length uc], _] w _
  generalize hok : (SM.keepOf st ⟨rp, rn, rb, rs, rm, rk, re, false, ru, rd⟩).2.1 = ok at *
  generalize (SM.keepOf st ⟨rp, rn, rb, rs, rm, rk, re, false, ru, rd⟩).2.2 = er at *
  generalize (SM.keepOf st ⟨rp, rn, rb, rs, rm, rk, re, false, ru, rd⟩).1 = st1 at *
  clear hok
  generalize ROneOut w t D st ⟨rp, rn, rb, rs, rm, rk, re, false, ru, rd⟩ wr = Q at *
  go_enter Try.func70, Try.ntmps70
  go_upto_region 1 with fail
  generalize hw1 : World.alloc w _ = w1
  have HX1 : Hid (w.Extends w1) := by subst hw1; exact ext_alloc _ _
  have HA1 : Hid (Arr w1 w.heap.size 1 1 (fun _ => ((⟨rp, rn, rb, rs, rm, rk, re, false, ru, rd⟩ : Rc), (.slice ua rd.length uc)))) := by subst hw1; exact Arr.box w (⟨rp, rn, rb, rs, rm, rk, re, false, ru, rd⟩ : Rc) _
  obtain ⟨y, hy⟩ : ∃ y, y = w.heap.size := ⟨_, rfl⟩
  rw [← hy] at HA1 ⊢
  have HYW := Lib.hid hy
  obtain ⟨c0, c1, c2, c3, c4, c5, c6, c7, c8, c9⟩ := RCell.ten (HA1.out.one rfl)
  simp only [Nat.zero_add] at c0 c1 c2 c3 c4 c5 c6 c7 c8 c9
  clear hw1 hy
  go_wp2_with fail
  refine (HRT.out w1).mono ?_
  rintro e w2 ⟨rfl, hx2⟩
  have HX2 := Lib.hid (Gr.ext_trans HX1.out hx2)
  have HA2 := Lib.hid (HA1.out.ext hx2)
  clear hx2 HRT HX1 HA1 c0 c1 c2 c3 c4 c5 c6 c7 c8 c9
  go_upto_region 4 with fail
  generalize hw3 : World.alloc w2 _ = w3
  have hx3 : w2.Extends w3 := by subst hw3; exact ext_alloc _ _
  have HX3 := Lib.hid (Gr.ext_trans HX2.out hx3)
  have HA3 := Lib.hid (HA2.out.ext hx3)
  have HZ3 : Hid (Arr w3 w2.heap.size 1 1 (fun _ => (Rc.zero, .slice none 0 0))) := by subst hw3; exact Arr.box w2 Rc.zero _
  have HZL : Hid (w.heap.size ≤ w2.heap.size ∧ w2.heap.size < w3.heap.size) := ⟨HX2.out.size, HZ3.out.lt⟩
  clear hw3 hx3 HX2 HA2
  generalize w2.heap.size = z at *
  obtain ⟨c0, c1, c2, c3, c4, c5, c6, c7, c8, c9⟩ := RCell.ten (HA3.out.one rfl)
  simp only [Nat.zero_add] at c0 c1 c2 c3 c4 c5 c6 c7 c8 c9
  go_wp2_with fail
  refine (HCALL.out w3 HX3.out).mono ?_
  rintro e w5 ⟨⟨qp, qn, qb, qs', qm, qk, qe, qg, qu, qd⟩, ka, kc, rfl, hL, hq⟩
  have HLF := Lib.hid hL
  have HQ := Lib.hid hq
  have HZ5 : Hid (Arr w5 z 1 1 (fun _ => (Rc.zero, .slice none 0 0))) := HZ3.out.kept (hL.2.away z HZ3.out.lt (fun hd => by have := HD.out z hd; have := HZL.out; omega))
  clear hL hq HCALL c0 c1 c2 c3 c4 c5 c6 c7 c8 c9 HA3 HZ3
  simp only [Rc.val]
  have HUF : Hid (∀ q, ok = some q → ∀ w6, w5.grownBy w6 (some z) → ⟨qp, qn, qb, qs', qm, qk, qe, qg, qu, qd⟩ = q ∧ (q.g = true ∨ U8s w6 (.slice ka qd.length kc) qd)) := fun q hq w6 hg => by
    obtain ⟨e1, e2⟩ := HQ.out q hq
    obtain ⟨cs, hc, hno⟩ := HZ5.out.no8 ⟨none, 0, rfl⟩
    exact ⟨e1, .inr (e2.beside hc hno hg)⟩
  have HSLC : Hid (Slc ((⟨qp, qn, qb, qs', qm, qk, qe, qg, qu, qd⟩, (.slice ka qd.length kc)) : Pr)) := ⟨_, _, rfl⟩
  go_wp2_with (refine wpList_store_rec rfl 28 recsize _ _ rfl z 0 0 1 1 _ (⟨qp, qn, qb, qs', qm, qk, qe, qg, qu, qd⟩, (.slice ka qd.length kc)) rfl rfl rfl HZ5.out (by omega) HSLC.out ?_)
  intro w6 ha6 hg6
  have HF6 := Lib.hid (HFI.out w3 w5 w6 z HX3.out HLF.out hg6 HZL.out.1 HZL.out.2)
  have HA6 : Hid (Arr w6 z 1 1 (fun _ => (⟨qp, qn, qb, qs', qm, qk, qe, qg, qu, qd⟩, (.slice ka qd.length kc)))) := ha6.congr fun k hk => by
    obtain rfl : k = 0 := by omega
    rfl
  have HU6 := Lib.hid (fun q hq => HUF.out q hq w6 hg6)
  clear ha6 hg6 HFI HLF HZ5 HX3 HUF HSLC
  cases ok with
  | none =>
    have HP := Lib.hid (HO0.out w6 (.inl rfl) HF6.out.2.1)
    clear HF6 HA6 HO0 HO1 HU6
    rw [show (none : Option Rc).isSome = false from rfl]
    go_wp2
    exact HP.out
  | some q =>
    rw [show (some q).isSome = true from rfl]
    cases wr with
    | false =>
      have HP := Lib.hid (HO0.out w6 (.inr rfl) HF6.out.2.1)
      clear HF6 HA6 HO0 HO1 HU6
      go_wp2
      exact HP.out
    | true =>
      obtain ⟨hqe, hu6⟩ := HU6.out q rfl
      subst hqe
      have HRQ := Lib.hid (HKR.out _ rfl)
      have HUK := Lib.hid hu6
      clear hu6 HU6 HKR HO0
      go_wp2_with fail
      refine Gr.region 5 [(false,0),(false,1),(false,2),(false,3),(true,4)] (by kernel_rfl) (by kernel_rfl) (fun d _ _ _ _ h => by cases d <;> exact h) ?_
      simp only [Gr.pick, List.getElem?_cons_zero, List.getElem?_cons_succ, List.drop_succ_cons, List.drop_zero]
      have HXD : Hid (w6.Extends w6.drew) := Gr.ext_drew (Gr.ext_refl w6)
      generalize w6.drew = wd at *
      iterate 3
        refine Gr.walk_t ?_ (Or.inl ⟨by rfl, ?_⟩) ?_
        rotate_left
        · intro w' hw'
          clear hw'
          go_simp
          try with_reducible rfl
        simp only [Act.put, List.setIfInBounds_toArray, List.set_cons_zero, List.set_cons_succ]
      refine Gr.walk_t ?_ (Or.inl ⟨by rfl, ?_⟩) ?_
      rotate_left
      · intro w' hw'
        obtain ⟨c0, c1, c2, c3, c4, c5, c6, c7, c8, c9⟩ := RCell.ten ((HA6.out.ext (Gr.ext_trans HXD.out hw')).one rfl)
        simp only [Nat.zero_add] at c0 c1 c2 c3 c4 c5 c6 c7 c8 c9
        clear hw'
        go_simp
        try with_reducible rfl
      simp only [Act.put, List.setIfInBounds_toArray, List.set_cons_zero, List.set_cons_succ]
      have HBY := Lib.hid (rbytes14_new ⟨qp, qn, qb, qs', qm, qk, qe, qg, qu, qd⟩ ka kc wd HRQ.out (HUK.out.imp id fun h => h.ext HXD.out))
      refine Gr.walk_c (fun K hK => ?_)
      go_simp
      refine (HBY.out).mono ?_
      rintro e w7 ⟨bv, rfl, hub, hx7, hbv⟩
      have HX7 : Hid (w6.Extends w7) := Gr.ext_trans HXD.out hx7
      have HUB := Lib.hid hub
      have HBL : Hid ((KM.bytes ⟨qp, qn, qb, qs', qm, qk, qe, qg, qu, qd⟩).length ≤ 65535) := Nat.le_trans (SM.bytes_len HRQ.out) (by decide)
      have HBV : Hid (∀ g, bv.ownBlock = some g → ¬ Nx D w3 w6 g) := fun g hg hd => by
        have h1 := hbv g hg
        have h2 := HXD.out.size
        rcases hd with hd | hd
        · have := HD.out g hd
          have := HF6.out.2.1.2.size
          omega
        · omega
      try go_simp
      refine hK.out _ _ (hx7) ?_
      clear hK K
      clear hub hx7 hbv HXD HUK HA6 HBY
      obtain ⟨ba, bc, rfl, _, _⟩ := HUB.out.slice
      refine Gr.walk_nil ?_
      go_wp2_with fail
      refine (rlog_any t (Nx D w3 w6) st1 _ (KM.bytes ⟨qp, qn, qb, qs', qm, qk, qe, qg, qu, qd⟩) w7 (HF6.out.1.ext HX7.out) HUB.out HBL.out HLZ.out HBV.out).mono ?_
      rintro e w8 ⟨rfl, hL8⟩
      have HP := Lib.hid (HO1.out w8 _ (by first | rfl | trivial) (by first | rfl | trivial) (HF6.out.2.2 w7 w8 _ HX7.out hL8))
      clear hL8 HF6 HUB HBL HBV HX7 HRQ HLZ HO1
      go_wp2
      exact HP.out
theorem rone_any (t : Nat) (D : Nat → Prop) (st : Sto) (r : Rc) (ua : Option Addr) (uc : Nat) (wr : Bool) (w : World) (h : RSt w t D st) (hD : ∀ i, D i → i < w.heap.size) (hi : SM.Inv st) (htl : st.t.length ≤ 1000000) (hu : U8s w (.slice ua r.d.length uc) r.d) (hsep : r.d = [] ∨ ∀ g, (Value.slice ua r.d.length uc).ownBlock = some g → ¬ D g) (hz : LM.size st.lg ≤ 900000) :
    Calls Try.prog 70 #[.pointer (some ⟨t, 0, none⟩), r.val (.slice ua r.d.length uc), .bool wr] w (ROneOut w t D st r wr) := by
  by_cases hr : KM.Right r
  · cases hg : r.g with
    | true => exact rone_gone t D st r ua uc wr w h hD hi htl hu hsep hz hr hg
    | false => exact rone_sym t D st r ua uc wr w h hD hi htl hu hsep hz hr hg
  · exact rone_wrong t D st r ua uc wr w h hD hi htl hu hsep hz hr
end Go.Proofs.Ytdbdnfjgmdkneaa
namespace Go.Proofs.Ytdbdnfjgmdkneaa
set_option maxRecDepth 20000
open Go.RowKit Go.Deep Go.Maps
set_option linter.unusedVariables false
set_option maxHeartbeats 2000000 in
theorem rput_any (t : Nat) (D : Nat → Prop) (st : Sto) (v : Value) (l : List Rc) (w : World) (h : RSt w t D st) (hD : ∀ i, D i → i < w.heap.size) (hi : SM.Inv st) (hv : RecsD w D v l) (hl : l.length ≤ 1000) (htl : st.t.length ≤ 900000) (hz : LM.size st.lg ≤ 700000) :
    Calls Try.prog 29 #[.pointer (some ⟨t, 0, none⟩), v] w fun e w' => e = .returned (.int .i64 (((SM.puts st l).2 : Nat) : Int)) ∧ RLeft w t D (SM.puts st l).1 w' ∧ SM.Inv (SM.puts st l).1 ∧ LM.size (SM.puts st l).1.lg ≤ LM.size st.lg + 90 * l.length ∧ (SM.puts st l).1.t.length ≤ st.t.length + l.length := by
  have HD := Lib.hid hD
  have HRD := Lib.hid hv
  have HSTEP : Hid (∀ st' k, k < l.length → SM.puts st' (l.drop k) = if (SM.keepOf st' (l.getD k Rc.zero)).2.2 = 0 then SM.puts (SM.put1 st' (l.getD k Rc.zero)) (l.drop (k + 1)) else (SM.put1 st' (l.getD k Rc.zero), (SM.keepOf st' (l.getD k Rc.zero)).2.2)) := fun st' k hk => SM.puts_step hk
  have HEND : Hid (∀ st', SM.puts st' (l.drop l.length) = (st', 0)) := fun st' => by rw [List.drop_length]; rfl
  have H0 : Hid (SM.puts st (l.drop 0) = SM.puts st l) := by rw [List.drop_zero]; rfl
  have HSI := Lib.hid hi
  have HS : Hid (RLeft w t D st w) := RLeft.ext h (Gr.ext_refl _)
  obtain ⟨a, cap, rfl⟩ := hv.slice
  clear h hD hi hv
  have HPOST : Hid (∀ st' er w', (st', er) = SM.puts st l → RLeft w t D st' w' → SM.Inv st' → LM.size st'.lg ≤ LM.size st.lg + 90 * l.length → st'.t.length ≤ st.t.length + l.length → (RLeft w t D (SM.puts st l).1 w' ∧ SM.Inv (SM.puts st l).1 ∧ LM.size (SM.puts st l).1.lg ≤ LM.size st.lg + 90 * l.length ∧ (SM.puts st l).1.t.length ≤ st.t.length + l.length) ∧ (SM.puts st l).2 = er) := fun st' er w' e h1 h2 h3 h4 => by
    rw [← e]; exact ⟨⟨h1, h2, h3, h4⟩, rfl⟩
  obtain ⟨z0, hz0⟩ : ∃ z0, z0 = LM.size st.lg := ⟨_, rfl⟩
  obtain ⟨t0, ht0⟩ : ∃ t0, t0 = st.t.length := ⟨_, rfl⟩
  rw [← hz0] at hz
  rw [← ht0] at htl
  rw [← hz0, ← ht0] at HPOST ⊢
  have HZ0 : Hid (LM.size st.lg ≤ z0 + 90 * 0 ∧ st.t.length ≤ t0 + 0) := by show _ ∧ _; omega
  clear hz0 ht0
  generalize SM.puts st l = R at *
  obtain ⟨n, hn⟩ : ∃ n, n = l.length := ⟨_, rfl⟩
  rw [← hn] at hl HSTEP HEND HPOST ⊢
  have HLN := Lib.hid hn
  clear hn
  have HARG : Hid (∀ (wr : World) k, Fr D w wr → k < n → ∃ b off, a = some ⟨b, off, none⟩ ∧ ∃ ra rc, wr.rangeAt b (off + k * 10) ((l.getD k Rc.zero).cells (.slice ra (l.getD k Rc.zero).d.length rc)) ∧ U8s wr (.slice ra (l.getD k Rc.zero).d.length rc) (l.getD k Rc.zero).d ∧ ((l.getD k Rc.zero).d = [] ∨ ∀ g, (Value.slice ra (l.getD k Rc.zero).d.length rc).ownBlock = some g → ¬ D g ∧ g < w.heap.size)) := fun wr k hf hk => by
    rcases HRD.out with ⟨e, _⟩ | ⟨b, off, cap', e, h2, h3, h4⟩
    · have := HLN.out; rw [e] at this; simp at this; omega
    · have hee := e
      simp only [Value.slice.injEq] at hee
      refine ⟨b, off, hee.1, ?_⟩
      obtain ⟨ra, rc, h5, h6, h7⟩ := h4 k (by rw [← HLN.out]; exact hk)
      refine ⟨ra, rc, fun j x hj => ?_, h6.same hf.size (h7.imp id fun h7 g hg => hf.away g (h7 g hg).2 (h7 g hg).1), h7⟩
      rw [World.cell?_of_block (w := w) (w' := wr) (a := ⟨b, off + k * 10 + j, none⟩) (hf.away b h2 h3)]
      exact h5 j x hj
  clear HRD
  go_enter Try.func29, Try.ntmps29
  go_wp2_with fail
  go_loopw [5] (fun s5 wr => ∃ (k : Nat) (st' : Sto), k ≤ n ∧ s5 = .int .i64 k ∧ Hid (RLeft w t D st' wr) ∧ Hid (SM.puts st' (l.drop k) = R) ∧ Hid (SM.Inv st') ∧ Hid (LM.size st'.lg ≤ z0 + 90 * k ∧ st'.t.length ≤ t0 + k)) (fun s5 _ => n - (intOf s5).toNat)
  case atStart => exact ⟨0, st, by omega, rfl, HS, H0, HSI, HZ0⟩
  case round =>
    obtain ⟨k, st', hk, rfl, HL, HR, HIN, HZ⟩ := hrel
    by_cases h1 : k < n
    · obtain ⟨b, off, rfl, ra, rc, hr, hu, hsep⟩ := HARG.out wr k HL.out.2 h1
      have hst := HSTEP.out st' k h1
      rw [HR.out] at hst
      have HST := Lib.hid hst
      have HU := Lib.hid hu
      have HSEP := Lib.hid hsep
      clear hst hu hsep HR
      generalize l.getD k Rc.zero = r at *
      have h8 := HU.out.lt
      have hin := SM.put1_inv HIN.out h8
      have HNI := Lib.hid hin
      have HKK : Hid (Calls Try.prog 70 #[.pointer (some ⟨t, 0, none⟩), r.val (.slice ra r.d.length rc), .bool true] wr (ROneOut wr t (Nx D w wr) st' r true)) := by
        have hz1 := HZ.out
        refine rone_any t (Nx D w wr) st' r ra rc true wr HL.out.1 (fun i hd => ?_) HIN.out (by omega) HU.out (HSEP.out.imp id fun hsp g hg hd => ?_) (by omega)
        · have e2 := HL.out.2.size
          rcases hd with hd | hd
          · have := HD.out i hd; omega
          · omega
        · obtain ⟨g1, g2⟩ := hsp g hg
          rcases hd with hd | hd
          · exact g1 hd
          · omega
      clear h8 hin HU HSEP HARG HIN
      obtain ⟨rp, rn, rb, rs, rm, rk, re, rg, ru, rd⟩ := r
      obtain ⟨c0, c1, c2, c3, c4, c5, c6, c7, c8, c9⟩ := RCell.ten hr
      simp only at c0 c1 c2 c3 c4 c5 c6 c7 c8 c9
      clear hr
      unfold ROneOut at HKK
      simp only [if_true] at HKK
      generalize her : (SM.keepOf st' ⟨rp, rn, rb, rs, rm, rk, re, rg, ru, rd⟩).2.2 = er at *
      clear her
      generalize SM.put1 st' ⟨rp, rn, rb, rs, rm, rk, re, rg, ru, rd⟩ = st2 at *
      go_wp2_with fail
      refine HKK.out.mono ?_
      rintro e w2 ⟨rfl, hL2⟩
      have HL2 : Hid (RLeft w t D st2 w2) := HL.out.next hL2
      clear hL2 HKK HL c0 c1 c2 c3 c4 c5 c6 c7 c8 c9
      have hkn := Nat.succ_le_of_lt h1
      by_cases he : er = 0
      · subst he
        have HR2 : Hid (SM.puts st2 (l.drop (k + 1)) = R) := by rw [HST.out, if_pos rfl]; rfl
        have HZ2 : Hid (LM.size st2.lg ≤ z0 + 90 * (k + 1) ∧ st2.t.length ≤ t0 + (k + 1)) := by
          have := HZ.out
          obtain ⟨_, _, _, h4, h5⟩ := HNI.out
          show _ ∧ _
          omega
        go_wp2
        go_roundw
        case rel => exact ⟨k + 1, st2, by omega, by go_num, HL2, HR2, HNI.out.1, HZ2⟩
        case measure => simp [intOf]; omega
      · have hne : (((er : Nat) : Int) != 0) = true := by simp; omega
        have HP : Hid ((RLeft w t D R.1 w2 ∧ SM.Inv R.1 ∧ LM.size R.1.lg ≤ z0 + 90 * n ∧ R.1.t.length ≤ t0 + n) ∧ R.2 = er) := by
          have e := HST.out
          rw [if_neg he] at e
          have := HZ.out
          obtain ⟨h3, _, _, h4, h5⟩ := HNI.out
          exact HPOST.out st2 er w2 e.symm HL2.out h3 (by omega) (by omega)
        clear HPOST HST HZ HNI HL2 HEND HSTEP
        go_wp2
        go_ret
        exact ⟨by rw [HP.out.2]; rfl, HP.out.1⟩
    · obtain rfl : k = n := by omega
      have e := HEND.out st'
      rw [HR.out] at e
      have HF := Lib.hid (HPOST.out st' 0 wr e.symm HL.out HIN.out HZ.out.1 HZ.out.2)
      clear e HPOST HEND HSTEP HARG
      go_wp2
      go_ret
      exact ⟨by rw [HF.out.2]; rfl, HF.out.1⟩
end Go.Proofs.Ytdbdnfjgmdkneaa
namespace Go.Proofs.Ytdbdnfjgmdkneaa
set_option maxRecDepth 20000
open Go.RowKit Go.Deep Go.Maps
set_option linter.unusedVariables false
/-- Its log cut, its symbols and tombstones gone. -/
theorem RSX.emptied {w w1 w2 w3 : World} {t : Nat} {D DB : Nat → Prop} {st st' : Sto} {v1 v2 : Value} {ps qs : List Pr} (h : RSX w t D DB st v1 v2 ps qs) (hl : RAt w1 t 3 [.int .i64 ((st.m : Nat) : Int), v1, v2] 64 (fun g => DB g ∨ w.heap.size ≤ g) (LM.spell st'.lg) st'.s) (hg : w.grownBy w1 (some t))
    (hm : st'.m = st.m) (he : st'.l = [] ∧ st'.t = []) (hw2 : w2 = w1.setCell ⟨t, 1, none⟩ (.slice none 0 0)) (hw3 : w3 = w2.setCell ⟨t, 2, none⟩ (.slice none 0 0)) : RLeft w t D st' w3 := by
  obtain ⟨l2, g2⟩ := hl.front (i := 1) (by omega) hw2
  obtain ⟨l3, g3⟩ := RAt.front (i := 2) l2 (by omega) hw3
  have hg3 := grown_trans (grown_trans hg g2) g3
  obtain ⟨DB2, l4, hb⟩ := l3.least
  obtain ⟨m, l, tt, lg, s⟩ := st'
  obtain ⟨rfl, rfl⟩ := he
  simp only at hm
  subst hm
  refine ⟨⟨DB2, .slice none 0 0, .slice none 0 0, [], [], ⟨l4, .inl h.here, OwnR.nil _, OwnR.nil _, rfl, rfl, fun g hg => (nomatch hg), fun g hg => (nomatch hg), fun g hg => ?_, fun g hg => (nomatch hg), fun p hp => (nomatch hp), fun p hp => (nomatch hp)⟩⟩, Fr.grown hg3 fun g e => by have := Option.some.inj e; subst this; exact h.here⟩
  obtain ⟨k1, cs, k2⟩ := hb g hg
  refine ⟨?_, cs, k2⟩
  rcases k1 with k1 | k1
  · exact .inl (h.inB g k1).1
  · exact .inr ⟨k1, (Array.getElem?_eq_some_iff.1 k2).1⟩
set_option maxHeartbeats 4000000 in
theorem rrestart_any (t : Nat) (D : Nat → Prop) (st : Sto) (keep : Int) (w : World) (h : RSt w t D st) (hD : ∀ i, D i → i < w.heap.size) (hi : SM.Inv st) (hz : LM.size st.lg ≤ 900000) (hk : -9223372036854775808 ≤ keep ∧ keep ≤ 9223372036854775807) :
    Calls Try.prog 35 #[.pointer (some ⟨t, 0, none⟩), .int .i64 keep] w fun e w' => e = .returned (.tuple #[]) ∧ RLeft w t D (SM.restart st keep) w' ∧ SM.Inv (SM.restart st keep) ∧ (SM.restart st keep).t.length ≤ LM.size st.lg := by
  obtain ⟨DB, v1, v2, ps, qs, h⟩ := h
  have hcl : LM.size (SM.crashed st keep).lg ≤ LM.size st.lg := LM.upto_le _ _
  obtain ⟨a1, cap1, hv1⟩ := h.own1.slice
  obtain ⟨a2, cap2, hv2⟩ := h.own2.slice
  have HCR := Lib.hid (rcrash15_any t st.s (L := [.int .i64 ((st.m : Nat) : Int), v1, v2]) (fun y hy n e => by
    subst hv1 hv2
    simp only [List.mem_cons, List.not_mem_nil, or_false] at hy
    rcases hy with rfl | rfl | rfl
    all_goals cases e) (fun g => DB g ∨ w.heap.size ≤ g) st.lg keep w (h.log.mono fun g _ hg => .inl hg) hi.sure hi.fine (by omega) hk (fun g hg => .inr hg))
  have HEM : Hid (∀ w1 w2 w3, RAt w1 t 3 [.int .i64 ((st.m : Nat) : Int), v1, v2] 64 (fun g => DB g ∨ w.heap.size ≤ g) (LM.spell (LM.upto (LM.keep st.s keep (LM.size st.lg)) st.lg)) (LM.size (LM.upto (LM.keep st.s keep (LM.size st.lg)) st.lg)) → w.grownBy w1 (some t) → w2 = w1.setCell ⟨t, 1, none⟩ (.slice none 0 0) → w3 = w2.setCell ⟨t, 2, none⟩ (.slice none 0 0) → RLeft w t D (SM.crashed st keep) w3) := fun w1 w2 w3 h1 hg e1 e2 => h.emptied (st' := SM.crashed st keep) h1 hg rfl ⟨rfl, rfl⟩ e1 e2
  have HCELLS : Hid (∀ w1, RAt w1 t 3 [.int .i64 ((st.m : Nat) : Int), v1, v2] 64 (fun g => DB g ∨ w.heap.size ≤ g) (LM.spell (LM.upto (LM.keep st.s keep (LM.size st.lg)) st.lg)) (LM.size (LM.upto (LM.keep st.s keep (LM.size st.lg)) st.lg)) → (w1.frozen? ⟨t, 1, none⟩ = false ∧ w1.cell? ⟨t, 1, none⟩ = some v1) ∧ (w1.frozen? ⟨t, 2, none⟩ = false ∧ w1.cell? ⟨t, 2, none⟩ = some v2)) := fun w1 ⟨sa, sc, hb, _⟩ => ⟨⟨frozen_of_row _ _ _ _ _ hb, by rw [cell_of_row _ _ _ _ _ _ hb]; rfl⟩, frozen_of_row _ _ _ _ _ hb, by rw [cell_of_row _ _ _ _ _ _ hb]; rfl⟩
  have HIC := Lib.hid (SM.crashed_inv hi keep)
  have hnl : (SM.crashed st keep).lg.length ≤ LM.size st.lg := Nat.le_trans (lm_len _) hcl
  have HALL : Hid (∀ w3 D', RSt w3 t D' (SM.crashed st keep) → Calls Try.prog 76 #[.pointer (some ⟨t, 3, none⟩)] w3 (LLoc w3 (SM.crashed st keep).lg)) := fun w3 D' ⟨DB', _, _, _, _, h3⟩ => rall15_loc t _ DB' _ w3 h3.log HIC.out.fine (by omega)
  have HRS : Hid (SM.redos (SM.crashed st keep) ((SM.crashed st keep).lg.drop 0) = SM.restart st keep) := by rw [List.drop_zero]; rfl
  have HFI : Hid (∀ x ∈ (SM.crashed st keep).lg, x.length ≤ 65535 ∧ ∀ y ∈ x, y < 256) := (SM.crashed_inv hi keep).fine
  have HT0 : Hid ((SM.crashed st keep).t.length ≤ 0 ∧ LM.size (SM.crashed st keep).lg ≤ 900000) := ⟨Nat.le_refl _, Nat.le_trans hcl hz⟩
  have HD := Lib.hid hD
  have htl := h.lt
  have HEND : Hid (∀ st' : Sto, SM.redos st' ((SM.crashed st keep).lg.drop (SM.crashed st keep).lg.length) = st') := fun st' => by rw [List.drop_length]; rfl
  have HSTEP : Hid (∀ st' k, k < (SM.crashed st keep).lg.length → SM.redos st' ((SM.crashed st keep).lg.drop k) = SM.redos (SM.redo st' ((SM.crashed st keep).lg.getD k [])) ((SM.crashed st keep).lg.drop (k + 1))) := fun st' k hk => SM.redos_step hk
  subst hv1 hv2
  clear h hD hi hcl
  generalize LM.size st.lg = z0 at *
  generalize LM.upto (LM.keep st.s keep z0) st.lg = lg0 at *
  generalize SM.restart st keep = R at *
  generalize SM.crashed st keep = st0 at *
  generalize hll : st0.lg = l at *
  have HLL := Lib.hid hll
  clear hll
  generalize hnn : l.length = n at *
  have HNN := Lib.hid hnn
  clear hnn
  generalize ps.length = n1 at *
  generalize qs.length = n2 at *
  go_enter Try.func35, Try.ntmps35
  go_wp2_with fail
  refine HCR.out.mono ?_
  rintro e w1 ⟨rfl, hl1, hg1⟩
  obtain ⟨⟨f3, c3⟩, f4, c4⟩ := HCELLS.out w1 hl1
  have HEM1 := Lib.hid (fun w2 w3 => HEM.out w1 w2 w3 hl1 hg1)
  clear hl1 hg1 HCR HEM HCELLS
  go_upto_region 3 with fail
  generalize hw2 : World.setCell w1 _ _ = w2
  generalize hw3 : World.setCell w2 _ _ = w3
  have HL3 := Lib.hid (HEM1.out w2 w3 hw2.symm hw3.symm)
  clear hw2 hw3 f3 c3 f4 c4 HEM1
  go_wp2_with fail
  refine (HALL.out w3 _ HL3.out.1).mono ?_
  rintro e w4 ⟨v4, rfl, hx4, hrw, hlo⟩
  obtain ⟨ra, rc, hv4, _⟩ := hrw.old.slice
  rw [HNN.out] at hv4 hlo
  subst hv4
  have h03 : w.heap.size ≤ w3.heap.size := HL3.out.2.size
  have hD4 : ∀ i, Nx D w w3 i → i < w3.heap.size := fun i hi => by
    rcases hi with hi | hi
    · have := HD.out i hi; omega
    · exact hi.2
  have HROW : Hid (∀ wr k, Fr (Nx D w w3) w4 wr → k < n → ∃ b off u, ra = some ⟨b, off, none⟩ ∧ wr.cell? ⟨b, off + k, none⟩ = some u ∧ U8s wr u (l.getD k [])) := fun wr k hf hk => by
    rcases hrw with ⟨e, _⟩ | ⟨b, off, cap, e, _, _, hb, hbl, hc⟩
    · have := HNN.out; rw [e] at this; simp at this; omega
    · simp only [Value.slice.injEq] at e
      obtain ⟨u, h1, h2⟩ := hc k (by rw [HNN.out]; exact hk)
      obtain ⟨e1, _, _⟩ := e
      subst e1
      have hug := hlo.at_ hk h1
      refine ⟨b, off, u, rfl, ?_, h2.1.keepD hf (.inr fun g hg hd => by have := hug g hg; have := hD4 g hd; omega)⟩
      rw [World.cell?_of_block (w := w4) (w' := wr) (a := ⟨b, off + k, none⟩) (hf.away b hbl (fun hd => by have := hD4 b hd; omega))]
      exact h1
  have HS4 : Hid (RLeft w4 t (Nx D w w3) st0 w4) := RLeft.ext (HL3.out.1.ext hx4) (Gr.ext_refl _)
  have HFIN : Hid (∀ wr st', RLeft w4 t (Nx D w w3) st' wr → RLeft w t D st' wr) := fun wr st' hL => by
    have h1 := hx4.size
    have h2 := hL.2.size
    refine ⟨hL.1.mono fun i hi => ?_, (HL3.out.2.trans (Fr.ext (D := D) hx4) fun _ _ h => h).trans hL.2 fun i hi hd => ?_⟩
    · rcases hi with (hi | hi) | hi
      · exact .inl hi
      · exact .inr (by omega)
      · exact .inr (by omega)
    · rcases hd with hd | hd
      · exact hd
      · omega
  have HD4 : Hid (∀ i, Nx D w w3 i → i < w4.heap.size) := fun i hi => Nat.lt_of_lt_of_le (hD4 i hi) hx4.size
  clear hx4 hrw hlo HALL HL3 h03 hD4
  generalize Nx D w w3 = D4 at *
  go_wp2_with fail
  go_loopw [5] (fun s5 wr => ∃ (k : Nat) (st' : Sto), k ≤ n ∧ s5 = .int .i64 k ∧ Hid (RLeft w4 t D4 st' wr) ∧ Hid (SM.redos st' (l.drop k) = R) ∧ Hid (SM.Inv st' ∧ st'.t.length ≤ k ∧ LM.size st'.lg ≤ 900000)) (fun s5 _ => n - (intOf s5).toNat)
  case atStart => exact ⟨0, st0, by omega, by rfl, HS4, HRS, Lib.hid ⟨HIC.out, HT0.out.1, by rw [HLL.out]; exact HT0.out.2⟩⟩
  case round =>
    obtain ⟨k, st', hk, rfl, HL, HR, HIN⟩ := hrel
    by_cases h1 : k < n
    · obtain ⟨b, off, u, rfl, hc, hu⟩ := HROW.out wr k HL.out.2 h1
      obtain ⟨ua, uc, rfl, _⟩ := hu.slice
      have hfi := HFI.out (l.getD k []) (by rw [List.getD_eq_getElem?_getD, List.getElem?_eq_getElem (by rw [HNN.out]; exact h1)]; exact List.getElem_mem _)
      obtain ⟨r, er, hri, _, hrd⟩ := asked14_new (l.getD k []) hfi.2 (by omega)
      have HRD := Lib.hid (hrd _ wr hu)
      have hst := HSTEP.out st' k h1
      rw [HR.out] at hst
      have HST := Lib.hid hst
      have HRI := Lib.hid hri
      clear hst hfi hrd hri hu HR
      generalize l.getD k [] = x at *
      generalize hxl : x.length = xl at *
      clear hxl
      go_wp2_with fail
      refine HRD.out.mono ?_
      rintro e w5 ⟨a5, c5, rfl, hu5, hx5, hn5⟩
      have HX5 := Lib.hid hx5
      have HU5 := Lib.hid hu5
      have HN5 := Lib.hid hn5
      clear HRD hu5 hx5 hn5 hc
      simp only [Rc.val]
      rcases HRI.out with ⟨rfl, hr, hb⟩ | ⟨rfl, rfl, hno⟩
      · obtain ⟨hg, hrk⟩ := good_of hr hb
        have HRE : Hid (SM.redos (SM.keepOf st' r).1 (l.drop (k + 1)) = R) := by
          show _ = _
          rw [HST.out, SM.redo, if_pos hg, hrk]
        have h8 := HU5.out.lt
        have hin := SM.keep_inv HIN.out.1 h8
        have HNI : Hid (SM.Inv (SM.keepOf st' r).1 ∧ (SM.keepOf st' r).1.t.length ≤ k + 1 ∧ LM.size (SM.keepOf st' r).1.lg ≤ 900000) := ⟨hin.1, by have := hin.2.t; have := HIN.out.2.1; omega, by rw [hin.2.lg]; exact HIN.out.2.2⟩
        have HKK : Hid (∀ w6 : World, w5.Extends w6 → Calls Try.prog 70 #[.pointer (some ⟨t, 0, none⟩), r.val (.slice a5 r.d.length c5), .bool false] w6 (ROneOut w6 t (Nx D4 w4 wr) st' r false)) := fun w6 hx => by
          have hx2 := Gr.ext_trans HX5.out hx
          have hlt : ∀ i, Nx D4 w4 wr i → i < wr.heap.size := fun i hd => by
            have h1 := HL.out.2.size
            rcases hd with hd | hd
            · have := HD4.out i hd; omega
            · exact hd.2
          refine rone_any t (Nx D4 w4 wr) st' r a5 c5 false w6 (HL.out.1.ext hx2) (fun i hd => Nat.lt_of_lt_of_le (hlt i hd) hx2.size) HIN.out.1 (by have := HIN.out.2.1; omega) (HU5.out.ext hx) (.inr fun g hg hd => ?_) HIN.out.2.2
          have e1 := HN5.out g hg
          have e2 := hlt g hd
          omega
        clear hg hrk hr hb hin h8 HRI HST HU5 HN5
        obtain ⟨rp, rn, rb, rs, rm, rk, re, rg, ru, rd⟩ := r
        simp only
        unfold ROneOut at HKK
        simp only [Bool.false_eq_true, if_false] at HKK
        generalize SM.keepOf st' ⟨rp, rn, rb, rs, rm, rk, re, rg, ru, rd⟩ = kk at *
        rw [show ((0 : Nat) : Int) = 0 from rfl]
        go_upto_region 8 with fail
        generalize hwb : World.alloc w5 _ = w6
        have hxb : w5.Extends w6 := by subst hwb; exact ext_alloc _ _
        have hbx : w6.rangeAt w5.heap.size 0 (Rc.cells ⟨rp, rn, rb, rs, rm, rk, re, rg, ru, rd⟩ (.slice a5 rd.length c5)) := by subst hwb; exact box_rec w5 28 ⟨rp, rn, rb, rs, rm, rk, re, rg, ru, rd⟩ _
        obtain ⟨c0, c1, c2, c3, c4, c5', c6, c7, c8, c9⟩ := RCell.ten hbx
        simp only [Nat.zero_add] at c0 c1 c2 c3 c4 c5' c6 c7 c8 c9
        have HXB := Lib.hid hxb
        clear hwb hxb hbx
        generalize w5.heap.size = y at *
        go_wp2_with fail
        refine (HKK.out w6 HXB.out).mono ?_
        rintro e w7 ⟨rfl, hL⟩
        have hx6 := Gr.ext_trans HX5.out HXB.out
        have HP : Hid (RLeft w4 t D4 kk.1 w7) := by
          have h46 := HL.out.2.size
          have h66 := hx6.size
          have h67 := hL.2.size
          refine ⟨hL.1.mono fun i hi => ?_, (HL.out.2.trans (Fr.ext (D := D4) hx6) fun _ _ h => h).trans hL.2 fun i hi hd => ?_⟩
          · rcases hi with (hi | hi) | hi
            · exact .inl hi
            · exact .inr (by omega)
            · exact .inr (by omega)
          · rcases hd with hd | hd
            · exact hd
            · omega
        clear hL hx6 HKK HXB HX5 HL c0 c1 c2 c3 c4 c5' c6 c7 c8 c9
        go_wp2
        go_roundw
        case rel => exact ⟨k + 1, kk.1, by omega, by go_num, HP, HRE, HNI⟩
        case measure => simp [intOf]; omega
      · have HRE : Hid (SM.redos st' (l.drop (k + 1)) = R) := by
          show _ = _
          rw [HST.out, SM.redo, if_neg (fun h => hno _ h.2.1 h.2.2)]
        clear hno HRI HST HU5 HN5
        have HP : Hid (∀ w6, w5.Extends w6 → RLeft w4 t D4 st' w6) := fun w6 hx => HL.out.next (RLeft.ext HL.out.1 (Gr.ext_trans HX5.out hx))
        clear HX5 HL
        simp only [Rc.zero]
        rw [show ((2 : Nat) : Int) = 2 from rfl]
        go_upto_region 8 with fail
        generalize hwb : World.alloc w5 _ = w6
        have HQ := Lib.hid (HP.out w6 (by subst hwb; exact ext_alloc _ _))
        clear hwb HP
        generalize w5.heap.size = y at *
        go_wp2
        go_roundw
        case rel => exact ⟨k + 1, st', by omega, by go_num, HQ, HRE, Lib.hid ⟨HIN.out.1, by have := HIN.out.2.1; omega, HIN.out.2.2⟩⟩
        case measure => simp [intOf]; omega
    · obtain rfl : k = n := by omega
      have hr := HR.out
      have he := HEND.out st'
      try rw [HNN.out] at he
      rw [he] at hr
      subst hr
      have HP : Hid (RLeft w t D st' wr ∧ SM.Inv st' ∧ st'.t.length ≤ z0) := ⟨HFIN.out wr st' HL.out, HIN.out.1, by have := HIN.out.2.1; omega⟩
      go_wp2
      go_end0
      exact ⟨rfl, HP.out⟩
end Go.Proofs.Ytdbdnfjgmdkneaa
