/- In one text: ObjRecLaw. -/
import Derived.Test.YtippckajlghimaaDoorM20
/- ObjectRecords' function answers true. -/
namespace Go.Proofs.YtippckajlghimaaDoor
set_option maxRecDepth 20000
open Go.RowKit Go.Deep
set_option linter.unusedVariables false
/-- Where nothing is asked. -/
theorem orecl_far (b s m p n extra until_ : Int) (va : Option Addr) (xn vc : Nat) (w : World) (hT : Tab w) (hx : xn ≤ maxLen) (sm rs : Bool) (hsm : ∀ w, Calls Tryd.prog 5 #[PV b s m] w fun e w' => e = .returned (.bool sm) ∧ w.Extends w')
    (hrs : ∀ w, Calls Tryd.prog 6 #[PV b s m] w fun e w' => e = .returned (.bool rs) ∧ w.Extends w')
    (h : sm = false ∨ (sm = true ∧ rs = false) ∨ (sm = true ∧ rs = true ∧ (xn : Int) ≠ b) ∨ (sm = true ∧ rs = true ∧ (xn : Int) = b ∧ extra < 0) ∨ (sm = true ∧ rs = true ∧ (xn : Int) = b ∧ 0 ≤ extra ∧ 5 < extra)) :
    Calls Tryd.prog 3 #[PV b s m, .slice va xn vc, .agg #[.int .i64 p, .int .i64 n], .int .i64 extra, .int .i64 until_] w fun e w' => e = .returned (.bool true) ∧ w.Extends w' := by
  have HA := Lib.hid (fun w hT => alive13_any w hT)
  have HSM := Lib.hid hsm
  have HRS := Lib.hid hrs
  have HT := Lib.hid hT
  unfold maxLen at hx
  clear hsm hrs hT
  rcases h with rfl | h
  · go_enter Tryd.func3, Tryd.ntmps3
    go_upto_region 1 with fail
    generalize hw0 : World.alloc w _ = w0
    generalize hw1 : World.alloc w0 _ = w1
    have HX1 : Hid (w.Extends w1) := by subst hw1; subst hw0; exact Gr.ext_trans (prm_ext_alloc _ _) (prm_ext_alloc _ _)
    have HP1 : Hid (PAt w1 w.heap.size b s m) := by subst hw1; subst hw0; exact (PAt.new w 23 b s m).ext (prm_ext_alloc _ _)
    generalize w.heap.size = bx at *
    clear hw0 hw1
    go_wp2_with fail
    refine (HA.out w1 (HT.out.ext HX1.out)).mono ?_
    rintro e w2 ⟨rfl, hx2⟩
    have HX2 := Lib.hid (Gr.ext_trans HX1.out hx2)
    have HP2 := Lib.hid (HP1.out.ext hx2)
    clear hx2
    obtain ⟨p0, p1, p2⟩ := HP2.out
    go_wp2_with fail
    refine (HSM.out w2).mono ?_
    rintro e w3 ⟨rfl, hx2⟩
    have HX3 := Lib.hid (Gr.ext_trans HX2.out hx2)
    clear hx2 p0 p1 p2
    go_wp2
    go_ret
    exact ⟨rfl, HX3.out⟩
  rcases h with ⟨rfl, rfl⟩ | ⟨rfl, rfl, h⟩ | ⟨rfl, rfl, h, h'⟩ | ⟨rfl, rfl, h, h', h''⟩
  all_goals
    go_enter Tryd.func3, Tryd.ntmps3
    go_upto_region 1 with fail
    generalize hw0 : World.alloc w _ = w0
    generalize hw1 : World.alloc w0 _ = w1
    have HX1 : Hid (w.Extends w1) := by subst hw1; subst hw0; exact Gr.ext_trans (prm_ext_alloc _ _) (prm_ext_alloc _ _)
    have HP1 : Hid (PAt w1 w.heap.size b s m) := by subst hw1; subst hw0; exact (PAt.new w 23 b s m).ext (prm_ext_alloc _ _)
    generalize w.heap.size = bx at *
    clear hw0 hw1
    go_wp2_with fail
    refine (HA.out w1 (HT.out.ext HX1.out)).mono ?_
    rintro e w2 ⟨rfl, hx2⟩
    have HX2 := Lib.hid (Gr.ext_trans HX1.out hx2)
    have HP2 := Lib.hid (HP1.out.ext hx2)
    clear hx2
    obtain ⟨p0, p1, p2⟩ := HP2.out
    go_wp2_with fail
    refine (HSM.out w2).mono ?_
    rintro e w3 ⟨rfl, hx2⟩
    have HX3 := Lib.hid (Gr.ext_trans HX2.out hx2)
    have HP3 := Lib.hid (HP2.out.ext hx2)
    clear hx2 p0 p1 p2
    obtain ⟨p0, p1, p2⟩ := HP3.out
    go_wp2_with fail
    refine (HRS.out w3).mono ?_
    rintro e w4 ⟨rfl, hx2⟩
    have HX4 := Lib.hid (Gr.ext_trans HX3.out hx2)
    have HP4 := Lib.hid (HP3.out.ext hx2)
    clear hx2 p0 p1 p2
    obtain ⟨p0, p1, p2⟩ := HP4.out
  · go_wp2
    go_ret
    exact ⟨rfl, HX4.out⟩
  · have hne : ((xn : Int) != b) = true := by simpa using h
    go_wp2
    go_ret
    exact ⟨rfl, HX4.out⟩
  · have hne : ((xn : Int) != b) = false := by simpa using h
    go_wp2
    go_ret
    exact ⟨rfl, HX4.out⟩
  · have hne : ((xn : Int) != b) = false := by simpa using h
    go_wp2
    go_ret
    exact ⟨rfl, HX4.out⟩
/-- Where there is no object. -/
theorem orecl_none (b s m p n extra until_ : Int) (v : Value) (xs : List Nat) (w : World) (hT : Tab w) (hv : U8s w v xs) (hxb : (xs.length : Int) = b) (h0 : 0 ≤ extra) (h5 : extra ≤ 5)
    (hsm : ∀ w, Calls Tryd.prog 5 #[PV b s m] w fun e w' => e = .returned (.bool true) ∧ w.Extends w')
    (hrs : ∀ w, Calls Tryd.prog 6 #[PV b s m] w fun e w' => e = .returned (.bool true) ∧ w.Extends w')
    (hnew : ∀ v w, U8s w v xs → Tab w → Calls Tryd.prog 7 #[PV b s m, v] w (NoBlock w 5)) :
    Calls Tryd.prog 3 #[PV b s m, v, .agg #[.int .i64 p, .int .i64 n], .int .i64 extra, .int .i64 until_] w fun e w' => e = .returned (.bool true) ∧ w.Extends w' := by
  have HA := Lib.hid (fun w hT => alive13_any w hT)
  have HSM := Lib.hid hsm
  have HRS := Lib.hid hrs
  have HN := Lib.hid hnew
  have HT := Lib.hid hT
  have HV := Lib.hid hv
  have hm := hv.len
  unfold maxLen at hm
  obtain ⟨va, vc, rfl, _⟩ := hv.slice
  clear hv hT hsm hrs hnew
  obtain ⟨xn, hxn⟩ : ∃ xn, xn = xs.length := ⟨_, rfl⟩
  rw [← hxn] at HV hm hxb ⊢
  clear hxn
  subst hxb
  have hne : ((xn : Int) != xn) = false := by simp
  go_enter Tryd.func3, Tryd.ntmps3
  go_upto_region 1 with fail
  generalize hw0 : World.alloc w _ = w0
  generalize hw1 : World.alloc w0 _ = w1
  have HX1 : Hid (w.Extends w1) := by subst hw1; subst hw0; exact Gr.ext_trans (prm_ext_alloc _ _) (prm_ext_alloc _ _)
  have HP1 : Hid (PAt w1 w.heap.size xn s m) := by subst hw1; subst hw0; exact (PAt.new w 23 xn s m).ext (prm_ext_alloc _ _)
  generalize w.heap.size = bx at *
  clear hw0 hw1
  go_wp2_with fail
  refine (HA.out w1 (HT.out.ext HX1.out)).mono ?_
  rintro e w2 ⟨rfl, hx2⟩
  have HX2 := Lib.hid (Gr.ext_trans HX1.out hx2)
  have HP2 := Lib.hid (HP1.out.ext hx2)
  clear hx2
  obtain ⟨p0, p1, p2⟩ := HP2.out
  go_wp2_with fail
  refine (HSM.out w2).mono ?_
  rintro e w3 ⟨rfl, hx2⟩
  have HX3 := Lib.hid (Gr.ext_trans HX2.out hx2)
  have HP3 := Lib.hid (HP2.out.ext hx2)
  clear hx2 p0 p1 p2
  obtain ⟨p0, p1, p2⟩ := HP3.out
  go_wp2_with fail
  refine (HRS.out w3).mono ?_
  rintro e w4 ⟨rfl, hx2⟩
  have HX4 := Lib.hid (Gr.ext_trans HX3.out hx2)
  have HP4 := Lib.hid (HP3.out.ext hx2)
  clear hx2 p0 p1 p2
  obtain ⟨p0, p1, p2⟩ := HP4.out
  go_wp2_with fail
  refine (HN.out _ w4 (HV.out.ext HX4.out) (HT.out.ext HX4.out)).mono ?_
  rintro e w5 ⟨rfl, hx2⟩
  have HX5 := Lib.hid (Gr.ext_trans HX4.out hx2)
  clear hx2 p0 p1 p2
  go_wp2_with fail
  refine (num13_any _ w5).mono ?_
  rintro e w' ⟨rfl, rfl⟩
  go_wp2_with fail
  refine (num13_any _ w5).mono ?_
  rintro e w' ⟨rfl, rfl⟩
  go_wp2
  go_ret
  exact ⟨rfl, HX5.out⟩
/-- Where the records of block q begin. -/
def OM.pos (cn : Nat → Nat) : Nat → Nat
  | 0 => 0
  | q + 1 => pos cn q + cn q
theorem OM.pos_length (f : Nat → Nat → Rc) (cn : Nat → Nat) : ∀ q, (OM.recsTo f cn q).length = OM.pos cn q
  | 0 => rfl
  | q + 1 => by rw [← OM.recsTo_succ, List.length_append, OM.blkTo_length, OM.pos_length f cn q]; rfl
theorem OM.pos_le (cn : Nat → Nat) (q : Nat) : ∀ d, OM.pos cn q ≤ OM.pos cn (q + d)
  | 0 => Nat.le_refl _
  | d + 1 => Nat.le_trans (OM.pos_le cn q d) (Nat.le_add_right _ _)
theorem OM.recs_at (f : Nat → Nat → Rc) (cn : Nat → Nat) : ∀ n q z, q < n → z < cn q → OM.pos cn q + z < OM.pos cn n ∧ (OM.recsTo f cn n).getD (OM.pos cn q + z) Rc.zero = f q z
  | 0, q, z, h, _ => absurd h (Nat.not_lt_zero _)
  | n + 1, q, z, h, hz => by
    rw [← OM.recsTo_succ]
    have hl := OM.pos_length f cn n
    have e : OM.pos cn (n + 1) = OM.pos cn n + cn n := rfl
    by_cases hq : q < n
    · obtain ⟨h1, h2⟩ := OM.recs_at f cn n q z hq hz
      exact ⟨by omega, by rw [List.getD_eq_getElem?_getD, List.getElem?_append_left (by omega), ← List.getD_eq_getElem?_getD]; exact h2⟩
    · obtain rfl : q = n := by omega
      refine ⟨by omega, ?_⟩
      rw [List.getD_eq_getElem?_getD, List.getElem?_append_right (by omega), hl, Nat.add_sub_cancel_left]
      unfold OM.blkTo
      rw [List.getElem?_map, List.getElem?_range hz]
      rfl
set_option maxHeartbeats 4000000 in
set_option maxRecDepth 100000 in
theorem orecl_main (b s m p n extra until_ : Int) (v : Value) (xs : List Nat) (w : World) (hT : Tab w) (hv : U8s w v xs) (hxb : (xs.length : Int) = b) (ex : Nat) (hex : (ex : Int) = extra) (h5 : ex ≤ 5)
    (hsm : ∀ w, Calls Tryd.prog 5 #[PV b s m] w fun e w' => e = .returned (.bool true) ∧ w.Extends w')
    (hrs : ∀ w, Calls Tryd.prog 6 #[PV b s m] w fun e w' => e = .returned (.bool true) ∧ w.Extends w')
    (nb : Nat) (hn : nb ≤ 4000) (V : World → Nat → Prop) (kc : Nat → Nat) (hkc : ∀ q, q < nb → kc q ≤ 40) (pos : Nat → Nat) (hp0 : pos 0 = 0) (hps : ∀ q, q < nb → pos (q + 1) = pos q + (kc q + ex)) (hpl : ∀ q, q ≤ nb → pos q ≤ 1000000) (d : Nat → Nat → List Nat) (RR : List Rc) (hlen : RR.length = pos nb)
    (hat : ∀ q, q < nb → ∀ z, z < kc q + ex → pos q + z < pos nb ∧ RR.getD (pos q + z) Rc.zero = ⟨p, n, b, s, m, (q : Nat), (z : Nat), false, until_, d q z⟩)
    (hVX : ∀ w w' o, V w o → w.Extends w' → V w' o)
    (hnew : ∀ v w, U8s w v xs → Tab w → Calls Tryd.prog 7 #[PV b s m, v] w fun e w' => ∃ o, e = .returned (.tuple #[.pointer (some ⟨o, 0, none⟩), .int .i64 0]) ∧ w.Extends w' ∧ V w' o)
    (hrec : ∀ o w, V w o → Tab w → Calls Tryd.prog 9 #[.pointer (some ⟨o, 0, none⟩), .agg #[.int .i64 p, .int .i64 n], .int .i64 ex, .int .i64 until_] w (RecsOut w RR))
    (hsy : ∀ q, q < nb → ∀ z, z < kc q + ex → ∀ o w, V w o → Tab w → Calls Tryd.prog 12 #[.pointer (some ⟨o, 0, none⟩), .int .i64 q, .int .i64 z] w (SymOut w (d q z) 0))
    (hs1 : ∀ o w, V w o → Tab w → Calls Tryd.prog 12 #[.pointer (some ⟨o, 0, none⟩), .int .i64 nb, .int .i64 0] w (SymOut w [] 1))
    (hs2 : ∀ o w, V w o → Tab w → Calls Tryd.prog 12 #[.pointer (some ⟨o, 0, none⟩), .int .i64 (-1), .int .i64 0] w (SymOut w [] 1))
    (hs3 : ∀ o w, V w o → Tab w → Calls Tryd.prog 12 #[.pointer (some ⟨o, 0, none⟩), .int .i64 0, .int .i64 16777216] w (SymOut w [] 1))
    (hb : ∀ w, Calls Tryd.prog 10 #[PV b s m] w fun e w' => e = .returned (.int .i64 (nb : Nat)) ∧ w.Extends w')
    (hk : ∀ c, c < nb → ∀ w, Calls Tryd.prog 11 #[PV b s m, .int .i64 c] w fun e w' => e = .returned (.int .i64 (kc c : Nat)) ∧ w.Extends w') :
    Calls Tryd.prog 3 #[PV b s m, v, .agg #[.int .i64 p, .int .i64 n], .int .i64 extra, .int .i64 until_] w fun e w' => e = .returned (.bool true) ∧ w.Extends w' := by
  have HA := Lib.hid (fun w hT => alive13_any w hT)
  have HSM := Lib.hid hsm
  have HRS := Lib.hid hrs
  have HN := Lib.hid hnew
  have HREC := Lib.hid hrec
  have HSY := Lib.hid hsy
  have HS1 := Lib.hid hs1
  have HS2 := Lib.hid hs2
  have HS3 := Lib.hid hs3
  have HB := Lib.hid hb
  have HK := Lib.hid hk
  have HVX := Lib.hid hVX
  have HKC := Lib.hid hkc
  have HPS := Lib.hid hps
  have HPL := Lib.hid hpl
  have HAT := Lib.hid hat
  have HP0 := Lib.hid hp0
  have HLEN := Lib.hid hlen
  have HT := Lib.hid hT
  have HV := Lib.hid hv
  have hm := hv.len
  unfold maxLen at hm
  obtain ⟨va, vc, rfl, _⟩ := hv.slice
  clear hv hT hsm hrs hnew hrec hsy hs1 hs2 hs3 hb hk hVX hkc hps hpl hat hp0 hlen
  obtain ⟨xn, hxn⟩ : ∃ xn, xn = xs.length := ⟨_, rfl⟩
  rw [← hxn] at HV hm hxb ⊢
  clear hxn
  subst hxb
  subst hex
  have hne : ((xn : Int) != xn) = false := by simp
  go_enter Tryd.func3, Tryd.ntmps3
  go_upto_region 1 with fail
  generalize hw0 : World.alloc w _ = w0
  generalize hw1 : World.alloc w0 _ = w1
  have hx0 : w.Extends w0 := by subst hw0; exact prm_ext_alloc _ _
  have hx1 : w0.Extends w1 := by subst hw1; exact prm_ext_alloc _ _
  have hp : PAt w0 w.heap.size xn s m := by subst hw0; exact PAt.new w 23 xn s m
  have hs0 : w0.heap.size = w.heap.size + 1 := by subst hw0; simp
  have hid1 : w1.cell? ⟨w0.heap.size, 0, none⟩ = some (.int .i64 p) ∧ w1.cell? ⟨w0.heap.size, 1, none⟩ = some (.int .i64 n) := by subst hw1; exact box_twoi w0 26 p n
  rw [hs0] at hid1
  generalize w.heap.size = bx at hp hid1 ⊢
  have HX1 := Lib.hid (Gr.ext_trans hx0 hx1)
  have HP1 := Lib.hid (hp.ext hx1)
  have HID1 := Lib.hid hid1
  clear hw0 hw1 hx0 hx1 hp hs0 hid1
  go_wp2_with fail
  refine (HA.out w1 (HT.out.ext HX1.out)).mono ?_
  rintro e w2 ⟨rfl, hx2⟩
  have HX12 := Lib.hid hx2
  have HP2 := Lib.hid (HP1.out.ext hx2)
  clear hx2
  obtain ⟨p0, p1, p2⟩ := HP2.out
  go_wp2_with fail
  refine (HSM.out w2).mono ?_
  rintro e w3 ⟨rfl, hx2⟩
  have HX13 := Lib.hid (Gr.ext_trans HX12.out hx2)
  have HP3 := Lib.hid (HP2.out.ext hx2)
  clear hx2 p0 p1 p2
  obtain ⟨p0, p1, p2⟩ := HP3.out
  go_wp2_with fail
  refine (HRS.out w3).mono ?_
  rintro e w4 ⟨rfl, hx2⟩
  have HX14 := Lib.hid (Gr.ext_trans HX13.out hx2)
  have HP4 := Lib.hid (HP3.out.ext hx2)
  clear hx2 p0 p1 p2
  obtain ⟨p0, p1, p2⟩ := HP4.out
  go_wp2_with fail
  refine (HN.out _ w4 (HV.out.ext (Gr.ext_trans HX1.out HX14.out)) (HT.out.ext (Gr.ext_trans HX1.out HX14.out))).mono ?_
  rintro e w5 ⟨o, rfl, hx2, ho⟩
  have HX15 := Lib.hid (Gr.ext_trans HX14.out hx2)
  have HO5 := Lib.hid ho
  clear hx2 ho p0 p1 p2 hne
  go_wp2_with fail
  refine (num13_any _ w5).mono ?_
  rintro e w' ⟨rfl, rfl⟩
  have hi0 := HX15.out.cell_of HID1.out.1
  have hi1 := HX15.out.cell_of HID1.out.2
  have hbi : bx + 1 < w5.heap.size := World.block_lt_of_cell? w5 _ hi0
  go_wp2_with fail
  refine (HREC.out o w5 HO5.out (HT.out.ext (Gr.ext_trans HX1.out HX15.out))).mono ?_
  rintro e w6 ⟨lv, rfl, hx2, hl⟩
  have HX16 := Lib.hid (Gr.ext_trans HX15.out hx2)
  have HO6 := Lib.hid (HVX.out w5 w6 o HO5.out hx2)
  have HX6 := Lib.hid (Gr.ext_trans HX1.out HX16.out)
  have HP6 := Lib.hid (HP1.out.ext HX16.out)
  obtain ⟨la, lc, rfl⟩ := hl.slice
  have HLC := Lib.hid hl.at.2
  rw [HLEN.out] at HLC ⊢
  have hpn := HPL.out nb (Nat.le_refl _)
  have HTOT : Hid (pos nb = pos nb) := rfl
  clear hx2 hl hi0 hi1 hbi
  obtain ⟨tot, htot⟩ : ∃ tot, tot = pos nb := ⟨_, rfl⟩
  have HAT2 : Hid (∀ q, q < nb → ∀ z, z < kc q + ex → pos q + z < tot ∧ RR.getD (pos q + z) Rc.zero = ⟨p, n, xn, s, m, (q : Nat), (z : Nat), false, until_, d q z⟩) := by rw [htot]; exact HAT.out
  rw [← htot] at HLC hpn ⊢
  have HTE := Lib.hid htot
  clear htot HTOT HAT
  go_wp2_with fail
  go_loopw [15, 16] (fun c i wr => ∃ q : Nat, q ≤ nb ∧ i = .int .i64 q ∧ c = .int .i64 (pos q : Nat) ∧ Hid (w6.Extends wr)) (fun _ i _ => (nb - intOf i).toNat)
  case atStart => exact ⟨0, by omega, rfl, by rw [HP0.out]; rfl, Lib.hid (Gr.ext_refl _)⟩
  case round =>
    obtain ⟨q, hq, rfl, rfl, HX⟩ := hrel
    have HPr := Lib.hid (HP6.out.ext HX.out)
    have hbr := HPr.out.lt
    obtain ⟨p0, p1, p2⟩ := HPr.out
    go_wp2_with fail
    refine (HB.out wr).mono ?_
    rintro e w7 ⟨rfl, hx⟩
    have HX7 := Lib.hid (Gr.ext_trans HX.out hx)
    clear hx HX p0 p1 p2 HPr hbr
    by_cases h7 : q < nb
    · have HKQ := Lib.hid (HK.out q h7)
      have hkq := HKC.out q h7
      have HPSQ := Lib.hid (HPS.out q h7)
      have hplq := HPL.out q hq
      have HSQ := Lib.hid (HSY.out q h7)
      have HAQ := Lib.hid (HAT2.out q h7)
      generalize hpqe : pos q = pq at *
      generalize kc q = k at *
      generalize d q = dq at *
      go_wp2_with fail
      go_loopw [15, 17] (fun c i wr => ∃ z ps : Nat, z ≤ k + ex ∧ i = .int .i64 z ∧ c = .int .i64 ps ∧ Hid (ps = pq + z) ∧ Hid (w6.Extends wr)) (fun _ i _ => ((k + ex : Nat) - intOf i).toNat)
      case atStart => exact ⟨0, pq, by omega, rfl, rfl, Lib.hid rfl, HX7⟩
      case round =>
        obtain ⟨z, ps, hz, rfl, rfl, HPE, HX⟩ := hrel
        have HPr := Lib.hid (HP6.out.ext HX.out)
        have hbr := HPr.out.lt
        obtain ⟨p0, p1, p2⟩ := HPr.out
        go_wp2_with fail
        refine (HKQ.out wr).mono ?_
        rintro e w8 ⟨rfl, hx⟩
        have HX8 := Lib.hid (Gr.ext_trans HX.out hx)
        clear hx HX p0 p1 p2 HPr hbr
        by_cases h8 : z < k + ex
        · obtain ⟨hzt, hre⟩ := HAQ.out z h8
          have HX8w := Lib.hid (Gr.ext_trans HX6.out HX8.out)
          go_wp2_with fail
          refine (HSQ.out z h8 o w8 (HVX.out w6 w8 o HO6.out HX8.out) (HT.out.ext HX8w.out)).mono ?_
          rintro e w9 ⟨u, rfl, hx, hok⟩
          have HX9 := Lib.hid (Gr.ext_drew (Gr.ext_trans HX8.out hx))
          have HU9 : Hid (U8s w9.drew u (dq z)) := hok.1.ext (Gr.ext_drew (Gr.ext_refl w9))
          obtain ⟨ua, uc, rfl, _⟩ := hok.1.slice
          clear hx hok HX8 HX8w
          obtain ⟨b1, o1, rfl, hb1, hc1⟩ := HLC.out (by omega)
          obtain ⟨ra, rc, hr, hu⟩ := hc1 (pq + z) hzt
          rw [hre] at hr hu
          have hrr := rangeAt_ext hr HX9.out
          have HUR : Hid (U8s w9.drew (.slice ra (dq z).length rc) (dq z)) := hu.ext HX9.out
          have HTEN := Lib.hid (RCell.ten hrr)
          have HSR : Hid (∀ w1, w9.drew.Extends w1 → Calls Tryd.prog 13 #[.agg #[.int .i64 p, .int .i64 n, .int .i64 xn, .int .i64 s, .int .i64 m, .int .i64 q, .int .i64 z, .bool false, .int .i64 until_, .slice ra (dq z).length rc], .agg #[.int .i64 p, .int .i64 n, .int .i64 xn, .int .i64 s, .int .i64 m, .int .i64 q, .int .i64 z, .bool false, .int .i64 until_, .slice ua (dq z).length uc]] w1 fun e w' => e = .returned (.bool true) ∧ w1.Extends w') := fun w1 hx =>
            same_rec ⟨p, n, xn, s, m, q, z, false, until_, dq z⟩ ra ua rc uc w1 (HUR.out.ext hx) (HU9.out.ext hx)
          have HP9 := Lib.hid (HP6.out.ext HX9.out)
          have HI9 : Hid (w9.drew.cell? ⟨bx + 1, 0, none⟩ = some (.int .i64 p) ∧ w9.drew.cell? ⟨bx + 1, 1, none⟩ = some (.int .i64 n)) := ⟨(Gr.ext_trans HX16.out HX9.out).cell_of HID1.out.1, (Gr.ext_trans HX16.out HX9.out).cell_of HID1.out.2⟩
          have HCF : Hid (∀ w', w9.drew.Extends w' → (w'.cell? ⟨b1, o1 + (pq + z) * 10, none⟩ = some (.int .i64 p) ∧ w'.cell? ⟨b1, o1 + (pq + z) * 10 + 1, none⟩ = some (.int .i64 n) ∧ w'.cell? ⟨b1, o1 + (pq + z) * 10 + 2, none⟩ = some (.int .i64 xn) ∧ w'.cell? ⟨b1, o1 + (pq + z) * 10 + 3, none⟩ = some (.int .i64 s) ∧ w'.cell? ⟨b1, o1 + (pq + z) * 10 + 4, none⟩ = some (.int .i64 m) ∧
              w'.cell? ⟨b1, o1 + (pq + z) * 10 + 5, none⟩ = some (.int .i64 q) ∧ w'.cell? ⟨b1, o1 + (pq + z) * 10 + 6, none⟩ = some (.int .i64 z) ∧ w'.cell? ⟨b1, o1 + (pq + z) * 10 + 7, none⟩ = some (.bool false) ∧ w'.cell? ⟨b1, o1 + (pq + z) * 10 + 8, none⟩ = some (.int .i64 until_) ∧ w'.cell? ⟨b1, o1 + (pq + z) * 10 + 9, none⟩ = some (.slice ra (dq z).length rc)) ∧
              (w'.cell? ⟨bx, 0, none⟩ = some (.int .i64 xn) ∧ w'.cell? ⟨bx, 1, none⟩ = some (.int .i64 s) ∧ w'.cell? ⟨bx, 2, none⟩ = some (.int .i64 m)) ∧ w'.cell? ⟨bx + 1, 0, none⟩ = some (.int .i64 p) ∧ w'.cell? ⟨bx + 1, 1, none⟩ = some (.int .i64 n)) := fun w' hw' => by
            obtain ⟨t0, t1, t2, t3, t4, t5, t6, t7, t8, t9⟩ := HTEN.out
            exact ⟨⟨hw'.cell_of t0, hw'.cell_of t1, hw'.cell_of t2, hw'.cell_of t3, hw'.cell_of t4, hw'.cell_of t5, hw'.cell_of t6, hw'.cell_of t7, hw'.cell_of t8, hw'.cell_of t9⟩, HP9.out.ext hw', hw'.cell_of HI9.out.1, hw'.cell_of HI9.out.2⟩
          clear hc1 hr hu hrr HTEN HU9 HUR HP9 HI9 hre
          generalize (dq z).length = dl at *
          rw [← HPE.out] at HCF hzt
          have hdg : decide (tot ≤ ps) = false := by simp; omega
          go_wp2_with fail
          refine Gr.region 23 [(false,0),(true,1),(false,2),(false,3),(false,4),(false,5),(false,6),(false,7),(false,8),(false,9),(false,10),(false,11),(false,12),(false,13),(false,14),(false,15),(false,16),(false,17),(false,18),(false,19),(false,20),(true,21),(false,22)] (by kernel_rfl) (by kernel_rfl) (fun d _ _ _ _ h => by cases d <;> exact h) ?_
          simp only [Gr.pick, List.getElem?_cons_zero, List.getElem?_cons_succ, List.drop_succ_cons, List.drop_zero]
          generalize w9.drew = w10 at *
          refine Gr.walk_t ?_ (Or.inl ⟨by rfl, ?_⟩) ?_
          rotate_left
          · intro w' hw'
            clear hw'
            go_simp
            try with_reducible rfl
          simp only [Act.put, List.setIfInBounds_toArray, List.set_cons_zero, List.set_cons_succ]
          refine Gr.walk_c (fun K hK => ?_)
          go_simp
          refine (num13_any _ w10).mono ?_
          rintro e w11 ⟨rfl, rfl⟩
          try go_simp
          refine hK.out _ _ (Gr.ext_refl _) ?_
          clear hK K
          iterate 19
            refine Gr.walk_t ?_ (Or.inl ⟨by rfl, ?_⟩) ?_
            rotate_left
            · intro w' hw'
              obtain ⟨⟨t0, t1, t2, t3, t4, t5, t6, t7, t8, t9⟩, ⟨p0, p1, p2⟩, q0, q1⟩ := HCF.out w' hw'
              clear hw'
              go_simp
              try with_reducible rfl
            simp only [Act.put, List.setIfInBounds_toArray, List.set_cons_zero, List.set_cons_succ]
          refine Gr.walk_c (fun K hK => ?_)
          go_simp
          refine (HSR.out w10 (Gr.ext_refl _)).mono ?_
          rintro e w12 ⟨rfl, hx⟩
          have HX12' := Lib.hid (Gr.ext_trans HX9.out hx)
          try go_simp
          refine hK.out _ _ (hx) ?_
          clear hK K
          clear hx HX9 HCF HSR
          refine Gr.walk_t ?_ (Or.inl ⟨by rfl, ?_⟩) ?_
          rotate_left
          · intro w' hw'
            clear hw'
            go_simp
            try with_reducible rfl
          simp only [Act.put, List.setIfInBounds_toArray, List.set_cons_zero, List.set_cons_succ]
          refine Gr.walk_nil ?_
          go_wp2
          go_roundw
          case rel => exact ⟨z + 1, ps + 1, by omega, by go_num, by go_num, Lib.hid (by rw [HPE.out]; omega), HX12'⟩
          case measure => simp [intOf]; omega
        · obtain rfl : z = k + ex := by omega
          go_wp2
          go_roundw
          case rel => exact ⟨q + 1, by omega, by go_num, by rw [HPSQ.out, HPE.out], HX8⟩
          case measure => simp [intOf]; omega
    · obtain rfl : q = nb := by omega
      have HX7w := Lib.hid (Gr.ext_trans HX6.out HX7.out)
      have HP7 := Lib.hid (HP6.out.ext HX7.out)
      rw [← HTE.out]
      have hb7 := HP7.out.lt
      obtain ⟨p0, p1, p2⟩ := HP7.out
      go_wp2_with fail
      refine (HB.out w7).mono ?_
      rintro e w8 ⟨rfl, hx⟩
      have HX8 := Lib.hid (Gr.ext_trans HX7.out hx)
      have HX8w := Lib.hid (Gr.ext_trans HX7w.out hx)
      clear hx p0 p1 p2
      go_wp2_with fail
      refine (HS1.out o w8 (HVX.out w6 w8 o HO6.out HX8.out) (HT.out.ext HX8w.out)).mono ?_
      rintro e w9 ⟨u, rfl, hx, hok⟩
      have HX9 := Lib.hid (Gr.ext_trans HX8.out hx)
      have HX9w := Lib.hid (Gr.ext_trans HX8w.out hx)
      obtain ⟨ua, uc, rfl, _⟩ := hok.1.slice
      clear hx hok
      go_wp2_with fail
      refine (HS2.out o w9 (HVX.out w6 w9 o HO6.out HX9.out) (HT.out.ext HX9w.out)).mono ?_
      rintro e w10 ⟨u, rfl, hx, hok⟩
      have HX10 := Lib.hid (Gr.ext_trans HX9.out hx)
      have HX10w := Lib.hid (Gr.ext_trans HX9w.out hx)
      obtain ⟨va2, vc2, rfl, _⟩ := hok.1.slice
      clear hx hok
      go_wp2_with fail
      refine (HS3.out o w10 (HVX.out w6 w10 o HO6.out HX10.out) (HT.out.ext HX10w.out)).mono ?_
      rintro e w11 ⟨u, rfl, hx, hok⟩
      have HX11w := Lib.hid (Gr.ext_trans HX10w.out hx)
      obtain ⟨va3, vc3, rfl, _⟩ := hok.1.slice
      clear hx hok
      go_wp2_with fail
      refine (num13_any _ w11).mono ?_
      rintro e w' ⟨rfl, rfl⟩
      go_wp2_with fail
      refine (num13_any _ w11).mono ?_
      rintro e w' ⟨rfl, rfl⟩
      go_wp2_with fail
      refine (num13_any _ w11).mono ?_
      rintro e w' ⟨rfl, rfl⟩
      go_wp2
      go_ret
      exact ⟨by simp, HX11w.out⟩
theorem orecl_walk (b s m : Int) (v : Value) (xs : List Nat) (p n extra until_ : Int) (w : World) (hv : U8s w v xs) (hT : Tab w) :
    Calls Tryd.prog 3 #[PV b s m, v, .agg #[.int .i64 p, .int .i64 n], .int .i64 extra, .int .i64 until_] w fun e w' => e = .returned (.bool true) ∧ w.Extends w' := by
  obtain ⟨sm, hsm⟩ := small13_any b s m w
  have hvl := hv.len
  by_cases hR : CM.Right b s m
  · have far : (sm = false ∨ (sm = true ∧ true = false) ∨ (sm = true ∧ true = true ∧ (xs.length : Int) ≠ b) ∨ (sm = true ∧ true = true ∧ (xs.length : Int) = b ∧ extra < 0) ∨ (sm = true ∧ true = true ∧ (xs.length : Int) = b ∧ 0 ≤ extra ∧ 5 < extra)) → Calls Tryd.prog 3 #[PV b s m, v, .agg #[.int .i64 p, .int .i64 n], .int .i64 extra, .int .i64 until_] w (fun e w' => e = .returned (.bool true) ∧ w.Extends w') := fun h => by
      obtain ⟨va, vc, rfl, _⟩ := hv.slice
      exact orecl_far b s m p n extra until_ va _ vc w hT hvl sm true hsm (fun w => rright_yes _ _ _ w hR) h
    cases sm with
    | false => exact far (.inl rfl)
    | true =>
      by_cases hxb : (xs.length : Int) = b
      · by_cases e1 : extra < 0
        · exact far (.inr (.inr (.inr (.inl ⟨rfl, rfl, hxb, e1⟩))))
        by_cases e2 : 5 < extra
        · exact far (.inr (.inr (.inr (.inr ⟨rfl, rfl, hxb, by omega, e2⟩))))
        clear far
        obtain ⟨B, S, M, rfl, rfl, rfl⟩ := right_nat hR
        obtain rfl : B = xs.length := by omega
        obtain ⟨ex, rfl⟩ := Int.eq_ofNat_of_zero_le (show 0 ≤ extra by omega)
        obtain ⟨g1, g2, g3, g4, g5, g6⟩ := CM.right_of hR
        obtain ⟨bs, hB, _⟩ := bks_exist xs.length S M hR xs hv.lt
        have hlen := CM.cut_length xs.length S M xs
        have hn : CM.bl xs.length S M ≤ 4000 := by have := CM.bl_le xs.length S M; have := CM.sy_le xs.length S g1; omega
        have hnew := fun v w hv hT => newo_any (xs.length : Nat) (S : Nat) (M : Nat) v xs _ bs S 5 w hT (by omega) hv hB fun v w hv => cut_some xs.length S M v xs w hR rfl hv
        by_cases hfu : bs.length = (CM.cut xs.length S M xs).length
        · have hbn : bs.length = CM.bl xs.length S M := by omega
          have hk : ∀ c, c < CM.bl xs.length S M → CM.kk xs.length S M c = (bs.getD c Bk.zero).k := fun c hc => by
            have := (hB.yes c (by omega)).hk
            rw [((CM.cut_fit xs.length S M xs).2 c (by omega)).1] at this
            exact this
          have hcn : ∀ q, q < bs.length → OM.cnt bs ex q = (bs.getD q Bk.zero).k + ex := fun q hq => if_pos hq
          have hpos : ∀ q, OM.pos (OM.cnt bs ex) q ≤ q * 140 := fun q => by
            rw [← OM.pos_length (OM.rec1 p n xs.length S M until_ S bs)]
            refine OM.recsTo_length _ _ (fun i => ?_) q
            by_cases hi : i < bs.length
            · rw [hcn i hi]; have := (hB.yes i hi).k2; omega
            · unfold OM.cnt; rw [if_neg hi]; omega
          refine orecl_main _ _ _ p n _ until_ v xs w hT hv rfl ex rfl (by omega) hsm (fun w => rright_yes _ _ _ w hR) bs.length (by omega) (fun w o => OV (BLook S) w o (xs.length : Nat) (S : Nat) (M : Nat) bs) (fun c => (bs.getD c Bk.zero).k) (fun q hq => (hB.yes q hq).k2) (OM.pos (OM.cnt bs ex)) rfl (fun q hq => by show _ + OM.cnt bs ex q = _; rw [hcn q hq]) (fun q hq => by have := hpos q; omega)
            (fun q z => (OM.rec1 p n xs.length S M until_ S bs q z).d) (OM.recs p n xs.length S M until_ S bs ex) (OM.pos_length _ _ _) (fun q hq z hz => ?_)
            (fun w w' o h hx => h.ext (bLooks S) hx) (fun v w hv hT => (hnew v w hv hT).mono fun e w' h => h.1 hfu) (fun o w ho hT => orecs_any _ _ _ p n ex until_ o _ bs S ex 5 w hT (.inr (.inl ⟨by omega, by omega, rfl⟩)) (by omega) hB ho) (fun q hq z hz o w ho hT => ?_) (fun o w ho hT => ?_) (fun o w ho hT => ?_) (fun o w ho hT => ?_) (fun w => by rw [hbn]; exact rblocks_yes _ _ _ w hR) (fun c hc w => by
              have := rk_in xs.length S M c w hR (by omega)
              rw [hk c (by omega)] at this
              exact this)
          · obtain ⟨a1, a2⟩ := OM.recs_at (OM.rec1 p n xs.length S M until_ S bs) (OM.cnt bs ex) bs.length q z hq (by rw [hcn q hq]; exact hz)
            refine ⟨a1, ?_⟩
            unfold OM.recs
            rw [a2]
            simp only [OM.rec1]
          · have hk2 := (hB.yes q hq).k2
            have h := osym_any _ _ _ o _ bs S 5 q z w hT hB ho
            unfold OM.sy OM.se at h
            rw [if_pos (by omega), if_pos (by omega), Int.toNat_natCast] at h
            unfold symErr at h
            rw [if_pos ⟨by omega, by omega⟩] at h
            simp only [OM.rec1]
            exact h
          · have h := osym_any _ _ _ o _ bs S 5 (bs.length : Nat) 0 w hT hB ho
            unfold OM.sy OM.se at h
            rw [if_neg (by omega), if_neg (by omega)] at h
            exact h
          · have h := osym_any _ _ _ o _ bs S 5 (-1) 0 w hT hB ho
            unfold OM.sy OM.se at h
            rw [if_neg (by omega), if_neg (by omega)] at h
            exact h
          · have h := osym_any _ _ _ o _ bs S 5 0 16777216 w hT hB ho
            unfold OM.sy OM.se symOf symErr at h
            have hne : ¬ EsiOk 16777216 := fun h => absurd h.2 (by decide)
            simp only [if_neg hne] at h
            have hb0 := CM.bl_pos xs.length S M
            rw [if_pos (by omega), if_pos (by omega)] at h
            exact h
        · exact orecl_none _ _ _ p n ex until_ v xs w hT hv rfl (by omega) (by omega) hsm (fun w => rright_yes _ _ _ w hR) fun v w hv hT => (hnew v w hv hT).mono fun e w' h => h.2 hfu
      · exact far (.inr (.inr (.inl ⟨rfl, rfl, hxb⟩)))
  · obtain ⟨va, vc, rfl, _⟩ := hv.slice
    refine orecl_far b s m p n extra until_ va _ vc w hT hvl sm false hsm (fun w => rright_no _ _ _ w hR) ?_
    cases sm
    · exact .inl rfl
    · exact .inr (.inl ⟨rfl, rfl⟩)
theorem ObjectRecords_walk (b s m : Int) (v : Value) (xs : List Nat) (p n extra until_ : Int) (w : World) (hs : (Lit.int .i64 b).wf = true ∧ (Lit.int .i64 s).wf = true ∧ (Lit.int .i64 m).wf = true) (hv : U8s w v xs) (h3 : (Lit.int .i64 p).wf = true ∧ (Lit.int .i64 n).wf = true) (h4 : -9223372036854775808 ≤ extra ∧ extra ≤ 9223372036854775807) (h5 : -9223372036854775808 ≤ until_ ∧ until_ ≤ 9223372036854775807) (hT : Tab w) :
    Calls Tryd.prog 3 #[PV b s m, v, .agg #[.int .i64 p, .int .i64 n], .int .i64 extra, .int .i64 until_] w fun e w' => e = .returned (.bool true) ∧ Below w.heap.size w w' :=
  (orecl_walk b s m v xs p n extra until_ w hv hT).mono fun _ _ h => ⟨h.1, Gr.below_of h.2⟩
end Go.Proofs.YtippckajlghimaaDoor
