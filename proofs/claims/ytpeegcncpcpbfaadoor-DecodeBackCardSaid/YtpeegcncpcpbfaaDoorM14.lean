/- In one text: DroDrop, TupRef, TupRefParts, DroRef, Conv, From, DroDrops, DroLaw. -/
import Derived.Laws.BytesArg
import Derived.Handy
import Derived.Lib.Hide
import Derived.Test.YtpeegcncpcpbfaaDoorM1
import Derived.Test.YtpeegcncpcpbfaaDoorM2
import Derived.Test.YtpeegcncpcpbfaaDoorM3
import Derived.Test.YtpeegcncpcpbfaaDoorM8
import Derived.Test.YtpeegcncpcpbfaaDoorM9
import Derived.Test.YtpeegcncpcpbfaaDoorM10
import Derived.Test.YtpeegcncpcpbfaaDoorM11
import Derived.Test.YtpeegcncpcpbfaaDoorM13
/- drops.Drop. -/
namespace Go.Proofs.YtpeegcncpcpbfaaDoor
set_option maxRecDepth 20000
open Go.RowKit Go.Deep
set_option linter.unusedVariables false
theorem drop_size (k s h j size esi : Int) (v : Value) (w : World) (hs : size < 1 ∨ 64 < size) :
    Calls Tryd.prog 41 #[PV k s h, .int .i64 j, .int .i64 size, v, .int .i64 esi] w fun e w' => e = .returned (.slice none 0 0) ∧ w.Extends w' := by
  rcases hs with hs | hs
  all_goals
    go_enter Tryd.func41, Tryd.ntmps41
    go_wp2
    go_ret
    exact ⟨rfl, prm_ext_alloc _ _⟩
theorem drop_len (k s h j size esi : Int) (a : Option Addr) (n cap : Nat) (w : World) (h1 : 1 ≤ size) (h2 : size ≤ 64) (hb : -9223372036854775808 ≤ k + s ∧ k + s ≤ 9223372036854775807) (hb2 : -9223372036854775808 ≤ k + s + h ∧ k + s + h ≤ 9223372036854775807) (hn : (n : Int) ≠ k + s + h) :
    Calls Tryd.prog 41 #[PV k s h, .int .i64 j, .int .i64 size, .slice a n cap, .int .i64 esi] w fun e w' => e = .returned (.slice none 0 0) ∧ w.Extends w' := by
  have HL := Lib.hid (fun w => prmL_any k s h w hb hb2)
  generalize k + s + h = L at *
  have hne : ((n : Int) != L) = true := by simpa using hn
  clear hb hb2 hn
  go_enter Tryd.func41, Tryd.ntmps41
  go_wp2_with fail
  generalize hw1 : World.alloc w _ = w1
  have hx1 : w.Extends w1 := by subst hw1; exact prm_ext_alloc _ _
  have hp : PAt w1 w.heap.size k s h := by subst hw1; exact PAt.new w 56 k s h
  generalize w.heap.size = b at hp ⊢
  clear hw1
  have HX1 := Lib.hid hx1
  have HP1 := Lib.hid hp
  clear hx1 hp
  obtain ⟨p0, p1, p2⟩ := HP1.out
  go_wp2_with fail
  refine (HL.out w1).mono ?_
  rintro e w2 ⟨rfl, hx2⟩
  have HX2 := Lib.hid (Gr.ext_trans HX1.out hx2)
  clear hx2 HX1 HP1 p0 p1 p2
  go_wp2
  go_ret
  exact ⟨rfl, HX2.out⟩
theorem drop_fit (k s h j size esi : Int) (a : Option Addr) (n cap : Nat) (w : World) (h1 : 1 ≤ size) (h2 : size ≤ 64) (hb : -9223372036854775808 ≤ k + s ∧ k + s ≤ 9223372036854775807) (hn : k + s + h = (n : Int)) (hm : n ≤ maxLen) (hf : ¬ Fits k s h j esi) :
    Calls Tryd.prog 41 #[PV k s h, .int .i64 j, .int .i64 size, .slice a n cap, .int .i64 esi] w fun e w' => e = .returned (.slice none 0 0) ∧ w.Extends w' := by
  unfold maxLen at hm
  have HL := Lib.hid (fun w => prmL_any k s h w hb (by omega))
  rw [hn] at HL
  have HN := Lib.hid (fun w => parts_none k s h j esi w hf)
  clear hb hn hf
  go_enter Tryd.func41, Tryd.ntmps41
  go_wp2_with fail
  generalize hw1 : World.alloc w _ = w1
  have hx1 : w.Extends w1 := by subst hw1; exact prm_ext_alloc _ _
  have hp : PAt w1 w.heap.size k s h := by subst hw1; exact PAt.new w 56 k s h
  generalize w.heap.size = b at hp ⊢
  clear hw1
  have HX1 := Lib.hid hx1
  have HP1 := Lib.hid hp
  clear hx1 hp
  obtain ⟨p0, p1, p2⟩ := HP1.out
  go_wp2_with fail
  refine (HL.out w1).mono ?_
  rintro e w2 ⟨rfl, hx2⟩
  have HX2 := Lib.hid (Gr.ext_trans HX1.out hx2)
  have HP2 := Lib.hid (HP1.out.ext hx2)
  clear hx2 HX1 HP1 p0 p1 p2
  obtain ⟨p0, p1, p2⟩ := HP2.out
  go_wp2_with fail
  refine (HN.out w2).mono ?_
  rintro e w3 ⟨rfl, hx3⟩
  have HX3 := Lib.hid (Gr.ext_trans HX2.out hx3)
  clear hx3 HX2 HP2 p0 p1 p2
  go_wp2
  go_ret
  exact ⟨rfl, HX3.out⟩
set_option maxHeartbeats 1000000 in
set_option maxRecDepth 100000 in
theorem drop_some (k j size esi : Nat) (v : Value) (c : List (List Nat)) (w : World) (h1 : 1 ≤ k) (h2 : k ≤ 40) (hj : j ≤ 255) (he : esi < 16777216) (hs1 : 1 ≤ size) (hs2 : size ≤ 64) (hl : c.length = PM.l k) (hv : Rws w v c) (hT : Tab w) :
    Calls Tryd.prog 41 #[PV k (PM.s k) 2, .int .i64 j, .int .i64 size, v, .int .i64 esi] w (MadeRow w (DM.drop k j size c esi)) := by
  have HS := Lib.hid (fun w hT => parts_some k j esi w h1 h2 hj he hT)
  change Hid (∀ (w : World), Tab w → Calls _ _ _ w (MadeInts w (TM.parts k j esi))) at HS
  have hs := PM.s_le k h2
  have hlk : (PM.l k : Int) = k + PM.s k + 2 := by unfold PM.l PM.w; omega
  have hl2 := PM.l_le k h2
  have hL := prmL_any k (PM.s k) 2
  rw [← hlk] at hL
  have HL := Lib.hid (fun w => hL w (by omega) (by omega))
  have HPL := Lib.hid (parts_at k j esi)
  have hpl := parts_len k j esi
  have HSN := Lib.hid (DM.pick_snoc c (TM.parts k j esi))
  have HPK := Lib.hid (DM.pick_length c)
  have HD : Hid (DM.drop k j size c esi = RM.sum size (DM.pick c (TM.parts k j esi))) := rfl
  have HDL := Lib.hid (DM.drop_length k j size c esi)
  have HCUT : Hid (RM.cut (size : Int) = size) := by show _ = _; unfold RM.cut; omega
  have HT := Lib.hid hT
  clear hT hlk hL he
  obtain ⟨a, cap, rfl, _⟩ := hv.slice
  have HV := Lib.hid hv.at.2
  clear hv
  generalize DM.drop k j size c esi = row at *
  generalize TM.parts k j esi = l at *
  generalize PM.l k = L at *
  generalize PM.s k = m at *
  rw [hl] at HV ⊢
  clear hl
  obtain ⟨n, hn⟩ : ∃ n, n = l.length := ⟨_, rfl⟩
  rw [← hn] at hpl HPL HSN
  have HN := Lib.hid hn
  clear hn
  obtain ⟨hn1, hn2⟩ := hpl
  have hn0 : ((n : Int) == 0) = false := by rw [beq_eq_false_iff_ne]; omega
  obtain ⟨i1, hi', hz0', hz1', hz2'⟩ := info_parts rowinfo
  have HI' := Lib.hid hi'; clear hi'
  have HZ0' := Lib.hid hz0'; clear hz0'
  have HZ1' := Lib.hid hz1'; clear hz1'
  have HZ2' := Lib.hid hz2'; clear hz2'
  go_enter Tryd.func41, Tryd.ntmps41
  go_wp2_with fail
  generalize hw1 : World.alloc w _ = w1
  have hx1 : w.Extends w1 := by subst hw1; exact prm_ext_alloc _ _
  have hp : PAt w1 w.heap.size k m 2 := by subst hw1; exact PAt.new w 56 k m 2
  generalize w.heap.size = b at hp ⊢
  clear hw1
  have HX1 := Lib.hid hx1
  have HP1 := Lib.hid hp
  clear hx1 hp
  obtain ⟨p0, p1, p2⟩ := HP1.out
  go_wp2_with fail
  refine (HL.out w1).mono ?_
  rintro e w2 ⟨rfl, hx2⟩
  have HX2 := Lib.hid (Gr.ext_trans HX1.out hx2)
  have HP2 := Lib.hid (HP1.out.ext hx2)
  clear hx2 HX1 HP1 p0 p1 p2
  obtain ⟨p0, p1, p2⟩ := HP2.out
  go_wp2_with fail
  refine (HS.out w2 (HT.out.ext HX2.out)).mono ?_
  rintro e w3 ⟨vp, rfl, hx3, hown⟩
  have hints := owns_ints hown
  obtain ⟨ap, capp, rfl, hcap, hcap2⟩ := hints.slice
  rw [nats_length, ← HN.out] at hints ⊢
  have HIN := Lib.hid hints.cell.2
  have HX3 := Lib.hid (Gr.ext_trans HX2.out hx3)
  clear hx3 HX2 HP2 p0 p1 p2 hown hints hcap hcap2 hn1
  go_wp2_with fail
  go_loopw [12, 37] (fun o i wr => ∃ q : Nat, q ≤ n ∧ i = .int .i64 q ∧ Hid (w3.Extends wr) ∧ Hid (Mats wr w3.heap.size w.heap.size 52 o q (DM.pick c (l.take q)))) (fun _ i _ => (n - intOf i).toNat)
  case atStart => exact ⟨0, by omega, rfl, Lib.hid (Gr.ext_refl _), Lib.hid (Mats.nil _ _ _ _ _)⟩
  case round =>
    obtain ⟨q, hq, rfl, HX, HM⟩ := hrel
    by_cases h5 : q < n
    · obtain ⟨bp, off, rfl, hbp, hc⟩ := HIN.out (by omega)
      have hc1 := HX.out.cell_of (hc q h5)
      rw [nats_at] at hc1
      have hpL := HPL.out q h5
      have HS1 := Lib.hid (HSN.out q h5)
      clear hc hbp
      generalize l.getD q 0 = p at *
      obtain ⟨bc, oc, rfl, hbc, hcc⟩ := HV.out (by omega)
      obtain ⟨ra, rc, hc3, hr0⟩ := hcc p hpL
      have hc2 := (Gr.ext_trans HX3.out HX.out).cell_of hc3
      have HOK : Hid (RowOk wr w.heap.size (.slice ra (c.getD p []).length rc) (c.getD p [])) := (RowOk.old hr0 (Nat.le_refl _)).ext (Gr.ext_trans HX3.out HX.out)
      clear hcc hc3 hr0 hbc
      obtain ⟨vs, hown, hrows⟩ := HM.out
      have HOWN := Lib.hid hown
      have HROWS := Lib.hid hrows
      have HOB : Hid (∀ g, u12.ownBlock = some g → w3.heap.size ≤ g) := fun g hg => (HOWN.out.lt g hg).1
      have hbs := HX.out.size
      have hb3 := HX3.out.size
      have HPQ : Hid (q = (DM.pick c (l.take q)).length) := by
        show _ = _; rw [HPK.out, List.length_take, ← HN.out]; omega
      clear hown hrows HM
      go_wp2_with (at_builtin; refine wpList_append_own_src _ rfl _ _ 26 26 rfl w3.heap.size 52 i1 (.slice none 0 0) 1 24 Tryd.underlying26 HI'.out HZ0'.out HZ1'.out HZ2'.out rfl _ _ _ rfl (HOWN.out.alloc _) _ 1 [.slice ra (c.getD p []).length rc] rfl (src_one Tryd.underlying26 _ _ rfl rfl) (by unfold maxLen; omega) (by omega) (by simp; omega) ?_)
      intro v' w9 ho9 hg9 _
      have HP : Hid (w3.Extends w9 ∧ Mats w9 w3.heap.size w.heap.size 52 v' (q + 1) (DM.pick c (l.take (q + 1)))) := by
        refine ⟨Gr.ext_of (((Gr.below_of HX.out).alloc hbs _).grown hg9 (by simp; omega) HOB.out), ?_⟩
        rw [← HS1.out]
        exact Mats.snoc hb3 (by decide) HPQ.out (HOWN.out.alloc _) (fun j hj => by obtain ⟨u, h1, h2⟩ := HROWS.out j hj; exact ⟨u, h1, h2.ext (ext_alloc _ _)⟩) (HOK.out.ext (ext_alloc _ _)) hg9 ho9
      clear ho9 hg9
      go_wp2
      go_roundw
      case rel => exact ⟨q + 1, by omega, by go_num, Lib.hid HP.out.1, Lib.hid HP.out.2⟩
      case measure => simp [intOf]; omega
    · obtain rfl : q = n := by omega
      have HRW : Hid (Rws wr u12 (DM.pick c l)) := by
        have h := HM.out.rws (by rw [HPK.out, List.length_take, ← HN.out]; omega)
        rw [HN.out, List.take_length] at h
        exact h
      have HXW := Lib.hid (Gr.ext_trans HX3.out HX.out)
      clear HM HX
      go_wp2_with fail
      refine (sum_any (size : Int) u12 _ wr HRW.out).mono ?_
      rintro e w4 ⟨rfl, hb4, ho4⟩
      rw [HCUT.out, ← HD.out] at ho4
      rw [HCUT.out]
      have HP : Hid (MadeRow w row (.returned (.slice (some ⟨wr.heap.size, 0, none⟩) size size)) w4) := ⟨wr.heap.size, by rw [HDL.out], Gr.ext_trans HXW.out (Gr.ext_of hb4), HXW.out.size, ho4⟩
      clear hb4 ho4
      go_wp2
      go_ret
      exact HP.out
end Go.Proofs.YtpeegcncpcpbfaaDoor
/- The reference's Parts. -/
namespace Go.Proofs.YtpeegcncpcpbfaaDoor
set_option maxRecDepth 20000
open Go.RowKit Go.Deep
set_option linter.unusedVariables false
def FitsK (k j esi : Int) : Prop := 1 ≤ k ∧ k ≤ 40 ∧ 0 ≤ j ∧ j ≤ 255 ∧ 0 ≤ esi ∧ esi < 16777216
theorem refParts_none (k j esi : Int) (w : World) (hf : ¬ FitsK k j esi) :
    Calls Tryd.prog 49 #[.int .i64 k, .int .i64 j, .int .i64 esi] w fun e w' => e = .returned (.slice none 0 0) ∧ w = w' := by
  have HF : Hid (k < 1 ∨ k > 40 ∨ j < 0 ∨ j > 255 ∨ esi < 0 ∨ esi ≥ 16777216) := by
    show _ ∨ _
    unfold FitsK at hf; omega
  clear hf
  by_cases c1 : k < 1
  rotate_left
  by_cases c2 : k > 40
  rotate_left
  by_cases c3 : j < 0
  rotate_left
  by_cases c4 : j > 255
  rotate_left
  by_cases c5 : esi < 0
  rotate_left
  have c6 : esi ≥ 16777216 := by have := HF.out; omega
  all_goals
    clear HF
    go_enter Tryd.func49, Tryd.ntmps49
    go_wp2
    go_ret
    exact ⟨rfl, rfl⟩
theorem refDraws_any (y : Nat) (hy : y < 4294967296) (w : World) (m r : Int) (i : Nat) (hr : RM.rand y i m = r) (h0 : -9223372036854775808 ≤ m) (h1 : m ≤ 9223372036854775807) :
    Calls Tryd.prog 68 #[.int .u32 y, .int .u32 i, .int .i64 m] w fun e w' => e = .returned (.int .i64 r) ∧ w = w' := by
  subst hr; exact refRand_any y i m hy h0 h1 w
theorem boolinfo : (Tryd.prog.info? 4).map (fun i => (i.zero, i.size, i.bytes)) = some (some (.bool false), 1, 1) := by kernel_rfl
theorem mkBools (k : Nat) (hk : k ≤ 1000) (w : World) : (Instr.makeSlice 112 (.int .i64 (k : Int)) (.int .i64 (k : Int))).run Tryd.prog w = .ok (.slice (some ⟨w.heap.size, 0, none⟩) k k) (w.alloc (.cells (madeCells #[.bool false] k) 4)) :=
  run_make_row' (P := Tryd.prog) 112 4 (.bool false) 1 Tryd.underlying112 boolinfo rfl .i64 .i64 k (by omega) (by omega) w
theorem u64_low (x : Nat) (hx : x < 18446744073709551616) : bits BinOp.and IntKind.u64 (x : Int) 4294967295 = ((x % 4294967296 : Nat) : Int) := by
  have h := u64_and_nat x 4294967295 hx (by decide)
  have e : x &&& 4294967295 = x % 4294967296 := Nat.and_two_pow_sub_one_eq_mod x 32
  rw [e] at h
  exact h
theorem cut_min (g W : Nat) : RM.clip (g : Int) 0 (W : Int) = ((min g W : Nat) : Int) := by unfold RM.clip; split <;> (try split) <;> omega
/-- Which places the reference has met. -/
def Had (w : World) (b W : Nat) (l : List Nat) : Prop := w.rowIs b 4 W (fun i => .bool (decide (i ∈ l)))
theorem Had.made (w : World) (W : Nat) : Had (w.alloc (.cells (madeCells #[.bool false] W) 4)) w.heap.size W [] :=
  (World.rowIs_made w (.bool false) W 4).congr fun i hi => by simp
theorem Had.ext {w w' : World} {b W : Nat} {l : List Nat} (h : Had w b W l) (hx : w.Extends w') : Had w' b W l := h.of_block (hx.block b h.lt)
theorem Had.grown {w w' : World} {b W : Nat} {l : List Nat} (h : Had w b W l) {r : Option Nat} (hg : w.grownBy w' r) (hr : some b ≠ r) : Had w' b W l := h.of_block (hg.block b h.lt hr)
theorem Had.set {w : World} {b W : Nat} {l : List Nat} (h : Had w b W l) (m : Nat) : Had (w.setCell ⟨b, m, none⟩ (.bool true)) b W (l ++ [m]) :=
  (World.rowIs.set h m (.bool true)).congr fun i hi => by
    by_cases e : i = m
    · subst e; simp
    · simp [e]
theorem owns_other {w : World} {B g : Nat} {e : TypeId} {s : Nat} {v : Value} {n : Nat} {xs : List Value} (h : w.ownsRow B e s v n xs) (i : Nat) (u : Value) (hg : g < B) : (w.setCell ⟨g, i, none⟩ u).ownsRow B e s v n xs :=
  h.kept (row := some g) (grown_setCell (grown_refl w (some g)) i u) (by
    cases hv : v.ownBlock with
    | none => exact .inl rfl
    | some k => refine .inr fun e => ?_
                have := (h.lt k hv).1
                have := Option.some.inj e
                omega)
end Go.Proofs.YtpeegcncpcpbfaaDoor
/- The reference's Parts, where there are some. -/
namespace Go.Proofs.YtpeegcncpcpbfaaDoor
set_option maxRecDepth 20000
open Go.RowKit Go.Deep
set_option linter.unusedVariables false
theorem last_num (y : Nat) : ∃ r : Nat, RM.rand y 3 2 = (r : Int) ∧ TM.last y = r ∧ r < 2 := by
  have h := RM.rand_below y 3 2 (by omega)
  refine ⟨TM.last y, ?_, rfl, TM.last_lt y⟩
  unfold TM.last
  omega
set_option maxRecDepth 100000 in
set_option maxHeartbeats 1000000 in
theorem refParts_some (k j esi : Nat) (w : World) (h1 : 1 ≤ k) (h2 : k ≤ 40) (hj : j ≤ 255) (he : esi < 16777216) :
    Calls Tryd.prog 49 #[.int .i64 k, .int .i64 j, .int .i64 esi] w (MadeInts w (TM.partsW (PM.w k) (TM.num j esi))) := by
  have HWK := Lib.hid (fun w => refW_any k w (by omega))
  have hwk : PM.w k ≤ 47 := PM.w_le k h2
  have hwk3 : 3 ≤ PM.w k := by unfold PM.w PM.s; omega
  generalize PM.w k = W at *
  obtain ⟨y, hyy⟩ : ∃ y, y = TM.num j esi := ⟨_, rfl⟩
  have HY32 := Lib.hid (show y < 4294967296 from hyy ▸ TM.num_lt j esi)
  rw [← hyy]
  have hyi : (j : Int) * 65537 + (esi : Int) * 31 = (y : Int) ∧ y < 18446744073709551616 ∧ y % 4294967296 = y := by
    have h := hyy
    unfold TM.num at h
    rw [Nat.mod_eq_of_lt (by omega)] at h
    have h3 : y < 4294967296 := HY32.out
    refine ⟨by omega, by omega, Nat.mod_eq_of_lt h3⟩
  have hbits := u64_low y hyi.2.1
  rw [hyi.2.2, ← hyi.1] at hbits
  have HYI := Lib.hid hyi.1
  clear hyy hyi
  obtain ⟨g, s, b, hg, hs, hb, g1, g8, sW, bW, eg, es, eb⟩ := drawn_nums W y (by omega)
  have H0 := Lib.hid (fun w => refDraws_any y HY32.out w 1048576 _ 0 rfl (by decide) (by decide))
  have HD := Lib.hid (fun w => refDegree_ext (RM.rand y 0 1048576) w)
  rw [hg] at HD
  have H1 := Lib.hid (fun w => refDraws_any y HY32.out w ((W : Int) - 1) _ 1 hs (by omega) (by omega))
  have H2 := Lib.hid (fun w => refDraws_any y HY32.out w W _ 2 hb (by omega) (by omega))
  obtain ⟨r, hr, er, hl2⟩ := last_num y
  have H3 := Lib.hid (fun w => refDraws_any y HY32.out w 2 _ 3 hr (by decide) (by decide))
  have HPL : Hid (TM.partsW W y = TM.met W (1 + s) b (min g W) ++ [W + r]) := by show _ = _; unfold TM.partsW TM.places; rw [eg, es, eb, er]
  clear hg hs hb eg es eb hr er
  generalize RM.rand y 0 1048576 = r0 at *
  have hc := cut_min g W
  obtain ⟨d, hd⟩ : ∃ d, d = min g W := ⟨_, rfl⟩
  rw [← hd] at HPL hc
  have hdW : d ≤ W := by omega
  have hd8 : d ≤ 8 := by omega
  have HC := Lib.hid (fun w => cut_any (g : Int) 0 (W : Int) w)
  rw [hc] at HC
  clear hd hc
  generalize TM.partsW W y = pw at *
  have HSN := Lib.hid (met_snoc W (1 + s) b)
  have HMS : Hid (∀ k, TM.met W (1 + s) b (k + 1) = TM.met W (1 + s) b k ++ [TM.skip W (TM.met W (1 + s) b k) W ((b + k * (1 + s)) % W)]) := fun k => rfl
  have HML := Lib.hid (TM.met_length W (1 + s) b)
  have HRA := Lib.hid (ring_at W s b)
  have HNX := Lib.hid (ring_next W)
  obtain ⟨i0, hi, hz0, hz1, hz2⟩ := info_parts intinfo
  have HI := Lib.hid hi; clear hi
  have HZ0 := Lib.hid hz0; clear hz0
  have HZ1 := Lib.hid hz1; clear hz1
  have HZ2 := Lib.hid hz2; clear hz2
  have hmk := fun w => mkBools W (by omega) w
  go_enter Tryd.func49, Tryd.ntmps49
  go_wp2_with fail
  refine (HWK.out w).mono ?_
  rintro e w' ⟨rfl, rfl⟩
  go_wp2_with fail
  rw [HYI.out]
  clear hbits
  refine (H0.out w).mono ?_
  rintro e w' ⟨rfl, rfl⟩
  go_wp2_with fail
  refine (HD.out w).mono ?_
  rintro e w1 ⟨rfl, hx1⟩
  have HX1 := Lib.hid hx1
  clear hx1
  go_wp2_with fail
  refine (HC.out w1).mono ?_
  rintro e w' ⟨rfl, rfl⟩
  go_wp2_with fail
  refine (H1.out w1).mono ?_
  rintro e w' ⟨rfl, rfl⟩
  go_wp2_with fail
  refine (H2.out w1).mono ?_
  rintro e w' ⟨rfl, rfl⟩
  go_wp2_with fail
  clear hmk H0 HD HC H1 H2 HWK HYI
  generalize hw2 : World.alloc w1 _ = w2
  have hx2 : w1.Extends w2 := by subst hw2; exact ext_alloc _ _
  have hhad : Had w2 w1.heap.size W [] := by subst hw2; exact Had.made w1 W
  have hs2 : w2.heap.size = w1.heap.size + 1 := by subst hw2; simp
  generalize hg1 : w1.heap.size = q1 at hhad hs2 ⊢
  have HQ1 : Hid (w.heap.size ≤ q1) := by have h := HX1.out.size; rw [hg1] at h; exact h
  clear hw2 hg1
  have HX2 := Lib.hid (Gr.ext_trans HX1.out hx2)
  have HH2 := Lib.hid hhad
  have HS2 : Hid (q1 + 1 = w2.heap.size) := hs2.symm
  clear hx2 hhad hs2 HX1
  go_loopw [13, 14] (fun v i wr => ∃ k : Nat, k ≤ d ∧ i = .int .i64 k ∧ Hid (w.Extends wr) ∧ Hid (w2.heap.size ≤ wr.heap.size) ∧ Hid (Had wr q1 W (TM.met W (1 + s) b k)) ∧ Hid (wr.ownsRow (q1 + 1) 3 1 v k (i64vs (nats (TM.met W (1 + s) b k))))) (fun _ i _ => (d - intOf i).toNat)
  case atStart => exact ⟨0, by omega, rfl, HX2, Lib.hid (Nat.le_refl _), HH2, Lib.hid (World.ownsRow_nil _ _ _ _)⟩
  case round =>
    obtain ⟨k, hk, rfl, HX, HSZ, HH, HOWN⟩ := hrel
    by_cases h5 : k < d
    · have HSN1 := Lib.hid (HSN.out k)
      have HMS1 := Lib.hid (HMS.out k)
      have HRA1 := Lib.hid (HRA.out k)
      have HOB : Hid (∀ g, u13.ownBlock = some g → q1 + 1 ≤ g) := fun g hg => (HOWN.out.lt g hg).1
      obtain ⟨q, hq, hnq⟩ := TM.hole W (TM.met W (1 + s) b k) (by rw [HML.out]; omega)
      have HQ := Lib.hid hnq
      clear hnq
      have hle : k * (1 + s) ≤ 8 * 1000 := Nat.mul_le_mul (by omega) (by omega)
      have hm1 : (k : Int) * (1 + (s : Int)) ≤ 8000 := by have := Int.ofNat_le.2 hle; rw [Int.natCast_mul, Int.natCast_add] at this; omega
      have hm0 : 0 ≤ (k : Int) * (1 + (s : Int)) := Int.mul_nonneg (by omega) (by omega)
      clear hle
      have hst : (b + k * (1 + s)) % W < W := Nat.mod_lt _ (by omega)
      obtain ⟨t, ht⟩ : ∃ t, t = TM.skip W (TM.met W (1 + s) b k) W ((b + k * (1 + s)) % W) := ⟨_, rfl⟩
      rw [← ht] at HSN1 HMS1
      have HTT := Lib.hid ht.symm
      clear ht
      have HSTEP : Hid (∀ m, m < W → m ∈ TM.met W (1 + s) b k → TM.skip W (TM.met W (1 + s) b k) W m = t → TM.skip W (TM.met W (1 + s) b k) W ((m + 1) % W) = t) := fun m hm hmem h => (TM.skip_step W q _ hq HQ.out m hm hmem).trans h
      clear HSN HML HRA HMS
      generalize TM.met W (1 + s) b k = l at *
      go_wp2_with fail
      go_loop [15] (fun p => ∃ m : Nat, m < W ∧ p = .int .i64 m ∧ Hid (TM.skip W l W m = t)) (fun p => TM.far W q (intOf p).toNat)
      case atStart => exact ⟨(b + k * (1 + s)) % W, hst, by rw [HRA1.out], HTT⟩
      case round =>
        obtain ⟨m, hm, rfl, HS⟩ := hrel
        have hcell := HH.out.cell (i := m) hm
        by_cases hmem : m ∈ l
        · rw [decide_eq_true hmem] at hcell
          have HNX1 := Lib.hid (HNX.out m)
          have HS1 := Lib.hid (HSTEP.out m hm hmem HS.out)
          have HF := Lib.hid (TM.far_succ W q m hq hm (fun e => HQ.out (e ▸ hmem)))
          have hnl := TM.next_lt W m (by omega)
          clear hmem
          go_wp2
          go_round
          case rel => exact ⟨(m + 1) % W, hnl, by rw [HNX1.out], HS1⟩
          case measure =>
            have h := HF.out
            rw [HNX1.out]
            show TM.far W q (((m + 1) % W : Nat) : Int).toNat < TM.far W q (m : Int).toNat
            rw [Int.toNat_natCast, Int.toNat_natCast]
            omega
        · rw [decide_eq_false hmem] at hcell
          have hfr := HH.out.frozen m
          have HE : Hid (m = t) := (TM.skip_stop W l m hmem W).symm.trans HS.out
          clear hmem HS
          obtain rfl := HE.out
          have HX6 := Lib.hid (HX.out.setCell ⟨q1, m, none⟩ (.bool true) HQ1.out)
          have HH6 : Hid (Had (wr.setCell ⟨q1, m, none⟩ (.bool true)) q1 W (TM.met W (1 + s) b (k + 1))) := by rw [HMS1.out]; exact HH.out.set m
          have HOWN6 := Lib.hid (owns_other HOWN.out m (.bool true) (Nat.lt_succ_self q1))
          have HSZ6 : Hid (w2.heap.size ≤ (wr.setCell ⟨q1, m, none⟩ (.bool true)).heap.size) := by have := HSZ.out; show _ ≤ _; simpa using this
          have hbs : q1 + 1 ≤ (wr.setCell ⟨q1, m, none⟩ (.bool true)).heap.size := by rw [HS2.out]; exact HSZ6.out
          have HBS := Lib.hid hbs
          clear HH HX HSZ
          go_wp2_with (at_builtin; refine wpList_append_own_src _ rfl _ _ 22 22 rfl (q1 + 1) 3 i0 (.int .i64 0) 1 8 Tryd.underlying22 HI.out HZ0.out HZ1.out HZ2.out rfl _ _ _ rfl (HOWN6.out.alloc _) _ 1 [.int .i64 m] rfl (src_one Tryd.underlying22 _ _ (by simp) rfl) (by unfold maxLen; omega) (by omega) (by have := HBS.out; simp at this ⊢; omega) ?_)
          intro v' w3 ho3 hg3 _
          have hg4 := grown_trans (World.grownBy_alloc _ _ _) hg3
          have HP1 : Hid (w.Extends w3) := HX6.out.grown hg4 (fun g hg => by have := HOB.out g hg; have := HQ1.out; omega)
          have HP2 : Hid (Had w3 q1 W (TM.met W (1 + s) b (k + 1))) := HH6.out.grown hg4 (fun e => by have := HOB.out q1 e.symm; omega)
          have HP3 : Hid (w2.heap.size ≤ w3.heap.size) := Nat.le_trans HSZ6.out hg4.size
          rw [HSN1.out] at ho3
          have HP4 := Lib.hid ho3
          clear ho3 hg3 hg4 hbs hcell hfr
          go_wp2
          go_roundw
          case rel => exact ⟨k + 1, by omega, by go_num, HP1, HP3, HP2, HP4⟩
          case measure => simp [intOf]; omega
    · obtain rfl : k = d := by omega
      have hbs : q1 + 1 ≤ wr.heap.size := by rw [HS2.out]; exact HSZ.out
      have HBS := Lib.hid hbs
      have HOWNB := Lib.hid (owns_base HOWN.out (Nat.le_trans HQ1.out (Nat.le_succ q1)))
      have HOB : Hid (∀ g, u13.ownBlock = some g → w.heap.size ≤ g) := fun g hg => (HOWNB.out.lt g hg).1
      have HPW : Hid (i64vs (nats (TM.met W (1 + s) b k)) ++ [.int .i64 ((W : Int) + (r : Int))] = i64vs (nats pw)) := by
        rw [HPL.out]
        show _ = i64vs (nats (_ ++ [_])); rw [nats_snoc, i64vs_snoc, Int.natCast_add]
      have HLN : Hid (pw.length = k + 1) := by rw [HPL.out, List.length_append, HML.out]; rfl
      clear HPL HML HMS HSN HRA HNX hbs
      generalize TM.met W (1 + s) b k = l at *
      go_wp2_with fail
      refine (H3.out wr).mono ?_
      rintro e w' ⟨rfl, rfl⟩
      go_wp2_with (at_builtin; refine wpList_append_own_src _ rfl _ _ 22 22 rfl w.heap.size 3 i0 (.int .i64 0) 1 8 Tryd.underlying22 HI.out HZ0.out HZ1.out HZ2.out rfl _ _ _ rfl (HOWNB.out.alloc _) _ 1 [.int .i64 ((W : Int) + (r : Int))] rfl (src_one Tryd.underlying22 _ _ rfl rfl) (by unfold maxLen; omega) (by omega) (Nat.le_trans HX.out.size (Below.size ((Below.refl 0 _).alloc (Nat.zero_le _) _))) ?_)
      intro v' w3 ho3 hg3 _
      have HP : Hid (MadeInts w pw (.returned v') w3) := by
        refine ⟨v', rfl, HX.out.grown (grown_trans (World.grownBy_alloc _ _ _) hg3) (fun g hg => HOB.out g hg), ?_⟩
        rw [HLN.out, ← HPW.out]; exact ho3
      clear ho3 hg3
      go_wp2
      go_ret
      exact HP.out
end Go.Proofs.YtpeegcncpcpbfaaDoor
/- The reference's Drop. -/
namespace Go.Proofs.YtpeegcncpcpbfaaDoor
set_option maxRecDepth 20000
open Go.RowKit Go.Deep
set_option linter.unusedVariables false
theorem refDrop_fit (k j size esi : Int) (v : Value) (w : World) (hf : ¬ FitsK k j esi) :
    Calls Tryd.prog 31 #[.int .i64 k, .int .i64 j, .int .i64 size, v, .int .i64 esi] w fun e w' => e = .returned (.slice none 0 0) ∧ w.Extends w' := by
  have HN := Lib.hid (fun w => refParts_none k j esi w hf)
  clear hf
  go_enter Tryd.func31, Tryd.ntmps31
  go_wp2_with fail
  refine (HN.out w).mono ?_
  rintro e w2 ⟨rfl, rfl⟩
  go_wp2
  go_ret
  exact ⟨rfl, Gr.ext_refl _⟩
theorem refDrop_other (k j esi : Nat) (size : Int) (a : Option Addr) (n cap : Nat) (w : World) (h1 : 1 ≤ k) (h2 : k ≤ 40) (hj : j ≤ 255) (he : esi < 16777216) (hn : (n : Int) ≠ PM.l k ∨ size < 1 ∨ 64 < size) :
    Calls Tryd.prog 31 #[.int .i64 k, .int .i64 j, .int .i64 size, .slice a n cap, .int .i64 esi] w fun e w' => e = .returned (.slice none 0 0) ∧ w.Extends w' := by
  have HS := Lib.hid (fun w => refParts_some k j esi w h1 h2 hj he)
  change Hid (∀ (w : World), Calls _ _ _ w (MadeInts w (TM.parts k j esi))) at HS
  have HL := Lib.hid (fun w => refL_any k w (by omega))
  have hpl := parts_len k j esi
  generalize TM.parts k j esi = l at *
  generalize PM.l k = L at *
  obtain ⟨q, hq⟩ : ∃ q, q = l.length := ⟨_, rfl⟩
  rw [← hq] at hpl
  have HQ := Lib.hid hq
  clear hq
  obtain ⟨hn1, hn2⟩ := hpl
  have hn0 : ((q : Int) == 0) = false := by rw [beq_eq_false_iff_ne]; omega
  by_cases hnl : (n : Int) = L
  · obtain rfl : n = L := by omega
    have hs : size < 1 ∨ 64 < size := by omega
    clear hn hnl
    rcases hs with hs | hs
    all_goals
      go_enter Tryd.func31, Tryd.ntmps31
      go_wp2_with fail
      refine (HS.out w).mono ?_
      rintro e w3 ⟨vp, rfl, hx3, hown⟩
      obtain ⟨ap, capp, rfl, hcap, hcap2⟩ := (owns_ints hown).slice
      rw [nats_length, ← HQ.out]
      have HX3 := Lib.hid hx3
      clear hx3 hown hcap hcap2 hn1
      go_wp2_with fail
      refine (HL.out w3).mono ?_
      rintro e w4 ⟨rfl, rfl⟩
      go_wp2
      go_ret
      exact ⟨rfl, HX3.out⟩
  · have hne : ((n : Int) != (L : Int)) = true := by simpa using hnl
    clear hn hnl
    go_enter Tryd.func31, Tryd.ntmps31
    go_wp2_with fail
    refine (HS.out w).mono ?_
    rintro e w3 ⟨vp, rfl, hx3, hown⟩
    obtain ⟨ap, capp, rfl, hcap, hcap2⟩ := (owns_ints hown).slice
    rw [nats_length, ← HQ.out]
    have HX3 := Lib.hid hx3
    clear hx3 hown hcap hcap2 hn1
    go_wp2_with fail
    refine (HL.out w3).mono ?_
    rintro e w4 ⟨rfl, rfl⟩
    go_wp2
    go_ret
    exact ⟨rfl, HX3.out⟩
set_option maxHeartbeats 1000000 in
set_option maxRecDepth 100000 in
theorem refDrop_some (k j size esi : Nat) (v : Value) (c : List (List Nat)) (w : World) (h1 : 1 ≤ k) (h2 : k ≤ 40) (hj : j ≤ 255) (he : esi < 16777216) (hs1 : 1 ≤ size) (hs2 : size ≤ 64) (hl : c.length = PM.l k) (hv : Rws w v c) :
    Calls Tryd.prog 31 #[.int .i64 k, .int .i64 j, .int .i64 size, v, .int .i64 esi] w (MadeRow w (DM.drop k j size c esi)) := by
  have HS := Lib.hid (fun w => refParts_some k j esi w h1 h2 hj he)
  change Hid (∀ (w : World), Calls _ _ _ w (MadeInts w (TM.parts k j esi))) at HS
  have hl2 := PM.l_le k h2
  have HL := Lib.hid (fun w => refL_any k w (by omega))
  have HPL := Lib.hid (parts_at k j esi)
  have hpl := parts_len k j esi
  have HSN := Lib.hid (DM.pick_snoc c (TM.parts k j esi))
  have HPK := Lib.hid (DM.pick_length c)
  have HD : Hid (DM.drop k j size c esi = RM.sum size (DM.pick c (TM.parts k j esi))) := rfl
  have HDL := Lib.hid (DM.drop_length k j size c esi)
  have HCUT : Hid (RM.cut (size : Int) = size) := by show _ = _; unfold RM.cut; omega
  clear he
  obtain ⟨a, cap, rfl, _⟩ := hv.slice
  have HV := Lib.hid hv.at.2
  clear hv
  generalize DM.drop k j size c esi = row at *
  generalize TM.parts k j esi = l at *
  generalize PM.l k = L at *
  rw [hl] at HV ⊢
  clear hl
  obtain ⟨n, hn⟩ : ∃ n, n = l.length := ⟨_, rfl⟩
  rw [← hn] at hpl HPL HSN
  have HN := Lib.hid hn
  clear hn
  obtain ⟨hn1, hn2⟩ := hpl
  have hn0 : ((n : Int) == 0) = false := by rw [beq_eq_false_iff_ne]; omega
  obtain ⟨i1, hi', hz0', hz1', hz2'⟩ := info_parts bytesinfo
  have HI' := Lib.hid hi'; clear hi'
  have HZ0' := Lib.hid hz0'; clear hz0'
  have HZ1' := Lib.hid hz1'; clear hz1'
  have HZ2' := Lib.hid hz2'; clear hz2'
  go_enter Tryd.func31, Tryd.ntmps31
  go_wp2_with fail
  refine (HS.out w).mono ?_
  rintro e w3 ⟨vp, rfl, hx3, hown⟩
  have hints := owns_ints hown
  obtain ⟨ap, capp, rfl, hcap, hcap2⟩ := hints.slice
  rw [nats_length, ← HN.out] at hints ⊢
  have HIN := Lib.hid hints.cell.2
  have HX3 := Lib.hid hx3
  clear hx3 hown hints hcap hcap2 hn1
  go_wp2_with fail
  refine (HL.out w3).mono ?_
  rintro e w4 ⟨rfl, rfl⟩
  go_wp2_with fail
  go_loopw [12, 13] (fun o i wr => ∃ q : Nat, q ≤ n ∧ i = .int .i64 q ∧ Hid (w3.Extends wr) ∧ Hid (Mats wr w3.heap.size w.heap.size 40 o q (DM.pick c (l.take q)))) (fun _ i _ => (n - intOf i).toNat)
  case atStart => exact ⟨0, by omega, rfl, Lib.hid (Gr.ext_refl _), Lib.hid (Mats.nil _ _ _ _ _)⟩
  case round =>
    obtain ⟨q, hq, rfl, HX, HM⟩ := hrel
    by_cases h5 : q < n
    · obtain ⟨bp, off, rfl, hbp, hc⟩ := HIN.out (by omega)
      have hc1 := HX.out.cell_of (hc q h5)
      rw [nats_at] at hc1
      have hpL := HPL.out q h5
      have HS1 := Lib.hid (HSN.out q h5)
      clear hc hbp
      generalize l.getD q 0 = p at *
      obtain ⟨bc, oc, rfl, hbc, hcc⟩ := HV.out (by omega)
      obtain ⟨ra, rc, hc3, hr0⟩ := hcc p hpL
      have hc2 := (Gr.ext_trans HX3.out HX.out).cell_of hc3
      have HOK : Hid (RowOk wr w.heap.size (.slice ra (c.getD p []).length rc) (c.getD p [])) := (RowOk.old hr0 (Nat.le_refl _)).ext (Gr.ext_trans HX3.out HX.out)
      clear hcc hc3 hr0 hbc
      obtain ⟨vs, hown, hrows⟩ := HM.out
      have HOWN := Lib.hid hown
      have HROWS := Lib.hid hrows
      have HOB : Hid (∀ g, u12.ownBlock = some g → w3.heap.size ≤ g) := fun g hg => (HOWN.out.lt g hg).1
      have hbs := HX.out.size
      have hb3 := HX3.out.size
      have HPQ : Hid (q = (DM.pick c (l.take q)).length) := by
        show _ = _; rw [HPK.out, List.length_take, ← HN.out]; omega
      clear hown hrows HM
      go_wp2_with (at_builtin; refine wpList_append_own_src _ rfl _ _ 23 23 rfl w3.heap.size 40 i1 (.slice none 0 0) 1 24 Tryd.underlying23 HI'.out HZ0'.out HZ1'.out HZ2'.out rfl _ _ _ rfl (HOWN.out.alloc _) _ 1 [.slice ra (c.getD p []).length rc] rfl (src_one Tryd.underlying23 _ _ rfl rfl) (by unfold maxLen; omega) (by omega) (by simp; omega) ?_)
      intro v' w9 ho9 hg9 _
      have HP : Hid (w3.Extends w9 ∧ Mats w9 w3.heap.size w.heap.size 40 v' (q + 1) (DM.pick c (l.take (q + 1)))) := by
        refine ⟨Gr.ext_of (((Gr.below_of HX.out).alloc hbs _).grown hg9 (by simp; omega) HOB.out), ?_⟩
        rw [← HS1.out]
        exact Mats.snoc hb3 (by decide) HPQ.out (HOWN.out.alloc _) (fun j hj => by obtain ⟨u, h1, h2⟩ := HROWS.out j hj; exact ⟨u, h1, h2.ext (ext_alloc _ _)⟩) (HOK.out.ext (ext_alloc _ _)) hg9 ho9
      clear ho9 hg9
      go_wp2
      go_roundw
      case rel => exact ⟨q + 1, by omega, by go_num, Lib.hid HP.out.1, Lib.hid HP.out.2⟩
      case measure => simp [intOf]; omega
    · obtain rfl : q = n := by omega
      have HRW : Hid (Rws wr u12 (DM.pick c l)) := by
        have h := HM.out.rws (by rw [HPK.out, List.length_take, ← HN.out]; omega)
        rw [HN.out, List.take_length] at h
        exact h
      have HXW := Lib.hid (Gr.ext_trans HX3.out HX.out)
      clear HM HX
      go_wp2_with fail
      refine (rsum_any (size : Int) u12 _ wr HRW.out).mono ?_
      rintro e w4 ⟨rfl, hb4, ho4⟩
      rw [HCUT.out, ← HD.out] at ho4
      rw [HCUT.out]
      have HP : Hid (MadeRow w row (.returned (.slice (some ⟨wr.heap.size, 0, none⟩) size size)) w4) := ⟨wr.heap.size, by rw [HDL.out], Gr.ext_trans HXW.out (Gr.ext_of hb4), HXW.out.size, ho4⟩
      clear hb4 ho4
      go_wp2
      go_ret
      exact HP.out
end Go.Proofs.YtpeegcncpcpbfaaDoor
/- The bytes of a slice as a string: string(b). -/
namespace Go.Proofs.YtpeegcncpcpbfaaDoor
set_option maxRecDepth 20000
open Go.RowKit
/-- Bytes as a string. -/
def strOf (xs : List Nat) : ByteArray := strOfNums (xs.map fun (x : Nat) => (x : Int))
theorem conv_none {P : Program} (w : World) (a : Option Addr) (cap : Nat) (src e dst : TypeId) (hs : P.underlying src = some (.slice e)) (he : P.underlying e = some (.int .u8)) (hd : P.underlying dst = some .string) :
    (convert src dst (.slice a 0 cap)).run P w = .ok (.string (strOf [])) w := by
  rw [run_convert_bytes_string w src dst e a 0 cap hs he hd]
  cases a with
  | none => simp [Conv.bytesToString]; rfl
  | some a =>
    rw [run_bytesToString w a 0 cap [] (by simp [loadCells, loadCellsFrom])]
    rfl
theorem conv_any {P : Program} {w : World} {v : Value} {xs : List Nat} (h : U8s w v xs) (src e dst : TypeId) (hs : P.underlying src = some (.slice e)) (he : P.underlying e = some (.int .u8)) (hd : P.underlying dst = some .string) :
    (convert src dst v).run P w = .ok (.string (strOf xs)) w := by
  obtain ⟨a, cap, rfl, _, _⟩ := h.slice
  by_cases h0 : xs.length = 0
  · have : xs = [] := List.eq_nil_of_length_eq_zero h0
    subst this
    exact conv_none w a cap src e dst hs he hd
  · obtain ⟨b, off, rfl, _, hc⟩ := h.cell.2 (by omega)
    refine run_convert_bytes_arg w src e hs he b off xs.length cap (xs.map fun (x : Nat) => (x : Int)) (by simp) (fun i hi => ?_) dst hd
    rw [hc i hi]
    simp [hi]
theorem strOf_inj {xs ys : List Nat} (hx : ∀ x ∈ xs, x < 256) (hy : ∀ y ∈ ys, y < 256) (h : strOf xs = strOf ys) : xs = ys := by
  have h1 : (xs.map fun (x : Nat) => UInt8.ofNat x) = ys.map fun (x : Nat) => UInt8.ofNat x := by
    have := congrArg (fun b : ByteArray => b.data.toList) h
    simpa [strOf, strOfNums, Function.comp_def] using this
  have h2 := congrArg (List.map UInt8.toNat) h1
  rw [List.map_map, List.map_map] at h2
  have e : ∀ l : List Nat, (∀ x ∈ l, x < 256) → l.map (UInt8.toNat ∘ fun (x : Nat) => UInt8.ofNat x) = l := fun l hl => by
    conv => rhs; rw [← List.map_id l]
    refine List.map_congr_left fun x hx => ?_
    simp [Nat.mod_eq_of_lt (hl x hx)]
  rwa [e xs hx, e ys hy] at h2
end Go.Proofs.YtpeegcncpcpbfaaDoor
/- The laws' helpers: From (rows as lists of bytes) and the reference's SameRows. -/
namespace Go.Proofs.YtpeegcncpcpbfaaDoor
set_option maxRecDepth 20000
open Go.RowKit Go.Deep
set_option linter.unusedVariables false
theorem conv_b {w : World} {v : Value} {xs : List Nat} (h : U8s w v xs) : (convert 40 9 v).run Tryd.prog w = .ok (.string (strOf xs)) w := conv_any h _ _ _ Tryd.underlying40 Tryd.underlying5 Tryd.underlying9
theorem take_snoc (l : List (List Nat)) (k : Nat) (h : k < l.length) : l.take k ++ [l.getD k []] = l.take (k + 1) := by
  rw [List.take_succ_eq_append_getElem h]; simp [h]
/-- Rows of a call's own: new, and they read so. -/
def MadeList (w : World) (l : List (List Nat)) (e : Ending) (w' : World) : Prop := ∃ v, e = .returned v ∧ w.Extends w' ∧ Rws w' v l
set_option maxHeartbeats 1000000 in
theorem from_any (v : Value) (l : List (List Nat)) (w : World) (hv : Rws w v l) (hm : l.length ≤ 4000) :
    Calls Tryd.prog 13 #[v] w (MadeList w l) := by
  obtain ⟨a, cap, rfl, _⟩ := hv.slice
  have HV := Lib.hid hv.at.2
  have HSN := Lib.hid (take_snoc l)
  have HTK : Hid (l.take l.length = l) := List.take_length
  have HTL : Hid (∀ k, k ≤ l.length → k = (l.take k).length) := fun k hk => by rw [List.length_take]; omega
  have HLL : Hid (l.length = l.length) := rfl
  obtain ⟨i1, hi', hz0', hz1', hz2'⟩ := info_parts bytesinfo
  have HI' := Lib.hid hi'; clear hi'
  have HZ0' := Lib.hid hz0'; clear hz0'
  have HZ1' := Lib.hid hz1'; clear hz1'
  have HZ2' := Lib.hid hz2'; clear hz2'
  clear hv
  generalize hn : l.length = n at *
  have HN := Lib.hid hn; clear hn
  go_enter Tryd.func13, Tryd.ntmps13
  go_wp2
  go_loopw [3, 4] (fun o i wr => ∃ k : Nat, k ≤ n ∧ i = .int .i64 k ∧ w.Extends wr ∧ Mats wr w.heap.size w.heap.size 40 o k (l.take k)) (fun _ i _ => (n - intOf i).toNat)
  case atStart => exact ⟨0, by omega, rfl, Gr.ext_refl _, [], World.ownsRow_nil _ _ _ _, fun j hj => absurd hj (Nat.not_lt_zero _)⟩
  case round =>
    obtain ⟨k, hk, rfl, hx, hm'⟩ := hrel
    have HX := Lib.hid hx
    have HM := Lib.hid hm'
    have hbs := hx.size
    clear hx hm'
    by_cases h1 : k < n
    · obtain ⟨b1, o1, rfl, hb1, hc1⟩ := HV.out (by omega)
      obtain ⟨ra, rc, hc3, hr0⟩ := hc1 k h1
      have hc2 := HX.out.cell_of hc3
      have HOK : Hid (RowOk wr w.heap.size (.slice ra (l.getD k []).length rc) (l.getD k [])) := (RowOk.old hr0 (Nat.le_refl _)).ext HX.out
      have HS := Lib.hid (HSN.out k h1)
      clear hc1 hc3 hr0
      obtain ⟨vs, hown, hrows⟩ := HM.out
      have HOWN := Lib.hid hown
      have HROWS := Lib.hid hrows
      have HOB : Hid (∀ g, u3.ownBlock = some g → w.heap.size ≤ g) := fun g hg => (HOWN.out.lt g hg).1
      clear hown hrows
      go_wp2_with (at_builtin; refine wpList_append_own_src _ rfl _ _ 23 23 rfl w.heap.size 40 i1 (.slice none 0 0) 1 24 Tryd.underlying23 HI'.out HZ0'.out HZ1'.out HZ2'.out rfl _ _ _ rfl (HOWN.out.alloc _) _ 1 [.slice ra (l.getD k []).length rc] rfl (src_one Tryd.underlying23 _ _ rfl rfl) (by unfold maxLen; omega) (by omega) (by simp; omega) ?_)
      intro v' w3 ho3 hg3 _
      have HP : Hid (w.Extends w3 ∧ Mats w3 w.heap.size w.heap.size 40 v' (k + 1) (l.take (k + 1))) := by
        refine ⟨Gr.ext_of (((Gr.below_of HX.out).alloc hbs _).grown hg3 (by simp; omega) HOB.out), ?_⟩
        rw [← HS.out]
        exact Mats.snoc (Nat.le_refl _) (by decide) (HTL.out k hk) (HOWN.out.alloc _) (fun j hj => by obtain ⟨u, h1, h2⟩ := HROWS.out j hj; exact ⟨u, h1, h2.ext (ext_alloc _ _)⟩) (HOK.out.ext (ext_alloc _ _)) hg3 ho3
      clear ho3 hg3
      go_wp2
      go_roundw
      case rel => exact ⟨k + 1, by omega, by go_num, HP.out⟩
      case measure => simp [intOf]; omega
    · obtain rfl : k = n := by omega
      have HP : Hid (MadeList w l (.returned u3) wr) := by
        have h := HM.out
        rw [HTK.out] at h
        exact ⟨u3, rfl, HX.out, h.rws HN.out.symm⟩
      go_wp2
      go_ret
      exact HP.out
set_option maxHeartbeats 1000000 in
theorem same_any (u v : Value) (l : List (List Nat)) (w : World) (hu : Rws w u l) (hv : Rws w v l) :
    Calls Tryd.prog 12 #[u, v] w fun e w' => e = .returned (.bool true) ∧ Below w.heap.size w w' := by
  have hm := hu.len
  obtain ⟨a, cap, rfl, _⟩ := hu.slice
  obtain ⟨a', cap', rfl, _⟩ := hv.slice
  have HU := Lib.hid hu.at.2
  have HV := Lib.hid hv.at.2
  clear hu hv
  generalize l.length = n at *
  unfold maxLen at hm
  go_enter Tryd.func12, Tryd.ntmps12
  go_wp2
  go_loopw [5] (fun i wr => ∃ k : Nat, k ≤ n ∧ i = .int .i64 k ∧ Below w.heap.size w wr) (fun i _ => (n - intOf i).toNat)
  case atStart => exact ⟨0, by omega, rfl, Below.refl _ _⟩
  case round =>
    obtain ⟨k, hk, rfl, hb⟩ := hrel
    have HB := Lib.hid hb
    clear hb
    by_cases h1 : k < n
    · obtain ⟨b1, o1, rfl, hb1, hc1⟩ := HU.out (by omega)
      obtain ⟨b2, o2, rfl, hb2, hc2⟩ := HV.out (by omega)
      obtain ⟨ra, rc, hc3, hr0⟩ := hc1 k h1
      obtain ⟨rb, rd, hc4, hr1⟩ := hc2 k h1
      have HL1 : Hid (∀ w', wr.Extends w' → w'.cell? ⟨b1, o1 + k, none⟩ = some (.slice ra (l.getD k []).length rc)) := fun w' hw' => hw'.cell_of ((HB.out.cell (p := ⟨b1, o1 + k, none⟩) hb1).trans hc3)
      have HL2 : Hid (∀ w', wr.Extends w' → w'.cell? ⟨b2, o2 + k, none⟩ = some (.slice rb (l.getD k []).length rd)) := fun w' hw' => hw'.cell_of ((HB.out.cell (p := ⟨b2, o2 + k, none⟩) hb2).trans hc4)
      have HR1 := Lib.hid (hr0.below HB.out rfl)
      have HR2 := Lib.hid (hr1.below HB.out rfl)
      clear hc1 hc2 hc3 hc4 hr0 hr1
      generalize (l.getD k []).length = q at *
      generalize l.getD k [] = xs at *
      go_wp2_with fail
      refine Gr.region 10 [(false,0),(false,1),(false,2),(false,3),(false,4),(false,5),(false,6),(false,7),(false,8),(false,9)] (by kernel_rfl) (by kernel_rfl) (fun d _ _ _ _ h => by cases d <;> exact h) ?_
      simp only [Gr.pick, List.getElem?_cons_zero, List.getElem?_cons_succ, List.drop_succ_cons, List.drop_zero]
      iterate 10
        refine Gr.walk_t ?_ (Or.inl ⟨by rfl, ?_⟩) ?_
        rotate_left
        · intro w' hw'
          have hc1 := HL1.out w' (Gr.of_drew hw')
          have hc2 := HL2.out w' (Gr.of_drew hw')
          have hv1 := conv_b (HR1.out.ext (Gr.of_drew hw'))
          have hv2 := conv_b (HR2.out.ext (Gr.of_drew hw'))
          clear hw'
          go_simp
          try with_reducible rfl
        simp only [Act.put, List.setIfInBounds_toArray, List.set_cons_zero, List.set_cons_succ]
      refine Gr.walk_nil ?_
      go_wp2
      go_roundw
      case rel => exact ⟨k + 1, by omega, by go_num, HB.out.drew⟩
      case measure => simp [intOf]; omega
    · obtain rfl : k = n := by omega
      go_wp2
      go_ret
      exact ⟨rfl, HB.out⟩
end Go.Proofs.YtpeegcncpcpbfaaDoor
/- drops.Drops, over whatever Drop answers of each number. -/
namespace Go.Proofs.YtpeegcncpcpbfaaDoor
set_option maxRecDepth 20000
open Go.RowKit Go.Deep
set_option linter.unusedVariables false
/-- The answer reads as xs, in a block of bytes. -/
def RowNew (w : World) (xs : List Nat) (e : Ending) (w' : World) : Prop := ∃ v, e = .returned v ∧ w.Extends w' ∧ RowOk w' 0 v xs
theorem new_made {w w' : World} {xs : List Nat} {e : Ending} (h : MadeRow w xs e w') : RowNew w xs e w' := by
  obtain ⟨g, rfl, hx, _, ho⟩ := h
  exact ⟨_, rfl, hx, RowOk.own ho 0 rfl rfl⟩
theorem new_nil {w w' : World} {e : Ending} (h : e = .returned (.slice none 0 0)) (hx : w.Extends w') : RowNew w [] e w' := ⟨_, h, hx, nil_u8s _ _ _, .inl rfl⟩
set_option maxHeartbeats 1000000 in
theorem drops_any (k s h j size : Int) (vc ve : Value) (es : List Int) (d : Int → List Nat) (w : World) (hl : es.length ≤ 1000000) (hv : Ints w ve es)
    (hd : ∀ e w', w.Extends w' → Calls Tryd.prog 41 #[PV k s h, .int .i64 j, .int .i64 size, vc, .int .i64 e] w' (RowNew w' (d e))) :
    Calls Tryd.prog 25 #[PV k s h, .int .i64 j, .int .i64 size, vc, ve] w (MadeList w (DM.all d es)) := by
  have HDR := Lib.hid hd
  have HYES := Lib.hid (DM.all_yes d es)
  have HNO := Lib.hid (DM.all_no d es)
  have HMS := Lib.hid (DM.map_snoc d es)
  obtain ⟨a, cap, rfl, hcap, hcap2⟩ := hv.slice
  have HCL := Lib.hid hv.cell.2
  clear hv hcap hcap2 hd
  obtain ⟨n, hn⟩ : ∃ n, n = es.length := ⟨_, rfl⟩
  rw [← hn] at HCL hl ⊢
  have HN := Lib.hid hn
  clear hn
  obtain ⟨i1, hi', hz0', hz1', hz2'⟩ := info_parts rowinfo
  have HI' := Lib.hid hi'; clear hi'
  have HZ0' := Lib.hid hz0'; clear hz0'
  have HZ1' := Lib.hid hz1'; clear hz1'
  have HZ2' := Lib.hid hz2'; clear hz2'
  go_enter Tryd.func25, Tryd.ntmps25
  go_wp2_with fail
  generalize hw1 : World.alloc w _ = w1
  have hx1 : w.Extends w1 := by subst hw1; exact prm_ext_alloc _ _
  have hp : PAt w1 w.heap.size k s h := by subst hw1; exact PAt.new w 56 k s h
  generalize w.heap.size = b at hp ⊢
  clear hw1
  have HX1 := Lib.hid hx1
  have HP1 := Lib.hid hp
  clear hx1 hp
  go_wp2_with fail
  go_loopw [11, 17] (fun o i wr => ∃ q : Nat, q ≤ n ∧ i = .int .i64 q ∧ Hid (w1.Extends wr) ∧ Hid (∀ i, i < q → 0 < (d (es.getD i 0)).length) ∧ Hid (Mats wr w1.heap.size 0 52 o q ((es.take q).map d))) (fun _ i _ => (n - intOf i).toNat)
  case atStart => exact ⟨0, by omega, rfl, Lib.hid (Gr.ext_refl _), Lib.hid (fun j hj => absurd hj (Nat.not_lt_zero _)), Lib.hid (Mats.nil _ _ _ _ _)⟩
  case round =>
    obtain ⟨q, hq, rfl, HX, HG, HM⟩ := hrel
    by_cases h5 : q < n
    · have hen : q < es.length := by have := HN.out; omega
      obtain ⟨bp, off, rfl, hbp, hc⟩ := HCL.out (by omega)
      have hc1 := (Gr.ext_trans HX1.out HX.out).cell_of (hc q h5)
      have HS1 := Lib.hid (HMS.out q hen)
      have HNO1 := Lib.hid (HNO.out q hen)
      obtain ⟨p0, p1, p2⟩ := HP1.out.ext HX.out
      clear hc hbp
      have HGS : Hid (0 < (d (es.getD q 0)).length → ∀ i, i < q + 1 → 0 < (d (es.getD i 0)).length) := fun h0 i hi => by
        by_cases hiq : i < q
        · exact HG.out i hiq
        · obtain rfl : i = q := by omega
          exact h0
      have HDQ := Lib.hid (HDR.out (es.getD q 0) wr (Gr.ext_trans HX1.out HX.out))
      generalize es.getD q 0 = x at *
      generalize d x = row at *
      go_wp2_with fail
      refine HDQ.out.mono ?_
      rintro _ wq ⟨v, rfl, hxq, hok⟩
      obtain ⟨ra, rc, rfl, _, _⟩ := hok.1.slice
      have HOK := Lib.hid hok
      have HXQ := Lib.hid (Gr.ext_trans HX.out hxq)
      obtain ⟨vs, hown, hrows⟩ := HM.out.ext hxq
      have HOWN := Lib.hid hown
      have HROWS := Lib.hid hrows
      have HOB : Hid (∀ g, u11.ownBlock = some g → w1.heap.size ≤ g) := fun g hg => (HOWN.out.lt g hg).1
      have hbs := HXQ.out.size
      have HPQ : Hid (q = ((es.take q).map d).length) := by
        show _ = _; rw [List.length_map, List.length_take, ← HN.out]; omega
      clear hown hrows hxq hok HM HDQ p0 p1 p2 hc1
      by_cases h0 : row.length = 0
      · have HP : Hid (MadeList w (DM.all d es) (.returned (.slice none 0 0)) wq) := ⟨_, rfl, Gr.ext_trans HX1.out HXQ.out, by rw [HNO1.out h0]; exact Rws.nil _ _ _⟩
        rw [h0]
        go_wp2
        go_ret
        exact HP.out
      · have hlen0 : ((row.length : Int) == 0) = false := by rw [beq_eq_false_iff_ne]; omega
        have HG2 := Lib.hid (HGS.out (by omega))
        go_wp2_with (at_builtin; refine wpList_append_own_src _ rfl _ _ 26 26 rfl w1.heap.size 52 i1 (.slice none 0 0) 1 24 Tryd.underlying26 HI'.out HZ0'.out HZ1'.out HZ2'.out rfl _ _ _ rfl (HOWN.out.alloc _) _ 1 [.slice ra row.length rc] rfl (src_one Tryd.underlying26 _ _ rfl rfl) (by unfold maxLen; omega) (by omega) (by simp; omega) ?_)
        intro v' w9 ho9 hg9 _
        have HP : Hid (w1.Extends w9 ∧ Mats w9 w1.heap.size 0 52 v' (q + 1) ((es.take (q + 1)).map d)) := by
          refine ⟨Gr.ext_of (((Gr.below_of HXQ.out).alloc hbs _).grown hg9 (by simp; omega) HOB.out), ?_⟩
          rw [← HS1.out]
          exact Mats.snoc (Nat.zero_le _) (by decide) HPQ.out (HOWN.out.alloc _) (fun j hj => by obtain ⟨u, h1, h2⟩ := HROWS.out j hj; exact ⟨u, h1, h2.ext (ext_alloc _ _)⟩) (HOK.out.ext (ext_alloc _ _)) hg9 ho9
        clear ho9 hg9
        go_wp2
        go_roundw
        case rel => exact ⟨q + 1, by omega, by go_num, Lib.hid HP.out.1, HG2, Lib.hid HP.out.2⟩
        case measure => simp [intOf]; omega
    · obtain rfl : q = n := by omega
      have HP : Hid (MadeList w (DM.all d es) (.returned u11) wr) := by
        refine ⟨u11, rfl, Gr.ext_trans HX1.out HX.out, ?_⟩
        rw [HYES.out (fun i hi => HG.out i (by have := HN.out; omega))]
        have h := HM.out.rws (by rw [List.length_map, List.length_take, ← HN.out]; omega)
        rw [HN.out, List.take_length] at h
        exact h
      go_wp2
      go_ret
      exact HP.out
end Go.Proofs.YtpeegcncpcpbfaaDoor
/- What both programs answer of any numbers and rows. -/
namespace Go.Proofs.YtpeegcncpcpbfaaDoor
set_option maxRecDepth 20000
open Go.RowKit Go.Deep
set_option linter.unusedVariables false
theorem not_right_zero8 : ¬ Right 0 0 0 := fun ⟨n, h, h1, _⟩ => by omega
/-- With Params of no block. -/
theorem drop_zero (j size esi : Int) (v : Value) (c : List (List Nat)) (w : World) (hv : Rws w v c) :
    Calls Tryd.prog 41 #[PV 0 0 0, .int .i64 j, .int .i64 size, v, .int .i64 esi] w (RowNew w []) := by
  have hm := hv.len
  obtain ⟨a, cap, rfl, _⟩ := hv.slice
  by_cases h1 : size < 1 ∨ 64 < size
  · exact (drop_size 0 0 0 j size esi _ w h1).mono fun _ _ h => new_nil h.1 h.2
  · by_cases h2 : c.length = 0
    · exact (drop_fit 0 0 0 j size esi a c.length cap w (by omega) (by omega) (by omega) (by omega) hm (fun h => not_right_zero8 h.1)).mono fun _ _ h => new_nil h.1 h.2
    · exact (drop_len 0 0 0 j size esi a c.length cap w (by omega) (by omega) (by omega) (by omega) (by omega)).mono fun _ _ h => new_nil h.1 h.2
/-- Numbers of which a block of k has a symbol. -/
def Has (k : Nat) (j size esi : Int) (n : Nat) : Prop := (0 ≤ j ∧ j ≤ 255 ∧ 1 ≤ size ∧ size ≤ 64 ∧ n = PM.l k) ∧ EsiOk esi
theorem drop_no (k : Nat) (j size esi : Int) (v : Value) (c : List (List Nat)) (w : World) (k1 : 1 ≤ k) (k2 : k ≤ 40) (hv : Rws w v c) (hn : ¬ Has k j size esi c.length) :
    Calls Tryd.prog 41 #[PV k (PM.s k) 2, .int .i64 j, .int .i64 size, v, .int .i64 esi] w (RowNew w []) := by
  have hm := hv.len
  have hs := PM.s_le k k2
  have hlk : (PM.l k : Int) = k + PM.s k + 2 := by unfold PM.l PM.w; omega
  obtain ⟨a, cap, rfl, _⟩ := hv.slice
  by_cases h1 : size < 1 ∨ 64 < size
  · exact (drop_size _ _ _ j size esi _ w h1).mono fun _ _ h => new_nil h.1 h.2
  · by_cases h2 : c.length = PM.l k
    · refine (drop_fit k (PM.s k) 2 j size esi a c.length cap w (by omega) (by omega) (by omega) (by omega) hm (fun h => hn ?_)).mono fun _ _ h => new_nil h.1 h.2
      obtain ⟨_, a1, a2, a3, a4⟩ := h
      exact ⟨⟨a1, a2, by omega, by omega, h2⟩, a3, a4⟩
    · exact (drop_len k (PM.s k) 2 j size esi a c.length cap w (by omega) (by omega) (by omega) (by omega) (by omega)).mono fun _ _ h => new_nil h.1 h.2
theorem refDrop_no (k : Nat) (j size esi : Int) (v : Value) (c : List (List Nat)) (w : World) (k1 : 1 ≤ k) (k2 : k ≤ 40) (hv : Rws w v c) (hn : ¬ Has k j size esi c.length) :
    Calls Tryd.prog 31 #[.int .i64 k, .int .i64 j, .int .i64 size, v, .int .i64 esi] w (RowNew w []) := by
  obtain ⟨a, cap, rfl, _⟩ := hv.slice
  by_cases hf : FitsK k j esi
  · have hf' := hf
    obtain ⟨_, _, a1, a2, a3, a4⟩ := hf'
    obtain ⟨jn, rfl⟩ := Int.eq_ofNat_of_zero_le a1
    obtain ⟨en, rfl⟩ := Int.eq_ofNat_of_zero_le a3
    refine (refDrop_other k jn en size a c.length cap w k1 k2 (by omega) (by omega) ?_).mono fun _ _ h => new_nil h.1 h.2
    by_cases h2 : c.length = PM.l k
    · refine .inr ?_
      by_cases h1 : size < 1 ∨ 64 < size
      · exact h1
      · exact absurd ⟨⟨a1, a2, by omega, by omega, h2⟩, a3, a4⟩ hn
    · exact .inl (by omega)
  · exact (refDrop_fit k j size esi _ w hf).mono fun _ _ h => new_nil h.1 h.2
/-- What the calls answer that are asked of k, j, size and rows c; d: the symbol of each number. -/
structure Asked8 (k j size : Int) (c : List (List Nat)) (k' s' h' er : Int) (d : Int → List Nat) : Prop where
  of : ∀ w, Calls Tryd.prog 20 #[.int .i64 k] w fun e w' => e = .returned (.tuple #[PV k' s' h', .int .i64 er]) ∧ w.Extends w'
  drop : ∀ (esi : Int) v w, Tab w → Rws w v c → Calls Tryd.prog 41 #[PV k' s' h', .int .i64 j, .int .i64 size, v, .int .i64 esi] w (RowNew w (d esi))
  refDrop : ∀ (esi : Int) v w, Rws w v c → Calls Tryd.prog 31 #[.int .i64 k, .int .i64 j, .int .i64 size, v, .int .i64 esi] w (RowNew w (d esi))
theorem asked8 (k j size : Int) (c : List (List Nat)) : ∃ k' s' h' er d, Asked8 k j size c k' s' h' er d := by
  by_cases hk : k < 1 ∨ 40 < k
  · exact ⟨0, 0, 0, 1, fun _ => [], fun w => prmOf_bad k w hk, fun esi v w _ hv => drop_zero j size esi v c w hv,
      fun esi v w hv => (refDrop_fit k j size esi v w (fun h => by have := h.1; have := h.2.1; omega)).mono fun _ _ h => new_nil h.1 h.2⟩
  · obtain ⟨n, rfl⟩ := Int.eq_ofNat_of_zero_le (show 0 ≤ k by omega)
    have n1 : 1 ≤ n := by omega
    have n2 : n ≤ 40 := by omega
    by_cases hA : 0 ≤ j ∧ j ≤ 255 ∧ 1 ≤ size ∧ size ≤ 64 ∧ c.length = PM.l n
    · have hA' := hA
      obtain ⟨a1, a2, a3, a4, a5⟩ := hA'
      obtain ⟨jn, rfl⟩ := Int.eq_ofNat_of_zero_le a1
      obtain ⟨sn, rfl⟩ := Int.eq_ofNat_of_zero_le (show 0 ≤ size by omega)
      refine ⟨n, PM.s n, 2, 0, fun e => if EsiOk e then DM.drop n jn sn c e.toNat else [], fun w => prmOf_good n w n1 n2, fun esi v w hT hv => ?_, fun esi v w hv => ?_⟩
      · by_cases he : EsiOk esi
        · have he' := he
          obtain ⟨en, rfl⟩ := Int.eq_ofNat_of_zero_le he'.1
          have := he'.2
          show Calls _ _ _ _ (RowNew w (if EsiOk (en : Int) then _ else _))
          rw [if_pos he, Int.toNat_natCast]
          exact (drop_some n jn sn en v c w n1 n2 (by omega) (by omega) (by omega) (by omega) a5 hv hT).mono fun _ _ h => new_made h
        · show Calls _ _ _ _ (RowNew w (if EsiOk esi then _ else _))
          rw [if_neg he]
          exact drop_no n jn sn esi v c w n1 n2 hv (fun h => he h.2)
      · by_cases he : EsiOk esi
        · have he' := he
          obtain ⟨en, rfl⟩ := Int.eq_ofNat_of_zero_le he'.1
          have := he'.2
          show Calls _ _ _ _ (RowNew w (if EsiOk (en : Int) then _ else _))
          rw [if_pos he, Int.toNat_natCast]
          exact (refDrop_some n jn sn en v c w n1 n2 (by omega) (by omega) (by omega) (by omega) a5 hv).mono fun _ _ h => new_made h
        · show Calls _ _ _ _ (RowNew w (if EsiOk esi then _ else _))
          rw [if_neg he]
          exact refDrop_no n jn sn esi v c w n1 n2 hv (fun h => he h.2)
    · exact ⟨n, PM.s n, 2, 0, fun _ => [], fun w => prmOf_good n w n1 n2, fun esi v w _ hv => drop_no n j size esi v c w n1 n2 hv (fun h => hA h.1), fun esi v w hv => refDrop_no n j size esi v c w n1 n2 hv (fun h => hA h.1)⟩
end Go.Proofs.YtpeegcncpcpbfaaDoor
