/- In one text: DroDrop, TupRef, TupRefParts, DroRef, Conv, From, DroDrops, DroLaw, BlkSym, FldRPower, PreRefLow, PreRefHigh, TupRefRow, PreRefMatrix, SeeRef, RefSolve, BlkRef, BlkRefNew, SplMath. -/
import Derived.Laws.BytesArg
import Derived.Handy
import Derived.Lib.Hide
import Derived.Deep.DeepCutAuto
import Derived.Test.YtippckajlghimaaDoorRows
import Derived.Test.YtippckajlghimaaDoorM1
import Derived.Test.YtippckajlghimaaDoorM2
import Derived.Test.YtippckajlghimaaDoorM3
import Derived.Test.YtippckajlghimaaDoorM8
import Derived.Test.YtippckajlghimaaDoorM9
import Derived.Test.YtippckajlghimaaDoorM10
import Derived.Test.YtippckajlghimaaDoorM11
import Derived.Test.YtippckajlghimaaDoorM13
/- drops.Drop. -/
namespace Go.Proofs.YtippckajlghimaaDoor
set_option maxRecDepth 20000
open Go.RowKit Go.Deep
set_option linter.unusedVariables false
theorem drop_size (k s h j size esi : Int) (v : Value) (w : World) (hs : size < 1 ∨ 64 < size) :
    Calls Tryd.prog 29 #[PV k s h, .int .i64 j, .int .i64 size, v, .int .i64 esi] w fun e w' => e = .returned (.slice none 0 0) ∧ w.Extends w' := by
  rcases hs with hs | hs
  all_goals
    go_enter Tryd.func29, Tryd.ntmps29
    go_wp2
    go_ret
    exact ⟨rfl, prm_ext_alloc _ _⟩
theorem drop_len (k s h j size esi : Int) (a : Option Addr) (n cap : Nat) (w : World) (h1 : 1 ≤ size) (h2 : size ≤ 64) (hb : -9223372036854775808 ≤ k + s ∧ k + s ≤ 9223372036854775807) (hb2 : -9223372036854775808 ≤ k + s + h ∧ k + s + h ≤ 9223372036854775807) (hn : (n : Int) ≠ k + s + h) :
    Calls Tryd.prog 29 #[PV k s h, .int .i64 j, .int .i64 size, .slice a n cap, .int .i64 esi] w fun e w' => e = .returned (.slice none 0 0) ∧ w.Extends w' := by
  have HL := Lib.hid (fun w => prmL_any k s h w hb hb2)
  generalize k + s + h = L at *
  have hne : ((n : Int) != L) = true := by simpa using hn
  clear hb hb2 hn
  go_enter Tryd.func29, Tryd.ntmps29
  go_wp2_with fail
  generalize hw1 : World.alloc w _ = w1
  have hx1 : w.Extends w1 := by subst hw1; exact prm_ext_alloc _ _
  have hp : PAt w1 w.heap.size k s h := by subst hw1; exact PAt.new w 56 k s h
  generalize w.heap.size = b at hp ⊢
  clear hw1
  have HX1 := Lib.hid hx1
  have HP1 := Lib.hid hp
  clear hx1 hp
  obtain ⟨p0, p1, p2⟩ := HP1.out
  go_wp2_with fail
  refine (HL.out w1).mono ?_
  rintro e w2 ⟨rfl, hx2⟩
  have HX2 := Lib.hid (Gr.ext_trans HX1.out hx2)
  clear hx2 HX1 HP1 p0 p1 p2
  go_wp2
  go_ret
  exact ⟨rfl, HX2.out⟩
theorem drop_fit (k s h j size esi : Int) (a : Option Addr) (n cap : Nat) (w : World) (h1 : 1 ≤ size) (h2 : size ≤ 64) (hb : -9223372036854775808 ≤ k + s ∧ k + s ≤ 9223372036854775807) (hn : k + s + h = (n : Int)) (hm : n ≤ maxLen) (hf : ¬ Fits k s h j esi) :
    Calls Tryd.prog 29 #[PV k s h, .int .i64 j, .int .i64 size, .slice a n cap, .int .i64 esi] w fun e w' => e = .returned (.slice none 0 0) ∧ w.Extends w' := by
  unfold maxLen at hm
  have HL := Lib.hid (fun w => prmL_any k s h w hb (by omega))
  rw [hn] at HL
  have HN := Lib.hid (fun w => parts_none k s h j esi w hf)
  clear hb hn hf
  go_enter Tryd.func29, Tryd.ntmps29
  go_wp2_with fail
  generalize hw1 : World.alloc w _ = w1
  have hx1 : w.Extends w1 := by subst hw1; exact prm_ext_alloc _ _
  have hp : PAt w1 w.heap.size k s h := by subst hw1; exact PAt.new w 56 k s h
  generalize w.heap.size = b at hp ⊢
  clear hw1
  have HX1 := Lib.hid hx1
  have HP1 := Lib.hid hp
  clear hx1 hp
  obtain ⟨p0, p1, p2⟩ := HP1.out
  go_wp2_with fail
  refine (HL.out w1).mono ?_
  rintro e w2 ⟨rfl, hx2⟩
  have HX2 := Lib.hid (Gr.ext_trans HX1.out hx2)
  have HP2 := Lib.hid (HP1.out.ext hx2)
  clear hx2 HX1 HP1 p0 p1 p2
  obtain ⟨p0, p1, p2⟩ := HP2.out
  go_wp2_with fail
  refine (HN.out w2).mono ?_
  rintro e w3 ⟨rfl, hx3⟩
  have HX3 := Lib.hid (Gr.ext_trans HX2.out hx3)
  clear hx3 HX2 HP2 p0 p1 p2
  go_wp2
  go_ret
  exact ⟨rfl, HX3.out⟩
set_option maxHeartbeats 1000000 in
set_option maxRecDepth 100000 in
theorem drop_some (k j size esi : Nat) (v : Value) (c : List (List Nat)) (w : World) (h1 : 1 ≤ k) (h2 : k ≤ 40) (hj : j ≤ 255) (he : esi < 16777216) (hs1 : 1 ≤ size) (hs2 : size ≤ 64) (hl : c.length = PM.l k) (hv : Rws w v c) (hT : Tab w) :
    Calls Tryd.prog 29 #[PV k (PM.s k) 2, .int .i64 j, .int .i64 size, v, .int .i64 esi] w (MadeRow w (DM.drop k j size c esi)) := by
  have HS := Lib.hid (fun w hT => parts_some k j esi w h1 h2 hj he hT)
  change Hid (∀ (w : World), Tab w → Calls _ _ _ w (MadeInts w (TM.parts k j esi))) at HS
  have hs := PM.s_le k h2
  have hlk : (PM.l k : Int) = k + PM.s k + 2 := by unfold PM.l PM.w; omega
  have hl2 := PM.l_le k h2
  have hL := prmL_any k (PM.s k) 2
  rw [← hlk] at hL
  have HL := Lib.hid (fun w => hL w (by omega) (by omega))
  have HPL := Lib.hid (parts_at k j esi)
  have hpl := parts_len k j esi
  have HSN := Lib.hid (DM.pick_snoc c (TM.parts k j esi))
  have HPK := Lib.hid (DM.pick_length c)
  have HD : Hid (DM.drop k j size c esi = RM.sum size (DM.pick c (TM.parts k j esi))) := rfl
  have HDL := Lib.hid (DM.drop_length k j size c esi)
  have HCUT : Hid (RM.cut (size : Int) = size) := by show _ = _; unfold RM.cut; omega
  have HT := Lib.hid hT
  clear hT hlk hL he
  obtain ⟨a, cap, rfl, _⟩ := hv.slice
  have HV := Lib.hid hv.at.2
  clear hv
  generalize DM.drop k j size c esi = row at *
  generalize TM.parts k j esi = l at *
  generalize PM.l k = L at *
  generalize PM.s k = m at *
  rw [hl] at HV ⊢
  clear hl
  obtain ⟨n, hn⟩ : ∃ n, n = l.length := ⟨_, rfl⟩
  rw [← hn] at hpl HPL HSN
  have HN := Lib.hid hn
  clear hn
  obtain ⟨hn1, hn2⟩ := hpl
  have hn0 : ((n : Int) == 0) = false := by rw [beq_eq_false_iff_ne]; omega
  obtain ⟨i1, hi', hz0', hz1', hz2'⟩ := info_parts rowinfo
  have HI' := Lib.hid hi'; clear hi'
  have HZ0' := Lib.hid hz0'; clear hz0'
  have HZ1' := Lib.hid hz1'; clear hz1'
  have HZ2' := Lib.hid hz2'; clear hz2'
  go_enter Tryd.func29, Tryd.ntmps29
  go_wp2_with fail
  generalize hw1 : World.alloc w _ = w1
  have hx1 : w.Extends w1 := by subst hw1; exact prm_ext_alloc _ _
  have hp : PAt w1 w.heap.size k m 2 := by subst hw1; exact PAt.new w 56 k m 2
  generalize w.heap.size = b at hp ⊢
  clear hw1
  have HX1 := Lib.hid hx1
  have HP1 := Lib.hid hp
  clear hx1 hp
  obtain ⟨p0, p1, p2⟩ := HP1.out
  go_wp2_with fail
  refine (HL.out w1).mono ?_
  rintro e w2 ⟨rfl, hx2⟩
  have HX2 := Lib.hid (Gr.ext_trans HX1.out hx2)
  have HP2 := Lib.hid (HP1.out.ext hx2)
  clear hx2 HX1 HP1 p0 p1 p2
  obtain ⟨p0, p1, p2⟩ := HP2.out
  go_wp2_with fail
  refine (HS.out w2 (HT.out.ext HX2.out)).mono ?_
  rintro e w3 ⟨vp, rfl, hx3, hown⟩
  have hints := owns_ints hown
  obtain ⟨ap, capp, rfl, hcap, hcap2⟩ := hints.slice
  rw [nats_length, ← HN.out] at hints ⊢
  have HIN := Lib.hid hints.cell.2
  have HX3 := Lib.hid (Gr.ext_trans HX2.out hx3)
  clear hx3 HX2 HP2 p0 p1 p2 hown hints hcap hcap2 hn1
  go_wp2_with fail
  go_loopw [12, 37] (fun o i wr => ∃ q : Nat, q ≤ n ∧ i = .int .i64 q ∧ Hid (w3.Extends wr) ∧ Hid (Mats wr w3.heap.size w.heap.size 59 o q (DM.pick c (l.take q)))) (fun _ i _ => (n - intOf i).toNat)
  case atStart => exact ⟨0, by omega, rfl, Lib.hid (Gr.ext_refl _), Lib.hid (Mats.nil _ _ _ _ _)⟩
  case round =>
    obtain ⟨q, hq, rfl, HX, HM⟩ := hrel
    by_cases h5 : q < n
    · obtain ⟨bp, off, rfl, hbp, hc⟩ := HIN.out (by omega)
      have hc1 := HX.out.cell_of (hc q h5)
      rw [nats_at] at hc1
      have hpL := HPL.out q h5
      have HS1 := Lib.hid (HSN.out q h5)
      clear hc hbp
      generalize l.getD q 0 = p at *
      obtain ⟨bc, oc, rfl, hbc, hcc⟩ := HV.out (by omega)
      obtain ⟨ra, rc, hc3, hr0⟩ := hcc p hpL
      have hc2 := (Gr.ext_trans HX3.out HX.out).cell_of hc3
      have HOK : Hid (RowOk wr w.heap.size (.slice ra (c.getD p []).length rc) (c.getD p [])) := (RowOk.old hr0 (Nat.le_refl _)).ext (Gr.ext_trans HX3.out HX.out)
      clear hcc hc3 hr0 hbc
      obtain ⟨vs, hown, hrows⟩ := HM.out
      have HOWN := Lib.hid hown
      have HROWS := Lib.hid hrows
      have HOB : Hid (∀ g, u12.ownBlock = some g → w3.heap.size ≤ g) := fun g hg => (HOWN.out.lt g hg).1
      have hbs := HX.out.size
      have hb3 := HX3.out.size
      have HPQ : Hid (q = (DM.pick c (l.take q)).length) := by
        show _ = _; rw [HPK.out, List.length_take, ← HN.out]; omega
      clear hown hrows HM
      go_wp2_with (at_builtin; refine wpList_append_own_src _ rfl _ _ 51 51 rfl w3.heap.size 59 i1 (.slice none 0 0) 1 24 Tryd.underlying51 HI'.out HZ0'.out HZ1'.out HZ2'.out rfl _ _ _ rfl (HOWN.out.alloc _) _ 1 [.slice ra (c.getD p []).length rc] rfl (src_one Tryd.underlying51 _ _ rfl rfl) (by unfold maxLen; omega) (by omega) (by simp; omega) ?_)
      intro v' w9 ho9 hg9 _
      have HP : Hid (w3.Extends w9 ∧ Mats w9 w3.heap.size w.heap.size 59 v' (q + 1) (DM.pick c (l.take (q + 1)))) := by
        refine ⟨Gr.ext_of (((Gr.below_of HX.out).alloc hbs _).grown hg9 (by simp; omega) HOB.out), ?_⟩
        rw [← HS1.out]
        exact Mats.snoc hb3 (by decide) HPQ.out (HOWN.out.alloc _) (fun j hj => by obtain ⟨u, h1, h2⟩ := HROWS.out j hj; exact ⟨u, h1, h2.ext (ext_alloc _ _)⟩) (HOK.out.ext (ext_alloc _ _)) hg9 ho9
      clear ho9 hg9
      go_wp2
      go_roundw
      case rel => exact ⟨q + 1, by omega, by go_num, Lib.hid HP.out.1, Lib.hid HP.out.2⟩
      case measure => simp [intOf]; omega
    · obtain rfl : q = n := by omega
      have HRW : Hid (Rws wr u12 (DM.pick c l)) := by
        have h := HM.out.rws (by rw [HPK.out, List.length_take, ← HN.out]; omega)
        rw [HN.out, List.take_length] at h
        exact h
      have HXW := Lib.hid (Gr.ext_trans HX3.out HX.out)
      clear HM HX
      go_wp2_with fail
      refine (sum_any (size : Int) u12 _ wr HRW.out).mono ?_
      rintro e w4 ⟨rfl, hb4, ho4⟩
      rw [HCUT.out, ← HD.out] at ho4
      rw [HCUT.out]
      have HP : Hid (MadeRow w row (.returned (.slice (some ⟨wr.heap.size, 0, none⟩) size size)) w4) := ⟨wr.heap.size, by rw [HDL.out], Gr.ext_trans HXW.out (Gr.ext_of hb4), HXW.out.size, ho4⟩
      clear hb4 ho4
      go_wp2
      go_ret
      exact HP.out
end Go.Proofs.YtippckajlghimaaDoor
/- The reference's Parts. -/
namespace Go.Proofs.YtippckajlghimaaDoor
set_option maxRecDepth 20000
open Go.RowKit Go.Deep
set_option linter.unusedVariables false
def FitsK (k j esi : Int) : Prop := 1 ≤ k ∧ k ≤ 40 ∧ 0 ≤ j ∧ j ≤ 255 ∧ 0 ≤ esi ∧ esi < 16777216
theorem boolinfo : (Tryd.prog.info? 4).map (fun i => (i.zero, i.size, i.bytes)) = some (some (.bool false), 1, 1) := by kernel_rfl
theorem u64_low (x : Nat) (hx : x < 18446744073709551616) : bits BinOp.and IntKind.u64 (x : Int) 4294967295 = ((x % 4294967296 : Nat) : Int) := by
  have h := u64_and_nat x 4294967295 hx (by decide)
  have e : x &&& 4294967295 = x % 4294967296 := Nat.and_two_pow_sub_one_eq_mod x 32
  rw [e] at h
  exact h
theorem cut_min (g W : Nat) : RM.clip (g : Int) 0 (W : Int) = ((min g W : Nat) : Int) := by unfold RM.clip; split <;> (try split) <;> omega
/-- Which places the reference has met. -/
def Had (w : World) (b W : Nat) (l : List Nat) : Prop := w.rowIs b 4 W (fun i => .bool (decide (i ∈ l)))
theorem Had.made (w : World) (W : Nat) : Had (w.alloc (.cells (madeCells #[.bool false] W) 4)) w.heap.size W [] :=
  (World.rowIs_made w (.bool false) W 4).congr fun i hi => by simp
theorem Had.ext {w w' : World} {b W : Nat} {l : List Nat} (h : Had w b W l) (hx : w.Extends w') : Had w' b W l := h.of_block (hx.block b h.lt)
theorem Had.grown {w w' : World} {b W : Nat} {l : List Nat} (h : Had w b W l) {r : Option Nat} (hg : w.grownBy w' r) (hr : some b ≠ r) : Had w' b W l := h.of_block (hg.block b h.lt hr)
theorem Had.set {w : World} {b W : Nat} {l : List Nat} (h : Had w b W l) (m : Nat) : Had (w.setCell ⟨b, m, none⟩ (.bool true)) b W (l ++ [m]) :=
  (World.rowIs.set h m (.bool true)).congr fun i hi => by
    by_cases e : i = m
    · subst e; simp
    · simp [e]
theorem owns_other {w : World} {B g : Nat} {e : TypeId} {s : Nat} {v : Value} {n : Nat} {xs : List Value} (h : w.ownsRow B e s v n xs) (i : Nat) (u : Value) (hg : g < B) : (w.setCell ⟨g, i, none⟩ u).ownsRow B e s v n xs :=
  h.kept (row := some g) (grown_setCell (grown_refl w (some g)) i u) (by
    cases hv : v.ownBlock with
    | none => exact .inl rfl
    | some k => refine .inr fun e => ?_
                have := (h.lt k hv).1
                have := Option.some.inj e
                omega)
end Go.Proofs.YtippckajlghimaaDoor
/- The reference's Parts, where there are some. -/
namespace Go.Proofs.YtippckajlghimaaDoor
set_option maxRecDepth 20000
open Go.RowKit Go.Deep
set_option linter.unusedVariables false
theorem last_num (y : Nat) : ∃ r : Nat, RM.rand y 3 2 = (r : Int) ∧ TM.last y = r ∧ r < 2 := by
  have h := RM.rand_below y 3 2 (by omega)
  refine ⟨TM.last y, ?_, rfl, TM.last_lt y⟩
  unfold TM.last
  omega
end Go.Proofs.YtippckajlghimaaDoor
/- The reference's Drop. -/
namespace Go.Proofs.YtippckajlghimaaDoor
set_option maxRecDepth 20000
open Go.RowKit Go.Deep
set_option linter.unusedVariables false
end Go.Proofs.YtippckajlghimaaDoor
/- The bytes of a slice as a string: string(b). -/
namespace Go.Proofs.YtippckajlghimaaDoor
set_option maxRecDepth 20000
open Go.RowKit
/-- Bytes as a string. -/
def strOf (xs : List Nat) : ByteArray := strOfNums (xs.map fun (x : Nat) => (x : Int))
theorem conv_none {P : Program} (w : World) (a : Option Addr) (cap : Nat) (src e dst : TypeId) (hs : P.underlying src = some (.slice e)) (he : P.underlying e = some (.int .u8)) (hd : P.underlying dst = some .string) :
    (convert src dst (.slice a 0 cap)).run P w = .ok (.string (strOf [])) w := by
  rw [run_convert_bytes_string w src dst e a 0 cap hs he hd]
  cases a with
  | none => simp [Conv.bytesToString]; rfl
  | some a =>
    rw [run_bytesToString w a 0 cap [] (by simp [loadCells, loadCellsFrom])]
    rfl
theorem conv_any {P : Program} {w : World} {v : Value} {xs : List Nat} (h : U8s w v xs) (src e dst : TypeId) (hs : P.underlying src = some (.slice e)) (he : P.underlying e = some (.int .u8)) (hd : P.underlying dst = some .string) :
    (convert src dst v).run P w = .ok (.string (strOf xs)) w := by
  obtain ⟨a, cap, rfl, _, _⟩ := h.slice
  by_cases h0 : xs.length = 0
  · have : xs = [] := List.eq_nil_of_length_eq_zero h0
    subst this
    exact conv_none w a cap src e dst hs he hd
  · obtain ⟨b, off, rfl, _, hc⟩ := h.cell.2 (by omega)
    refine run_convert_bytes_arg w src e hs he b off xs.length cap (xs.map fun (x : Nat) => (x : Int)) (by simp) (fun i hi => ?_) dst hd
    rw [hc i hi]
    simp [hi]
theorem strOf_inj {xs ys : List Nat} (hx : ∀ x ∈ xs, x < 256) (hy : ∀ y ∈ ys, y < 256) (h : strOf xs = strOf ys) : xs = ys := by
  have h1 : (xs.map fun (x : Nat) => UInt8.ofNat x) = ys.map fun (x : Nat) => UInt8.ofNat x := by
    have := congrArg (fun b : ByteArray => b.data.toList) h
    simpa [strOf, strOfNums, Function.comp_def] using this
  have h2 := congrArg (List.map UInt8.toNat) h1
  rw [List.map_map, List.map_map] at h2
  have e : ∀ l : List Nat, (∀ x ∈ l, x < 256) → l.map (UInt8.toNat ∘ fun (x : Nat) => UInt8.ofNat x) = l := fun l hl => by
    conv => rhs; rw [← List.map_id l]
    refine List.map_congr_left fun x hx => ?_
    simp [Nat.mod_eq_of_lt (hl x hx)]
  rwa [e xs hx, e ys hy] at h2
end Go.Proofs.YtippckajlghimaaDoor
/- The laws' helpers: From (rows as lists of bytes) and the reference's SameRows. -/
namespace Go.Proofs.YtippckajlghimaaDoor
set_option maxRecDepth 20000
open Go.RowKit Go.Deep
set_option linter.unusedVariables false
theorem conv_b {w : World} {v : Value} {xs : List Nat} (h : U8s w v xs) : (convert 24 9 v).run Tryd.prog w = .ok (.string (strOf xs)) w := conv_any h _ _ _ Tryd.underlying24 Tryd.underlying5 Tryd.underlying9
theorem take_snoc (l : List (List Nat)) (k : Nat) (h : k < l.length) : l.take k ++ [l.getD k []] = l.take (k + 1) := by
  rw [List.take_succ_eq_append_getElem h]; simp [h]
/-- Rows of a call's own: new, and they read so. -/
def MadeList (w : World) (l : List (List Nat)) (e : Ending) (w' : World) : Prop := ∃ v, e = .returned v ∧ w.Extends w' ∧ Rws w' v l
end Go.Proofs.YtippckajlghimaaDoor
/- drops.Drops, over whatever Drop answers of each number. -/
namespace Go.Proofs.YtippckajlghimaaDoor
set_option maxRecDepth 20000
open Go.RowKit Go.Deep
set_option linter.unusedVariables false
/-- The answer reads as xs, in a block of bytes. -/
def RowNew (w : World) (xs : List Nat) (e : Ending) (w' : World) : Prop := ∃ v, e = .returned v ∧ w.Extends w' ∧ RowOk w' 0 v xs
theorem new_made {w w' : World} {xs : List Nat} {e : Ending} (h : MadeRow w xs e w') : RowNew w xs e w' := by
  obtain ⟨g, rfl, hx, _, ho⟩ := h
  exact ⟨_, rfl, hx, RowOk.own ho 0 rfl rfl⟩
theorem new_nil {w w' : World} {e : Ending} (h : e = .returned (.slice none 0 0)) (hx : w.Extends w') : RowNew w [] e w' := ⟨_, h, hx, nil_u8s _ _ _, .inl rfl⟩
set_option maxHeartbeats 1000000 in
theorem drops_any (k s h j size : Int) (vc ve : Value) (es : List Int) (d : Int → List Nat) (w : World) (hl : es.length ≤ 1000000) (hv : Ints w ve es)
    (hd : ∀ e w', w.Extends w' → Calls Tryd.prog 29 #[PV k s h, .int .i64 j, .int .i64 size, vc, .int .i64 e] w' (RowNew w' (d e))) :
    Calls Tryd.prog 36 #[PV k s h, .int .i64 j, .int .i64 size, vc, ve] w (MadeList w (DM.all d es)) := by
  have HDR := Lib.hid hd
  have HYES := Lib.hid (DM.all_yes d es)
  have HNO := Lib.hid (DM.all_no d es)
  have HMS := Lib.hid (DM.map_snoc d es)
  obtain ⟨a, cap, rfl, hcap, hcap2⟩ := hv.slice
  have HCL := Lib.hid hv.cell.2
  clear hv hcap hcap2 hd
  obtain ⟨n, hn⟩ : ∃ n, n = es.length := ⟨_, rfl⟩
  rw [← hn] at HCL hl ⊢
  have HN := Lib.hid hn
  clear hn
  obtain ⟨i1, hi', hz0', hz1', hz2'⟩ := info_parts rowinfo
  have HI' := Lib.hid hi'; clear hi'
  have HZ0' := Lib.hid hz0'; clear hz0'
  have HZ1' := Lib.hid hz1'; clear hz1'
  have HZ2' := Lib.hid hz2'; clear hz2'
  go_enter Tryd.func36, Tryd.ntmps36
  go_wp2_with fail
  generalize hw1 : World.alloc w _ = w1
  have hx1 : w.Extends w1 := by subst hw1; exact prm_ext_alloc _ _
  have hp : PAt w1 w.heap.size k s h := by subst hw1; exact PAt.new w 56 k s h
  generalize w.heap.size = b at hp ⊢
  clear hw1
  have HX1 := Lib.hid hx1
  have HP1 := Lib.hid hp
  clear hx1 hp
  go_wp2_with fail
  go_loopw [11, 17] (fun o i wr => ∃ q : Nat, q ≤ n ∧ i = .int .i64 q ∧ Hid (w1.Extends wr) ∧ Hid (∀ i, i < q → 0 < (d (es.getD i 0)).length) ∧ Hid (Mats wr w1.heap.size 0 59 o q ((es.take q).map d))) (fun _ i _ => (n - intOf i).toNat)
  case atStart => exact ⟨0, by omega, rfl, Lib.hid (Gr.ext_refl _), Lib.hid (fun j hj => absurd hj (Nat.not_lt_zero _)), Lib.hid (Mats.nil _ _ _ _ _)⟩
  case round =>
    obtain ⟨q, hq, rfl, HX, HG, HM⟩ := hrel
    by_cases h5 : q < n
    · have hen : q < es.length := by have := HN.out; omega
      obtain ⟨bp, off, rfl, hbp, hc⟩ := HCL.out (by omega)
      have hc1 := (Gr.ext_trans HX1.out HX.out).cell_of (hc q h5)
      have HS1 := Lib.hid (HMS.out q hen)
      have HNO1 := Lib.hid (HNO.out q hen)
      obtain ⟨p0, p1, p2⟩ := HP1.out.ext HX.out
      clear hc hbp
      have HGS : Hid (0 < (d (es.getD q 0)).length → ∀ i, i < q + 1 → 0 < (d (es.getD i 0)).length) := fun h0 i hi => by
        by_cases hiq : i < q
        · exact HG.out i hiq
        · obtain rfl : i = q := by omega
          exact h0
      have HDQ := Lib.hid (HDR.out (es.getD q 0) wr (Gr.ext_trans HX1.out HX.out))
      generalize es.getD q 0 = x at *
      generalize d x = row at *
      go_wp2_with fail
      refine HDQ.out.mono ?_
      rintro _ wq ⟨v, rfl, hxq, hok⟩
      obtain ⟨ra, rc, rfl, _, _⟩ := hok.1.slice
      have HOK := Lib.hid hok
      have HXQ := Lib.hid (Gr.ext_trans HX.out hxq)
      obtain ⟨vs, hown, hrows⟩ := HM.out.ext hxq
      have HOWN := Lib.hid hown
      have HROWS := Lib.hid hrows
      have HOB : Hid (∀ g, u11.ownBlock = some g → w1.heap.size ≤ g) := fun g hg => (HOWN.out.lt g hg).1
      have hbs := HXQ.out.size
      have HPQ : Hid (q = ((es.take q).map d).length) := by
        show _ = _; rw [List.length_map, List.length_take, ← HN.out]; omega
      clear hown hrows hxq hok HM HDQ p0 p1 p2 hc1
      by_cases h0 : row.length = 0
      · have HP : Hid (MadeList w (DM.all d es) (.returned (.slice none 0 0)) wq) := ⟨_, rfl, Gr.ext_trans HX1.out HXQ.out, by rw [HNO1.out h0]; exact Rws.nil _ _ _⟩
        rw [h0]
        go_wp2
        go_ret
        exact HP.out
      · have hlen0 : ((row.length : Int) == 0) = false := by rw [beq_eq_false_iff_ne]; omega
        have HG2 := Lib.hid (HGS.out (by omega))
        go_wp2_with (at_builtin; refine wpList_append_own_src _ rfl _ _ 51 51 rfl w1.heap.size 59 i1 (.slice none 0 0) 1 24 Tryd.underlying51 HI'.out HZ0'.out HZ1'.out HZ2'.out rfl _ _ _ rfl (HOWN.out.alloc _) _ 1 [.slice ra row.length rc] rfl (src_one Tryd.underlying51 _ _ rfl rfl) (by unfold maxLen; omega) (by omega) (by simp; omega) ?_)
        intro v' w9 ho9 hg9 _
        have HP : Hid (w1.Extends w9 ∧ Mats w9 w1.heap.size 0 59 v' (q + 1) ((es.take (q + 1)).map d)) := by
          refine ⟨Gr.ext_of (((Gr.below_of HXQ.out).alloc hbs _).grown hg9 (by simp; omega) HOB.out), ?_⟩
          rw [← HS1.out]
          exact Mats.snoc (Nat.zero_le _) (by decide) HPQ.out (HOWN.out.alloc _) (fun j hj => by obtain ⟨u, h1, h2⟩ := HROWS.out j hj; exact ⟨u, h1, h2.ext (ext_alloc _ _)⟩) (HOK.out.ext (ext_alloc _ _)) hg9 ho9
        clear ho9 hg9
        go_wp2
        go_roundw
        case rel => exact ⟨q + 1, by omega, by go_num, Lib.hid HP.out.1, HG2, Lib.hid HP.out.2⟩
        case measure => simp [intOf]; omega
    · obtain rfl : q = n := by omega
      have HP : Hid (MadeList w (DM.all d es) (.returned u11) wr) := by
        refine ⟨u11, rfl, Gr.ext_trans HX1.out HX.out, ?_⟩
        rw [HYES.out (fun i hi => HG.out i (by have := HN.out; omega))]
        have h := HM.out.rws (by rw [List.length_map, List.length_take, ← HN.out]; omega)
        rw [HN.out, List.take_length] at h
        exact h
      go_wp2
      go_ret
      exact HP.out
end Go.Proofs.YtippckajlghimaaDoor
/- What both programs answer of any numbers and rows. -/
namespace Go.Proofs.YtippckajlghimaaDoor
set_option maxRecDepth 20000
open Go.RowKit Go.Deep
set_option linter.unusedVariables false
theorem not_right_zero8 : ¬ Right 0 0 0 := fun ⟨n, h, h1, _⟩ => by omega
/-- With Params of no block. -/
theorem drop_zero (j size esi : Int) (v : Value) (c : List (List Nat)) (w : World) (hv : Rws w v c) :
    Calls Tryd.prog 29 #[PV 0 0 0, .int .i64 j, .int .i64 size, v, .int .i64 esi] w (RowNew w []) := by
  have hm := hv.len
  obtain ⟨a, cap, rfl, _⟩ := hv.slice
  by_cases h1 : size < 1 ∨ 64 < size
  · exact (drop_size 0 0 0 j size esi _ w h1).mono fun _ _ h => new_nil h.1 h.2
  · by_cases h2 : c.length = 0
    · exact (drop_fit 0 0 0 j size esi a c.length cap w (by omega) (by omega) (by omega) (by omega) hm (fun h => not_right_zero8 h.1)).mono fun _ _ h => new_nil h.1 h.2
    · exact (drop_len 0 0 0 j size esi a c.length cap w (by omega) (by omega) (by omega) (by omega) (by omega)).mono fun _ _ h => new_nil h.1 h.2
/-- Numbers of which a block of k has a symbol. -/
def Has (k : Nat) (j size esi : Int) (n : Nat) : Prop := (0 ≤ j ∧ j ≤ 255 ∧ 1 ≤ size ∧ size ≤ 64 ∧ n = PM.l k) ∧ EsiOk esi
theorem drop_no (k : Nat) (j size esi : Int) (v : Value) (c : List (List Nat)) (w : World) (k1 : 1 ≤ k) (k2 : k ≤ 40) (hv : Rws w v c) (hn : ¬ Has k j size esi c.length) :
    Calls Tryd.prog 29 #[PV k (PM.s k) 2, .int .i64 j, .int .i64 size, v, .int .i64 esi] w (RowNew w []) := by
  have hm := hv.len
  have hs := PM.s_le k k2
  have hlk : (PM.l k : Int) = k + PM.s k + 2 := by unfold PM.l PM.w; omega
  obtain ⟨a, cap, rfl, _⟩ := hv.slice
  by_cases h1 : size < 1 ∨ 64 < size
  · exact (drop_size _ _ _ j size esi _ w h1).mono fun _ _ h => new_nil h.1 h.2
  · by_cases h2 : c.length = PM.l k
    · refine (drop_fit k (PM.s k) 2 j size esi a c.length cap w (by omega) (by omega) (by omega) (by omega) hm (fun h => hn ?_)).mono fun _ _ h => new_nil h.1 h.2
      obtain ⟨_, a1, a2, a3, a4⟩ := h
      exact ⟨⟨a1, a2, by omega, by omega, h2⟩, a3, a4⟩
    · exact (drop_len k (PM.s k) 2 j size esi a c.length cap w (by omega) (by omega) (by omega) (by omega) (by omega)).mono fun _ _ h => new_nil h.1 h.2
end Go.Proofs.YtippckajlghimaaDoor
/- Package block: Symbol and Size; the reference's Symbol. -/
namespace Go.Proofs.YtippckajlghimaaDoor
set_option maxRecDepth 20000
open Go.RowKit Go.Deep
set_option linter.unusedVariables false
/-- A symbol and an error. -/
def SymOut (w : World) (row : List Nat) (err : Int) (e : Ending) (w' : World) : Prop := ∃ v, e = .returned (.tuple #[v, .int .i64 err]) ∧ w.Extends w' ∧ RowOk w' 0 v row
set_option maxHeartbeats 1000000 in
theorem symbol_yes (b : Nat) (k s h j size esi : Int) (v : Value) (row : List Nat) (w : World) (hb : BAt w b k s h j size v) (hl : 0 < row.length)
    (hd : ∀ w', w.Extends w' → Calls Tryd.prog 29 #[PV k s h, .int .i64 j, .int .i64 size, v, .int .i64 esi] w' (RowNew w' row)) :
    Calls Tryd.prog 17 #[.pointer (some ⟨b, 0, none⟩), .int .i64 esi] w (SymOut w row 0) := by
  have HD := Lib.hid hd
  have HB := Lib.hid (hb.ext (Gr.ext_drew (Gr.ext_refl w)))
  clear hb hd
  go_enter Tryd.func17, Tryd.ntmps17
  go_wp2_with fail
  have HX1 : Hid (w.Extends w.drew) := Gr.ext_drew (Gr.ext_refl w)
  refine Gr.region 18 [(false,0),(false,1),(false,2),(false,3),(false,4),(false,5),(false,6),(false,7),(false,8),(false,9),(false,10),(false,11),(false,12),(false,13),(false,14),(false,15),(false,16),(true,17)] (by kernel_rfl) (by kernel_rfl) (fun d _ _ _ _ h => by cases d <;> exact h) ?_
  simp only [Gr.pick, List.getElem?_cons_zero, List.getElem?_cons_succ, List.drop_succ_cons, List.drop_zero]
  generalize w.drew = w1 at *
  iterate 17
    refine Gr.walk_t ?_ (Or.inl ⟨by rfl, ?_⟩) ?_
    rotate_left
    · intro w' hw'
      obtain ⟨p0, p1, p2, p3, p4, p5⟩ := HB.out.ext hw'
      clear hw'
      go_simp
      try with_reducible rfl
    simp only [Act.put, List.setIfInBounds_toArray, List.set_cons_zero, List.set_cons_succ]
  refine Gr.walk_c (fun K hK => ?_)
  go_simp
  refine (HD.out w1 HX1.out).mono ?_
  rintro e w2 ⟨u, rfl, hx2, hu⟩
  have hue := hu.1.slice
  have HU := Lib.hid hu
  obtain ⟨ua, uc, rfl, _⟩ := hue
  have HX2 := Lib.hid (Gr.ext_trans HX1.out hx2)
  try go_simp
  refine hK.out _ _ (hx2) ?_
  clear hK K
  clear hx2 hu HX1 HD HB
  have HP : Hid (SymOut w row 0 (.returned (.tuple #[.slice ua row.length uc, .int .i64 0])) w2) := ⟨_, rfl, HX2.out, HU.out⟩
  generalize row.length = n at *
  have hn0 : ((n : Int) == 0) = false := by rw [beq_eq_false_iff_ne]; omega
  refine Gr.walk_nil ?_
  go_wp2
  go_returns
  exact HP.out
set_option maxHeartbeats 1000000 in
theorem symbol_no (b : Nat) (k s h j size esi : Int) (v : Value) (w : World) (hb : BAt w b k s h j size v)
    (hd : ∀ w', w.Extends w' → Calls Tryd.prog 29 #[PV k s h, .int .i64 j, .int .i64 size, v, .int .i64 esi] w' (RowNew w' [])) :
    Calls Tryd.prog 17 #[.pointer (some ⟨b, 0, none⟩), .int .i64 esi] w (SymOut w [] 1) := by
  have HD := Lib.hid hd
  have HB := Lib.hid (hb.ext (Gr.ext_drew (Gr.ext_refl w)))
  clear hb hd
  go_enter Tryd.func17, Tryd.ntmps17
  go_wp2_with fail
  have HX1 : Hid (w.Extends w.drew) := Gr.ext_drew (Gr.ext_refl w)
  refine Gr.region 18 [(false,0),(false,1),(false,2),(false,3),(false,4),(false,5),(false,6),(false,7),(false,8),(false,9),(false,10),(false,11),(false,12),(false,13),(false,14),(false,15),(false,16),(true,17)] (by kernel_rfl) (by kernel_rfl) (fun d _ _ _ _ h => by cases d <;> exact h) ?_
  simp only [Gr.pick, List.getElem?_cons_zero, List.getElem?_cons_succ, List.drop_succ_cons, List.drop_zero]
  generalize w.drew = w1 at *
  iterate 17
    refine Gr.walk_t ?_ (Or.inl ⟨by rfl, ?_⟩) ?_
    rotate_left
    · intro w' hw'
      obtain ⟨p0, p1, p2, p3, p4, p5⟩ := HB.out.ext hw'
      clear hw'
      go_simp
      try with_reducible rfl
    simp only [Act.put, List.setIfInBounds_toArray, List.set_cons_zero, List.set_cons_succ]
  refine Gr.walk_c (fun K hK => ?_)
  go_simp
  refine (HD.out w1 HX1.out).mono ?_
  rintro e w2 ⟨u, rfl, hx2, hu⟩
  have hue := hu.1.slice
  obtain ⟨ua, uc, rfl, _⟩ := hue
  have HX2 := Lib.hid (Gr.ext_trans HX1.out hx2)
  try go_simp
  refine hK.out _ _ (hx2) ?_
  clear hK K
  clear hx2 hu HX1 HD HB
  have HP : Hid (SymOut w [] 1 (.returned (.tuple #[.slice none 0 0, .int .i64 1])) w2) := ⟨_, rfl, HX2.out, nil_ok _ _⟩
  refine Gr.walk_nil ?_
  go_wp2
  go_returns
  exact HP.out
/-- The symbol of a number, nothing where there is none; and the error. -/
def symOf (k j size : Nat) (c : List (List Nat)) (esi : Int) : List Nat := if EsiOk esi then DM.drop k j size c esi.toNat else []
def symErr (esi : Int) : Int := if EsiOk esi then 0 else 1
/-- Symbol of a block. -/
theorem symbol_any (b k j size : Nat) (esi : Int) (v : Value) (c : List (List Nat)) (w : World) (k1 : 1 ≤ k) (k2 : k ≤ 40) (hj : j ≤ 255) (h1 : 1 ≤ size) (h2 : size ≤ 64) (hl : c.length = PM.l k) (hb : BAt w b k (PM.s k) 2 j size v) (hv : Rws w v c) (hT : Tab w) :
    Calls Tryd.prog 17 #[.pointer (some ⟨b, 0, none⟩), .int .i64 esi] w (SymOut w (symOf k j size c esi) (symErr esi)) := by
  by_cases he : EsiOk esi
  · have he' := he
    obtain ⟨en, rfl⟩ := Int.eq_ofNat_of_zero_le he'.1
    have := he'.2
    unfold symOf symErr
    rw [if_pos he, if_pos he, Int.toNat_natCast]
    exact symbol_yes b k (PM.s k) 2 j size en v _ w hb (by rw [DM.drop_length]; exact h1) fun w' hx => (drop_some k j size en v c w' k1 k2 hj (by omega) h1 h2 hl (hv.ext hx) (hT.ext hx)).mono fun _ _ h => new_made h
  · unfold symOf symErr
    rw [if_neg he, if_neg he]
    exact symbol_no b k (PM.s k) 2 j size esi v w hb fun w' hx => drop_no k j size esi v c w' k1 k2 (hv.ext hx) (fun h => he h.2)
/-- The reference's block. -/
def RAt (w : World) (b : Nat) (k j size : Int) (v : Value) : Prop :=
  w.cell? ⟨b, 0, none⟩ = some (.int .i64 k) ∧ w.cell? ⟨b, 1, none⟩ = some (.int .i64 j) ∧ w.cell? ⟨b, 2, none⟩ = some (.int .i64 size) ∧ w.cell? ⟨b, 3, none⟩ = some v
theorem RAt.ext {w w' : World} {b : Nat} {k j size : Int} {v : Value} (hp : RAt w b k j size v) (hx : w.Extends w') : RAt w' b k j size v :=
  ⟨hx.cell_of hp.1, hx.cell_of hp.2.1, hx.cell_of hp.2.2.1, hx.cell_of hp.2.2.2⟩
theorem RAt.new (w : World) (T : TypeId) (k j size : Int) (v : Value) : RAt (w.alloc (.cells #[.int .i64 k, .int .i64 j, .int .i64 size, v] T)) w.heap.size k j size v := by
  have h0 := heap_alloc_new w (.cells #[.int .i64 k, .int .i64 j, .int .i64 size, v] T)
  exact ⟨by rw [cell_of_row _ _ _ _ _ _ h0]; rfl, by rw [cell_of_row _ _ _ _ _ _ h0]; rfl, by rw [cell_of_row _ _ _ _ _ _ h0]; rfl, by rw [cell_of_row _ _ _ _ _ _ h0]; rfl⟩
end Go.Proofs.YtippckajlghimaaDoor
/- The reference's Power. -/
namespace Go.Proofs.YtippckajlghimaaDoor
set_option maxRecDepth 20000
open Go.RowKit
end Go.Proofs.YtippckajlghimaaDoor
/- The reference's Low and High. -/
namespace Go.Proofs.YtippckajlghimaaDoor
set_option maxRecDepth 20000
open Go.RowKit Go.Deep
set_option linter.unusedVariables false
/-- Rows of a call's own. -/
def MadeMats (w : World) (l : List (List Nat)) (e : Ending) (w' : World) : Prop := ∃ v, e = .returned v ∧ w.Extends w' ∧ Mats w' w.heap.size 0 24 v l.length l
theorem Own.tab {w : World} {b : Nat} {T : TypeId} {L : Nat} {f f' : Nat → Nat} (h : Own w b T (QM.tab L f)) (c v : Nat) (hc : c < L) (hv : v < 256) (e : ∀ x, (if x = c then v else f x) = f' x) : Own (w.setCell ⟨b, c, none⟩ (.int .u8 (v : Nat))) b T (QM.tab L f') := by
  have := h.set c v (by rw [QM.tab_length]; exact hc) hv
  rw [QM.tab_set] at this
  rwa [QM.tab_congr (fun x _ => e x)] at this
theorem Own.tabAt {w : World} {b : Nat} {T : TypeId} {L : Nat} {f : Nat → Nat} (h : Own w b T (QM.tab L f)) {c : Nat} (hc : c < L) : ∃ z : Nat, w.cell? ⟨b, c, none⟩ = some (.int .u8 (z : Nat)) :=
  ⟨_, h.1.cell (by rw [QM.tab_length]; exact hc)⟩
theorem Own.tabMade (w : World) (L : Nat) (T : TypeId) (f : Nat → Nat) (hL : L ≤ maxLen) (h0 : ∀ x, f x = 0) : Own (w.alloc (.cells (madeCells #[.int .u8 0] L) T)) w.heap.size T (QM.tab L f) := by
  have := Own.made w L T hL
  rw [QM.tab_rep] at this
  rwa [QM.tab_congr (fun x _ => (h0 x).symm)] at this
end Go.Proofs.YtippckajlghimaaDoor
/- The reference's High. -/
namespace Go.Proofs.YtippckajlghimaaDoor
set_option maxRecDepth 20000
open Go.RowKit Go.Deep
set_option linter.unusedVariables false
/-- The first c elements of a high row. -/
def QM.hrow (h c x : Nat) : Nat := if x < c then QM.hv h x else 0
theorem QM.hrow_zero (h x : Nat) : QM.hrow h 0 x = 0 := if_neg (Nat.not_lt_zero _)
theorem QM.hrow_step (h c x : Nat) : (if x = c then QM.hv h c else QM.hrow h c x) = QM.hrow h (c + 1) x := by
  unfold QM.hrow
  by_cases e : x = c
  · subst e; rw [if_pos rfl, if_pos (by omega)]
  · rw [if_neg e]
    by_cases h : x < c
    · rw [if_pos h, if_pos (by omega)]
    · rw [if_neg h, if_neg (by omega)]
theorem QM.hrow_full (k h x : Nat) : (if x = PM.w k + h then 1 else QM.hrow h (PM.w k) x) = QM.hiE k h x := QM.hiE_of k h x
end Go.Proofs.YtippckajlghimaaDoor
/- The reference's Row, and SameInts. -/
namespace Go.Proofs.YtippckajlghimaaDoor
set_option maxRecDepth 20000
open Go.RowKit Go.Deep
set_option linter.unusedVariables false
end Go.Proofs.YtippckajlghimaaDoor
/- The reference's Matrix. -/
namespace Go.Proofs.YtippckajlghimaaDoor
set_option maxRecDepth 20000
open Go.RowKit Go.Deep
set_option linter.unusedVariables false
/-- What it answers of any numbers of symbols: the rows; nothing where one can't be. -/
def MatOut (w : World) (k j : Nat) (es : List Int) (e : Ending) (w' : World) : Prop := w.Extends w' ∧ (AllOk es → ∃ v, e = .returned v ∧ Mats w' w.heap.size 0 24 v (QM.mat k j es).length (QM.mat k j es)) ∧ (¬ AllOk es → e = .returned (.slice none 0 0))
end Go.Proofs.YtippckajlghimaaDoor
/- The reference's Seed. -/
namespace Go.Proofs.YtippckajlghimaaDoor
set_option maxRecDepth 20000
open Go.RowKit Go.Deep
set_option linter.unusedVariables false
end Go.Proofs.YtippckajlghimaaDoor
/- The reference's Solve. -/
namespace Go.Proofs.YtippckajlghimaaDoor
set_option maxRecDepth 20000
open Go.RowKit Go.Deep
set_option linter.unusedVariables false
theorem own_owns {w : World} {b base : Nat} {T : TypeId} {xs : List Nat} (h : Own w b T xs) (hb : base ≤ b) : w.ownsRow base T 1 (.slice (some ⟨b, 0, none⟩) xs.length xs.length) xs.length (u8vs xs) := by
  obtain ⟨⟨c, hc, hn, hi⟩, hm, _⟩ := h
  refine ⟨by rw [u8vs_length, Nat.mul_one], .inr ⟨b, xs.length, c, rfl, hb, hc, Nat.le_refl _, hm, by rw [hn, Nat.mul_one], ?_⟩⟩
  rw [Nat.mul_one]
  apply List.ext_getElem?
  intro i
  by_cases hix : i < xs.length
  · rw [List.getElem?_take, if_pos hix, Array.getElem?_toList, hi i hix]
    simp [u8vs, hix]
  · rw [List.getElem?_take, if_neg hix, List.getElem?_eq_none (by rw [u8vs_length]; omega)]
/-- append onto a slice that is full: a new array. -/
theorem run_append_full {P : Program} (w : World) (base : Nat) (t tx ty e : TypeId) (i : TypeInfo) (z : Value) (size bytes : Nat) (ht : P.underlying t = some (.slice e)) (hi : P.info? e = some i) (hz : i.zero = some z)
    (hsize : i.size = size) (hby : i.bytes = bytes) (hzs : z.cells.size = size)
    (g n cap : Nat) (xs : List Value) (hown : w.ownsRow base e size (.slice (some ⟨g, 0, none⟩) n cap) n xs) (x : Value) (m : Nat) (news : List Value) (hs : Src P size tx x m news w)
    (h63 : n + m ≤ maxLen) (hbytes : (n + m) * bytes ≤ 140737488355328) (hroom : cap < n + m) :
    ∃ v' w', (Builtin.append_ #[t, tx] ty #[.slice (some ⟨g, 0, none⟩) n cap, x]).run P w = .ok v' w' ∧ w'.ownsRow w.heap.size e size v' (n + m) (xs ++ news) ∧ w.Extends w' := by
  subst hsize
  subst hby
  have hsmall : n + m ≤ 9223372036854775807 := by simp only [maxLen] at h63; omega
  have hl := hs.newsLen
  have hlen : (xs ++ news).length = (n + m) * i.size := by rw [List.length_append, hown.1, hl, Nat.add_mul]
  have hnc : n ≤ cap := by
    rcases hown.2 with ⟨h, _⟩ | ⟨g', cap', cur, h, _, _, hnc, _⟩
    · cases h
    · cases h; exact hnc
  have holds : ∀ j u, xs[j]? = some u → w.cell? ((⟨g, 0, none⟩ : Addr).add j) = some u := hown.cells (g := g) rfl
  have hold := run_firstCells_some (P := P) w.drew i.size n ⟨g, 0, none⟩ n cap xs hown.1 (by simpa using holds)
  have hr := run_append_grow_src (P := P) w t tx ty e i z ht hi hz (some ⟨g, 0, none⟩) n cap xs hold x m news hs (by omega) (by omega) (growslice_fits (by omega) hbytes)
  have hge := grownCap_ge w (n + m) cap e
  have hcm : grownCap w (n + m) cap e ≤ maxLen := grownCap_le_maxLen w (n + m) cap e h63
  refine ⟨_, _, hr, ⟨hlen, .inr ⟨w.heap.size, _, _, rfl, Nat.le_refl _, heap_alloc_new w.drew _, hge, hcm, ?_, ?_⟩⟩, Gr.of_drew (ext_alloc w.drew _)⟩
  · simp only [Array.size_append, List.size_toArray, size_zeroCells, hzs, hlen, ← Nat.add_mul]
    congr 1
    omega
  · simp only [Array.toList_append]
    rw [← hlen]
    exact List.take_left
theorem wp_append_full {P : Program} {w : World} {o : Oper} {a : Act} {K : Act → World → Prop} {Q : Exit → Act → World → Prop} (s x : Operand) (t tx : TypeId)
    (ho : o.op = .call { callee := .builtin .append, args := #[s, x], argTypes := #[t, tx] })
    (base : Nat) (e : TypeId) (i : TypeInfo) (z : Value) (size bytes : Nat) (ht : P.underlying t = some (.slice e)) (hi : P.info? e = some i) (hz : i.zero = some z)
    (hsize : i.size = size) (hby : i.bytes = bytes) (hzs : z.cells.size = size)
    (g n cap : Nat) (xs : List Value) (hs : a.eval s = .slice (some ⟨g, 0, none⟩) n cap) (hown : w.ownsRow base e size (.slice (some ⟨g, 0, none⟩) n cap) n xs) (y : Value) (m : Nat) (news : List Value) (hx : a.eval x = y) (hsrc : Src P size tx y m news w)
    (h63 : n + m ≤ maxLen) (hbytes : (n + m) * bytes ≤ 140737488355328) (hroom : cap < n + m)
    (h : ∀ v' w', w'.ownsRow w.heap.size e size v' (n + m) (xs ++ news) → w.Extends w' → K (a.put o.dst v') w') : o.wp P a w K Q := by
  obtain ⟨v', w', hr, h2, h3⟩ := run_append_full (P := P) w base t tx o.type e i z size bytes ht hi hz hsize hby hzs g n cap xs hown y m news hsrc h63 hbytes hroom
  unfold Oper.wp execOp
  simp only [ho, resolve, invoke, builtin, Sem.run_bind, Sem.run_pure, Result.andThen_ok, List.map_toArray, List.map_cons, List.map_nil, hs, hx, hr]
  exact h v' w' h2 h3
/-- Rows with what stands beside them. -/
def augRows (W S : Nat) (m d : List (List Nat)) : List (List Nat) := (List.range m.length).map fun j => RM.sum W [m.getD j []] ++ RM.sum S [d.getD j []]
theorem augRows_at (W S : Nat) (m d : List (List Nat)) (j : Nat) (h : j < m.length) : (augRows W S m d).getD j [] = RM.sum W [m.getD j []] ++ RM.sum S [d.getD j []] := by simp [augRows, List.getD_eq_getElem?_getD, h]
theorem augRows_length (W S : Nat) (m d : List (List Nat)) : (augRows W S m d).length = m.length := by simp [augRows]
theorem augRows_snoc (W S : Nat) (m d : List (List Nat)) (k : Nat) (h : k < m.length) : (augRows W S m d).take k ++ [RM.sum W [m.getD k []] ++ RM.sum S [d.getD k []]] = (augRows W S m d).take (k + 1) := by
  rw [List.take_succ_eq_append_getElem (by rw [augRows_length]; exact h)]
  simp [augRows]
theorem aug_rv (W S : Nat) (m d : List (List Nat)) (j : Nat) (h : j < m.length) : LA.rv (augRows W S m d) j = rowsF W S m d j := funext fun i => by
  show ((augRows W S m d).getD j []).getD i 0 = (if i < W then (RM.sum W [m.getD j []]).getD i 0 else (RM.sum S [d.getD j []]).getD (i - W) 0)
  rw [augRows_at W S m d j h]
  have hl : (RM.sum W [m.getD j []]).length = W := RM.sum_length _ _
  generalize RM.sum W [m.getD j []] = A at *
  generalize RM.sum S [d.getD j []] = D at *
  split
  · rename_i hi
    simp only [List.getD_eq_getElem?_getD]
    rw [List.getElem?_append_left (by omega)]
  · rename_i hi
    simp only [List.getD_eq_getElem?_getD]
    rw [List.getElem?_append_right (by omega), hl]
theorem aug_rect (W S : Nat) {m d : List (List Nat)} (hm : ∀ r ∈ m, ∀ x ∈ r, x < 256) (hd : ∀ r ∈ d, ∀ x ∈ r, x < 256) : Rect m.length (W + S) (augRows W S m d) := by
  refine ⟨augRows_length _ _ _ _, fun j hj => by rw [augRows_at W S m d j hj, List.length_append, RM.sum_length, RM.sum_length], fun r hr x hx => ?_⟩
  obtain ⟨j, hj, rfl⟩ := List.mem_map.1 hr
  rcases List.mem_append.1 hx with h | h
  · exact LA.sum_lt _ _ (by intro s hs; simp at hs; rw [hs]; exact getD_mem_lt' hm j) x h
  · exact LA.sum_lt _ _ (by intro s hs; simp at hs; rw [hs]; exact getD_mem_lt' hd j) x h
/-- What stands beside the rows 0 to W - 1. -/
def outRows (W : Nat) (l : List (List Nat)) : List (List Nat) := (List.range W).map fun j => (l.getD j []).drop W
theorem outRows_at (W : Nat) (l : List (List Nat)) (j : Nat) (h : j < W) : (outRows W l).getD j [] = (l.getD j []).drop W := by simp [outRows, List.getD_eq_getElem?_getD, h]
theorem outRows_length (W : Nat) (l : List (List Nat)) : (outRows W l).length = W := by simp [outRows]
theorem outRows_snoc (W : Nat) (l : List (List Nat)) (k : Nat) (h : k < W) : (outRows W l).take k ++ [(l.getD k []).drop W] = (outRows W l).take (k + 1) := by
  rw [List.take_succ_eq_append_getElem (by rw [outRows_length]; exact h)]
  simp [outRows]
theorem drop_getD (xs : List Nat) (W k : Nat) : (xs.drop W).getD k 0 = xs.getD (W + k) 0 := by simp [List.getD_eq_getElem?_getD]
/-- All rows in steps with all columns, the ones behind with nothing beside them: what stands beside the first ones solves. -/
theorem ref_res {W S r n : Nat} {has : Nat → Bool} {l l0 : List (List Nat)} {f : Nat → LA.V} (h : LA.RefInv W r n has (LA.rv l) (LA.rv l0)) (hrect : Rect n (W + S) l) (hr : r = W) (he : ∀ j, j < n → LA.rv l0 j = f j) (hz : ∀ j, W ≤ j → j < n → ∀ k, k < S → (l.getD j []).getD (W + k) 0 = 0) :
    SolveRes W S (· < n) f (some (outRows W l)) := by
  have hWn : W ≤ n := by rw [← hr]; exact h.rn
  have hf : ∀ j, j < n → LA.Bd (f j) := fun j hj => by rw [← he j hj]; exact h.bd0 j hj
  have hb : ∀ k, LA.Bd (xOf (outRows W l) k) := fun k i => by
    unfold xOf
    refine getD_lt _ ?_ k
    by_cases hi : i < W
    · rw [outRows_at W l i hi]; exact fun x hx => hrect.row_lt i x (List.mem_of_mem_drop hx)
    · rw [List.getD_eq_getElem?_getD, List.getElem?_eq_none (by rw [outRows_length]; omega)]; intro x hx; cases hx
  have hu := h.unit hr
  have hsol : LA.Sol W S (· < n) (LA.rv l) (xOf (outRows W l)) := by
    refine ⟨hb, fun j hj k hk => ?_⟩
    by_cases hjW : j < W
    · rw [LA.dots_one W j _ _ hjW fun i hi hne => by rw [hu j hj i hi, if_neg (Ne.symm hne), FM.tm_zero_left], hu j hj j hjW, if_pos rfl, FM.tm_one_left _ (hb k j)]
      show (l.getD j []).getD (W + k) 0 = ((outRows W l).getD j []).getD k 0
      rw [outRows_at W l j hjW, drop_getD]
    · rw [LA.dots_zero W _ _ fun i hi => by rw [hu j hj i hi, if_neg (by omega), FM.tm_zero_left]]
      exact hz j (by omega) hj k hk
  have hrank := rank_congr h.rankIs h.bd0 he
  rw [hr] at hrank
  refine ⟨outRows_length _ _, fun i hi => by rw [outRows_at W l i hi, List.length_drop, hrect.2.1 i (by omega)]; omega, hrank.full, ?_⟩
  refine hsol.sub h.bd fun j hj => ?_
  rw [← he j hj]
  exact h.from_ j hj
theorem ref_never {W S r n : Nat} {has : Nat → Bool} {l l0 : List (List Nat)} {f : Nat → LA.V} (h : LA.RefInv W r n has (LA.rv l) (LA.rv l0)) (he : ∀ j, j < n → LA.rv l0 j = f j) {j k : Nat} (hrj : r ≤ j) (hj : j < n) (hk : k < S) (hne : (l.getD j []).getD (W + k) 0 ≠ 0) : ¬ Solvable W S (· < n) f := fun ⟨_, x, hx⟩ => by
  have hf : ∀ j, j < n → LA.Bd (f j) := fun j hj => by rw [← he j hj]; exact h.bd0 j hj
  have hs : LA.Span (· < n) f (LA.rv l j) := (h.to j hj).sub hf fun i hi => by rw [he i hi]; exact LA.Span.mem hf hi
  exact hne (hx.never hf hs (fun i hi => h.low j hrj hj i hi) k hk)
theorem U8s.drop {w : World} {b off n c : Nat} {xs : List Nat} (h : U8s w (.slice (some ⟨b, off, none⟩) n c) xs) (W : Nat) (hW : W < n) : U8s w (.slice (some ⟨b, off + W, none⟩) (n - W) (c - W)) (xs.drop W) := by
  have hm := h.len
  have hlt := h.lt
  obtain ⟨hn, hc⟩ := h.cell
  obtain ⟨a', c', hv, hcap, hm2⟩ := h.slice
  cases hv
  obtain ⟨b', o', hb', hbl, hcs⟩ := hc (by omega)
  cases hb'
  refine .inr ⟨b, off + W, c - W, by rw [List.length_drop], by rw [List.length_drop]; omega, by omega, hbl, fun k hk => ?_, fun x hx => hlt x (List.mem_of_mem_drop hx)⟩
  rw [List.length_drop] at hk
  have := hcs (W + k) (by omega)
  rw [Nat.add_assoc, this, drop_getD]
end Go.Proofs.YtippckajlghimaaDoor
/- The reference's zero and NewBlock. -/
namespace Go.Proofs.YtippckajlghimaaDoor
set_option maxRecDepth 20000
open Go.RowKit Go.Deep
set_option linter.unusedVariables false
end Go.Proofs.YtippckajlghimaaDoor
/- The reference's NewBlock. -/
namespace Go.Proofs.YtippckajlghimaaDoor
set_option maxRecDepth 20000
open Go.RowKit Go.Deep
set_option linter.unusedVariables false
/-- A block of the reference's. -/
def RNew (w : World) (k j size : Nat) (c : List (List Nat)) (e : Ending) (w' : World) : Prop :=
  ∃ b v, e = .returned (.tuple #[.pointer (some ⟨b, 0, none⟩), .int .i64 0]) ∧ w.Extends w' ∧ RAt w' b k j size v ∧ Rws w' v c
end Go.Proofs.YtippckajlghimaaDoor
/- How an object is cut: the numbers of symbols and of blocks, the rows of a block, and that what is cut and joined is as it was. -/
namespace Go.Proofs.YtippckajlghimaaDoor
set_option maxRecDepth 20000
set_option linter.unusedVariables false
namespace CM
/-- A right shape. -/
def Right (b s m : Int) : Prop := 1 ≤ b ∧ b ≤ 4000 ∧ 1 ≤ s ∧ s ≤ 64 ∧ 1 ≤ m ∧ m ≤ 40
instance (b s m : Int) : Decidable (Right b s m) := by unfold Right; infer_instance
/-- How many symbols; how many blocks; how many symbols block i has, and how many the blocks ahead of it. -/
def sy (b s : Nat) : Nat := (b - 1) / s + 1
def bl (b s m : Nat) : Nat := (sy b s - 1) / m + 1
def deal (y n i : Nat) : Nat := y / n + (if i < y % n then 1 else 0)
def ahead (y n i : Nat) : Nat := i * (y / n) + min i (y % n)
def kk (b s m i : Nat) : Nat := if i < bl b s m then deal (sy b s) (bl b s m) i else 0
theorem sy_pos (b s : Nat) : 1 ≤ sy b s := Nat.le_add_left _ _
theorem bl_pos (b s m : Nat) : 1 ≤ bl b s m := Nat.le_add_left _ _
theorem sy_le (b s : Nat) (hb : 1 ≤ b) : sy b s ≤ b := by
  have := Nat.div_le_self (b - 1) s
  unfold sy; omega
theorem bl_le (b s m : Nat) : bl b s m ≤ sy b s := by
  have h := Nat.div_le_self (sy b s - 1) m
  have := sy_pos b s
  unfold bl; omega
theorem sy_lo (b s : Nat) (hb : 1 ≤ b) (hs : 1 ≤ s) : (sy b s - 1) * s < b := by
  have := Nat.div_mul_le_self (b - 1) s
  unfold sy
  rw [Nat.add_sub_cancel]; omega
theorem sy_hi (b s : Nat) (hs : 1 ≤ s) : b ≤ sy b s * s := by
  have h := Nat.div_add_mod (b - 1) s
  have h2 := Nat.mod_lt (b - 1) (show s > 0 by omega)
  unfold sy
  rw [Nat.add_mul, Nat.one_mul, Nat.mul_comm]; omega
theorem bl_hi (b s m : Nat) (hm : 1 ≤ m) : sy b s ≤ bl b s m * m := sy_hi (sy b s) m hm
theorem up_eq (b s : Nat) (hb : 1 ≤ b) (hs : 1 ≤ s) : (b + s - 1) / s = sy b s := by
  unfold sy
  rw [show b + s - 1 = (b - 1) + s by omega, Nat.add_div_right _ (by omega)]
theorem deal_pos (y n i : Nat) (hn : 1 ≤ n) (hy : n ≤ y) : 1 ≤ deal y n i := by
  have : 1 ≤ y / n := (Nat.one_le_div_iff (by omega)).2 hy
  unfold deal; omega
theorem deal_le (y n i m : Nat) (hn : 1 ≤ n) (hy : y ≤ n * m) : deal y n i ≤ m := by
  have h := Nat.div_add_mod y n
  unfold deal
  split
  · rename_i hi
    have : y / n < m := by
      rw [Nat.div_lt_iff_lt_mul (by omega)]
      rcases Nat.lt_or_ge y (m * n) with h' | h'
      · exact h'
      · rw [Nat.mul_comm] at h'
        have : y = n * m := by omega
        rw [this, Nat.mul_mod_right] at hi; omega
    omega
  · have := (Nat.div_le_iff_le_mul_add_pred (show 0 < n by omega) (b := n) (a := y) (c := m)).2 (by omega)
    omega
theorem deal_first (y n i : Nat) : deal y n i ≤ deal y n 0 ∧ deal y n 0 ≤ deal y n i + 1 := by
  unfold deal
  split <;> split <;> omega
theorem deal_down (y n i : Nat) : deal y n (i + 1) ≤ deal y n i := by
  unfold deal
  split <;> split <;> omega
theorem ahead_zero (y n : Nat) : ahead y n 0 = 0 := by simp [ahead]
theorem ahead_succ (y n i : Nat) : ahead y n (i + 1) = ahead y n i + deal y n i := by
  unfold ahead deal
  rw [Nat.add_mul, Nat.one_mul]
  split <;> omega
theorem ahead_all (y n : Nat) (hn : 1 ≤ n) : ahead y n n = y := by
  have h := Nat.div_add_mod y n
  have := Nat.mod_lt y (show n > 0 by omega)
  unfold ahead
  rw [Nat.min_eq_right (by omega)]; omega
theorem ahead_mono (y n i : Nat) : ∀ d, ahead y n i ≤ ahead y n (i + d)
  | 0 => Nat.le_refl _
  | d + 1 => by have := ahead_mono y n i d; rw [← Nat.add_assoc, ahead_succ]; omega
theorem ahead_le (y n i : Nat) (hn : 1 ≤ n) (hi : i ≤ n) : ahead y n i ≤ y := by
  have := ahead_mono y n i (n - i)
  rw [show i + (n - i) = n by omega, ahead_all y n hn] at this
  exact this
theorem kk_le (b s m i : Nat) (hm : 1 ≤ m) : kk b s m i ≤ m := by
  unfold kk
  split
  · exact deal_le _ _ _ _ (bl_pos b s m) (bl_hi b s m hm)
  · omega
theorem kk_in (b s m i : Nat) (h : i < bl b s m) : kk b s m i = deal (sy b s) (bl b s m) i := if_pos h
theorem kk_out (b s m i : Nat) (h : ¬ i < bl b s m) : kk b s m i = 0 := if_neg h
/-- Symbol i of size bytes: bytes 0 behind the data. -/
def sym (s : Nat) (xs : List Nat) (i : Nat) : List Nat := (List.range s).map fun x => xs.getD (i * s + x) 0
def blk (s : Nat) (xs : List Nat) (a k : Nat) : List (List Nat) := (List.range k).map fun i => sym s xs (a + i)
def cut (b s m : Nat) (xs : List Nat) : List (List (List Nat)) := (List.range (bl b s m)).map fun i => blk s xs (ahead (sy b s) (bl b s m) i) (kk b s m i)
theorem sym_length (s : Nat) (xs : List Nat) (i : Nat) : (sym s xs i).length = s := by simp [sym]
theorem sym_at (s : Nat) (xs : List Nat) (i x : Nat) (hx : x < s) : (sym s xs i).getD x 0 = xs.getD (i * s + x) 0 := by simp [sym, hx]
theorem sym_lt (s : Nat) (xs : List Nat) (i : Nat) (h : ∀ x ∈ xs, x < 256) : ∀ x ∈ sym s xs i, x < 256 := by
  intro x hx
  obtain ⟨j, hj, rfl⟩ := List.mem_map.1 hx
  by_cases hl : i * s + j < xs.length
  · rw [List.getD_eq_getElem?_getD, List.getElem?_eq_getElem hl]; exact h _ (List.getElem_mem hl)
  · rw [List.getD_eq_getElem?_getD, List.getElem?_eq_none (by omega)]; decide
theorem blk_length (s : Nat) (xs : List Nat) (a k : Nat) : (blk s xs a k).length = k := by simp [blk]
theorem blk_zero (s : Nat) (xs : List Nat) (a : Nat) : blk s xs a 0 = [] := rfl
theorem blk_snoc (s : Nat) (xs : List Nat) (a k : Nat) : blk s xs a k ++ [sym s xs (a + k)] = blk s xs a (k + 1) := by
  unfold blk; rw [List.range_succ, List.map_append]; rfl
theorem blk_at (s : Nat) (xs : List Nat) (a k i : Nat) (hi : i < k) : (blk s xs a k).getD i [] = sym s xs (a + i) := by simp [blk, hi]
theorem cut_length (b s m : Nat) (xs : List Nat) : (cut b s m xs).length = bl b s m := by simp [cut]
theorem cut_at (b s m : Nat) (xs : List Nat) (i : Nat) (hi : i < bl b s m) : (cut b s m xs).getD i [] = blk s xs (ahead (sy b s) (bl b s m) i) (kk b s m i) := by simp [cut, hi]
/-- The first i blocks. -/
theorem cut_snoc (b s m : Nat) (xs : List Nat) (i : Nat) (hi : i < bl b s m) :
    (cut b s m xs).take i ++ [blk s xs (ahead (sy b s) (bl b s m) i) (kk b s m i)] = (cut b s m xs).take (i + 1) := by
  rw [List.take_succ_eq_append_getElem (by rw [cut_length]; exact hi)]
  congr 2
  have := cut_at b s m xs i hi
  rw [List.getD_eq_getElem?_getD, List.getElem?_eq_getElem (by rw [cut_length]; exact hi)] at this
  exact this.symm
/-- All rows, one behind the other. -/
def flat (l : List (List (List Nat))) : List Nat := l.flatten.flatten
/-- Whether blocks have a shape. -/
def Fit (b s m : Nat) (l : List (List (List Nat))) : Prop := l.length = bl b s m ∧ ∀ i, i < l.length → (l.getD i []).length = kk b s m i ∧ ∀ j, j < (l.getD i []).length → ((l.getD i []).getD j []).length = s
theorem flat_nil : flat [] = [] := rfl
theorem flat_snoc (l : List (List (List Nat))) (r : List (List Nat)) : flat (l ++ [r]) = flat l ++ r.flatten := by simp [flat]
theorem flatten_snoc (l : List (List Nat)) (r : List Nat) : (l ++ [r]).flatten = l.flatten ++ r := by simp
theorem flatten_length (s : Nat) : ∀ (l : List (List Nat)), (∀ j, j < l.length → (l.getD j []).length = s) → l.flatten.length = l.length * s
  | [], _ => by simp
  | r :: l, h => by
    have h0 := h 0 (by simp)
    have ih := flatten_length s l fun j hj => by have := h (j + 1) (by simp; omega); simpa using this
    have h0' : r.length = s := by simpa using h0
    rw [List.flatten_cons, List.length_append, ih, List.length_cons, Nat.add_mul, h0', Nat.one_mul, Nat.add_comm]
/-- The bytes of the blocks ahead. -/
theorem flat_length (b s m : Nat) (l : List (List (List Nat))) (h : Fit b s m l) : ∀ i, i ≤ l.length → (flat (l.take i)).length = ahead (sy b s) (bl b s m) i * s
  | 0, _ => by rw [ahead_zero]; simp [flat]
  | i + 1, hi => by
    have ih := flat_length b s m l h i (by omega)
    have hfi := h.2 i (by omega)
    have e : l.take (i + 1) = l.take i ++ [l.getD i []] := by rw [List.take_succ_eq_append_getElem (by omega)]; simp [show i < l.length by omega]
    rw [e, flat_snoc, List.length_append, ih, flatten_length s _ hfi.2, hfi.1, kk_in _ _ _ _ (by rw [← h.1]; omega), ahead_succ, Nat.add_mul]
theorem flat_all (b s m : Nat) (l : List (List (List Nat))) (h : Fit b s m l) : (flat l).length = sy b s * s := by
  have := flat_length b s m l h l.length (Nat.le_refl _)
  rw [List.take_length, h.1, ahead_all _ _ (bl_pos b s m)] at this
  exact this
theorem cut_fit (b s m : Nat) (xs : List Nat) : Fit b s m (cut b s m xs) := by
  refine ⟨cut_length _ _ _ _, fun i hi => ?_⟩
  rw [cut_length] at hi
  rw [cut_at _ _ _ _ _ hi]
  refine ⟨blk_length _ _ _ _, fun j hj => ?_⟩
  rw [blk_length] at hj
  rw [blk_at _ _ _ _ _ hj, sym_length]
/-- The data with bytes 0 behind, to n bytes. -/
def pad (n : Nat) (xs : List Nat) : List Nat := (List.range n).map fun i => xs.getD i 0
theorem pad_length (n : Nat) (xs : List Nat) : (pad n xs).length = n := by simp [pad]
theorem pad_at (n : Nat) (xs : List Nat) (i : Nat) (h : i < n) : (pad n xs).getD i 0 = xs.getD i 0 := by simp [pad, h]
theorem list_eq {xs ys : List Nat} (hl : xs.length = ys.length) (h : ∀ i, i < xs.length → xs.getD i 0 = ys.getD i 0) : xs = ys := by
  apply List.ext_getElem hl
  intro i h1 h2
  have := h i h1
  simpa [h1, h2] using this
theorem pad_sym (s : Nat) (xs : List Nat) (n : Nat) : pad (n * s) xs ++ sym s xs n = pad ((n + 1) * s) xs := by
  refine list_eq (by rw [List.length_append, pad_length, pad_length, sym_length, Nat.add_mul, Nat.one_mul]) fun i hi => ?_
  rw [List.length_append, pad_length, sym_length] at hi
  rw [pad_at _ _ _ (by rw [Nat.add_mul, Nat.one_mul]; exact hi)]
  by_cases h : i < n * s
  · rw [List.getD_eq_getElem?_getD, List.getElem?_append_left (by rw [pad_length]; exact h), ← List.getD_eq_getElem?_getD, pad_at _ _ _ h]
  · rw [List.getD_eq_getElem?_getD, List.getElem?_append_right (by rw [pad_length]; omega), ← List.getD_eq_getElem?_getD, pad_length, sym_at _ _ _ _ (by omega), show n * s + (i - n * s) = i by omega]
theorem pad_blk (s : Nat) (xs : List Nat) (a : Nat) : ∀ k, pad (a * s) xs ++ (blk s xs a k).flatten = pad ((a + k) * s) xs
  | 0 => by simp [blk]
  | k + 1 => by rw [← blk_snoc, flatten_snoc, ← List.append_assoc, pad_blk s xs a k, pad_sym, Nat.add_assoc]
theorem pad_cut (b s m : Nat) (xs : List Nat) : ∀ i, i ≤ bl b s m → flat ((cut b s m xs).take i) = pad (ahead (sy b s) (bl b s m) i * s) xs
  | 0, _ => by rw [ahead_zero]; simp [flat, pad]
  | i + 1, h => by
    rw [← cut_snoc _ _ _ _ _ (by omega), flat_snoc, pad_cut b s m xs i (by omega), pad_blk, ahead_succ, kk_in _ _ _ _ (by omega)]
theorem flat_cut (b s m : Nat) (xs : List Nat) : flat (cut b s m xs) = pad (sy b s * s) xs := by
  have := pad_cut b s m xs _ (Nat.le_refl _)
  rw [← cut_length b s m xs, List.take_length, cut_length, ahead_all _ _ (bl_pos b s m)] at this
  exact this
/-- What is cut and joined is as it was. -/
theorem join_cut (s m : Nat) (xs : List Nat) (hs : 1 ≤ s) : (flat (cut xs.length s m xs)).take xs.length = xs := by
  have hh := sy_hi xs.length s hs
  rw [flat_cut]
  have hl : ((pad (sy xs.length s * s) xs).take xs.length).length = xs.length := by rw [List.length_take, pad_length]; omega
  refine list_eq hl fun i hi => ?_
  rw [hl] at hi
  rw [List.getD_eq_getElem?_getD, List.getElem?_take, if_pos hi, ← List.getD_eq_getElem?_getD, pad_at _ _ _ (by omega)]
instance fitDec (b s m : Nat) (l : List (List (List Nat))) : Decidable (Fit b s m l) := by unfold Fit; infer_instance
end CM
end Go.Proofs.YtippckajlghimaaDoor
