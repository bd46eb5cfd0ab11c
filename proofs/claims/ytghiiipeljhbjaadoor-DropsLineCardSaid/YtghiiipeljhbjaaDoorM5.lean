/- In one text: DroRef, Conv, From, DroDrops, ToFew, RndLaid, DroLaw, DroLive. -/
import Derived.Laws.BytesArg
import Derived.Handy
import Derived.Lib.Hide
import Derived.Lib.LaidTab
import Derived.MakeChecks
import Derived.Stop.Joined
import Derived.OpenShut
import Derived.Test.YtghiiipeljhbjaaDoorM1
import Derived.Test.YtghiiipeljhbjaaDoorM2
import Derived.Test.YtghiiipeljhbjaaDoorM3
import Derived.Test.YtghiiipeljhbjaaDoorM4
/- The reference's Drop. -/
namespace Go.Proofs.YtghiiipeljhbjaaDoor
open Go.RowKit Go.Deep
set_option linter.unusedVariables false
theorem refDrop_fit (k j size esi : Int) (v : Value) (w : World) (hf : ¬ FitsK k j esi) :
    Calls Tryd.prog 10 #[.int .i64 k, .int .i64 j, .int .i64 size, v, .int .i64 esi] w fun e w' => e = .returned (.slice none 0 0) ∧ w.Extends w' := by
  have HN := Lib.hid (fun w => refParts_none k j esi w hf)
  clear hf
  go_enter Tryd.func10, Tryd.ntmps10
  go_wp2_with fail
  refine (HN.out w).mono ?_
  rintro e w2 ⟨rfl, rfl⟩
  go_wp2
  go_ret
  exact ⟨rfl, Gr.ext_refl _⟩
theorem refDrop_other (k j esi : Nat) (size : Int) (a : Option Addr) (n cap : Nat) (w : World) (h1 : 1 ≤ k) (h2 : k ≤ 40) (hj : j ≤ 255) (he : esi < 16777216) (hn : (n : Int) ≠ PM.l k ∨ size < 1 ∨ 64 < size) :
    Calls Tryd.prog 10 #[.int .i64 k, .int .i64 j, .int .i64 size, .slice a n cap, .int .i64 esi] w fun e w' => e = .returned (.slice none 0 0) ∧ w.Extends w' := by
  have HS := Lib.hid (fun w => refParts_some k j esi w h1 h2 hj he)
  change Hid (∀ (w : World), Calls _ _ _ w (MadeInts w (TM.parts k j esi))) at HS
  have HL := Lib.hid (fun w => refL_any k w (by omega))
  have hpl := parts_len k j esi
  generalize TM.parts k j esi = l at *
  generalize PM.l k = L at *
  obtain ⟨q, hq⟩ : ∃ q, q = l.length := ⟨_, rfl⟩
  rw [← hq] at hpl
  have HQ := Lib.hid hq
  clear hq
  obtain ⟨hn1, hn2⟩ := hpl
  have hn0 : ((q : Int) == 0) = false := by rw [beq_eq_false_iff_ne]; omega
  by_cases hnl : (n : Int) = L
  · obtain rfl : n = L := by omega
    have hs : size < 1 ∨ 64 < size := by omega
    clear hn hnl
    rcases hs with hs | hs
    all_goals
      go_enter Tryd.func10, Tryd.ntmps10
      go_wp2_with fail
      refine (HS.out w).mono ?_
      rintro e w3 ⟨vp, rfl, hx3, hown⟩
      obtain ⟨ap, capp, rfl, hcap, hcap2⟩ := (owns_ints hown).slice
      rw [nats_length, ← HQ.out]
      have HX3 := Lib.hid hx3
      clear hx3 hown hcap hcap2 hn1
      go_wp2_with fail
      refine (HL.out w3).mono ?_
      rintro e w4 ⟨rfl, rfl⟩
      go_wp2
      go_ret
      exact ⟨rfl, HX3.out⟩
  · have hne : ((n : Int) != (L : Int)) = true := by simpa using hnl
    clear hn hnl
    go_enter Tryd.func10, Tryd.ntmps10
    go_wp2_with fail
    refine (HS.out w).mono ?_
    rintro e w3 ⟨vp, rfl, hx3, hown⟩
    obtain ⟨ap, capp, rfl, hcap, hcap2⟩ := (owns_ints hown).slice
    rw [nats_length, ← HQ.out]
    have HX3 := Lib.hid hx3
    clear hx3 hown hcap hcap2 hn1
    go_wp2_with fail
    refine (HL.out w3).mono ?_
    rintro e w4 ⟨rfl, rfl⟩
    go_wp2
    go_ret
    exact ⟨rfl, HX3.out⟩
set_option maxHeartbeats 1000000 in
set_option maxRecDepth 100000 in
theorem refDrop_some (k j size esi : Nat) (v : Value) (c : List (List Nat)) (w : World) (h1 : 1 ≤ k) (h2 : k ≤ 40) (hj : j ≤ 255) (he : esi < 16777216) (hs1 : 1 ≤ size) (hs2 : size ≤ 64) (hl : c.length = PM.l k) (hv : Rws w v c) :
    Calls Tryd.prog 10 #[.int .i64 k, .int .i64 j, .int .i64 size, v, .int .i64 esi] w (MadeRow w (DM.drop k j size c esi)) := by
  have HS := Lib.hid (fun w => refParts_some k j esi w h1 h2 hj he)
  change Hid (∀ (w : World), Calls _ _ _ w (MadeInts w (TM.parts k j esi))) at HS
  have hl2 := PM.l_le k h2
  have HL := Lib.hid (fun w => refL_any k w (by omega))
  have HPL := Lib.hid (parts_at k j esi)
  have hpl := parts_len k j esi
  have HSN := Lib.hid (DM.pick_snoc c (TM.parts k j esi))
  have HPK := Lib.hid (DM.pick_length c)
  have HD : Hid (DM.drop k j size c esi = RM.sum size (DM.pick c (TM.parts k j esi))) := rfl
  have HDL := Lib.hid (DM.drop_length k j size c esi)
  have HCUT : Hid (RM.cut (size : Int) = size) := by show _ = _; unfold RM.cut; omega
  clear he
  obtain ⟨a, cap, rfl, _⟩ := hv.slice
  have HV := Lib.hid hv.at.2
  clear hv
  generalize DM.drop k j size c esi = row at *
  generalize TM.parts k j esi = l at *
  generalize PM.l k = L at *
  rw [hl] at HV ⊢
  clear hl
  obtain ⟨n, hn⟩ : ∃ n, n = l.length := ⟨_, rfl⟩
  rw [← hn] at hpl HPL HSN
  have HN := Lib.hid hn
  clear hn
  obtain ⟨hn1, hn2⟩ := hpl
  have hn0 : ((n : Int) == 0) = false := by rw [beq_eq_false_iff_ne]; omega
  obtain ⟨i1, hi', hz0', hz1', hz2'⟩ := info_parts bytesinfo
  have HI' := Lib.hid hi'; clear hi'
  have HZ0' := Lib.hid hz0'; clear hz0'
  have HZ1' := Lib.hid hz1'; clear hz1'
  have HZ2' := Lib.hid hz2'; clear hz2'
  go_enter Tryd.func10, Tryd.ntmps10
  go_wp2_with fail
  refine (HS.out w).mono ?_
  rintro e w3 ⟨vp, rfl, hx3, hown⟩
  have hints := owns_ints hown
  obtain ⟨ap, capp, rfl, hcap, hcap2⟩ := hints.slice
  rw [nats_length, ← HN.out] at hints ⊢
  have HIN := Lib.hid hints.cell.2
  have HX3 := Lib.hid hx3
  clear hx3 hown hints hcap hcap2 hn1
  go_wp2_with fail
  refine (HL.out w3).mono ?_
  rintro e w4 ⟨rfl, rfl⟩
  go_wp2_with fail
  go_loopw [12, 13] (fun o i wr => ∃ q : Nat, q ≤ n ∧ i = .int .i64 q ∧ Hid (w3.Extends wr) ∧ Hid (Mats wr w3.heap.size w.heap.size 33 o q (DM.pick c (l.take q)))) (fun _ i _ => (n - intOf i).toNat)
  case atStart => exact ⟨0, by omega, rfl, Lib.hid (Gr.ext_refl _), Lib.hid (Mats.nil _ _ _ _ _)⟩
  case round =>
    obtain ⟨q, hq, rfl, HX, HM⟩ := hrel
    by_cases h5 : q < n
    · obtain ⟨bp, off, rfl, hbp, hc⟩ := HIN.out (by omega)
      have hc1 := HX.out.cell_of (hc q h5)
      rw [nats_at] at hc1
      have hpL := HPL.out q h5
      have HS1 := Lib.hid (HSN.out q h5)
      clear hc hbp
      generalize l.getD q 0 = p at *
      obtain ⟨bc, oc, rfl, hbc, hcc⟩ := HV.out (by omega)
      obtain ⟨ra, rc, hc3, hr0⟩ := hcc p hpL
      have hc2 := (Gr.ext_trans HX3.out HX.out).cell_of hc3
      have HOK : Hid (RowOk wr w.heap.size (.slice ra (c.getD p []).length rc) (c.getD p [])) := (RowOk.old hr0 (Nat.le_refl _)).ext (Gr.ext_trans HX3.out HX.out)
      clear hcc hc3 hr0 hbc
      obtain ⟨vs, hown, hrows⟩ := HM.out
      have HOWN := Lib.hid hown
      have HROWS := Lib.hid hrows
      have HOB : Hid (∀ g, u12.ownBlock = some g → w3.heap.size ≤ g) := fun g hg => (HOWN.out.lt g hg).1
      have hbs := HX.out.size
      have hb3 := HX3.out.size
      have HPQ : Hid (q = (DM.pick c (l.take q)).length) := by
        show _ = _; rw [HPK.out, List.length_take, ← HN.out]; omega
      clear hown hrows HM
      go_wp2_with (at_builtin; refine wpList_append_own_src _ rfl _ _ 22 22 rfl w3.heap.size 33 i1 (.slice none 0 0) 1 24 Tryd.underlying22 HI'.out HZ0'.out HZ1'.out HZ2'.out rfl _ _ _ rfl (HOWN.out.alloc _) _ 1 [.slice ra (c.getD p []).length rc] rfl (src_one Tryd.underlying22 _ _ rfl rfl) (by unfold maxLen; omega) (by omega) (by simp; omega) ?_)
      intro v' w9 ho9 hg9 _
      have HP : Hid (w3.Extends w9 ∧ Mats w9 w3.heap.size w.heap.size 33 v' (q + 1) (DM.pick c (l.take (q + 1)))) := by
        refine ⟨Gr.ext_of (((Gr.below_of HX.out).alloc hbs _).grown hg9 (by simp; omega) HOB.out), ?_⟩
        rw [← HS1.out]
        exact Mats.snoc hb3 (by decide) HPQ.out (HOWN.out.alloc _) (fun j hj => by obtain ⟨u, h1, h2⟩ := HROWS.out j hj; exact ⟨u, h1, h2.ext (ext_alloc _ _)⟩) (HOK.out.ext (ext_alloc _ _)) hg9 ho9
      clear ho9 hg9
      go_wp2
      go_roundw
      case rel => exact ⟨q + 1, by omega, by go_num, Lib.hid HP.out.1, Lib.hid HP.out.2⟩
      case measure => simp [intOf]; omega
    · obtain rfl : q = n := by omega
      have HRW : Hid (Rws wr u12 (DM.pick c l)) := by
        have h := HM.out.rws (by rw [HPK.out, List.length_take, ← HN.out]; omega)
        rw [HN.out, List.take_length] at h
        exact h
      have HXW := Lib.hid (Gr.ext_trans HX3.out HX.out)
      clear HM HX
      go_wp2_with fail
      refine (rsum_any (size : Int) u12 _ wr HRW.out).mono ?_
      rintro e w4 ⟨rfl, hb4, ho4⟩
      rw [HCUT.out, ← HD.out] at ho4
      rw [HCUT.out]
      have HP : Hid (MadeRow w row (.returned (.slice (some ⟨wr.heap.size, 0, none⟩) size size)) w4) := ⟨wr.heap.size, by rw [HDL.out], Gr.ext_trans HXW.out (Gr.ext_of hb4), HXW.out.size, ho4⟩
      clear hb4 ho4
      go_wp2
      go_ret
      exact HP.out
end Go.Proofs.YtghiiipeljhbjaaDoor
/- The bytes of a slice as a string: string(b). -/
namespace Go.Proofs.YtghiiipeljhbjaaDoor
open Go.RowKit
/-- Bytes as a string. -/
def strOf (xs : List Nat) : ByteArray := strOfNums (xs.map fun (x : Nat) => (x : Int))
theorem conv_none {P : Program} (w : World) (a : Option Addr) (cap : Nat) (src e dst : TypeId) (hs : P.underlying src = some (.slice e)) (he : P.underlying e = some (.int .u8)) (hd : P.underlying dst = some .string) :
    (convert src dst (.slice a 0 cap)).run P w = .ok (.string (strOf [])) w := by
  rw [run_convert_bytes_string w src dst e a 0 cap hs he hd]
  cases a with
  | none => simp [Conv.bytesToString]; rfl
  | some a =>
    rw [run_bytesToString w a 0 cap [] (by simp [loadCells, loadCellsFrom])]
    rfl
theorem conv_any {P : Program} {w : World} {v : Value} {xs : List Nat} (h : U8s w v xs) (src e dst : TypeId) (hs : P.underlying src = some (.slice e)) (he : P.underlying e = some (.int .u8)) (hd : P.underlying dst = some .string) :
    (convert src dst v).run P w = .ok (.string (strOf xs)) w := by
  obtain ⟨a, cap, rfl, _, _⟩ := h.slice
  by_cases h0 : xs.length = 0
  · have : xs = [] := List.eq_nil_of_length_eq_zero h0
    subst this
    exact conv_none w a cap src e dst hs he hd
  · obtain ⟨b, off, rfl, _, hc⟩ := h.cell.2 (by omega)
    refine run_convert_bytes_arg w src e hs he b off xs.length cap (xs.map fun (x : Nat) => (x : Int)) (by simp) (fun i hi => ?_) dst hd
    rw [hc i hi]
    simp [hi]
theorem strOf_inj {xs ys : List Nat} (hx : ∀ x ∈ xs, x < 256) (hy : ∀ y ∈ ys, y < 256) (h : strOf xs = strOf ys) : xs = ys := by
  have h1 : (xs.map fun (x : Nat) => UInt8.ofNat x) = ys.map fun (x : Nat) => UInt8.ofNat x := by
    have := congrArg (fun b : ByteArray => b.data.toList) h
    simpa [strOf, strOfNums, Function.comp_def] using this
  have h2 := congrArg (List.map UInt8.toNat) h1
  rw [List.map_map, List.map_map] at h2
  have e : ∀ l : List Nat, (∀ x ∈ l, x < 256) → l.map (UInt8.toNat ∘ fun (x : Nat) => UInt8.ofNat x) = l := fun l hl => by
    conv => rhs; rw [← List.map_id l]
    refine List.map_congr_left fun x hx => ?_
    simp [Nat.mod_eq_of_lt (hl x hx)]
  rwa [e xs hx, e ys hy] at h2
end Go.Proofs.YtghiiipeljhbjaaDoor
/- The laws' helpers: From (rows as lists of bytes) and the reference's SameRows. -/
namespace Go.Proofs.YtghiiipeljhbjaaDoor
open Go.RowKit Go.Deep
set_option linter.unusedVariables false
theorem conv_b {w : World} {v : Value} {xs : List Nat} (h : U8s w v xs) : (convert 33 9 v).run Tryd.prog w = .ok (.string (strOf xs)) w := conv_any h _ _ _ Tryd.underlying33 Tryd.underlying5 Tryd.underlying9
theorem take_snoc (l : List (List Nat)) (k : Nat) (h : k < l.length) : l.take k ++ [l.getD k []] = l.take (k + 1) := by
  rw [List.take_succ_eq_append_getElem h]; simp [h]
/-- Rows of a call's own: new, and they read so. -/
def MadeList (w : World) (l : List (List Nat)) (e : Ending) (w' : World) : Prop := ∃ v, e = .returned v ∧ w.Extends w' ∧ Rws w' v l
set_option maxHeartbeats 1000000 in
theorem from_any (v : Value) (l : List (List Nat)) (w : World) (hv : Rws w v l) (hm : l.length ≤ 4000) :
    Calls Tryd.prog 12 #[v] w (MadeList w l) := by
  obtain ⟨a, cap, rfl, _⟩ := hv.slice
  have HV := Lib.hid hv.at.2
  have HSN := Lib.hid (take_snoc l)
  have HTK : Hid (l.take l.length = l) := List.take_length
  have HTL : Hid (∀ k, k ≤ l.length → k = (l.take k).length) := fun k hk => by rw [List.length_take]; omega
  have HLL : Hid (l.length = l.length) := rfl
  obtain ⟨i1, hi', hz0', hz1', hz2'⟩ := info_parts bytesinfo
  have HI' := Lib.hid hi'; clear hi'
  have HZ0' := Lib.hid hz0'; clear hz0'
  have HZ1' := Lib.hid hz1'; clear hz1'
  have HZ2' := Lib.hid hz2'; clear hz2'
  clear hv
  generalize hn : l.length = n at *
  have HN := Lib.hid hn; clear hn
  go_enter Tryd.func12, Tryd.ntmps12
  go_wp2
  go_loopw [3, 4] (fun o i wr => ∃ k : Nat, k ≤ n ∧ i = .int .i64 k ∧ w.Extends wr ∧ Mats wr w.heap.size w.heap.size 33 o k (l.take k)) (fun _ i _ => (n - intOf i).toNat)
  case atStart => exact ⟨0, by omega, rfl, Gr.ext_refl _, [], World.ownsRow_nil _ _ _ _, fun j hj => absurd hj (Nat.not_lt_zero _)⟩
  case round =>
    obtain ⟨k, hk, rfl, hx, hm'⟩ := hrel
    have HX := Lib.hid hx
    have HM := Lib.hid hm'
    have hbs := hx.size
    clear hx hm'
    by_cases h1 : k < n
    · obtain ⟨b1, o1, rfl, hb1, hc1⟩ := HV.out (by omega)
      obtain ⟨ra, rc, hc3, hr0⟩ := hc1 k h1
      have hc2 := HX.out.cell_of hc3
      have HOK : Hid (RowOk wr w.heap.size (.slice ra (l.getD k []).length rc) (l.getD k [])) := (RowOk.old hr0 (Nat.le_refl _)).ext HX.out
      have HS := Lib.hid (HSN.out k h1)
      clear hc1 hc3 hr0
      obtain ⟨vs, hown, hrows⟩ := HM.out
      have HOWN := Lib.hid hown
      have HROWS := Lib.hid hrows
      have HOB : Hid (∀ g, u3.ownBlock = some g → w.heap.size ≤ g) := fun g hg => (HOWN.out.lt g hg).1
      clear hown hrows
      go_wp2_with (at_builtin; refine wpList_append_own_src _ rfl _ _ 22 22 rfl w.heap.size 33 i1 (.slice none 0 0) 1 24 Tryd.underlying22 HI'.out HZ0'.out HZ1'.out HZ2'.out rfl _ _ _ rfl (HOWN.out.alloc _) _ 1 [.slice ra (l.getD k []).length rc] rfl (src_one Tryd.underlying22 _ _ rfl rfl) (by unfold maxLen; omega) (by omega) (by simp; omega) ?_)
      intro v' w3 ho3 hg3 _
      have HP : Hid (w.Extends w3 ∧ Mats w3 w.heap.size w.heap.size 33 v' (k + 1) (l.take (k + 1))) := by
        refine ⟨Gr.ext_of (((Gr.below_of HX.out).alloc hbs _).grown hg3 (by simp; omega) HOB.out), ?_⟩
        rw [← HS.out]
        exact Mats.snoc (Nat.le_refl _) (by decide) (HTL.out k hk) (HOWN.out.alloc _) (fun j hj => by obtain ⟨u, h1, h2⟩ := HROWS.out j hj; exact ⟨u, h1, h2.ext (ext_alloc _ _)⟩) (HOK.out.ext (ext_alloc _ _)) hg3 ho3
      clear ho3 hg3
      go_wp2
      go_roundw
      case rel => exact ⟨k + 1, by omega, by go_num, HP.out⟩
      case measure => simp [intOf]; omega
    · obtain rfl : k = n := by omega
      have HP : Hid (MadeList w l (.returned u3) wr) := by
        have h := HM.out
        rw [HTK.out] at h
        exact ⟨u3, rfl, HX.out, h.rws HN.out.symm⟩
      go_wp2
      go_ret
      exact HP.out
set_option maxHeartbeats 1000000 in
theorem same_any (u v : Value) (l : List (List Nat)) (w : World) (hu : Rws w u l) (hv : Rws w v l) :
    Calls Tryd.prog 11 #[u, v] w fun e w' => e = .returned (.bool true) ∧ Below w.heap.size w w' := by
  have hm := hu.len
  obtain ⟨a, cap, rfl, _⟩ := hu.slice
  obtain ⟨a', cap', rfl, _⟩ := hv.slice
  have HU := Lib.hid hu.at.2
  have HV := Lib.hid hv.at.2
  clear hu hv
  generalize l.length = n at *
  unfold maxLen at hm
  go_enter Tryd.func11, Tryd.ntmps11
  go_wp2
  go_loopw [5] (fun i wr => ∃ k : Nat, k ≤ n ∧ i = .int .i64 k ∧ Below w.heap.size w wr) (fun i _ => (n - intOf i).toNat)
  case atStart => exact ⟨0, by omega, rfl, Below.refl _ _⟩
  case round =>
    obtain ⟨k, hk, rfl, hb⟩ := hrel
    have HB := Lib.hid hb
    clear hb
    by_cases h1 : k < n
    · obtain ⟨b1, o1, rfl, hb1, hc1⟩ := HU.out (by omega)
      obtain ⟨b2, o2, rfl, hb2, hc2⟩ := HV.out (by omega)
      obtain ⟨ra, rc, hc3, hr0⟩ := hc1 k h1
      obtain ⟨rb, rd, hc4, hr1⟩ := hc2 k h1
      have HL1 : Hid (∀ w', wr.Extends w' → w'.cell? ⟨b1, o1 + k, none⟩ = some (.slice ra (l.getD k []).length rc)) := fun w' hw' => hw'.cell_of ((HB.out.cell (p := ⟨b1, o1 + k, none⟩) hb1).trans hc3)
      have HL2 : Hid (∀ w', wr.Extends w' → w'.cell? ⟨b2, o2 + k, none⟩ = some (.slice rb (l.getD k []).length rd)) := fun w' hw' => hw'.cell_of ((HB.out.cell (p := ⟨b2, o2 + k, none⟩) hb2).trans hc4)
      have HR1 := Lib.hid (hr0.below HB.out rfl)
      have HR2 := Lib.hid (hr1.below HB.out rfl)
      clear hc1 hc2 hc3 hc4 hr0 hr1
      generalize (l.getD k []).length = q at *
      generalize l.getD k [] = xs at *
      go_wp2_with fail
      refine Gr.region 10 [(false,0),(false,1),(false,2),(false,3),(false,4),(false,5),(false,6),(false,7),(false,8),(false,9)] (by kernel_rfl) (by kernel_rfl) (fun d _ _ _ _ h => by cases d <;> exact h) ?_
      simp only [Gr.pick, List.getElem?_cons_zero, List.getElem?_cons_succ, List.drop_succ_cons, List.drop_zero]
      iterate 10
        refine Gr.walk_t ?_ (Or.inl ⟨by rfl, ?_⟩) ?_
        rotate_left
        · intro w' hw'
          have hc1 := HL1.out w' (Gr.of_drew hw')
          have hc2 := HL2.out w' (Gr.of_drew hw')
          have hv1 := conv_b (HR1.out.ext (Gr.of_drew hw'))
          have hv2 := conv_b (HR2.out.ext (Gr.of_drew hw'))
          clear hw'
          go_simp
          try with_reducible rfl
        simp only [Act.put, List.setIfInBounds_toArray, List.set_cons_zero, List.set_cons_succ]
      refine Gr.walk_nil ?_
      go_wp2
      go_roundw
      case rel => exact ⟨k + 1, by omega, by go_num, HB.out.drew⟩
      case measure => simp [intOf]; omega
    · obtain rfl : k = n := by omega
      go_wp2
      go_ret
      exact ⟨rfl, HB.out⟩
end Go.Proofs.YtghiiipeljhbjaaDoor
/- drops.Drops, over whatever Drop answers of each number. -/
namespace Go.Proofs.YtghiiipeljhbjaaDoor
open Go.RowKit Go.Deep
set_option linter.unusedVariables false
/-- The answer reads as xs, in a block of bytes. -/
def RowNew (w : World) (xs : List Nat) (e : Ending) (w' : World) : Prop := ∃ v, e = .returned v ∧ w.Extends w' ∧ RowOk w' 0 v xs
theorem new_made {w w' : World} {xs : List Nat} {e : Ending} (h : MadeRow w xs e w') : RowNew w xs e w' := by
  obtain ⟨g, rfl, hx, _, ho⟩ := h
  exact ⟨_, rfl, hx, RowOk.own ho 0 rfl rfl⟩
theorem new_nil {w w' : World} {e : Ending} (h : e = .returned (.slice none 0 0)) (hx : w.Extends w') : RowNew w [] e w' := ⟨_, h, hx, nil_u8s _ _ _, .inl rfl⟩
set_option maxHeartbeats 1000000 in
theorem drops_any (k s h j size : Int) (vc ve : Value) (es : List Int) (d : Int → List Nat) (w : World) (hl : es.length ≤ 1000000) (hv : Ints w ve es)
    (hd : ∀ e w', w.Extends w' → Calls Tryd.prog 9 #[PV k s h, .int .i64 j, .int .i64 size, vc, .int .i64 e] w' (RowNew w' (d e))) :
    Calls Tryd.prog 13 #[PV k s h, .int .i64 j, .int .i64 size, vc, ve] w (MadeList w (DM.all d es)) := by
  have HDR := Lib.hid hd
  have HYES := Lib.hid (DM.all_yes d es)
  have HNO := Lib.hid (DM.all_no d es)
  have HMS := Lib.hid (DM.map_snoc d es)
  obtain ⟨a, cap, rfl, hcap, hcap2⟩ := hv.slice
  have HCL := Lib.hid hv.cell.2
  clear hv hcap hcap2 hd
  obtain ⟨n, hn⟩ : ∃ n, n = es.length := ⟨_, rfl⟩
  rw [← hn] at HCL hl ⊢
  have HN := Lib.hid hn
  clear hn
  obtain ⟨i1, hi', hz0', hz1', hz2'⟩ := info_parts rowinfo
  have HI' := Lib.hid hi'; clear hi'
  have HZ0' := Lib.hid hz0'; clear hz0'
  have HZ1' := Lib.hid hz1'; clear hz1'
  have HZ2' := Lib.hid hz2'; clear hz2'
  go_enter Tryd.func13, Tryd.ntmps13
  go_wp2_with fail
  generalize hw1 : World.alloc w _ = w1
  have hx1 : w.Extends w1 := by subst hw1; exact prm_ext_alloc _ _
  have hp : PAt w1 w.heap.size k s h := by subst hw1; exact PAt.new w 27 k s h
  generalize w.heap.size = b at hp ⊢
  clear hw1
  have HX1 := Lib.hid hx1
  have HP1 := Lib.hid hp
  clear hx1 hp
  go_wp2_with fail
  go_loopw [11, 17] (fun o i wr => ∃ q : Nat, q ≤ n ∧ i = .int .i64 q ∧ Hid (w1.Extends wr) ∧ Hid (∀ i, i < q → 0 < (d (es.getD i 0)).length) ∧ Hid (Mats wr w1.heap.size 0 34 o q ((es.take q).map d))) (fun _ i _ => (n - intOf i).toNat)
  case atStart => exact ⟨0, by omega, rfl, Lib.hid (Gr.ext_refl _), Lib.hid (fun j hj => absurd hj (Nat.not_lt_zero _)), Lib.hid (Mats.nil _ _ _ _ _)⟩
  case round =>
    obtain ⟨q, hq, rfl, HX, HG, HM⟩ := hrel
    by_cases h5 : q < n
    · have hen : q < es.length := by have := HN.out; omega
      obtain ⟨bp, off, rfl, hbp, hc⟩ := HCL.out (by omega)
      have hc1 := (Gr.ext_trans HX1.out HX.out).cell_of (hc q h5)
      have HS1 := Lib.hid (HMS.out q hen)
      have HNO1 := Lib.hid (HNO.out q hen)
      obtain ⟨p0, p1, p2⟩ := HP1.out.ext HX.out
      clear hc hbp
      have HGS : Hid (0 < (d (es.getD q 0)).length → ∀ i, i < q + 1 → 0 < (d (es.getD i 0)).length) := fun h0 i hi => by
        by_cases hiq : i < q
        · exact HG.out i hiq
        · obtain rfl : i = q := by omega
          exact h0
      have HDQ := Lib.hid (HDR.out (es.getD q 0) wr (Gr.ext_trans HX1.out HX.out))
      generalize es.getD q 0 = x at *
      generalize d x = row at *
      go_wp2_with fail
      refine HDQ.out.mono ?_
      rintro _ wq ⟨v, rfl, hxq, hok⟩
      obtain ⟨ra, rc, rfl, _, _⟩ := hok.1.slice
      have HOK := Lib.hid hok
      have HXQ := Lib.hid (Gr.ext_trans HX.out hxq)
      obtain ⟨vs, hown, hrows⟩ := HM.out.ext hxq
      have HOWN := Lib.hid hown
      have HROWS := Lib.hid hrows
      have HOB : Hid (∀ g, u11.ownBlock = some g → w1.heap.size ≤ g) := fun g hg => (HOWN.out.lt g hg).1
      have hbs := HXQ.out.size
      have HPQ : Hid (q = ((es.take q).map d).length) := by
        show _ = _; rw [List.length_map, List.length_take, ← HN.out]; omega
      clear hown hrows hxq hok HM HDQ p0 p1 p2 hc1
      by_cases h0 : row.length = 0
      · have HP : Hid (MadeList w (DM.all d es) (.returned (.slice none 0 0)) wq) := ⟨_, rfl, Gr.ext_trans HX1.out HXQ.out, by rw [HNO1.out h0]; exact Rws.nil _ _ _⟩
        rw [h0]
        go_wp2
        go_ret
        exact HP.out
      · have hlen0 : ((row.length : Int) == 0) = false := by rw [beq_eq_false_iff_ne]; omega
        have HG2 := Lib.hid (HGS.out (by omega))
        go_wp2_with (at_builtin; refine wpList_append_own_src _ rfl _ _ 31 31 rfl w1.heap.size 34 i1 (.slice none 0 0) 1 24 Tryd.underlying31 HI'.out HZ0'.out HZ1'.out HZ2'.out rfl _ _ _ rfl (HOWN.out.alloc _) _ 1 [.slice ra row.length rc] rfl (src_one Tryd.underlying31 _ _ rfl rfl) (by unfold maxLen; omega) (by omega) (by simp; omega) ?_)
        intro v' w9 ho9 hg9 _
        have HP : Hid (w1.Extends w9 ∧ Mats w9 w1.heap.size 0 34 v' (q + 1) ((es.take (q + 1)).map d)) := by
          refine ⟨Gr.ext_of (((Gr.below_of HXQ.out).alloc hbs _).grown hg9 (by simp; omega) HOB.out), ?_⟩
          rw [← HS1.out]
          exact Mats.snoc (Nat.zero_le _) (by decide) HPQ.out (HOWN.out.alloc _) (fun j hj => by obtain ⟨u, h1, h2⟩ := HROWS.out j hj; exact ⟨u, h1, h2.ext (ext_alloc _ _)⟩) (HOK.out.ext (ext_alloc _ _)) hg9 ho9
        clear ho9 hg9
        go_wp2
        go_roundw
        case rel => exact ⟨q + 1, by omega, by go_num, Lib.hid HP.out.1, HG2, Lib.hid HP.out.2⟩
        case measure => simp [intOf]; omega
    · obtain rfl : q = n := by omega
      have HP : Hid (MadeList w (DM.all d es) (.returned u11) wr) := by
        refine ⟨u11, rfl, Gr.ext_trans HX1.out HX.out, ?_⟩
        rw [HYES.out (fun i hi => HG.out i (by have := HN.out; omega))]
        have h := HM.out.rws (by rw [List.length_map, List.length_take, ← HN.out]; omega)
        rw [HN.out, List.take_length] at h
        exact h
      go_wp2
      go_ret
      exact HP.out
end Go.Proofs.YtghiiipeljhbjaaDoor
/- Contracts of the second law's helpers: To (lists of bytes as rows) and Few. -/
namespace Go.Proofs.YtghiiipeljhbjaaDoor
open Go.RowKit
/-- v is the call's own slice of the first k rows of l, each the call's own. -/
def ToInv (B : Nat) (TR : TypeId) (w : World) (v : Value) (k : Nat) (l : List (List Nat)) : Prop :=
  ∃ vs : List Value, w.ownsRow B TR 1 v k vs ∧ ∀ j, j < k → ∃ u, vs[j]? = some u ∧ w.ownsRow B 5 1 u (l.getD j []).length (u8vs (l.getD j []))
theorem ToInv.rws {B : Nat} {TR : TypeId} {w : World} {v : Value} {k : Nat} {l : List (List Nat)} (h : ToInv B TR w v k l) (hk : k = l.length) (hlt : ∀ r ∈ l, ∀ x ∈ r, x < 256) : Rws w v l := by
  subst hk
  obtain ⟨vs, hown, hrow⟩ := h
  rcases hown.2 with ⟨rfl, h0⟩ | ⟨g, cap, cur, rfl, hbg, hg, hnc, hcm, hcs, htake⟩
  · exact .inl ⟨List.eq_nil_of_length_eq_zero h0, none, 0, rfl⟩
  · refine .inr ⟨g, 0, cap, rfl, hnc, hcm, (Array.getElem?_eq_some_iff.1 hg).1, fun j hj => ?_⟩
    obtain ⟨u, hu, ho⟩ := hrow j hj
    refine ⟨u, ?_, owns_u8s ho fun x hx => ?_⟩
    · have := hown.cells (g := g) rfl j u hu
      rw [Addr.add_mid] at this
      exact this
    · refine hlt (l.getD j []) ?_ x hx
      rw [List.getD_eq_getElem?_getD, List.getElem?_eq_getElem hj]; exact List.getElem_mem hj
/-- Rows of two kinds lie apart. -/
theorem owns_apart {w : World} {B B' : Nat} {e e' : TypeId} {s s' : Nat} {v v' : Value} {n n' : Nat} {xs xs' : List Value} (h : w.ownsRow B e s v n xs) (h' : w.ownsRow B' e' s' v' n' xs') (he : e ≠ e') : v.ownBlock = none ∨ v.ownBlock ≠ v'.ownBlock := by
  rcases h.2 with ⟨rfl, h0⟩ | ⟨g, cap, cur, rfl, hbg, hg, _⟩
  · exact .inl rfl
  · rcases h'.2 with ⟨rfl, h0⟩ | ⟨g', cap', cur', rfl, hbg', hg', _⟩
    · exact .inr (by simp [Value.ownBlock])
    · refine .inr fun hgg => ?_
      simp only [Value.ownBlock, Option.some.injEq] at hgg
      subst hgg
      rw [hg] at hg'
      simp only [Option.some.injEq, Obj.cells.injEq] at hg'
      exact he hg'.2.1
theorem ToInv.kept {B : Nat} {TR : TypeId} {w w' : World} {v : Value} {k : Nat} {l : List (List Nat)} (h : ToInv B TR w v k l) (hx : w.Extends w') : ToInv B TR w' v k l := by
  obtain ⟨vs, ho, hr⟩ := h
  have hg : w.grownBy w' none := ⟨hx.os, hx.tape, hx.output, hx.size, fun i hi _ => hx.block i hi⟩
  have hne : ∀ u : Value, u.ownBlock = none ∨ u.ownBlock ≠ none := fun u => by cases u.ownBlock <;> simp
  refine ⟨vs, ho.kept hg (hne v), fun j hj => ?_⟩
  obtain ⟨u, hu, hou⟩ := hr j hj
  exact ⟨u, hu, hou.kept hg (hne u)⟩
theorem ToInv.snoc {B : Nat} {TR : TypeId} {w w' : World} {v v' u : Value} {k : Nat} {l : List (List Nat)} {vs : List Value} (hT : (5 : Nat) ≠ TR) (hown : w.ownsRow B TR 1 v k vs)
    (hr : ∀ j, j < k → ∃ u, vs[j]? = some u ∧ w.ownsRow B 5 1 u (l.getD j []).length (u8vs (l.getD j []))) (hu : w.ownsRow B 5 1 u (l.getD k []).length (u8vs (l.getD k [])))
    (hg : w.grownBy w' v.ownBlock) (ho : w'.ownsRow B TR 1 v' (k + 1) (vs ++ [u])) : ToInv B TR w' v' (k + 1) l := by
  have hl : vs.length = k := by have := hown.1; omega
  refine ⟨vs ++ [u], ho, fun j hj => ?_⟩
  by_cases hjk : j < k
  · obtain ⟨u', hu', ho'⟩ := hr j hjk
    exact ⟨u', by rw [List.getElem?_append_left (by omega)]; exact hu', ho'.kept hg (owns_apart ho' hown hT)⟩
  · obtain rfl : j = k := by omega
    exact ⟨u, by rw [List.getElem?_append_right (by omega), hl]; simp, hu.kept hg (owns_apart hu hown hT)⟩
/-- A slice of rows that the call has made. -/
def MadeRows (w : World) (TR : TypeId) (l : List (List Nat)) (e : Ending) (w' : World) : Prop := ∃ v', e = .returned v' ∧ Below w.heap.size w w' ∧ Rws w' v' l ∧ ToInv w.heap.size TR w' v' l.length l
theorem Rws.all_lt {w : World} {v : Value} {l : List (List Nat)} (h : Rws w v l) : ∀ r ∈ l, ∀ x ∈ r, x < 256 := by
  rcases h with ⟨rfl, _⟩ | ⟨b, off, cap, rfl, _, _, _, h4⟩
  · intro r hr; cases hr
  · intro r hr x hx
    obtain ⟨k, hk, rfl⟩ := List.mem_iff_getElem.1 hr
    obtain ⟨u, _, hs⟩ := h4 k hk
    rw [show l.getD k [] = l[k] by simp [hk]] at hs
    exact hs.lt x hx
set_option maxHeartbeats 1000000 in
theorem to_any (v : Value) (l : List (List Nat)) (w : World) (hv : Rws w v l) (hm : l.length ≤ 1000000000) (hml : ∀ k, (l.getD k []).length ≤ 1000000000) :
    Calls Tryd.prog 8 #[v] w (MadeRows w 34 l) := by
  obtain ⟨a, cap, rfl, _⟩ := hv.slice
  have HV := Lib.hid hv.at.2
  have hlt := hv.all_lt
  obtain ⟨i0, hi, hz0, hz1, hz2⟩ := info_parts u8info
  obtain ⟨i1, hi', hz0', hz1', hz2'⟩ := info_parts rowinfo
  have HI := Lib.hid hi; clear hi
  have HZ0 := Lib.hid hz0; clear hz0
  have HZ1 := Lib.hid hz1; clear hz1
  have HZ2 := Lib.hid hz2; clear hz2
  have HI' := Lib.hid hi'; clear hi'
  have HZ0' := Lib.hid hz0'; clear hz0'
  have HZ1' := Lib.hid hz1'; clear hz1'
  have HZ2' := Lib.hid hz2'; clear hz2'
  have HML := Lib.hid hml; clear hml
  have HFIN : Hid (∀ (k : Nat) (v' : Value) (w' : World), k = l.length → Below w.heap.size w w' → ToInv w.heap.size 34 w' v' k l → MadeRows w 34 l (.returned v') w') :=
    fun k v' w' hk h1 h2 => ⟨v', rfl, h1, h2.rws hk hlt, hk ▸ h2⟩
  have HOB : Hid (∀ (w' : World) (v' : Value) (k : Nat), ToInv w.heap.size 34 w' v' k l → ∀ g, v'.ownBlock = some g → w.heap.size ≤ g) := fun w' v' k h g hg => by
    obtain ⟨vs, ho, _⟩ := h; exact (ho.lt g hg).1
  clear hv hlt
  generalize hn : l.length = n at *
  have HN := Lib.hid hn; clear hn
  go_enter Tryd.func8, Tryd.ntmps8
  go_wp2
  go_loopw [3, 4] (fun o i wr => ∃ k : Nat, k ≤ n ∧ i = .int .i64 k ∧ Below w.heap.size w wr ∧ ToInv w.heap.size 34 wr o k l) (fun _ i _ => (n - intOf i).toNat)
  case atStart => exact ⟨0, by omega, rfl, Below.refl _ _, [], World.ownsRow_nil _ _ _ _, fun j hj => absurd hj (Nat.not_lt_zero _)⟩
  case round =>
    obtain ⟨k, hk, rfl, hb, hinv⟩ := hrel
    by_cases h1 : k < n
    · obtain ⟨b1, o1, rfl, hb1, hc1⟩ := HV.out (by omega)
      obtain ⟨ra, rc, hc3, hr0⟩ := hc1 k h1
      have hc2 : wr.cell? ⟨b1, o1 + k, none⟩ = some (.slice ra (l.getD k []).length rc) := (hb.cell (p := ⟨b1, o1 + k, none⟩) hb1).trans hc3
      have HR := Lib.hid (hr0.ext (ext_below hb rfl))
      have hrl := HML.out k
      have HB := Lib.hid hb
      have HINV := Lib.hid hinv
      have hbs := hb.size
      clear hc1 hc3 hr0 hb hinv
      generalize hr : l.getD k [] = r at *
      have HRR := Lib.hid hr; clear hr
      go_wp2_with (at_builtin; refine wpList_append_own_src _ rfl (.const (.slice none 0 0)) _ 34 33 rfl w.heap.size 5 i0 (.int .u8 0) 1 1 Tryd.underlying34 HI.out HZ0.out HZ1.out HZ2.out rfl _ _ _ rfl (World.ownsRow_nil _ _ _ _) _ r.length (u8vs r) rfl (HR.out.src Tryd.underlying33) (by unfold maxLen; omega) (by omega) (by omega) ?_)
      intro u w2 ho2 hg2 _
      have hx2 : wr.Extends w2 := ext_below ⟨hg2.os, hg2.tape, hg2.output, hg2.size, fun i hi => hg2.block i hi (by simp [Value.ownBlock])⟩ rfl
      have HINV2 := Lib.hid (HINV.out.kept hx2)
      have HB2 := Lib.hid (HB.out.trans ((Gr.below_of hx2).mono hbs))
      obtain ⟨ua, uc, rfl⟩ := owns_slice ho2
      have HO2 := Lib.hid ho2
      have hbs2 := hx2.size
      clear ho2 hg2 hx2 HR HINV HB
      obtain ⟨vs, hown, hrows⟩ := HINV2.out
      have HOWN := Lib.hid hown
      have HROWS := Lib.hid hrows
      clear hown hrows
      go_wp2_with (at_builtin; refine wpList_append_own_src _ rfl _ _ 31 31 rfl w.heap.size 34 i1 (.slice none 0 0) 1 24 Tryd.underlying31 HI'.out HZ0'.out HZ1'.out HZ2'.out rfl _ _ _ rfl (HOWN.out.alloc _) _ 1 [.slice ua r.length uc] rfl (src_one Tryd.underlying31 _ _ rfl (owns_one HO2.out)) (by unfold maxLen; omega) (by omega) (by simp; omega) ?_)
      intro v' w3 ho3 hg3 _
      have HP : Hid (Below w.heap.size w w3 ∧ ToInv w.heap.size 34 w3 v' (k + 1) l) := by
        refine ⟨(HB2.out.alloc (Nat.le_trans hbs hbs2) _).grown hg3 (by simp; omega) (fun g hg => (HOWN.out.lt g hg).1), ?_⟩
        refine ToInv.snoc (by decide) (HOWN.out.alloc _) (fun j hj => ?_) (by rw [HRR.out]; exact HO2.out.alloc _) hg3 ho3
        obtain ⟨u', h1, h2⟩ := HROWS.out j hj
        exact ⟨u', h1, h2.alloc _⟩
      clear ho3 hg3
      go_wp2
      go_roundw
      case rel => exact ⟨k + 1, by omega, by go_num, HP.out⟩
      case measure => simp [intOf]; omega
    · obtain rfl : k = n := by omega
      have HP := Lib.hid (HFIN.out _ _ _ rfl hb hinv)
      clear hb hinv HFIN
      go_wp2
      go_ret
      exact HP.out
/-- How many rows and bytes: below the bound? -/
def fewTo (l : List (List Nat)) : Nat → Nat
  | 0 => 0
  | k + 1 => if fewTo l k ≤ 4000 then fewTo l k + 1 + (l.getD k []).length else fewTo l k
def few (l : List (List Nat)) : Bool := decide (fewTo l l.length ≤ 4000)
theorem fewTo_mono (l : List (List Nat)) (k : Nat) (h : fewTo l (k + 1) ≤ 4000) : fewTo l k ≤ 4000 ∧ fewTo l (k + 1) = fewTo l k + 1 + (l.getD k []).length := by
  by_cases h0 : fewTo l k ≤ 4000
  · exact ⟨h0, by rw [fewTo, if_pos h0]⟩
  · rw [fewTo, if_neg h0] at h; exact absurd h h0
theorem fewTo_all (l : List (List Nat)) : ∀ n, fewTo l n ≤ 4000 → n ≤ 4000 ∧ n ≤ fewTo l n ∧ ∀ k, k < n → (l.getD k []).length ≤ 4000
  | 0, _ => ⟨by omega, by simp [fewTo], fun k hk => absurd hk (Nat.not_lt_zero _)⟩
  | n + 1, h => by
    obtain ⟨h1, h2⟩ := fewTo_mono l n h
    obtain ⟨h3, h4, h5⟩ := fewTo_all l n h1
    refine ⟨by omega, by omega, fun k hk => ?_⟩
    by_cases hkn : k < n
    · exact h5 k hkn
    · obtain rfl : k = n := by omega
      omega
theorem few_yes (l : List (List Nat)) (h : few l = true) : l.length ≤ 4000 ∧ ∀ k, (l.getD k []).length ≤ 4000 := by
  have h' := fewTo_all l l.length (by simpa [few] using h)
  refine ⟨h'.1, fun k => ?_⟩
  by_cases hk : k < l.length
  · exact h'.2.2 k hk
  · simp [List.getD_eq_getElem?_getD, List.getElem?_eq_none (Nat.le_of_not_lt hk)]
theorem fewTo_stop (l : List (List Nat)) (k : Nat) (h : ¬ fewTo l k ≤ 4000) : ∀ d, fewTo l (k + d) = fewTo l k
  | 0 => rfl
  | d + 1 => by rw [← Nat.add_assoc, fewTo, fewTo_stop l k h d, if_neg h]
theorem retbool {a b : Bool} (h : a = b) : Ending.returned (.bool a) = .returned (.bool b) := by rw [h]
set_option maxHeartbeats 1000000 in
theorem few_any (v : Value) (l : List (List Nat)) (w : World) (hv : Rws w v l) (hml : ∀ k, (l.getD k []).length ≤ 140737488351232) :
    Calls Tryd.prog 6 #[v] w fun e w' => e = .returned (.bool (few l)) ∧ Below w.heap.size w w' := by
  have hm := hv.len
  obtain ⟨a, cap, rfl, _⟩ := hv.slice
  have HV := Lib.hid hv.at.2
  have HD : Hid (few l = decide (fewTo l l.length ≤ 4000)) := rfl
  have HML := Lib.hid hml; clear hml
  clear hv
  generalize hn : l.length = n at *
  have HN := Lib.hid hn; clear hn
  unfold maxLen at hm
  go_enter Tryd.func6, Tryd.ntmps6
  go_wp2
  go_loopw [3, 4] (fun s i wr => ∃ k : Nat, k ≤ n ∧ i = .int .i64 k ∧ s = .int .i64 (fewTo l k : Nat) ∧ Below w.heap.size w wr) (fun _ i _ => (n - intOf i).toNat)
  case atStart => exact ⟨0, by omega, rfl, rfl, Below.refl _ _⟩
  case round =>
    obtain ⟨k, hk, rfl, rfl, hb⟩ := hrel
    by_cases h1 : k < n
    · by_cases h2 : fewTo l k ≤ 4000
      · obtain ⟨b1, o1, rfl, hb1, hc1⟩ := HV.out (by omega)
        obtain ⟨ra, rc, hc3, hr0⟩ := hc1 k h1
        have hc2 : wr.cell? ⟨b1, o1 + k, none⟩ = some (.slice ra (l.getD k []).length rc) := (hb.cell (p := ⟨b1, o1 + k, none⟩) hb1).trans hc3
        have hrl := HML.out k
        have HS : Hid (fewTo l (k + 1) = fewTo l k + 1 + (l.getD k []).length) := if_pos h2
        have HB := Lib.hid hb
        clear hc1 hc3 hr0 hb
        generalize (l.getD k []).length = r at *
        generalize hf : fewTo l k = f at *
        have HF := Lib.hid hf; clear hf
        go_wp2
        go_roundw
        case rel => exact ⟨k + 1, by omega, by go_num, by rw [HS.out]; go_num, HB.out⟩
        case measure => simp [intOf]; omega
      · have h2' : decide ((fewTo l k : Int) ≤ 4000) = false := by simp; omega
        have HP : Hid (few l = false) := by
          show few l = false
          rw [HD.out, show n = k + (n - k) by omega, fewTo_stop l k h2]; simpa using h2
        have HB := Lib.hid hb
        clear hb
        generalize hf : fewTo l k = f at *
        have HF := Lib.hid hf; clear hf
        go_wp2
        go_ret
        exact ⟨retbool (by rw [HP.out]), HB.out⟩
    · obtain rfl : k = n := by omega
      have HB := Lib.hid hb
      clear hb
      have HP : Hid (few l = decide (fewTo l k ≤ 4000)) := HD.out
      generalize hf : fewTo l k = f at *
      have HF := Lib.hid hf; clear hf
      go_wp2
      go_ret
      exact ⟨retbool (by rw [HP.out]; exact decide_eq_decide.2 (by omega)), HB.out⟩
end Go.Proofs.YtghiiipeljhbjaaDoor
/- How the arguments open; what the listed variable's reading gives the walks. -/
namespace Go.Proofs.YtghiiipeljhbjaaDoor
open Go.RowKit Go.ChangeShapes Go.WideShapes
theorem u32_nat {a : Int} (h : (Lit.int .u32 a).wf = true) : ∃ n : Nat, a = n ∧ n < 4294967296 := by
  obtain ⟨h0, h1⟩ := bounds_u32 h
  exact ⟨a.toNat, by omega, by omega⟩
theorem i64_bounds {a : Int} (h : (Lit.int .i64 a).wf = true) : -9223372036854775808 ≤ a ∧ a ≤ 9223372036854775807 := by
  simp [Lit.wf, IntKind.min, IntKind.max, IntKind.signed, IntKind.bits] at h
  omega
theorem gN : Tryd.prog.globalNamed "fountain/random.degreeBounds" = some 0 := by kernel_rfl
theorem gNType : (Tryd.prog.globals[0]?).map (·.type) = some 61 := by kernel_rfl
theorem of_laid {W : World} (h : laidMetH Tryd.prog [("fountain/random.degreeBounds", Rows.laid_fountain_random_degreeBounds)] W) : Tab W := by
  rw [MakeChecks.laidMetH_plain _ _ _ (by kernel_rfl)] at h
  have hT : Lib.TabIs Tryd.prog W "fountain/random.degreeBounds" .i64 RM.bounds :=
    Lib.tabIs_of_head (rest := []) gN gNType Tryd.underlying61 Tryd.underlying3 (by kernel_rfl) (by kernel_rfl) h
  exact fun i hi => hT.cell gN i hi
end Go.Proofs.YtghiiipeljhbjaaDoor
/- What both programs answer of any numbers and rows. -/
namespace Go.Proofs.YtghiiipeljhbjaaDoor
open Go.RowKit Go.Deep
set_option linter.unusedVariables false
theorem not_right_zero8 : ¬ Right 0 0 0 := fun ⟨n, h, h1, _⟩ => by omega
/-- With Params of no block. -/
theorem drop_zero (j size esi : Int) (v : Value) (c : List (List Nat)) (w : World) (hv : Rws w v c) :
    Calls Tryd.prog 9 #[PV 0 0 0, .int .i64 j, .int .i64 size, v, .int .i64 esi] w (RowNew w []) := by
  have hm := hv.len
  obtain ⟨a, cap, rfl, _⟩ := hv.slice
  by_cases h1 : size < 1 ∨ 64 < size
  · exact (drop_size 0 0 0 j size esi _ w h1).mono fun _ _ h => new_nil h.1 h.2
  · by_cases h2 : c.length = 0
    · exact (drop_fit 0 0 0 j size esi a c.length cap w (by omega) (by omega) (by omega) (by omega) hm (fun h => not_right_zero8 h.1)).mono fun _ _ h => new_nil h.1 h.2
    · exact (drop_len 0 0 0 j size esi a c.length cap w (by omega) (by omega) (by omega) (by omega) (by omega)).mono fun _ _ h => new_nil h.1 h.2
/-- Numbers of which a block of k has a symbol. -/
def Has (k : Nat) (j size esi : Int) (n : Nat) : Prop := (0 ≤ j ∧ j ≤ 255 ∧ 1 ≤ size ∧ size ≤ 64 ∧ n = PM.l k) ∧ EsiOk esi
theorem drop_no (k : Nat) (j size esi : Int) (v : Value) (c : List (List Nat)) (w : World) (k1 : 1 ≤ k) (k2 : k ≤ 40) (hv : Rws w v c) (hn : ¬ Has k j size esi c.length) :
    Calls Tryd.prog 9 #[PV k (PM.s k) 2, .int .i64 j, .int .i64 size, v, .int .i64 esi] w (RowNew w []) := by
  have hm := hv.len
  have hs := PM.s_le k k2
  have hlk : (PM.l k : Int) = k + PM.s k + 2 := by unfold PM.l PM.w; omega
  obtain ⟨a, cap, rfl, _⟩ := hv.slice
  by_cases h1 : size < 1 ∨ 64 < size
  · exact (drop_size _ _ _ j size esi _ w h1).mono fun _ _ h => new_nil h.1 h.2
  · by_cases h2 : c.length = PM.l k
    · refine (drop_fit k (PM.s k) 2 j size esi a c.length cap w (by omega) (by omega) (by omega) (by omega) hm (fun h => hn ?_)).mono fun _ _ h => new_nil h.1 h.2
      obtain ⟨_, a1, a2, a3, a4⟩ := h
      exact ⟨⟨a1, a2, by omega, by omega, h2⟩, a3, a4⟩
    · exact (drop_len k (PM.s k) 2 j size esi a c.length cap w (by omega) (by omega) (by omega) (by omega) (by omega)).mono fun _ _ h => new_nil h.1 h.2
theorem refDrop_no (k : Nat) (j size esi : Int) (v : Value) (c : List (List Nat)) (w : World) (k1 : 1 ≤ k) (k2 : k ≤ 40) (hv : Rws w v c) (hn : ¬ Has k j size esi c.length) :
    Calls Tryd.prog 10 #[.int .i64 k, .int .i64 j, .int .i64 size, v, .int .i64 esi] w (RowNew w []) := by
  obtain ⟨a, cap, rfl, _⟩ := hv.slice
  by_cases hf : FitsK k j esi
  · have hf' := hf
    obtain ⟨_, _, a1, a2, a3, a4⟩ := hf'
    obtain ⟨jn, rfl⟩ := Int.eq_ofNat_of_zero_le a1
    obtain ⟨en, rfl⟩ := Int.eq_ofNat_of_zero_le a3
    refine (refDrop_other k jn en size a c.length cap w k1 k2 (by omega) (by omega) ?_).mono fun _ _ h => new_nil h.1 h.2
    by_cases h2 : c.length = PM.l k
    · refine .inr ?_
      by_cases h1 : size < 1 ∨ 64 < size
      · exact h1
      · exact absurd ⟨⟨a1, a2, by omega, by omega, h2⟩, a3, a4⟩ hn
    · exact .inl (by omega)
  · exact (refDrop_fit k j size esi _ w hf).mono fun _ _ h => new_nil h.1 h.2
/-- What the calls answer that are asked of k, j, size and rows c; d: the symbol of each number. -/
structure Asked8 (k j size : Int) (c : List (List Nat)) (k' s' h' er : Int) (d : Int → List Nat) : Prop where
  of : ∀ w, Calls Tryd.prog 7 #[.int .i64 k] w fun e w' => e = .returned (.tuple #[PV k' s' h', .int .i64 er]) ∧ w.Extends w'
  drop : ∀ (esi : Int) v w, Tab w → Rws w v c → Calls Tryd.prog 9 #[PV k' s' h', .int .i64 j, .int .i64 size, v, .int .i64 esi] w (RowNew w (d esi))
  refDrop : ∀ (esi : Int) v w, Rws w v c → Calls Tryd.prog 10 #[.int .i64 k, .int .i64 j, .int .i64 size, v, .int .i64 esi] w (RowNew w (d esi))
theorem asked8 (k j size : Int) (c : List (List Nat)) : ∃ k' s' h' er d, Asked8 k j size c k' s' h' er d := by
  by_cases hk : k < 1 ∨ 40 < k
  · exact ⟨0, 0, 0, 1, fun _ => [], fun w => prmOf_bad k w hk, fun esi v w _ hv => drop_zero j size esi v c w hv,
      fun esi v w hv => (refDrop_fit k j size esi v w (fun h => by have := h.1; have := h.2.1; omega)).mono fun _ _ h => new_nil h.1 h.2⟩
  · obtain ⟨n, rfl⟩ := Int.eq_ofNat_of_zero_le (show 0 ≤ k by omega)
    have n1 : 1 ≤ n := by omega
    have n2 : n ≤ 40 := by omega
    by_cases hA : 0 ≤ j ∧ j ≤ 255 ∧ 1 ≤ size ∧ size ≤ 64 ∧ c.length = PM.l n
    · have hA' := hA
      obtain ⟨a1, a2, a3, a4, a5⟩ := hA'
      obtain ⟨jn, rfl⟩ := Int.eq_ofNat_of_zero_le a1
      obtain ⟨sn, rfl⟩ := Int.eq_ofNat_of_zero_le (show 0 ≤ size by omega)
      refine ⟨n, PM.s n, 2, 0, fun e => if EsiOk e then DM.drop n jn sn c e.toNat else [], fun w => prmOf_good n w n1 n2, fun esi v w hT hv => ?_, fun esi v w hv => ?_⟩
      · by_cases he : EsiOk esi
        · have he' := he
          obtain ⟨en, rfl⟩ := Int.eq_ofNat_of_zero_le he'.1
          have := he'.2
          show Calls _ _ _ _ (RowNew w (if EsiOk (en : Int) then _ else _))
          rw [if_pos he, Int.toNat_natCast]
          exact (drop_some n jn sn en v c w n1 n2 (by omega) (by omega) (by omega) (by omega) a5 hv hT).mono fun _ _ h => new_made h
        · show Calls _ _ _ _ (RowNew w (if EsiOk esi then _ else _))
          rw [if_neg he]
          exact drop_no n jn sn esi v c w n1 n2 hv (fun h => he h.2)
      · by_cases he : EsiOk esi
        · have he' := he
          obtain ⟨en, rfl⟩ := Int.eq_ofNat_of_zero_le he'.1
          have := he'.2
          show Calls _ _ _ _ (RowNew w (if EsiOk (en : Int) then _ else _))
          rw [if_pos he, Int.toNat_natCast]
          exact (refDrop_some n jn sn en v c w n1 n2 (by omega) (by omega) (by omega) (by omega) a5 hv).mono fun _ _ h => new_made h
        · show Calls _ _ _ _ (RowNew w (if EsiOk esi then _ else _))
          rw [if_neg he]
          exact refDrop_no n jn sn esi v c w n1 n2 hv (fun h => he h.2)
    · exact ⟨n, PM.s n, 2, 0, fun _ => [], fun w => prmOf_good n w n1 n2, fun esi v w _ hv => drop_no n j size esi v c w n1 n2 hv (fun h => hA h.1), fun esi v w hv => refDrop_no n j size esi v c w n1 n2 hv (fun h => hA h.1)⟩
end Go.Proofs.YtghiiipeljhbjaaDoor
/- The eighth law's alive. -/
namespace Go.Proofs.YtghiiipeljhbjaaDoor
open Go.RowKit Go.Deep
set_option linter.unusedVariables false
theorem mkLists (k : Nat) (hk : k ≤ 1000) (w : World) : (Instr.makeSlice 22 (.int .i64 (k : Int)) (.int .i64 (k : Int))).run Tryd.prog w = .ok (.slice (some ⟨w.heap.size, 0, none⟩) k k) (w.alloc (.cells (madeCells #[.slice none 0 0] k) 33)) :=
  run_make_row' (P := Tryd.prog) 22 33 (.slice none 0 0) 24 Tryd.underlying22 bytesinfo rfl .i64 .i64 k (by omega) (by omega) w
theorem nils_at (n k : Nat) : (List.replicate n ([] : List Nat)).getD k [] = [] := by
  rw [List.getD_eq_getElem?_getD, List.getElem?_replicate]; split <;> rfl
theorem nils_rws (w : World) (T : TypeId) (n : Nat) (hn : n ≤ 1000) : Rws (w.alloc (.cells (madeCells #[.slice none 0 0] n) T)) (.slice (some ⟨w.heap.size, 0, none⟩) n n) (List.replicate n []) := by
  have h := World.rowIs_made w (.slice none 0 0) n T
  refine .inr ⟨w.heap.size, 0, n, by rw [List.length_replicate], by rw [List.length_replicate]; exact Nat.le_refl _, by unfold maxLen; omega, by simp, fun k hk => ⟨.slice none 0 0, ?_, ?_⟩⟩
  · rw [List.length_replicate] at hk
    rw [Nat.zero_add]
    exact h.cell hk
  · rw [List.length_replicate] at hk
    rw [show (List.replicate n ([] : List Nat)).getD k [] = [] by simp [hk]]
    exact nil_u8s _ _ _
set_option maxHeartbeats 1000000 in
theorem alive8_any (w : World) (hT : Tab w) : Calls Tryd.prog 5 #[] w fun e w' => e = .returned (.bool true) ∧ w.Extends w' := by
  have HO := Lib.hid (fun w => prmOf_good 1 w (by omega) (by omega))
  have HD0 := Lib.hid (fun w => drop_zero 0 1 0 (.slice none 0 0) [] w (Rws.nil _ _ _))
  have HD1 := Lib.hid (fun v w hv hT => (drop_some 1 0 1 0 v (List.replicate 5 []) w (by omega) (by omega) (by omega) (by omega) (by omega) (by omega) (by rfl) hv hT))
  have HDL : Hid ((DM.drop 1 0 1 (List.replicate 5 []) 0).length = 1) := DM.drop_length 1 0 1 _ 0
  have HTO := Lib.hid (fun v w hv => to_any v (List.replicate 5 []) w hv (by simp) (fun k => by rw [nils_at]; exact Nat.zero_le _))
  rw [show PM.s 1 = 2 from rfl] at HO HD1
  generalize DM.drop 1 0 1 (List.replicate 5 []) 0 = row at *
  have HT := Lib.hid hT
  clear hT
  have hmk := fun w => mkLists 5 (by omega) w
  simp only [Int.cast_ofNat_Int] at hmk
  have HNR := Lib.hid (fun w => nils_rws w 33 5 (by omega))
  generalize List.replicate 5 ([] : List Nat) = l5 at *
  go_enter Tryd.func5, Tryd.ntmps5
  go_wp2_with fail
  refine (HO.out w).mono ?_
  rintro e w1 ⟨rfl, hx1⟩
  have HX1 := Lib.hid hx1
  clear hx1 HO
  go_wp2_with fail
  generalize hw2 : World.alloc w1 _ = w2
  have hx2 : w1.Extends w2 := by subst hw2; exact prm_ext_alloc _ _
  have hp : PAt w2 w1.heap.size 1 2 2 := by subst hw2; exact PAt.new w1 27 1 2 2
  generalize w1.heap.size = b at hp ⊢
  clear hw2
  have HX2 := Lib.hid (Gr.ext_drew (Gr.ext_trans HX1.out hx2))
  have HP2 := Lib.hid (hp.ext (Gr.ext_drew (Gr.ext_refl w2)))
  clear hx2 hp HX1
  refine Gr.region 12 [(false,0),(true,1),(false,2),(false,3),(false,4),(false,5),(true,6),(true,7),(true,8),(false,9),(false,10),(false,11)] (by kernel_rfl) (by kernel_rfl) (fun d _ _ _ _ h => by cases d <;> exact h) ?_
  simp only [Gr.pick, List.getElem?_cons_zero, List.getElem?_cons_succ, List.drop_succ_cons, List.drop_zero]
  generalize w2.drew = w3 at *
  refine Gr.walk_t ?_ (Or.inl ⟨by rfl, ?_⟩) ?_
  rotate_left
  · intro w' hw'
    clear hw'
    go_simp
    try with_reducible rfl
  simp only [Act.put, List.setIfInBounds_toArray, List.set_cons_zero, List.set_cons_succ]
  refine Gr.walk_c (fun K hK => ?_)
  go_simp
  refine (HD0.out w3).mono ?_
  rintro e w4 ⟨v4, rfl, hx4, hok4⟩
  obtain ⟨a4, c4, hv4, _⟩ := hok4.1.slice
  rw [List.length_nil] at hv4
  subst hv4
  have HX4 := Lib.hid (Gr.ext_trans HX2.out hx4)
  have HP4 := Lib.hid (HP2.out.ext hx4)
  clear hok4
  try go_simp
  refine hK.out _ _ (hx4) ?_
  clear hK K
  clear hx4 HX2 HP2 HD0
  iterate 4
    refine Gr.walk_t ?_ (Or.inl ⟨by rfl, ?_⟩) ?_
    rotate_left
    · intro w' hw'
      obtain ⟨p0, p1, p2⟩ := HP4.out.ext hw'
      clear hw'
      go_simp
      try with_reducible rfl
    simp only [Act.put, List.setIfInBounds_toArray, List.set_cons_zero, List.set_cons_succ]
  refine Gr.walk_c (fun K hK => ?_)
  go_simp
  have HN5 := Lib.hid (HNR.out w4)
  generalize hw : World.alloc w4 _ = w5 at HN5 ⊢
  have hx : w4.Extends w5 := by subst hw; exact ext_alloc _ _
  clear hw hmk HNR
  have HX5 := Lib.hid (Gr.ext_trans HX4.out hx)
  refine hK.out _ _ hx ?_
  clear hK K hx
  refine Gr.walk_c (fun K hK => ?_)
  go_simp
  refine (HTO.out _ w5 HN5.out).mono ?_
  rintro e w6 ⟨v6, rfl, hb6, hr6, _⟩
  have HX6 := Lib.hid (Gr.ext_trans HX5.out (Gr.ext_of hb6))
  have HR6 := Lib.hid hr6
  clear hr6
  try go_simp
  refine hK.out _ _ (Gr.ext_of hb6) ?_
  clear hK K
  clear hb6
  refine Gr.walk_c (fun K hK => ?_)
  go_simp
  refine (HD1.out v6 w6 HR6.out (HT.out.ext HX6.out)).mono ?_
  rintro e w7 ⟨g7, rfl, hx7, _, _⟩
  have HX7 := Lib.hid (Gr.ext_trans HX6.out hx7)
  rw [HDL.out]
  try go_simp
  refine hK.out _ _ (hx7) ?_
  clear hK K
  clear hx7
  iterate 3
    refine Gr.walk_t ?_ (Or.inl ⟨by rfl, ?_⟩) ?_
    rotate_left
    · intro w' hw'
      clear hw'
      go_simp
      try with_reducible rfl
    simp only [Act.put, List.setIfInBounds_toArray, List.set_cons_zero, List.set_cons_succ]
  refine Gr.walk_nil ?_
  go_wp2
  go_ret
  exact ⟨rfl, HX7.out⟩
end Go.Proofs.YtghiiipeljhbjaaDoor
