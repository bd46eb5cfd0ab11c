/- In one text: ObjNew, ObjRefNew, Ap, Append2. -/
import Derived.Handy
import Derived.Lib.Hide
import Derived.Test.YtpfmmfapdcbnkaaGreatDoorMB1
import Derived.Test.YtpfmmfapdcbnkaaGreatDoorMB5
import Derived.Test.YtpfmmfapdcbnkaaGreatDoorMB20
namespace Go.Proofs.YtpfmmfapdcbnkaaGreatDoor
set_option maxRecDepth 20000
open Go.RowKit Go.Deep
set_option linter.unusedVariables false
/-- An object, if all of its blocks can be; else why not. -/
def NewOut (A : Look) (w : World) (full : Prop) (b s m : Int) (bs : List Bk) (err : Int) (e : Ending) (w' : World) : Prop :=
  (full → ∃ o, e = .returned (.tuple #[.pointer (some ⟨o, 0, none⟩), .int .i64 0]) ∧ w.Extends w' ∧ OV A w' o b s m bs) ∧ (¬ full → NoBlock w err e w')
/-- The first blocks can be, and the next one cannot. -/
structure Bks (s : Int) (sz : Nat) (L : List (List (List Nat))) (bs : List Bk) (err : Int) : Prop where
  le : bs.length ≤ L.length
  yes : ∀ i, i < bs.length → B10 s (L.getD i []) (bs.getD i Bk.zero).k (bs.getD i Bk.zero).j sz (bs.getD i Bk.zero).c
  no : bs.length < L.length → ∀ v w, Rws w v (L.getD bs.length []) → Tab w → Calls Tryz.prog 44 #[.int .i64 s, v] w (NoBlock w err)
  ne : err ≠ 0
/-- Rows of one size, and not too many: a block, or none for the seed. -/
theorem blk_fit (sz : Nat) (src : List (List Nat)) (hlt : ∀ r ∈ src, ∀ x ∈ r, x < 256) (s1 : 1 ≤ sz) (s2 : sz ≤ 64) (k1 : 1 ≤ src.length) (k2 : src.length ≤ 40) (ha : AllB sz src) :
    (SM.SeedIs src.length 0 5 ∧ ∀ v w, Rws w v src → Tab w → Calls Tryz.prog 44 #[.int .i64 (sz : Nat), v] w (NoBlock w 5)) ∨ ∃ j c, B10 sz src src.length j sz c := by
  obtain ⟨r, er, hr⟩ := seed_exists src.length
  rcases seed5 hr with rfl | rfl
  · have hg : SM.Good src.length r := by
      rcases hr with ⟨_, _, h, _⟩ | ⟨h, _⟩
      · exact h
      · cases h
    obtain ⟨c, hc⟩ := BM.parts_exist sz hg hlt
    exact .inr ⟨r, c, ⟨rfl, s1, s2, rfl, k1, k2, ha, hr, hc⟩⟩
  · obtain rfl : r = 0 := by
      rcases hr with ⟨h, _⟩ | ⟨_, h, _⟩
      · cases h
      · exact h
    exact .inl ⟨hr, fun v w hv hT => new_none sz v src _ w (by omega) (by omega) rfl k1 k2 hv ha hT 0 hr⟩
theorem B10.two {size : Int} {src c : List (List Nat)} {k j sz : Nat} (h : B10 size src k j sz c) : 2 ≤ c.length := by
  rw [h.len]; unfold PM.l PM.w; omega
theorem bs_snoc (bs : List Bk) (q : Nat) (h : q < bs.length) : bs.take q ++ [bs.getD q Bk.zero] = bs.take (q + 1) := by
  rw [List.take_succ_eq_append_getElem h]; simp [h]
theorem heap_alloc_lt' (w : World) (o : Obj) (g : Nat) (h : g < w.heap.size) : (w.alloc o).heap[g]? = w.heap[g]? := (ext_alloc w o).block g h
theorem ptrinfo : (Tryz.prog.info? 96).map (fun i => (i.zero, i.size, i.bytes)) = some (some (.pointer none), 1, 8) := by kernel_rfl
/-- No object: its bytes cannot be cut. -/
theorem newo_cut (b s m : Int) (v : Value) (xs : List Nat) (L : List (List (List Nat))) (er : Nat) (w : World) (he : er ≠ 0) (hv : U8s w v xs) (hc : ∀ v w, U8s w v xs → Calls Tryz.prog 43 #[PV b s m, v] w (CutOut w er L)) :
    Calls Tryz.prog 23 #[PV b s m, v] w (NoBlock w er) := by
  have HC := Lib.hid hc
  have HV := Lib.hid hv
  have hne : ((er : Int) != 0) = true := by simp; omega
  obtain ⟨va, vc, rfl, _⟩ := hv.slice
  clear hv hc he
  go_enter Tryz.func23, Tryz.ntmps23
  go_wp2_with fail
  generalize hw1 : World.alloc w _ = w1
  have hx1 : w.Extends w1 := by subst hw1; exact prm_ext_alloc _ _
  have HX1 := Lib.hid hx1
  clear hw1 hx1
  refine (HC.out _ w1 (HV.out.ext HX1.out)).mono ?_
  rintro e w2 ⟨u, rfl, hx, hu⟩
  have HX2 := Lib.hid (Gr.ext_trans HX1.out hx)
  obtain ⟨ua, uc, rfl, _⟩ := hu.slice
  clear hx hu
  go_wp2
  go_returns
  exact ⟨by rfl, HX2.out⟩
set_option maxHeartbeats 1000000 in
set_option maxRecDepth 100000 in
theorem newo_any (b s m : Int) (v : Value) (xs : List Nat) (L : List (List (List Nat))) (bs : List Bk) (sz : Nat) (err : Int) (w : World) (hT : Tab w) (hL : L.length ≤ 4000) (hv : U8s w v xs) (hB : Bks s sz L bs err) (hc : ∀ v w, U8s w v xs → Calls Tryz.prog 43 #[PV b s m, v] w (CutOut w 0 L)) :
    Calls Tryz.prog 23 #[PV b s m, v] w (NewOut (BLook sz) w (bs.length = L.length) b s m bs err) := by
  have HC := Lib.hid hc
  have HV := Lib.hid hv
  have HT := Lib.hid hT
  have HYES : Hid (∀ i, i < bs.length → ∀ v w, Rws w v (L.getD i []) → Tab w → Calls Tryz.prog 44 #[.int .i64 s, v] w fun e w' => ∃ p u, e = .returned (.tuple #[.pointer (some ⟨p, 0, none⟩), .int .i64 0]) ∧ w.Extends w' ∧ BLook sz w' p (bs.getD i Bk.zero) u ∧ Rws w' u (bs.getD i Bk.zero).c) := fun i hi v w hv hT => (hB.yes i hi).new v w hv hT
  have HNO : Hid (bs.length < L.length → ∀ v w, Rws w v (L.getD bs.length []) → Tab w → Calls Tryz.prog 44 #[.int .i64 s, v] w (NoBlock w err)) := hB.no
  have HTWO : Hid (∀ i, i < bs.length → 2 ≤ (bs.getD i Bk.zero).c.length) := fun i hi => (hB.yes i hi).two
  have hle := hB.le
  have hne : (err != 0) = true := by simpa using hB.ne
  have HSN := Lib.hid (bs_snoc bs)
  have HTK : Hid (bs.take 0 = []) := List.take_zero
  have HTL : Hid (∀ q, q ≤ bs.length → (bs.take q).length = q) := fun q h => by rw [List.length_take]; omega
  have HTA : Hid (bs.take bs.length = bs) := List.take_length
  have HLK := Lib.hid (bLooks sz)
  obtain ⟨i1, hi', hz0', hz1', hz2'⟩ := info_parts ptrinfo
  have HI' := Lib.hid hi'; clear hi'
  have HZ0' := Lib.hid hz0'; clear hz0'
  have HZ1' := Lib.hid hz1'; clear hz1'
  have HZ2' := Lib.hid hz2'; clear hz2'
  obtain ⟨va, vc, rfl, _⟩ := hv.slice
  clear hv hc hB hT
  obtain ⟨n, hn⟩ : ∃ n, n = L.length := ⟨_, rfl⟩
  obtain ⟨bn, hbn⟩ : ∃ bn, bn = bs.length := ⟨_, rfl⟩
  rw [← hn, ← hbn] at HNO ⊢
  rw [← hn] at hL
  rw [← hn, ← hbn] at hle
  rw [← hbn] at HYES HTWO HSN HTL HTA
  have HN := Lib.hid hn
  clear hn hbn
  generalize BLook sz = A at *
  go_enter Tryz.func23, Tryz.ntmps23
  go_wp2_with fail
  generalize hw1 : World.alloc w _ = w1
  have hx1 : w.Extends w1 := by subst hw1; exact prm_ext_alloc _ _
  have hp : PAt w1 w.heap.size b s m := by subst hw1; exact PAt.new w 25 b s m
  generalize w.heap.size = bx at hp ⊢
  have HX1 := Lib.hid hx1
  have HP1 := Lib.hid hp
  clear hw1 hx1 hp
  refine (HC.out _ w1 (HV.out.ext HX1.out)).mono ?_
  rintro e w2 ⟨u, rfl, hx, hu⟩
  have HX2 := Lib.hid (Gr.ext_trans HX1.out hx)
  have HP2 := Lib.hid (HP1.out.ext hx)
  obtain ⟨ua, uc, rfl, _⟩ := hu.slice
  rw [← HN.out] at hu ⊢
  have HU := Lib.hid hu.at.2
  have hb2 := HP2.out.lt
  obtain ⟨p0, p1, p2⟩ := HP2.out
  clear hx hu
  go_wp2_with fail
  generalize hw3 : World.alloc w2 _ = w3
  have hx3 : w2.Extends w3 := by subst hw3; exact prm_ext_alloc _ _
  have hob : OB A 95 96 w3 w2.heap.size b s m (.slice none 0 0) [] := by subst hw3; exact OB.new A 95 96 w2 b s m
  have hg2 : w.heap.size ≤ w2.heap.size := HX2.out.size
  have hxb : bx < w2.heap.size := hb2
  obtain ⟨g, hgg⟩ : ∃ g, g = w2.heap.size := ⟨_, rfl⟩
  rw [← hgg] at hob hg2 hxb ⊢
  have HGG := Lib.hid hgg
  have HX3 := Lib.hid hx3
  have HOB3 := Lib.hid hob
  have HP3 := Lib.hid (HP2.out.ext hx3)
  clear hw3 hx3 hob p0 p1 p2 hgg
  try go_wp2_with fail
  go_loopw [27] (fun i wr => ∃ (q : Nat) (v : Value), q ≤ n ∧ q ≤ bn ∧ i = .int .i64 q ∧ Hid (w2.Extends wr) ∧ Hid (OB A 95 96 wr g b s m v (bs.take q))) (fun i _ => (n - intOf i).toNat)
  case atStart => exact ⟨0, _, by omega, by omega, rfl, HX3, by rw [HTK.out]; exact HOB3⟩
  case round =>
    obtain ⟨q, vb, hq, hqb, rfl, HX, HOB⟩ := hrel
    have HPr := Lib.hid (HP2.out.ext HX.out)
    by_cases h7 : q < n
    · obtain ⟨b1, o1, rfl, hb1, hc1⟩ := HU.out (by omega)
      obtain ⟨ra, rc, hc3, hr0⟩ := hc1 q h7
      have HXr := Lib.hid (Gr.ext_trans HX2.out HX.out)
      have HRr := Lib.hid (hr0.ext HX.out)
      have hbr := HPr.out.lt
      have hc2 := HX.out.cell_of hc3
      obtain ⟨p0, p1, p2⟩ := HPr.out
      have HYQ : Hid (q < bn → _) := HYES.out q
      have HTQ : Hid (q < bn → _) := HTWO.out q
      have HSQ : Hid (q < bn → _) := HSN.out q
      have HNQ : Hid (q = bn → ∀ v w, Rws w v (L.getD q []) → Tab w → Calls Tryz.prog 44 #[.int .i64 s, v] w (NoBlock w err)) := fun e => by
        have := HNO.out (by omega)
        rw [← e] at this
        exact this
      clear hc1 hc3 hr0
      generalize L.getD q [] = row at *
      go_wp2_with fail
      by_cases h8 : q < bn
      · have HY1 := Lib.hid (HYQ.out h8)
        have HT1 := Lib.hid (HTQ.out h8)
        have HS1 := Lib.hid (HSQ.out h8)
        clear HYQ HTQ HSQ HNQ
        generalize bs.getD q Bk.zero = x at *
        refine (HY1.out _ wr HRr.out (HT.out.ext HXr.out)).mono ?_
        rintro e w6 ⟨p, u, rfl, hx, hl, hru⟩
        have HX6 := Lib.hid (Gr.ext_trans HX.out hx)
        have HOB6 := Lib.hid (HOB.out.ext HLK.out hx)
        have HL6 := Lib.hid hl
        have HR6 := Lib.hid hru
        clear hx hl hru p0 p1 p2 HX HOB HPr hc2
        obtain ⟨vba, vbc, rfl⟩ : ∃ a c, vb = .slice a q c := by
          have := HOB6.out.slice
          rwa [HTL.out q (by omega)] at this
        have HAP := Lib.hid (HOB6.out.apart HLK.out HL6.out HR6.out HT1.out)
        obtain ⟨hrow, hcl, vs, hown, hpt⟩ := HOB6.out
        have HROW := Lib.hid hrow
        have HCL := Lib.hid hcl
        have HOWN := Lib.hid hown
        have HPT := Lib.hid hpt
        have hcell : w6.cell? ⟨g, 3, none⟩ = some (.slice vba q vbc) := hrow.cell (i := 3) (by omega)
        have hgl : g < w6.heap.size := hrow.lt
        have HTQL := Lib.hid (HTL.out q hqb)
        have howq := hown
        rw [HTQL.out] at howq
        have HOWQ := Lib.hid howq
        clear hrow hcl hown hpt howq
        go_wp2_with (at_builtin; refine wpList_append_own_src3 _ rfl _ _ 93 93 rfl (g + 1) 96 i1 (.pointer none) 1 8 Tryz.underlying93 HI'.out HZ0'.out HZ1'.out HZ2'.out rfl _ _ _ rfl (HOWQ.out.alloc _) _ 1 [.pointer (some ⟨p, 0, none⟩)] rfl (src_one Tryz.underlying93 _ _ rfl rfl) (by unfold maxLen; omega) (by omega) (by simp; omega) IsPtr (HCL.out.kept fun g' hg' => heap_alloc_lt' _ _ _ (HOWN.out.lt g' hg').2) (fun y hy => by simp at hy; exact ⟨_, hy⟩) (fun y hy => ⟨none, by simpa [Value.cells] using hy⟩) ?_)
        intro v9 w9 ho9 hg9 _ hcl9
        have HW9 : Hid (w2.Extends (w9.setCell ⟨g, 3, none⟩ v9) ∧ OB A 95 96 (w9.setCell ⟨g, 3, none⟩ v9) g b s m v9 (bs.take (q + 1))) := by
          refine ⟨?_, ?_⟩
          · have hx9 : w2.Extends w9 := ext_own (Gr.ext_trans HX6.out (ext_alloc _ _)) hg9 fun x hx => by have := (HOWN.out.lt x hx).1; have := HGG.out; omega
            exact ext_own hx9 (grown_setCell (grown_refl w9 (some g)) 3 v9) fun x hx => by cases hx; exact Nat.le_of_eq HGG.out.symm
          · rw [← HS1.out]
            refine OB.snoc HLK.out (HROW.out.alloc _) (HCL.out.kept fun g' hg' => heap_alloc_lt' _ _ _ (HOWN.out.lt g' hg').2) (HOWN.out.alloc _) (fun i hi => ?_) (HLK.out.ext HL6.out (ext_alloc _ _)) (HR6.out.ext (ext_alloc _ _)) HT1.out hg9 (by rw [HTQL.out]; exact ho9) hcl9
            obtain ⟨y, e, hpy, hy2⟩ := HPT.out i hi
            exact ⟨y, e, hpy.ext HLK.out (ext_alloc _ _), hy2⟩
        have hrow9 := (HROW.out.alloc (.cells #[.pointer (some ⟨p, 0, none⟩)] 96)).of_block (hg9.block g (by simp; omega) fun e => by have := (HOWN.out.lt g e.symm).1; omega)
        have hcell9 : w9.cell? ⟨g, 3, none⟩ = some (.slice vba q vbc) := hrow9.cell (i := 3) (by omega)
        have hfz9 := hrow9.frozen 3
        obtain ⟨xa, xc, rfl⟩ := owns_slice ho9
        clear ho9 hg9 hcl9 hrow9 hcell HOB6 HROW HCL HOWN HOWQ HPT HAP
        go_wp2
        go_roundw
        case rel => exact ⟨q + 1, _, by omega, by omega, by go_num, Lib.hid HW9.out.1, Lib.hid HW9.out.2⟩
        case measure => simp [intOf]; omega
      · have hqe : q = bn := by omega
        have HN1 := Lib.hid (HNQ.out hqe)
        clear HYQ HTQ HSQ HNQ
        refine (HN1.out _ wr HRr.out (HT.out.ext HXr.out)).mono ?_
        rintro e w6 ⟨rfl, hx⟩
        have HP : Hid (NewOut A w (bn = n) b s m bs err (.returned (.tuple #[.pointer none, .int .i64 err])) w6) := ⟨fun h => by omega, fun _ => ⟨rfl, Gr.ext_trans HXr.out hx⟩⟩
        clear hx p0 p1 p2 hc2
        go_wp2
        go_returns
        exact HP.out
    · obtain rfl : q = n := by omega
      have HXr := Lib.hid (Gr.ext_trans HX2.out HX.out)
      have hbq : bn = q := by omega
      have HP : Hid (NewOut A w (bn = q) b s m bs err (.returned (.tuple #[.pointer (some ⟨g, 0, none⟩), .int .i64 0])) wr) := ⟨fun _ => ⟨g, rfl, HXr.out, by
        have h := HOB.out.ov
        rw [← hbq, HTA.out] at h
        exact h⟩, fun h => absurd hbq h⟩
      go_wp2
      go_returns
      exact HP.out
end Go.Proofs.YtpfmmfapdcbnkaaGreatDoor
namespace Go.Proofs.YtpfmmfapdcbnkaaGreatDoor
set_option maxRecDepth 20000
open Go.RowKit Go.Deep
set_option linter.unusedVariables false
theorem rptrinfo : (Tryz.prog.info? 70).map (fun i => (i.zero, i.size, i.bytes)) = some (some (.pointer none), 1, 8) := by kernel_rfl
/-- No object: its bytes cannot be cut. -/
theorem rnewo_cut (b s m : Int) (v : Value) (xs : List Nat) (L : List (List (List Nat))) (er : Nat) (w : World) (he : er ≠ 0) (hv : U8s w v xs) (hc : ∀ v w, U8s w v xs → Calls Tryz.prog 29 #[PV b s m, v] w (CutOut w er L)) :
    Calls Tryz.prog 16 #[PV b s m, v] w (NoBlock w er) := by
  have HC := Lib.hid hc
  have HV := Lib.hid hv
  have hne : ((er : Int) != 0) = true := by simp; omega
  obtain ⟨va, vc, rfl, _⟩ := hv.slice
  clear hv hc he
  go_enter Tryz.func16, Tryz.ntmps16
  go_wp2_with fail
  generalize hw1 : World.alloc w _ = w1
  have hx1 : w.Extends w1 := by subst hw1; exact prm_ext_alloc _ _
  have HX1 := Lib.hid hx1
  clear hw1 hx1
  refine (HC.out _ w1 (HV.out.ext HX1.out)).mono ?_
  rintro e w2 ⟨u, rfl, hx, hu⟩
  have HX2 := Lib.hid (Gr.ext_trans HX1.out hx)
  obtain ⟨ua, uc, rfl, _⟩ := hu.slice
  clear hx hu
  go_wp2
  go_returns
  exact ⟨by rfl, HX2.out⟩
set_option maxHeartbeats 1000000 in
set_option maxRecDepth 100000 in
theorem rnewo_any (b s m : Int) (v : Value) (xs : List Nat) (L : List (List (List Nat))) (bs : List Bk) (sz : Nat) (err : Int) (w : World) (hL : L.length ≤ 4000) (hv : U8s w v xs) (hB : Bks s sz L bs err) (hBR : bs.length < L.length → ∀ v w, Rws w v (L.getD bs.length []) → Calls Tryz.prog 30 #[.int .i64 s, v] w (NoBlock w err)) (hc : ∀ v w, U8s w v xs → Calls Tryz.prog 29 #[PV b s m, v] w (CutOut w 0 L)) :
    Calls Tryz.prog 16 #[PV b s m, v] w (NewOut (RLook sz) w (bs.length = L.length) b s m bs err) := by
  have HC := Lib.hid hc
  have HV := Lib.hid hv
  have HYES : Hid (∀ i, i < bs.length → ∀ v w, Rws w v (L.getD i []) → Calls Tryz.prog 30 #[.int .i64 s, v] w fun e w' => ∃ p u, e = .returned (.tuple #[.pointer (some ⟨p, 0, none⟩), .int .i64 0]) ∧ w.Extends w' ∧ RLook sz w' p (bs.getD i Bk.zero) u ∧ Rws w' u (bs.getD i Bk.zero).c) := fun i hi v w hv => (hB.yes i hi).refNew v w hv
  have HNO : Hid (bs.length < L.length → ∀ v w, Rws w v (L.getD bs.length []) → Calls Tryz.prog 30 #[.int .i64 s, v] w (NoBlock w err)) := hBR
  have HTWO : Hid (∀ i, i < bs.length → 2 ≤ (bs.getD i Bk.zero).c.length) := fun i hi => (hB.yes i hi).two
  have hle := hB.le
  have hne : (err != 0) = true := by simpa using hB.ne
  have HSN := Lib.hid (bs_snoc bs)
  have HTK : Hid (bs.take 0 = []) := List.take_zero
  have HTL : Hid (∀ q, q ≤ bs.length → (bs.take q).length = q) := fun q h => by rw [List.length_take]; omega
  have HTA : Hid (bs.take bs.length = bs) := List.take_length
  have HLK := Lib.hid (rLooks sz)
  obtain ⟨i1, hi', hz0', hz1', hz2'⟩ := info_parts rptrinfo
  have HI' := Lib.hid hi'; clear hi'
  have HZ0' := Lib.hid hz0'; clear hz0'
  have HZ1' := Lib.hid hz1'; clear hz1'
  have HZ2' := Lib.hid hz2'; clear hz2'
  obtain ⟨va, vc, rfl, _⟩ := hv.slice
  clear hv hc hB hBR
  obtain ⟨n, hn⟩ : ∃ n, n = L.length := ⟨_, rfl⟩
  obtain ⟨bn, hbn⟩ : ∃ bn, bn = bs.length := ⟨_, rfl⟩
  rw [← hn, ← hbn] at HNO ⊢
  rw [← hn] at hL
  rw [← hn, ← hbn] at hle
  rw [← hbn] at HYES HTWO HSN HTL HTA
  have HN := Lib.hid hn
  clear hn hbn
  generalize RLook sz = A at *
  go_enter Tryz.func16, Tryz.ntmps16
  go_wp2_with fail
  generalize hw1 : World.alloc w _ = w1
  have hx1 : w.Extends w1 := by subst hw1; exact prm_ext_alloc _ _
  have hp : PAt w1 w.heap.size b s m := by subst hw1; exact PAt.new w 25 b s m
  generalize w.heap.size = bx at hp ⊢
  have HX1 := Lib.hid hx1
  have HP1 := Lib.hid hp
  clear hw1 hx1 hp
  refine (HC.out _ w1 (HV.out.ext HX1.out)).mono ?_
  rintro e w2 ⟨u, rfl, hx, hu⟩
  have HX2 := Lib.hid (Gr.ext_trans HX1.out hx)
  have HP2 := Lib.hid (HP1.out.ext hx)
  obtain ⟨ua, uc, rfl, _⟩ := hu.slice
  rw [← HN.out] at hu ⊢
  have HU := Lib.hid hu.at.2
  have hb2 := HP2.out.lt
  obtain ⟨p0, p1, p2⟩ := HP2.out
  clear hx hu
  go_wp2_with fail
  generalize hw3 : World.alloc w2 _ = w3
  have hx3 : w2.Extends w3 := by subst hw3; exact prm_ext_alloc _ _
  have hob : OB A 69 70 w3 w2.heap.size b s m (.slice none 0 0) [] := by subst hw3; exact OB.new A 69 70 w2 b s m
  have hg2 : w.heap.size ≤ w2.heap.size := HX2.out.size
  have hxb : bx < w2.heap.size := hb2
  obtain ⟨g, hgg⟩ : ∃ g, g = w2.heap.size := ⟨_, rfl⟩
  rw [← hgg] at hob hg2 hxb ⊢
  have HGG := Lib.hid hgg
  have HX3 := Lib.hid hx3
  have HOB3 := Lib.hid hob
  have HP3 := Lib.hid (HP2.out.ext hx3)
  clear hw3 hx3 hob p0 p1 p2 hgg
  try go_wp2_with fail
  go_loopw [9] (fun i wr => ∃ (q : Nat) (v : Value), q ≤ n ∧ q ≤ bn ∧ i = .int .i64 q ∧ Hid (w2.Extends wr) ∧ Hid (OB A 69 70 wr g b s m v (bs.take q))) (fun i _ => (n - intOf i).toNat)
  case atStart => exact ⟨0, _, by omega, by omega, rfl, HX3, by rw [HTK.out]; exact HOB3⟩
  case round =>
    obtain ⟨q, vb, hq, hqb, rfl, HX, HOB⟩ := hrel
    have HPr := Lib.hid (HP2.out.ext HX.out)
    by_cases h7 : q < n
    · obtain ⟨b1, o1, rfl, hb1, hc1⟩ := HU.out (by omega)
      obtain ⟨ra, rc, hc3, hr0⟩ := hc1 q h7
      have HXr := Lib.hid (Gr.ext_trans HX2.out HX.out)
      have HRr := Lib.hid (hr0.ext HX.out)
      have hbr := HPr.out.lt
      have HCE : Hid (∀ w', wr.drew.Extends w' → w'.cell? ⟨b1, o1 + q, none⟩ = some (.slice ra (L.getD q []).length rc) ∧ w'.cell? ⟨bx, 1, none⟩ = some (.int .i64 s)) := fun w' hw' => ⟨(Gr.ext_trans HX.out (Gr.of_drew hw')).cell_of hc3, (HPr.out.ext (Gr.of_drew hw')).2.1⟩
      have HYQ : Hid (q < bn → _) := HYES.out q
      have HTQ : Hid (q < bn → _) := HTWO.out q
      have HSQ : Hid (q < bn → _) := HSN.out q
      have HNQ : Hid (q = bn → ∀ v w, Rws w v (L.getD q []) → Calls Tryz.prog 30 #[.int .i64 s, v] w (NoBlock w err)) := fun e => by
        have := HNO.out (by omega)
        rw [← e] at this
        exact this
      clear hc1 hc3 hr0
      generalize L.getD q [] = row at *
      go_wp2_with fail
      have HXd := Lib.hid (Gr.ext_drew HXr.out)
      have HXe : Hid (w2.Extends wr.drew) := Gr.ext_drew HX.out
      have HRd := Lib.hid (HRr.out.ext (Gr.ext_drew (Gr.ext_refl wr)))
      have HOBd : Hid (OB A 69 70 wr.drew g b s m vb (bs.take q)) := HOB.out.ext HLK.out (Gr.ext_drew (Gr.ext_refl wr))
      clear HX HXr HOB HRr HPr
      refine Gr.region 11 [(false,0),(false,1),(false,2),(false,3),(false,4),(false,5),(true,6),(false,7),(false,8),(false,9),(false,10)] (by kernel_rfl) (by kernel_rfl) (fun d _ _ _ _ h => by cases d <;> exact h) ?_
      simp only [Gr.pick, List.getElem?_cons_zero, List.getElem?_cons_succ, List.drop_succ_cons, List.drop_zero]
      generalize wr.drew = w5 at *
      iterate 6
        refine Gr.walk_t ?_ (Or.inl ⟨by rfl, ?_⟩) ?_
        rotate_left
        · intro w' hw'
          obtain ⟨q1, q2⟩ := HCE.out w' hw'
          clear hw'
          go_simp
          try with_reducible rfl
        simp only [Act.put, List.setIfInBounds_toArray, List.set_cons_zero, List.set_cons_succ]
      by_cases h8 : q < bn
      · have HY1 := Lib.hid (HYQ.out h8)
        have HT1 := Lib.hid (HTQ.out h8)
        have HS1 := Lib.hid (HSQ.out h8)
        clear HYQ HTQ HSQ HNQ
        generalize bs.getD q Bk.zero = x at *
        refine Gr.walk_c (fun K hK => ?_)
        go_simp
        refine (HY1.out _ w5 HRd.out).mono ?_
        rintro e w6 ⟨p, u, rfl, hx, hl, hru⟩
        have HX6 := Lib.hid (Gr.ext_trans HXe.out hx)
        have HOB6 := Lib.hid (HOBd.out.ext HLK.out hx)
        have HL6 := Lib.hid hl
        have HR6 := Lib.hid hru
        try go_simp
        refine hK.out _ _ (hx) ?_
        clear hK K
        clear hx hl hru
        iterate 4
          refine Gr.walk_t ?_ (Or.inl ⟨by rfl, ?_⟩) ?_
          rotate_left
          · intro w' hw'
            clear hw'
            go_simp
            try with_reducible rfl
          simp only [Act.put, List.setIfInBounds_toArray, List.set_cons_zero, List.set_cons_succ]
        refine Gr.walk_nil ?_
        obtain ⟨vba, vbc, rfl⟩ : ∃ a c, vb = .slice a q c := by
          have := HOB6.out.slice
          rwa [HTL.out q (by omega)] at this
        have HAP := Lib.hid (HOB6.out.apart HLK.out HL6.out HR6.out HT1.out)
        obtain ⟨hrow, hcl, vs, hown, hpt⟩ := HOB6.out
        have HROW := Lib.hid hrow
        have HCL := Lib.hid hcl
        have HOWN := Lib.hid hown
        have HPT := Lib.hid hpt
        have hcell : w6.cell? ⟨g, 3, none⟩ = some (.slice vba q vbc) := hrow.cell (i := 3) (by omega)
        have hgl : g < w6.heap.size := hrow.lt
        have HTQL := Lib.hid (HTL.out q hqb)
        have howq := hown
        rw [HTQL.out] at howq
        have HOWQ := Lib.hid howq
        clear hrow hcl hown hpt howq
        go_wp2_with (at_builtin; refine wpList_append_own_src3 _ rfl _ _ 67 67 rfl (g + 1) 70 i1 (.pointer none) 1 8 Tryz.underlying67 HI'.out HZ0'.out HZ1'.out HZ2'.out rfl _ _ _ rfl (HOWQ.out.alloc _) _ 1 [.pointer (some ⟨p, 0, none⟩)] rfl (src_one Tryz.underlying67 _ _ rfl rfl) (by unfold maxLen; omega) (by omega) (by simp; omega) IsPtr (HCL.out.kept fun g' hg' => heap_alloc_lt' _ _ _ (HOWN.out.lt g' hg').2) (fun y hy => by simp at hy; exact ⟨_, hy⟩) (fun y hy => ⟨none, by simpa [Value.cells] using hy⟩) ?_)
        intro v9 w9 ho9 hg9 _ hcl9
        have HW9 : Hid (w2.Extends (w9.setCell ⟨g, 3, none⟩ v9) ∧ OB A 69 70 (w9.setCell ⟨g, 3, none⟩ v9) g b s m v9 (bs.take (q + 1))) := by
          refine ⟨?_, ?_⟩
          · have hx9 : w2.Extends w9 := ext_own (Gr.ext_trans HX6.out (ext_alloc _ _)) hg9 fun x hx => by have := (HOWN.out.lt x hx).1; have := HGG.out; omega
            exact ext_own hx9 (grown_setCell (grown_refl w9 (some g)) 3 v9) fun x hx => by cases hx; exact Nat.le_of_eq HGG.out.symm
          · rw [← HS1.out]
            refine OB.snoc HLK.out (HROW.out.alloc _) (HCL.out.kept fun g' hg' => heap_alloc_lt' _ _ _ (HOWN.out.lt g' hg').2) (HOWN.out.alloc _) (fun i hi => ?_) (HLK.out.ext HL6.out (ext_alloc _ _)) (HR6.out.ext (ext_alloc _ _)) HT1.out hg9 (by rw [HTQL.out]; exact ho9) hcl9
            obtain ⟨y, e, hpy, hy2⟩ := HPT.out i hi
            exact ⟨y, e, hpy.ext HLK.out (ext_alloc _ _), hy2⟩
        have hrow9 := (HROW.out.alloc (.cells #[.pointer (some ⟨p, 0, none⟩)] 70)).of_block (hg9.block g (by simp; omega) fun e => by have := (HOWN.out.lt g e.symm).1; omega)
        have hcell9 : w9.cell? ⟨g, 3, none⟩ = some (.slice vba q vbc) := hrow9.cell (i := 3) (by omega)
        have hfz9 := hrow9.frozen 3
        obtain ⟨xa, xc, rfl⟩ := owns_slice ho9
        clear ho9 hg9 hcl9 hrow9 hcell HOB6 HROW HCL HOWN HOWQ HPT HAP
        go_wp2
        go_roundw
        case rel => exact ⟨q + 1, _, by omega, by omega, by go_num, Lib.hid HW9.out.1, Lib.hid HW9.out.2⟩
        case measure => simp [intOf]; omega
      · have hqe : q = bn := by omega
        have HN1 := Lib.hid (HNQ.out hqe)
        clear HYQ HTQ HSQ HNQ
        refine Gr.walk_c (fun K hK => ?_)
        go_simp
        refine (HN1.out _ w5 HRd.out).mono ?_
        rintro e w6 ⟨rfl, hx⟩
        have HP : Hid (NewOut A w (bn = n) b s m bs err (.returned (.tuple #[.pointer none, .int .i64 err])) w6) := ⟨fun h => by omega, fun _ => ⟨rfl, Gr.ext_trans HXd.out hx⟩⟩
        try go_simp
        refine hK.out _ _ (hx) ?_
        clear hK K
        clear hx
        iterate 4
          refine Gr.walk_t ?_ (Or.inl ⟨by rfl, ?_⟩) ?_
          rotate_left
          · intro w' hw'
            clear hw'
            go_simp
            try with_reducible rfl
          simp only [Act.put, List.setIfInBounds_toArray, List.set_cons_zero, List.set_cons_succ]
        refine Gr.walk_nil ?_
        go_wp2
        go_returns
        exact HP.out
    · obtain rfl : q = n := by omega
      have HXr := Lib.hid (Gr.ext_trans HX2.out HX.out)
      have hbq : bn = q := by omega
      have HP : Hid (NewOut A w (bn = q) b s m bs err (.returned (.tuple #[.pointer (some ⟨g, 0, none⟩), .int .i64 0])) wr) := ⟨fun _ => ⟨g, rfl, HXr.out, by
        have h := HOB.out.ov
        rw [← hbq, HTA.out] at h
        exact h⟩, fun h => absurd hbq h⟩
      go_wp2
      go_returns
      exact HP.out
end Go.Proofs.YtpfmmfapdcbnkaaGreatDoor
namespace Go.Proofs.YtpfmmfapdcbnkaaGreatDoor
set_option maxRecDepth 20000
open Go.RowKit Go.Deep
set_option linter.unusedVariables false
/-- Two slices in no common block. -/
def Ap (u v : Value) : Prop := ∀ g, u.ownBlock = some g → v.ownBlock ≠ some g
theorem Ap.symm {u v : Value} (h : Ap u v) : Ap v u := fun g h1 h2 => h g h2 h1
theorem Ap.or {u v : Value} (h : Ap u v) : u.ownBlock = none ∨ u.ownBlock ≠ v.ownBlock := by
  cases hu : u.ownBlock with
  | none => exact .inl rfl
  | some g => exact .inr fun e => h g hu e.symm
theorem Ap.next {w : World} {B n s S : Nat} {T : TypeId} {u v v' : Value} {xs : List Value} (h : Ap u v) (hu : w.ownsRow B T s u n xs) (hS : w.heap.size ≤ S) (hn : v'.ownBlock = v.ownBlock ∨ ∃ g, v'.ownBlock = some g ∧ S ≤ g) : Ap u v' := fun g h1 h2 => by
  rcases hn with e | ⟨g', e, hg⟩
  · exact h g h1 (e ▸ h2)
  · rw [e] at h2
    cases h2
    have := (hu.lt _ h1).2
    omega
end Go.Proofs.YtpfmmfapdcbnkaaGreatDoor
namespace Go.Proofs.YtpfmmfapdcbnkaaGreatDoor
set_option maxRecDepth 20000
open Go.RowKit Go.Deep
set_option linter.unusedVariables false
section
variable {P : Program} (w : World)
theorem run_append_own_src2 (base : Nat) (t tx ty e : TypeId) (i : TypeInfo) (z : Value) (size bytes : Nat) (ht : P.underlying t = some (.slice e)) (hi : P.info? e = some i) (hz : i.zero = some z)
    (hsize : i.size = size) (hby : i.bytes = bytes) (hzs : z.cells.size = size)
    (v : Value) (n : Nat) (xs : List Value) (hown : w.ownsRow base e size v n xs) (x : Value) (m : Nat) (news : List Value) (hs : Src P size tx x m news w)
    (h63 : n + m ≤ maxLen) (hbytes : (n + m) * bytes ≤ 140737488355328) (hbase : base ≤ w.heap.size) :
    ∃ v' w', (Builtin.append_ #[t, tx] ty #[v, x]).run P w = .ok v' w' ∧ w'.ownsRow base e size v' (n + m) (xs ++ news) ∧ w.grownBy w' v.ownBlock ∧
      (v'.ownBlock = v.ownBlock ∨ ∃ g, v'.ownBlock = some g ∧ w.heap.size ≤ g) := by
  subst hsize
  subst hby
  have hsmall : n + m ≤ 9223372036854775807 := by simp only [maxLen] at h63; omega
  have hl := hs.newsLen
  have hlen : (xs ++ news).length = (n + m) * i.size := by rw [List.length_append, hown.1, hl, Nat.add_mul]
  have grown : ∀ (old : Nat), old < n + m → ∀ (row : Option Nat),
      (w.drew.alloc (.cells ((xs ++ news).toArray ++ Builtin.zeroCells z.cells (grownCap w (n + m) old e - (n + m))) e)).ownsRow base e i.size
        (.slice (some ⟨w.heap.size, 0, none⟩) (n + m) (grownCap w (n + m) old e)) (n + m) (xs ++ news) ∧
      w.grownBy (w.drew.alloc (.cells ((xs ++ news).toArray ++ Builtin.zeroCells z.cells (grownCap w (n + m) old e - (n + m))) e)) row := by
    intro old ho row
    have hge := grownCap_ge w (n + m) old e
    have hcm : grownCap w (n + m) old e ≤ maxLen := grownCap_le_maxLen w (n + m) old e h63
    refine ⟨⟨hlen, .inr ⟨w.heap.size, _, _, rfl, hbase, heap_alloc_new w.drew _, hge, hcm, ?_, ?_⟩⟩, ⟨rfl, rfl, rfl, by simp, fun k hk _ => Below.heap_alloc w.drew _ k hk⟩⟩
    · simp only [Array.size_append, List.size_toArray, size_zeroCells, hzs, hlen, ← Nat.add_mul]
      congr 1
      omega
    · simp only [Array.toList_append]
      rw [← hlen]
      exact List.take_left
  rcases hown.2 with ⟨rfl, rfl⟩ | ⟨g, cap, cur, rfl, hbg, hg, hnc, hcm, hcs, htake⟩
  · have hx : xs = [] := List.eq_nil_of_length_eq_zero (by simpa using hown.1)
    subst hx
    by_cases hm : m = 0
    · subst hm
      have hn : news = [] := List.eq_nil_of_length_eq_zero (by simpa using hl)
      subst hn
      refine ⟨.slice none 0 0, w, ?_, World.ownsRow_nil w base e i.size, ⟨rfl, rfl, rfl, Nat.le_refl _, fun _ _ _ => rfl⟩, .inl rfl⟩
      rcases hs.kind with ⟨e', hk⟩ | hk <;> simp [Builtin.append_, run_underlying ht, run_underlying hk, sizeOf, typeInfo, hi, hs.len, hs.cells]
    · have hr := run_append_grow_src (P := P) w t tx ty e i z ht hi hz none 0 0 [] (by simp [Builtin.firstCells]) x m news hs (by omega) (by omega) (growslice_fits (by omega) (by have hb := hbytes; simp only [Nat.zero_add] at hb ⊢; exact hb))
      have hgr := grown 0 (by omega) (Value.ownBlock (.slice none 0 0))
      simp only [Nat.zero_add, List.nil_append] at hgr hr ⊢
      exact ⟨_, _, hr, hgr.1, hgr.2, .inr ⟨_, rfl, Nat.le_refl _⟩⟩
  · by_cases hroom : n + m ≤ cap
    · have hfit : n * i.size + news.length ≤ cur.size := by rw [hl, hcs, ← Nat.add_mul]; exact Nat.mul_le_mul_right _ hroom
      have hst := run_storeCells_at P g (n * i.size) e news 0 cur w hg (by simpa using hfit) hs.one
      simp only [Nat.add_zero] at hst
      have hr : (Builtin.append_ #[t, tx] ty #[.slice (some ⟨g, 0, none⟩) n cap, x]).run P w =
          .ok (.slice (some ⟨g, 0, none⟩) (n + m) cap) (w.setRow g (cur.toList.take (n * i.size) ++ news ++ cur.toList.drop (n * i.size + news.length)).toArray) := by
        rcases hs.kind with ⟨e', hk⟩ | hk <;> simp [Builtin.append_, run_underlying ht, run_underlying hk, sizeOf, typeInfo, hi, hs.len, hroom, hs.cells, Addr.add_lit, hst]
      refine ⟨_, _, hr, ⟨hlen, .inr ⟨g, cap, _, rfl, hbg, setRow_heap w g cur _ e _ hg, hroom, hcm, ?_, ?_⟩⟩, ⟨rfl, rfl, rfl, by simp, fun k _ hk => setRow_other w g k _ (fun e => hk (by simp [Value.ownBlock, e]))⟩, .inl rfl⟩
      · simp only [List.size_toArray, List.length_append, List.length_take, List.length_drop, Array.length_toList]
        omega
      · rw [htake, ← hlen]
        exact List.take_left
    · have holds : ∀ j u, xs[j]? = some u → w.cell? ((⟨g, 0, none⟩ : Addr).add j) = some u := hown.cells (g := g) rfl
      have hold := run_firstCells_some (P := P) w.drew i.size n ⟨g, 0, none⟩ n cap xs hown.1 (by simpa using holds)
      have hr := run_append_grow_src (P := P) w t tx ty e i z ht hi hz (some ⟨g, 0, none⟩) n cap xs hold x m news hs (by omega) (by omega) (growslice_fits (by omega) hbytes)
      have hgr := grown cap (by omega) (Value.ownBlock (.slice (some ⟨g, 0, none⟩) n cap))
      exact ⟨_, _, hr, hgr.1, hgr.2, .inr ⟨_, rfl, Nat.le_refl _⟩⟩
theorem wp_append_own_src2 {o : Oper} {a : Act} {K : Act → World → Prop} {Q : Exit → Act → World → Prop} (s x : Operand) (t tx : TypeId)
    (ho : o.op = .call { callee := .builtin .append, args := #[s, x], argTypes := #[t, tx] })
    (base : Nat) (e : TypeId) (i : TypeInfo) (z : Value) (size bytes : Nat) (ht : P.underlying t = some (.slice e)) (hi : P.info? e = some i) (hz : i.zero = some z)
    (hsize : i.size = size) (hby : i.bytes = bytes) (hzs : z.cells.size = size)
    (v : Value) (n : Nat) (xs : List Value) (hs : a.eval s = v) (hown : w.ownsRow base e size v n xs) (y : Value) (m : Nat) (news : List Value) (hx : a.eval x = y) (hsrc : Src P size tx y m news w)
    (h63 : n + m ≤ maxLen) (hbytes : (n + m) * bytes ≤ 140737488355328) (hbase : base ≤ w.heap.size)
    (h : ∀ v' w', w'.ownsRow base e size v' (n + m) (xs ++ news) → w.grownBy w' v.ownBlock → (v'.ownBlock = v.ownBlock ∨ ∃ g, v'.ownBlock = some g ∧ w.heap.size ≤ g) → K (a.put o.dst v') w') : o.wp P a w K Q := by
  obtain ⟨v', w', hr, h2, h3, h4⟩ := run_append_own_src2 (P := P) w base t tx o.type e i z size bytes ht hi hz hsize hby hzs v n xs hown y m news hsrc h63 hbytes hbase
  unfold Oper.wp execOp
  simp only [ho, resolve, invoke, builtin, Sem.run_bind, Sem.run_pure, Result.andThen_ok, List.map_toArray, List.map_cons, List.map_nil, hs, hx, hr]
  exact h v' w' h2 h3 h4
end
/-- Two slices of a call's own that share no array. -/
def Apart (u v : Value) : Prop := u.ownBlock = none ∨ u.ownBlock ≠ v.ownBlock
theorem MatInv.blk {w : World} {B : Nat} {v : Value} {k : Nat} {l : List (List Nat)} (h : MatInv w B v k l) : ∀ g, v.ownBlock = some g → g < w.heap.size := fun g hg => by
  obtain ⟨vs, ho, _⟩ := h; exact (ho.lt g hg).2
/-- A matrix stays where another one grows. -/
theorem MatInv.beside {w w' : World} {B : Nat} {u v : Value} {k n : Nat} {l : List (List Nat)} {vs : List Value} (h : MatInv w B u k l) (hv : w.ownsRow B 30 1 v n vs) (hg : w.grownBy w' v.ownBlock) (ha : Apart u v) : MatInv w' B u k l := by
  obtain ⟨us, ho, hr⟩ := h
  refine ⟨us, ho.kept hg ha, fun j hj => ?_⟩
  obtain ⟨x, h1, h2⟩ := hr j hj
  refine ⟨x, h1, ?_⟩
  by_cases hn : v.ownBlock = none
  · rw [hn] at hg
    exact h2.ext (ext_below ⟨hg.os, hg.tape, hg.output, hg.size, fun i hi => hg.block i hi (by simp)⟩ rfl)
  · exact h2.grown hg (h2.apart (B' := B) hv (by decide) hn)
theorem RowOk.beside {w w' : World} {B n : Nat} {u v : Value} {xs : List Nat} {vs : List Value} (h : RowOk w B u xs) (hv : w.ownsRow B 30 1 v n vs) (hg : w.grownBy w' v.ownBlock) : RowOk w' B u xs := by
  by_cases hn : v.ownBlock = none
  · rw [hn] at hg
    exact h.ext (ext_below ⟨hg.os, hg.tape, hg.output, hg.size, fun i hi => hg.block i hi (by simp)⟩ rfl)
  · exact h.grown hg (h.apart (B' := B) hv (by decide) hn)
theorem Apart.next {w : World} {B : Nat} {u v v' : Value} {k : Nat} {l : List (List Nat)} (h : Apart u v) (hu : MatInv w B u k l) (hn : v'.ownBlock = v.ownBlock ∨ ∃ g, v'.ownBlock = some g ∧ w.heap.size ≤ g) : Apart u v' := by
  rcases hn with e | ⟨g, hg, hge⟩
  · unfold Apart; rw [e]; exact h
  · cases hb : u.ownBlock with
    | none => exact .inl hb
    | some b => refine .inr fun e => ?_
                rw [hb, hg] at e
                have := hu.blk b hb
                have e' := Option.some.inj e
                omega
theorem Apart.symm {u v : Value} (h : Apart u v) (hu : u.ownBlock ≠ none ∨ v.ownBlock = none) : Apart v u := by
  rcases h with h | h
  · rcases hu with hu | hu
    · exact absurd h hu
    · exact .inl hu
  · exact .inr (Ne.symm h)
end Go.Proofs.YtpfmmfapdcbnkaaGreatDoor
