/- In one text: ObjRecs, ObjSame, ObjLive, ObjAlive, ObjRefRecs. -/
import Derived.Handy
import Derived.Lib.Hide
import Derived.Lib.SlBytesConst
import Derived.Test.YtippckajlghimaaGreatDoorM10
import Derived.Test.YtippckajlghimaaGreatDoorM13
import Derived.Test.YtippckajlghimaaGreatDoorM14
import Derived.Test.YtippckajlghimaaGreatDoorM24
/- The records of an object, in both programs. -/
namespace Go.Proofs.YtippckajlghimaaGreatDoor
set_option maxRecDepth 20000
open Go.RowKit Go.Deep
set_option linter.unusedVariables false
namespace OM
/-- The records of the first blocks' first numbers. -/
def blkTo (f : Nat → Rc) (c : Nat) : List Rc := (List.range c).map f
def recsTo (f : Nat → Nat → Rc) (cnt : Nat → Nat) (q : Nat) : List Rc := (List.range q).flatMap fun i => blkTo (f i) (cnt i)
theorem blkTo_zero (f : Nat → Rc) : blkTo f 0 = [] := rfl
theorem blkTo_succ (f : Nat → Rc) (c : Nat) : blkTo f c ++ [f c] = blkTo f (c + 1) := by simp [blkTo, List.range_succ]
theorem blkTo_length (f : Nat → Rc) (c : Nat) : (blkTo f c).length = c := by simp [blkTo]
theorem recsTo_zero (f : Nat → Nat → Rc) (cnt : Nat → Nat) : recsTo f cnt 0 = [] := rfl
theorem recsTo_succ (f : Nat → Nat → Rc) (cnt : Nat → Nat) (q : Nat) : recsTo f cnt q ++ blkTo (f q) (cnt q) = recsTo f cnt (q + 1) := by simp [recsTo, List.range_succ]
theorem recsTo_length (f : Nat → Nat → Rc) (cnt : Nat → Nat) (h : ∀ i, cnt i ≤ 140) : ∀ q, (recsTo f cnt q).length ≤ q * 140
  | 0 => by simp [recsTo]
  | q + 1 => by
    have := recsTo_length f cnt h q
    have := h q
    rw [← recsTo_succ, List.length_append, blkTo_length]; omega
/-- The record of a symbol. -/
def rec1 (p n b s m u : Int) (sz : Nat) (bs : List Bk) (i e : Nat) : Rc := ⟨p, n, b, s, m, i, e, false, u, symOf (bs.getD i Bk.zero).k (bs.getD i Bk.zero).j sz (bs.getD i Bk.zero).c e⟩
def cnt (bs : List Bk) (ex i : Nat) : Nat := if i < bs.length then (bs.getD i Bk.zero).k + ex else 0
def recs (p n b s m u : Int) (sz : Nat) (bs : List Bk) (ex : Nat) : List Rc := recsTo (rec1 p n b s m u sz bs) (cnt bs ex) bs.length
end OM
/-- Records that a call answers. -/
def RecsOut (w : World) (l : List Rc) (e : Ending) (w' : World) : Prop := ∃ v, e = .returned v ∧ w.Extends w' ∧ Recs w' v l
/-- How many symbols beside the source ones. -/
def Extra (extra : Int) (ex : Nat) : Prop := (extra < 0 ∧ ex = 0) ∨ (0 ≤ extra ∧ extra ≤ 100 ∧ (ex : Int) = extra) ∨ (100 < extra ∧ ex = 100)
theorem Extra.exists (extra : Int) : ∃ ex, Extra extra ex := by
  by_cases h1 : extra < 0
  · exact ⟨0, .inl ⟨h1, rfl⟩⟩
  · by_cases h2 : extra ≤ 100
    · exact ⟨extra.toNat, .inr (.inl ⟨by omega, h2, by omega⟩)⟩
    · exact ⟨100, .inr (.inr ⟨by omega, rfl⟩)⟩
theorem Extra.clip {extra : Int} {ex : Nat} (h : Extra extra ex) : RM.clip extra 0 100 = (ex : Nat) := by
  unfold RM.clip
  rcases h with ⟨h1, rfl⟩ | ⟨h1, h2, h3⟩ | ⟨h1, rfl⟩
  · rw [if_pos h1]; rfl
  · rw [if_neg (by omega), if_neg (by omega)]; exact h3.symm
  · rw [if_neg (by omega), if_pos (by omega)]; rfl
theorem Extra.le {extra : Int} {ex : Nat} (h : Extra extra ex) : ex ≤ 100 := by
  rcases h with ⟨h1, rfl⟩ | ⟨h1, h2, h3⟩ | ⟨h1, rfl⟩ <;> omega
theorem BLook.k {sz : Nat} {w : World} {p : Nat} {x : Bk} {u : Value} (h : BLook sz w p x u) : w.cell? ⟨p, 0, none⟩ = some (.int .i64 x.k) := h.1
theorem RLook.k {sz : Nat} {w : World} {p : Nat} {x : Bk} {u : Value} (h : RLook sz w p x u) : w.cell? ⟨p, 0, none⟩ = some (.int .i64 x.k) := h.1
theorem box_twoi (w : World) (T : TypeId) (p n : Int) : (w.alloc (.cells #[.int .i64 p, .int .i64 n] T)).cell? ⟨w.heap.size, 0, none⟩ = some (.int .i64 p) ∧ (w.alloc (.cells #[.int .i64 p, .int .i64 n] T)).cell? ⟨w.heap.size, 1, none⟩ = some (.int .i64 n) := box_two w T _ _
set_option maxHeartbeats 2000000 in
set_option maxRecDepth 100000 in
theorem orecs_any (b s m p n extra until_ : Int) (o : Nat) (L : List (List (List Nat))) (bs : List Bk) (sz ex : Nat) (err : Int) (w : World) (hT : Tab w) (hex : Extra extra ex) (hl : bs.length ≤ 4000) (hB : Bks s sz L bs err) (ho : OV (BLook sz) w o b s m bs) :
    Calls Tryz.prog 14 #[.pointer (some ⟨o, 0, none⟩), .agg #[.int .i64 p, .int .i64 n], .int .i64 extra, .int .i64 until_] w (RecsOut w (OM.recs p n b s m until_ sz bs ex)) := by
  have HT := Lib.hid hT
  have HS : Hid (∀ i, i < bs.length → ∀ (e : Nat) q u w, e ≤ 1000 → BLook sz w q (bs.getD i Bk.zero) u → Rws w u (bs.getD i Bk.zero).c → Tab w → Calls Tryz.prog 25 #[.pointer (some ⟨q, 0, none⟩), .int .i64 e] w (SymOut w (OM.rec1 p n b s m until_ sz bs i e).d 0)) := fun i hi e q u w he h1 h2 hT => by
    have h := (hB.yes i hi).symbol q e u w h1 h2 hT
    unfold symErr at h
    rw [if_pos ⟨by omega, by omega⟩] at h
    simp only [OM.rec1]
    exact h
  have HRC : Hid (∀ i e, ∃ d, OM.rec1 p n b s m until_ sz bs i e = ⟨p, n, b, s, m, (i : Nat), (e : Nat), false, until_, d⟩) := fun i e => ⟨_, rfl⟩
  have HK : Hid (∀ i, i < bs.length → OM.cnt bs ex i = (bs.getD i Bk.zero).k + ex ∧ (bs.getD i Bk.zero).k ≤ 40) := fun i hi => ⟨if_pos hi, (hB.yes i hi).k2⟩
  have hle := hex.le
  have HRL : Hid (∀ q, q ≤ bs.length → (OM.recsTo (OM.rec1 p n b s m until_ sz bs) (OM.cnt bs ex) q).length ≤ 560000) := fun q hq => by
    have := OM.recsTo_length (OM.rec1 p n b s m until_ sz bs) (OM.cnt bs ex) (fun i => by
      by_cases hi : i < bs.length
      · unfold OM.cnt; rw [if_pos hi]; have := (hB.yes i hi).k2; omega
      · unfold OM.cnt; rw [if_neg hi]; omega) q
    omega
  have HB0 := Lib.hid (fun i => OM.blkTo_zero (OM.rec1 p n b s m until_ sz bs i))
  have HB1 := Lib.hid (fun i => OM.blkTo_succ (OM.rec1 p n b s m until_ sz bs i))
  have HBL := Lib.hid (fun i => OM.blkTo_length (OM.rec1 p n b s m until_ sz bs i))
  have HR0 := Lib.hid (OM.recsTo_zero (OM.rec1 p n b s m until_ sz bs) (OM.cnt bs ex))
  have HR1 := Lib.hid (OM.recsTo_succ (OM.rec1 p n b s m until_ sz bs) (OM.cnt bs ex))
  have HOUT : Hid (∀ v w', w.Extends w' → Recs w' v (OM.recsTo (OM.rec1 p n b s m until_ sz bs) (OM.cnt bs ex) bs.length) → RecsOut w (OM.recs p n b s m until_ sz bs ex) (.returned v) w') := fun v w' hx hv => ⟨v, rfl, hx, hv⟩
  have HLK := Lib.hid (bLooks sz)
  have HLKK : Hid (∀ {w : World} {p : Nat} {x : Bk} {u : Value}, BLook sz w p x u → w.cell? ⟨p, 0, none⟩ = some (.int .i64 x.k)) := fun h => h.1
  have HEX := Lib.hid hex
  have HO := Lib.hid ho
  obtain ⟨i2, hi', hz0', hz1', hz2'⟩ := info_parts recinfo
  have HI' := Lib.hid hi'; clear hi'
  have HZ0' := Lib.hid hz0'; clear hz0'
  have HZ1' := Lib.hid hz1'; clear hz1'
  have HZ2' := Lib.hid hz2'; clear hz2'
  clear hex hB ho hT
  generalize OM.recs p n b s m until_ sz bs ex = RR at *
  generalize OM.rec1 p n b s m until_ sz bs = f at *
  generalize OM.cnt bs ex = cn at *
  generalize BLook sz = A at *
  obtain ⟨l, hl0⟩ : ∃ l, l = bs.length := ⟨_, rfl⟩
  rw [← hl0] at HS HK HRL HOUT hl
  have HLN := Lib.hid hl0
  clear hl0
  go_enter Tryz.func14, Tryz.ntmps14
  go_upto_region 1 with fail
  generalize hw1 : World.alloc w _ = w1
  have hx1 : w.Extends w1 := by subst hw1; exact prm_ext_alloc _ _
  have hid1 : w1.cell? ⟨w.heap.size, 0, none⟩ = some (.int .i64 p) ∧ w1.cell? ⟨w.heap.size, 1, none⟩ = some (.int .i64 n) := by subst hw1; exact box_twoi w 26 p n
  generalize w.heap.size = bx at hid1 ⊢
  have hbx : bx < w1.heap.size := World.block_lt_of_cell? w1 _ hid1.1
  have HX1 := Lib.hid hx1
  have HID1 := Lib.hid hid1
  have HO1 := Lib.hid (HO.out.ext HLK.out hx1)
  clear hw1 hx1 hid1
  go_upto_region 3 with fail
  go_cut [2] (fun s2 wx => s2 = .int .i64 ex ∧ w1 = wx)
  case first =>
    rcases HEX.out with ⟨e1, rfl⟩ | ⟨e1, e2, e3⟩ | ⟨e1, rfl⟩
    all_goals
      go_wp2_with fail
      go_meet
      refine ⟨?_, rfl⟩
      first | rfl | (simp; omega) | (rw [e3])
  obtain ⟨rfl, rfl⟩ := hcut
  obtain ⟨hoz, c0, c1, c2, oa, oc, c3, hob⟩ := HO1.out
  rw [← HLN.out] at c3 hob
  have HOBP := Lib.hid hob
  clear c0 c1 c2 hob
  go_wp2_with fail
  clear c3
  go_loopw [9, 25] (fun v i wr => ∃ q : Nat, q ≤ l ∧ i = .int .i64 q ∧ Hid (w1.Extends wr) ∧ Hid (RMats wr w1.heap.size 0 v (OM.recsTo f cn q).length (OM.recsTo f cn q))) (fun _ i _ => (l - intOf i).toNat)
  case atStart => exact ⟨0, by omega, rfl, Lib.hid (Gr.ext_refl _), by rw [HR0.out]; exact Lib.hid (RMats.nil _ _ _ _)⟩
  case round =>
    obtain ⟨q, hq, rfl, HX, HM⟩ := hrel
    by_cases h7 : q < l
    · obtain ⟨g, off, rfl, hgl, hpp⟩ := HOBP.out (by omega)
      obtain ⟨bp, bu, hc, hA, hR⟩ := hpp q h7
      have hcr := HX.out.cell_of hc
      have hkr := HX.out.cell_of (HLKK.out hA)
      have HA := Lib.hid hA
      have HRW := Lib.hid hR
      have HSQ := Lib.hid (HS.out q h7)
      obtain ⟨hk1, hk2⟩ := HK.out q h7
      have HRLQ := Lib.hid (HRL.out q hq)
      have HR1Q := Lib.hid (HR1.out q)
      have HB0Q := Lib.hid (HB0.out q)
      have HB1Q := Lib.hid (HB1.out q)
      have HBLQ := Lib.hid (HBL.out q)
      have HRCQ := Lib.hid (HRC.out q)
      have hk1' := Lib.hid hk1
      clear hpp hc hA hR hk1
      generalize bs.getD q Bk.zero = x at *
      generalize x.k = k at *
      generalize OM.recsTo f cn q = R at *
      generalize f q = fq at *
      go_wp2_with fail
      clear hcr hkr
      go_loopw [9, 37] (fun v i wr => ∃ z : Nat, z ≤ k + ex ∧ i = .int .i64 z ∧ Hid (w1.Extends wr) ∧ Hid (RMats wr w1.heap.size 0 v (R ++ OM.blkTo fq z).length (R ++ OM.blkTo fq z))) (fun _ i _ => ((k + ex : Nat) - intOf i).toNat)
      case atStart => exact ⟨0, by omega, rfl, HX, by rw [HB0Q.out, List.append_nil]; exact HM⟩
      case round =>
        clear HX HM
        obtain ⟨z, hz, rfl, HX, HM⟩ := hrel
        by_cases h8 : z < k + ex
        · have HXr := Lib.hid (Gr.ext_trans HX1.out HX.out)
          have HB1Z := Lib.hid (HB1Q.out z)
          obtain ⟨d, hd⟩ := HRCQ.out z
          have HSZ := Lib.hid (HSQ.out z bp bu wr (by omega) (HLK.out.ext HA.out HX.out) (HRW.out.ext HX.out) (HT.out.ext HXr.out))
          have hlen : (R ++ OM.blkTo fq z).length ≤ 560140 := by rw [List.length_append, HBLQ.out]; have := HRLQ.out; omega
          rw [hd] at HSZ HB1Z
          clear hd
          have hlz := Lib.hid hlen
          clear hlen
          generalize OM.blkTo fq z = Z at *
          go_wp2_with fail
          refine HSZ.out.mono ?_
          rintro e w5 ⟨u, rfl, hx, hok⟩
          have HX5 := Lib.hid (Gr.ext_drew (Gr.ext_trans HX.out hx))
          have HM5 := Lib.hid ((HM.out.ext hx).ext (Gr.ext_drew (Gr.ext_refl w5)))
          have HOK5 : Hid (RowOk w5.drew 0 u d) := RowOk.ext hok (Gr.ext_drew (Gr.ext_refl w5))
          obtain ⟨ua, uc, rfl, _⟩ := hok.1.slice
          obtain ⟨va, vc, rfl⟩ := HM.out.slice
          clear hx hok HX HM HSZ
          have HCF : Hid (∀ w', w5.drew.Extends w' → w'.cell? ⟨bx, 0, none⟩ = some (.int .i64 p) ∧ w'.cell? ⟨bx, 1, none⟩ = some (.int .i64 n) ∧ w'.cell? ⟨o, 0, none⟩ = some (.int .i64 b) ∧ w'.cell? ⟨o, 1, none⟩ = some (.int .i64 s) ∧ w'.cell? ⟨o, 2, none⟩ = some (.int .i64 m)) := fun w' hw' =>
            have hx := Gr.ext_trans HX5.out hw'
            ⟨hx.cell_of HID1.out.1, hx.cell_of HID1.out.2, hx.cell_of HO1.out.2.1, hx.cell_of HO1.out.2.2.1, hx.cell_of HO1.out.2.2.2.1⟩
          obtain ⟨rl, hrl0⟩ : ∃ rl, rl = (R ++ Z).length := ⟨_, rfl⟩
          rw [← hrl0] at HM5 hlz ⊢
          have HRLN : Hid ((R ++ Z).length = rl) := hrl0.symm
          clear hrl0
          go_wp2_with fail
          refine Gr.region 12 [(false,0),(false,1),(false,2),(false,3),(false,4),(false,5),(false,6),(false,7),(false,8),(false,9),(false,10),(true,11)] (by kernel_rfl) (by kernel_rfl) (fun d _ _ _ _ h => by cases d <;> exact h) ?_
          simp only [Gr.pick, List.getElem?_cons_zero, List.getElem?_cons_succ, List.drop_succ_cons, List.drop_zero]
          generalize w5.drew = w6 at *
          iterate 11
            refine Gr.walk_t ?_ (Or.inl ⟨by rfl, ?_⟩) ?_
            rotate_left
            · intro w' hw'
              obtain ⟨q0, q1, q2, q3, q4⟩ := HCF.out w' hw'
              clear hw'
              go_simp
              try with_reducible rfl
            simp only [Act.put, List.setIfInBounds_toArray, List.set_cons_zero, List.set_cons_succ]
          refine Gr.walk_c (fun K hK => ?_)
          go_simp
          generalize hw : World.alloc _ _ = w7
          have hx7 : w6.Extends w7 := by subst hw; exact ext_alloc _ _
          have HSRC : Hid (Src Tryz.prog 10 45 (.slice (some ⟨w6.heap.size, 0, none⟩) 1 1) 1 ((⟨p, n, b, s, m, q, z, false, until_, d⟩ : Rc).cells (.slice ua d.length uc)) w7) := by subst hw; exact src_rec (r := ⟨p, n, b, s, m, q, z, false, until_, d⟩) Tryz.underlying45 _ _ rfl rfl
          have HX7 := Lib.hid (Gr.ext_trans HX5.out hx7)
          have HM7 := Lib.hid (HM5.out.ext hx7)
          have HOK7 := Lib.hid (HOK5.out.ext hx7)
          refine hK.out _ _ hx7 ?_
          clear hK K hx7 hw HX5 HM5 HOK5
          obtain ⟨vs, hown, hrows⟩ := HM7.out
          have HOWN := Lib.hid hown
          have HROWS := Lib.hid hrows
          have HOB : Hid (∀ g, (Value.slice va rl vc).ownBlock = some g → w1.heap.size ≤ g) := fun g hg => (HOWN.out.lt g hg).1
          have hbs := HX7.out.size
          have hrl := hlz.out
          clear hown hrows HM7
          refine Gr.walk_nil ?_
          go_wp2_with (at_builtin; refine wpList_append_own_src _ rfl _ _ 45 45 rfl w1.heap.size 49 i2 (Rc.zero.val (.slice none 0 0)) 10 96 Tryz.underlying45 HI'.out HZ0'.out HZ1'.out HZ2'.out rfl _ _ _ rfl HOWN.out _ 1 ((⟨p, n, b, s, m, q, z, false, until_, d⟩ : Rc).cells (.slice ua d.length uc)) rfl HSRC.out (by unfold maxLen; omega) (by omega) (by omega) ?_)
          intro v' w8 ho8 hg8 _
          have HP : Hid (w1.Extends w8 ∧ RMats w8 w1.heap.size 0 v' (R ++ OM.blkTo fq (z + 1)).length (R ++ OM.blkTo fq (z + 1))) := by
            refine ⟨Gr.ext_of ((Gr.below_of HX7.out).grown hg8 hbs HOB.out), ?_⟩
            rw [← HB1Z.out, ← List.append_assoc, List.length_append, HRLN.out]
            exact RMats.snoc (Nat.zero_le _) HRLN.out.symm HOWN.out HROWS.out HOK7.out hg8 ho8
          clear ho8 hg8
          go_wp2
          go_roundw
          case rel => exact ⟨z + 1, by omega, by go_num, Lib.hid HP.out.1, Lib.hid HP.out.2⟩
          case measure => simp [intOf]; omega
        · obtain rfl : z = k + ex := by omega
          have HMN : Hid (RMats wr w1.heap.size 0 u9 (OM.recsTo f cn (q + 1)).length (OM.recsTo f cn (q + 1))) := by
            show RMats _ _ _ _ _ _
            rw [← HR1Q.out, hk1'.out]
            exact HM.out
          clear HM
          go_wp2
          go_roundw
          case rel => exact ⟨q + 1, by omega, by go_num, HX, HMN⟩
          case measure => simp [intOf]; omega
    · obtain rfl : q = l := by omega
      have HP := Lib.hid (HOUT.out _ wr (Gr.ext_trans HX1.out HX.out) (HM.out.recs rfl))
      go_wp2
      go_returns
      exact HP.out
end Go.Proofs.YtippckajlghimaaGreatDoor
/- SameRecord and SameRecords of records that read alike. -/
namespace Go.Proofs.YtippckajlghimaaGreatDoor
set_option maxRecDepth 20000
open Go.RowKit Go.Deep
set_option linter.unusedVariables false
theorem conv_ob {w : World} {v : Value} {xs : List Nat} (h : U8s w v xs) : (convert 24 9 v).run Tryz.prog w = .ok (.string (strOf xs)) w := conv_any h _ _ _ Tryz.underlying24 Tryz.underlying5 Tryz.underlying9
set_option maxHeartbeats 1000000 in
theorem same_rec (r : Rc) (a a' : Option Addr) (c c' : Nat) (w : World) (hu : U8s w (.slice a r.d.length c) r.d) (hu' : U8s w (.slice a' r.d.length c') r.d) :
    Calls Tryz.prog 27 #[r.val (.slice a r.d.length c), r.val (.slice a' r.d.length c')] w fun e w' => e = .returned (.bool true) ∧ w.Extends w' := by
  obtain ⟨p, n, b, s, m, k, e, g, u, d⟩ := r
  have HU : Hid (U8s w (.slice a d.length c) d) := hu
  have HU' : Hid (U8s w (.slice a' d.length c') d) := hu'
  clear hu hu'
  show Calls Tryz.prog 27 #[.agg #[.int .i64 p, .int .i64 n, .int .i64 b, .int .i64 s, .int .i64 m, .int .i64 k, .int .i64 e, .bool g, .int .i64 u, .slice a d.length c], .agg #[.int .i64 p, .int .i64 n, .int .i64 b, .int .i64 s, .int .i64 m, .int .i64 k, .int .i64 e, .bool g, .int .i64 u, .slice a' d.length c']] w _
  go_enter Tryz.func27, Tryz.ntmps27
  go_upto_region 1 with fail
  generalize hw1 : World.alloc w _ = w1
  generalize hw2 : World.alloc w1 _ = w2
  have hs1 : w1.heap.size = w.heap.size + 1 := by subst hw1; simp
  have hx1 : w.Extends w1 := by subst hw1; exact ext_alloc _ _
  have hx2 : w1.Extends w2 := by subst hw2; exact ext_alloc _ _
  have hb1 : w1.rangeAt w.heap.size 0 (Rc.cells ⟨p, n, b, s, m, k, e, g, u, d⟩ (.slice a d.length c)) := by subst hw1; exact box_rec w 49 ⟨p, n, b, s, m, k, e, g, u, d⟩ _
  have hb2 : w2.rangeAt w1.heap.size 0 (Rc.cells ⟨p, n, b, s, m, k, e, g, u, d⟩ (.slice a' d.length c')) := by subst hw2; exact box_rec w1 49 ⟨p, n, b, s, m, k, e, g, u, d⟩ _
  have hb1' := rangeAt_ext hb1 hx2
  rw [hs1] at hb2
  clear hw1 hw2 hb1 hs1
  have hx := Gr.ext_trans hx1 hx2
  have hv1 := conv_ob (HU.out.ext hx)
  have hv2 := conv_ob (HU'.out.ext hx)
  generalize w.heap.size = x at *
  have a0 : w2.cell? ⟨x, 0, none⟩ = some (.int .i64 p) := hb1' 0 _ rfl
  have a1 : w2.cell? ⟨x, 1, none⟩ = some (.int .i64 n) := hb1' 1 _ rfl
  have a2 : w2.cell? ⟨x, 2, none⟩ = some (.int .i64 b) := hb1' 2 _ rfl
  have a3 : w2.cell? ⟨x, 3, none⟩ = some (.int .i64 s) := hb1' 3 _ rfl
  have a4 : w2.cell? ⟨x, 4, none⟩ = some (.int .i64 m) := hb1' 4 _ rfl
  have a5 : w2.cell? ⟨x, 5, none⟩ = some (.int .i64 k) := hb1' 5 _ rfl
  have a6 : w2.cell? ⟨x, 6, none⟩ = some (.int .i64 e) := hb1' 6 _ rfl
  have a7 : w2.cell? ⟨x, 7, none⟩ = some (.bool g) := hb1' 7 _ rfl
  have a8 : w2.cell? ⟨x, 8, none⟩ = some (.int .i64 u) := hb1' 8 _ rfl
  have a9 : w2.cell? ⟨x, 9, none⟩ = some (.slice a d.length c) := hb1' 9 _ rfl
  have b0 : w2.cell? ⟨x + 1, 0, none⟩ = some (.int .i64 p) := hb2 0 _ rfl
  have b1 : w2.cell? ⟨x + 1, 1, none⟩ = some (.int .i64 n) := hb2 1 _ rfl
  have b2 : w2.cell? ⟨x + 1, 2, none⟩ = some (.int .i64 b) := hb2 2 _ rfl
  have b3 : w2.cell? ⟨x + 1, 3, none⟩ = some (.int .i64 s) := hb2 3 _ rfl
  have b4 : w2.cell? ⟨x + 1, 4, none⟩ = some (.int .i64 m) := hb2 4 _ rfl
  have b5 : w2.cell? ⟨x + 1, 5, none⟩ = some (.int .i64 k) := hb2 5 _ rfl
  have b6 : w2.cell? ⟨x + 1, 6, none⟩ = some (.int .i64 e) := hb2 6 _ rfl
  have b7 : w2.cell? ⟨x + 1, 7, none⟩ = some (.bool g) := hb2 7 _ rfl
  have b8 : w2.cell? ⟨x + 1, 8, none⟩ = some (.int .i64 u) := hb2 8 _ rfl
  have b9 : w2.cell? ⟨x + 1, 9, none⟩ = some (.slice a' d.length c') := hb2 9 _ rfl
  have HX := Lib.hid hx
  clear hb1' hb2 HU HU' hx1 hx2 hx
  generalize strOf d = sd at *
  generalize d.length = dl at *
  go_wp2
  go_ret
  exact ⟨by cases g <;> rfl, HX.out⟩
set_option maxHeartbeats 1000000 in
theorem same_recs (v v' : Value) (l : List Rc) (w : World) (hv : Recs w v l) (hv' : Recs w v' l) :
    Calls Tryz.prog 13 #[v, v'] w fun e w' => e = .returned (.bool true) ∧ w.Extends w' := by
  obtain ⟨a, c, rfl⟩ := hv.slice
  obtain ⟨a', c', rfl⟩ := hv'.slice
  have HV := Lib.hid hv.at.2
  have HV' := Lib.hid hv'.at.2
  have hm := hv.len
  unfold maxLen at hm
  clear hv hv'
  generalize l.length = n at *
  go_enter Tryz.func13, Tryz.ntmps13
  go_wp2_with fail
  go_loopw [5] (fun i wr => ∃ q : Nat, q ≤ n ∧ i = .int .i64 q ∧ Hid (w.Extends wr)) (fun i _ => (n - intOf i).toNat)
  case atStart => exact ⟨0, by omega, rfl, Lib.hid (Gr.ext_refl _)⟩
  case round =>
    obtain ⟨q, hq, rfl, HX⟩ := hrel
    by_cases h : q < n
    · obtain ⟨b1, o1, rfl, hb1, hc1⟩ := HV.out (by omega)
      obtain ⟨b2, o2, rfl, hb2, hc2⟩ := HV'.out (by omega)
      obtain ⟨ra, rc, hr, hu⟩ := hc1 q h
      obtain ⟨ra', rc', hr', hu'⟩ := hc2 q h
      have hrr := rangeAt_ext hr (Gr.ext_drew HX.out)
      have hrr' := rangeAt_ext hr' (Gr.ext_drew HX.out)
      have HU := Lib.hid (hu.ext (Gr.ext_drew HX.out))
      have HU' := Lib.hid (hu'.ext (Gr.ext_drew HX.out))
      clear hc1 hc2 hr hr' hu hu'
      generalize l.getD q Rc.zero = r at *
      have HSR : Hid (∀ w1, wr.drew.Extends w1 → Calls Tryz.prog 27 #[r.val (.slice ra r.d.length rc), r.val (.slice ra' r.d.length rc')] w1 fun e w' => e = .returned (.bool true) ∧ w1.Extends w') := fun w1 hx => same_rec r ra ra' rc rc' w1 (HU.out.ext hx) (HU'.out.ext hx)
      obtain ⟨p, n', b, s, m, k, e, g, u, d⟩ := r
      have HT := Lib.hid (RCell.ten hrr)
      have HT' := Lib.hid (RCell.ten hrr')
      clear hrr hrr' HU HU'
      have HSR2 : Hid (∀ w1, wr.drew.Extends w1 → Calls Tryz.prog 27 #[.agg #[.int .i64 p, .int .i64 n', .int .i64 b, .int .i64 s, .int .i64 m, .int .i64 k, .int .i64 e, .bool g, .int .i64 u, .slice ra d.length rc], .agg #[.int .i64 p, .int .i64 n', .int .i64 b, .int .i64 s, .int .i64 m, .int .i64 k, .int .i64 e, .bool g, .int .i64 u, .slice ra' d.length rc']] w1 fun e w' => e = .returned (.bool true) ∧ w1.Extends w') := HSR.out
      have HCF : Hid (∀ w', wr.drew.Extends w' → (w'.cell? ⟨b1, o1 + q * 10, none⟩ = some (.int .i64 p) ∧ w'.cell? ⟨b1, o1 + q * 10 + 1, none⟩ = some (.int .i64 n') ∧ w'.cell? ⟨b1, o1 + q * 10 + 2, none⟩ = some (.int .i64 b) ∧ w'.cell? ⟨b1, o1 + q * 10 + 3, none⟩ = some (.int .i64 s) ∧ w'.cell? ⟨b1, o1 + q * 10 + 4, none⟩ = some (.int .i64 m) ∧ w'.cell? ⟨b1, o1 + q * 10 + 5, none⟩ = some (.int .i64 k) ∧ w'.cell? ⟨b1, o1 + q * 10 + 6, none⟩ = some (.int .i64 e) ∧ w'.cell? ⟨b1, o1 + q * 10 + 7, none⟩ = some (.bool g) ∧ w'.cell? ⟨b1, o1 + q * 10 + 8, none⟩ = some (.int .i64 u) ∧ w'.cell? ⟨b1, o1 + q * 10 + 9, none⟩ = some (.slice ra d.length rc)) ∧
          (w'.cell? ⟨b2, o2 + q * 10, none⟩ = some (.int .i64 p) ∧ w'.cell? ⟨b2, o2 + q * 10 + 1, none⟩ = some (.int .i64 n') ∧ w'.cell? ⟨b2, o2 + q * 10 + 2, none⟩ = some (.int .i64 b) ∧ w'.cell? ⟨b2, o2 + q * 10 + 3, none⟩ = some (.int .i64 s) ∧ w'.cell? ⟨b2, o2 + q * 10 + 4, none⟩ = some (.int .i64 m) ∧ w'.cell? ⟨b2, o2 + q * 10 + 5, none⟩ = some (.int .i64 k) ∧ w'.cell? ⟨b2, o2 + q * 10 + 6, none⟩ = some (.int .i64 e) ∧ w'.cell? ⟨b2, o2 + q * 10 + 7, none⟩ = some (.bool g) ∧ w'.cell? ⟨b2, o2 + q * 10 + 8, none⟩ = some (.int .i64 u) ∧ w'.cell? ⟨b2, o2 + q * 10 + 9, none⟩ = some (.slice ra' d.length rc'))) := fun w' hw' => by
        obtain ⟨t0, t1, t2, t3, t4, t5, t6, t7, t8, t9⟩ := HT.out
        obtain ⟨s0, s1, s2, s3, s4, s5, s6, s7, s8, s9⟩ := HT'.out
        exact ⟨⟨hw'.cell_of t0, hw'.cell_of t1, hw'.cell_of t2, hw'.cell_of t3, hw'.cell_of t4, hw'.cell_of t5, hw'.cell_of t6, hw'.cell_of t7, hw'.cell_of t8, hw'.cell_of t9⟩, ⟨hw'.cell_of s0, hw'.cell_of s1, hw'.cell_of s2, hw'.cell_of s3, hw'.cell_of s4, hw'.cell_of s5, hw'.cell_of s6, hw'.cell_of s7, hw'.cell_of s8, hw'.cell_of s9⟩⟩
      clear HT HT' HSR
      generalize d.length = dl at *
      go_wp2_with fail
      have HXd := Lib.hid (Gr.ext_drew HX.out)
      clear HX
      refine Gr.region 9 [(false,0),(false,1),(false,2),(false,3),(false,4),(false,5),(false,6),(false,7),(true,8)] (by kernel_rfl) (by kernel_rfl) (fun d _ _ _ _ h => by cases d <;> exact h) ?_
      simp only [Gr.pick, List.getElem?_cons_zero, List.getElem?_cons_succ, List.drop_succ_cons, List.drop_zero]
      generalize wr.drew = w4 at *
      iterate 8
        refine Gr.walk_t ?_ (Or.inl ⟨by rfl, ?_⟩) ?_
        rotate_left
        · intro w' hw'
          obtain ⟨⟨t0, t1, t2, t3, t4, t5, t6, t7, t8, t9⟩, s0, s1, s2, s3, s4, s5, s6, s7, s8, s9⟩ := HCF.out w' hw'
          clear hw'
          go_simp
          try with_reducible rfl
        simp only [Act.put, List.setIfInBounds_toArray, List.set_cons_zero, List.set_cons_succ]
      refine Gr.walk_c (fun K hK => ?_)
      go_simp
      refine (HSR2.out w4 (Gr.ext_refl _)).mono ?_
      rintro e w5 ⟨rfl, hx⟩
      have HX5 := Lib.hid (Gr.ext_trans HXd.out hx)
      try go_simp
      refine hK.out _ _ (hx) ?_
      clear hK K
      clear hx HXd HCF HSR2
      refine Gr.walk_nil ?_
      go_wp2
      go_roundw
      case rel => exact ⟨q + 1, by omega, by go_num, HX5⟩
      case measure => simp [intOf]; omega
    · obtain rfl : q = n := by omega
      go_wp2
      go_ret
      exact ⟨rfl, HX.out⟩
end Go.Proofs.YtippckajlghimaaGreatDoor
/- What an object's symbols tell; the thirteenth law's num, Small and alive. -/
namespace Go.Proofs.YtippckajlghimaaGreatDoor
set_option maxRecDepth 20000
open Go.RowKit Go.Deep
set_option linter.unusedVariables false
/-- Decode of symbols of an object: its bytes if they are enough of each block, else that they are too little. -/
theorem dec_back (B S M : Nat) (hR : CM.Right B S M) (xs : List Nat) (hl : xs.length = B) (bs : List Bk) (hfull : bs.length = CM.bl B S M) (hB : Bks S S (CM.cut B S M xs) bs 5) (l : List Rc) (hll : l.length ≤ 1000000) (Lf : Nat → List Int) (fb : Nat → Bool)
    (hLl : ∀ c, c < CM.bl B S M → (Lf c).length ≤ 1000) (hok : ∀ c, c < CM.bl B S M → ∀ e ∈ Lf c, EsiOk e)
    (hp : ∀ c, c < CM.bl B S M → OM.pick B S M c l = DC.pairs (Lf c) ((Lf c).map (DC.dr (bs.getD c Bk.zero).k (bs.getD c Bk.zero).j S (bs.getD c Bk.zero).c)))
    (hf : ∀ c, c < CM.bl B S M → (fb c = true ↔ DC.Full (bs.getD c Bk.zero).k (bs.getD c Bk.zero).j (Lf c))) (er : Nat) (ys : List Nat) (hes : (∀ c, c < CM.bl B S M → fb c = true) ∧ er = 0 ∧ ys = xs ∨ (∃ c, c < CM.bl B S M ∧ fb c = false) ∧ er = 4 ∧ ys = []) (v : Value) (w : World) (hv : Recs w v l) (hT : Tab w) :
    Calls Tryz.prog 16 #[PV B S M, v] w (JoinOut w er ys) := by
  obtain ⟨h1, h2, h3, h4, h5, h6⟩ := CM.right_of hR
  have hn : CM.bl B S M ≤ 4000 := by have := CM.bl_le B S M; have := CM.sy_le B S h1; omega
  have hlen := CM.cut_length B S M xs
  obtain ⟨c0, e1, e2, e3⟩ := least_stop (CM.bl B S M) fun c => if fb c = true then 0 else 4
  have hb : ∀ c, c < CM.bl B S M → B10 S ((CM.cut B S M xs).getD c []) (bs.getD c Bk.zero).k (bs.getD c Bk.zero).j S (bs.getD c Bk.zero).c := fun c hc => hB.yes c (by omega)
  have hkk : ∀ c, c < CM.bl B S M → CM.kk B S M c = (bs.getD c Bk.zero).k := fun c hc => by
    have := (hb c hc).hk
    rw [((CM.cut_fit B S M xs).2 c (by omega)).1] at this
    exact this
  have hdn : ∀ c, c < CM.bl B S M → Dense ((CM.cut B S M xs).getD c []) := fun c hc => by
    have h := hb c hc
    refine ⟨by rw [h.hk]; exact h.k1, fun j hj e => ?_⟩
    have := h.all j hj
    rw [e] at this
    simp at this; omega
  have hz : ∀ c, c < c0 → (((if fb c = true then 0 else 4 : Nat) : Nat) : Int) = 0 ∧ Dense (if fb c = true then (CM.cut B S M xs).getD c [] else []) := fun c hc => by
    have h := e2 c hc
    by_cases hb' : fb c = true
    · simp only [if_pos hb']; exact ⟨rfl, hdn c (by omega)⟩
    · simp only [if_neg hb'] at h; cases h
  refine odec_any B S M v l (CM.bl B S M) c0 er (CM.kk B S M) (fun c => if fb c = true then (CM.cut B S M xs).getD c [] else []) (fun c => ((if fb c = true then 0 else 4 : Nat) : Nat)) ys w hT hn hll hv (fun w => right_yes _ _ _ w hR) (fun w => blocks_yes _ _ _ w hR) (fun c hc w => k_in B S M c w hR hc) (fun c hc u w hu hT => ?_) e1 hz (fun h => ?_) (fun h => ?_)
  · have h := hb c hc
    have ht := back_told (Lf c) h.seed h.parts h.hk fun i hi => by have := h.all i (by rw [h.hk]; exact hi); omega
    rw [← hp c hc] at ht
    have hpl : (OM.pick B S M c l).length ≤ 1000 := by rw [hp c hc, DC.pairs_length]; exact hLl c hc
    have hok' : ∀ p ∈ OM.pick B S M c l, EsiOk p.1 := by
      rw [hp c hc]
      exact DC.pairs_mem fun i hi => hok c hc _ (by rw [List.getD_eq_getElem?_getD, List.getElem?_eq_getElem hi]; exact List.getElem_mem hi)
    rw [hkk c hc]
    by_cases hb' : fb c = true
    · simp only [if_pos hb']
      rcases ht with ⟨_, ht⟩ | ⟨hn, _⟩
      · exact block_told _ S u _ w h.k1 h.k2 h3 h4 hu hpl hok' hT _ _ ht
      · exact absurd ((hf c hc).1 hb') hn
    · simp only [if_neg hb']
      rcases ht with ⟨hy, _⟩ | ⟨_, ht⟩
      · exact absurd ((hf c hc).2 hy) hb'
      · exact block_told _ S u _ w h.k1 h.k2 h3 h4 hu hpl hok' hT _ _ ht
  · have h' := e3 h
    rcases hes with ⟨ha, _⟩ | ⟨_, rfl, rfl⟩
    · rw [if_pos (ha c0 h)] at h'; exact absurd rfl h'
    · by_cases hb' : fb c0 = true
      · rw [if_pos hb'] at h'; exact absurd rfl h'
      · exact ⟨by simp [hb'], by decide, rfl⟩
  · rcases hes with ⟨ha, rfl, rfl⟩ | ⟨⟨c, hc, hcb⟩, _⟩
    · intro v w hv
      have hX : (List.range (CM.bl B S M)).map (fun c => if fb c = true then (CM.cut B S M ys).getD c [] else []) = CM.cut B S M ys := by
        apply List.ext_getElem (by simp [hlen])
        intro i i1 i2
        have hi : i < CM.bl B S M := by simpa using i1
        simp [ha i hi, i2]
      rw [hX] at hv
      have h := (join_any B S M v _ w hR hv).mono fun e w' h => h.1 (CM.cut_fit _ _ _ _)
      subst hl
      rw [CM.join_cut S M ys h3] at h
      exact h
    · have := e2 c (by omega)
      simp [hcb] at this
theorem num13_any (n : Int) (w : World) : Calls Tryz.prog 10 #[.int .i64 n] w fun e w' => e = .returned (.int .i64 n) ∧ w = w' := by
  go_enter Tryz.func10, Tryz.ntmps10
  go_wp2
  go_ret
  exact ⟨rfl, rfl⟩
theorem small13_any (b s m : Int) (w : World) : ∃ sm : Bool, ∀ w, Calls Tryz.prog 7 #[PV b s m] w fun e w' => e = .returned (.bool sm) ∧ w.Extends w' := by
  obtain ⟨r, y, n, k, ha⟩ := asked12 b s m 0
  have HN := Lib.hid ha.nr
  clear ha
  refine ⟨decide (b ≤ 300 ∧ m ≤ 10 ∧ n ≤ 20), fun w => ?_⟩
  have hc : (¬ b ≤ 300) ∨ (b ≤ 300 ∧ ¬ m ≤ 10) ∨ (b ≤ 300 ∧ m ≤ 10) := by omega
  rcases hc with c1 | ⟨c1, c2⟩ | ⟨c1, c2⟩
  all_goals
    go_enter Tryz.func7, Tryz.ntmps7
    go_upto_region 1 with fail
    generalize hw1 : World.alloc w _ = w1
    have hx1 : w.Extends w1 := by subst hw1; exact prm_ext_alloc _ _
    have hp : PAt w1 w.heap.size b s m := by subst hw1; exact PAt.new w 23 b s m
    generalize w.heap.size = bx at hp ⊢
    have HX1 := Lib.hid hx1
    have hb1 := hp.lt
    clear hw1 hx1
    obtain ⟨p0, p1, p2⟩ := hp
  · go_wp2
    go_ret
    exact ⟨by simp; omega, HX1.out⟩
  · go_wp2
    go_ret
    exact ⟨by simp; omega, HX1.out⟩
  · go_wp2_with fail
    refine (HN.out w1).mono ?_
    rintro e w2 ⟨rfl, hx⟩
    have HX2 := Lib.hid (Gr.ext_trans HX1.out hx)
    clear hx p0 p1 p2
    go_wp2
    go_ret
    exact ⟨by simp [c1, c2]; omega, HX2.out⟩
/-! The example. -/
theorem SM.rows_two : SM.rows 2 0 = [[1, 1, 1, 0, 1, 0], [1, 1, 0, 1, 0, 1], [21, 53, 15, 163, 1, 0], [131, 249, 96, 101, 0, 1], [0, 0, 1, 0, 0, 1], [1, 1, 0, 0, 1, 0]] := by decide
theorem SM.good_two : SM.Good 2 0 := by
  unfold SM.Good
  rw [SM.rows_two]
  refine LA.RankIs.of_full fun c hc => ?_
  have hc6 : c < 6 := hc
  match c, hc6 with
  | 0, _ => exact ⟨_, SM.mixed [(43, 0), (119, 1), (84, 2), (247, 3), (128, 4), (127, 5)] (by decide), by decide, by decide⟩
  | 1, _ => exact ⟨_, SM.mixed [(116, 0), (182, 1), (135, 2), (232, 3), (94, 4), (243, 5)] (by decide), by decide, by decide⟩
  | 2, _ => exact ⟨_, SM.mixed [(1, 0), (1, 5)] (by decide), by decide, by decide⟩
  | 3, _ => exact ⟨_, SM.mixed [(94, 0), (192, 1), (211, 2), (31, 3), (223, 4), (141, 5)] (by decide), by decide, by decide⟩
  | 4, _ => exact ⟨_, SM.mixed [(95, 0), (193, 1), (211, 2), (31, 3), (222, 4), (141, 5)] (by decide), by decide, by decide⟩
  | 5, _ => exact ⟨_, SM.mixed [(1, 0), (1, 4), (1, 5)] (by decide), by decide, by decide⟩
theorem abc_right : CM.Right (3 : Nat) (2 : Nat) (2 : Nat) := by decide
theorem abc_bl : CM.bl 3 2 2 = 1 := by decide
theorem abc_cut : CM.cut 3 2 2 [97, 98, 99] = [[[97, 98], [99, 0]]] := by decide
theorem abc_lt : ∀ r ∈ ([[97, 98], [99, 0]] : List (List Nat)), ∀ x ∈ r, x < 256 := by decide
theorem abc_bks : ∃ c, Bks (2 : Nat) 2 (CM.cut 3 2 2 [97, 98, 99]) [⟨2, 0, c⟩] 5 := by
  rw [abc_cut]
  rcases blk_fit 2 [[97, 98], [99, 0]] abc_lt (by omega) (by omega) (by simp) (by simp) (fun k hk => by
    have hk : k < 2 := hk
    match k, hk with
    | 0, _ => rfl
    | 1, _ => rfl) with ⟨h, _⟩ | ⟨j, c, h⟩
  · have := h.of_good SM.good_two
    omega
  · obtain ⟨rfl, _⟩ := h.seed.of_good SM.good_two
    exact ⟨c, ⟨Nat.le_refl _, fun i hi => by
      obtain rfl : i = 0 := by simp at hi; omega
      exact h, fun h => absurd h (Nat.lt_irrefl _), by decide⟩⟩
theorem symOf_dr (k j sz : Nat) (c : List (List Nat)) (e : Int) (h : EsiOk e) : symOf k j sz c e = DC.dr k j sz c e := if_pos h
theorem abc_recs (c : List (List Nat)) : ∃ f : Int → List Nat, (f = DC.dr 2 0 2 c) ∧ OM.recs 0 0 3 2 2 5 2 [⟨2, 0, c⟩] 1 = [⟨0, 0, 3, 2, 2, 0, 0, false, 5, f 0⟩, ⟨0, 0, 3, 2, 2, 0, 1, false, 5, f 1⟩, ⟨0, 0, 3, 2, 2, 0, 2, false, 5, f 2⟩] := by
  refine ⟨_, rfl, ?_⟩
  have h0 := symOf_dr 2 0 2 c 0 ⟨by decide, by decide⟩
  have h1 := symOf_dr 2 0 2 c 1 ⟨by decide, by decide⟩
  have h2 := symOf_dr 2 0 2 c 2 ⟨by decide, by decide⟩
  have e : OM.recs 0 0 3 2 2 5 2 [⟨2, 0, c⟩] 1 = [⟨0, 0, 3, 2, 2, 0, 0, false, 5, symOf 2 0 2 c 0⟩, ⟨0, 0, 3, 2, 2, 0, 1, false, 5, symOf 2 0 2 c 1⟩, ⟨0, 0, 3, 2, 2, 0, 2, false, 5, symOf 2 0 2 c 2⟩] := by
    unfold OM.recs OM.recsTo OM.blkTo OM.rec1 OM.cnt
    generalize symOf = sy
    rfl
  rw [e, h0, h1, h2]
theorem abc_pick (f : Int → List Nat) : OM.pick (3 : Nat) (2 : Nat) (2 : Nat) 0 [⟨0, 0, 3, 2, 2, 0, 0, false, 5, f 0⟩, ⟨0, 0, 3, 2, 2, 0, 1, false, 5, f 1⟩, ⟨0, 0, 3, 2, 2, 0, 2, false, 5, f 2⟩] = DC.pairs [0, 1, 2] ([0, 1, 2].map f) := rfl
theorem abc_full : DC.Full 2 0 [0, 1, 2] := DC.Full.mono (es := SM.iota 2) (fun e he => by
  have : e ∈ ([0, 1] : List Int) := he
  simp at this ⊢
  rcases this with rfl | rfl <;> simp) SM.good_two
end Go.Proofs.YtippckajlghimaaGreatDoor
/- The thirteenth law's alive. -/
namespace Go.Proofs.YtippckajlghimaaGreatDoor
set_option maxRecDepth 20000
open Go.RowKit Go.Deep
set_option linter.unusedVariables false
set_option maxHeartbeats 1000000 in
theorem alive13_any (w : World) (hT : Tab w) : Calls Tryz.prog 6 #[] w fun e w' => e = .returned (.bool true) ∧ w.Extends w' := by
  obtain ⟨c, hB⟩ := abc_bks
  have hcl : ∀ i, i < CM.bl 3 2 2 → i = 0 := fun i hi => by rw [abc_bl] at hi; omega
  have H1 : Hid (∀ w, Tab w → Calls Tryz.prog 16 #[PV 3 2 2, .slice none 0 0] w (JoinOut w 4 [])) := fun w hT =>
    dec_back 3 2 2 abc_right [97, 98, 99] rfl [⟨2, 0, c⟩] abc_bl.symm hB [] (by simp) (fun _ => []) (fun _ => false) (fun c hc => by simp) (fun c hc e he => by cases he) (fun i hi => rfl) (fun i hi => by
      obtain rfl := hcl i hi
      exact ⟨fun h => (by cases h), fun h => absurd h (DC.full_few (by show (0 : Nat) < 2; omega))⟩) 4 [] (.inr ⟨⟨0, by rw [abc_bl]; omega, rfl⟩, rfl, rfl⟩) _ w (Recs.nil _ _ _) hT
  have H2 : Hid (∀ v w, U8s w v [97, 98, 99] → Tab w → Calls Tryz.prog 8 #[PV 3 2 2, v] w fun e w' => ∃ o, e = .returned (.tuple #[.pointer (some ⟨o, 0, none⟩), .int .i64 0]) ∧ w.Extends w' ∧ OV (BLook 2) w' o 3 2 2 [⟨2, 0, c⟩]) := fun v w hv hT =>
    (newo_any 3 2 2 v [97, 98, 99] _ [⟨2, 0, c⟩] 2 5 w hT (by rw [abc_cut]; simp) hv hB fun v w hv => cut_some 3 2 2 v _ w abc_right rfl hv).mono fun e w' h => h.1 (by rw [abc_cut]; rfl)
  have H3 : Hid (∀ o w, OV (BLook 2) w o 3 2 2 [⟨2, 0, c⟩] → Tab w → Calls Tryz.prog 14 #[.pointer (some ⟨o, 0, none⟩), .agg #[.int .i64 0, .int .i64 0], .int .i64 1, .int .i64 5] w (RecsOut w (OM.recs 0 0 3 2 2 5 2 [⟨2, 0, c⟩] 1))) := fun o w ho hT =>
    orecs_any 3 2 2 0 0 1 5 o _ [⟨2, 0, c⟩] 2 1 5 w hT (.inr (.inl ⟨by omega, by omega, rfl⟩)) (by simp) hB ho
  have H4 : Hid (∀ v w, Recs w v (OM.recs 0 0 3 2 2 5 2 [⟨2, 0, c⟩] 1) → Tab w → Calls Tryz.prog 16 #[PV 3 2 2, v] w (JoinOut w 0 [97, 98, 99])) := fun v w hv hT => by
    obtain ⟨f, hf, hr⟩ := abc_recs c
    rw [hr] at hv
    refine dec_back 3 2 2 abc_right [97, 98, 99] rfl [⟨2, 0, c⟩] abc_bl.symm hB _ (by simp) (fun _ => [0, 1, 2]) (fun _ => true) (fun c hc => by simp) (fun i hi e he => ?_) (fun i hi => ?_) (fun i hi => ?_) 0 _ (.inl ⟨fun _ _ => rfl, rfl, rfl⟩) v w hv hT
    · simp at he
      rcases he with rfl | rfl | rfl <;> exact ⟨by decide, by decide⟩
    · obtain rfl := hcl i hi
      show _ = DC.pairs [0, 1, 2] ([0, 1, 2].map (DC.dr 2 0 2 c))
      rw [← hf]
      exact abc_pick f
    · obtain rfl := hcl i hi
      exact ⟨fun _ => abc_full, fun _ => rfl⟩
  have kc := fun (w : World) (C : Array Value) (n c : Nat) => Lib.run_convert_bytes_const (P := Tryz.prog) w 24 5 C n c Tryz.underlying24 Tryz.underlying5
  have HT := Lib.hid hT
  have HOX : Hid (∀ w o, OV (BLook 2) w o 3 2 2 [⟨2, 0, c⟩] → o < w.heap.size ∧ w.cell? ⟨o, 0, none⟩ = some (.int .i64 3)) := fun w o h => ⟨h.1, h.2.1⟩
  have HOE : Hid (∀ (w w' : World) (o : Nat), OV (BLook 2) w o 3 2 2 [⟨2, 0, c⟩] → w.Extends w' → OV (BLook 2) w' o 3 2 2 [⟨2, 0, c⟩]) := fun w w' o h hx => h.ext (bLooks 2) hx
  clear hT hB hcl
  generalize OM.recs 0 0 3 2 2 5 2 [⟨2, 0, c⟩] 1 = RR at *
  generalize OV (BLook 2) = ov at *
  go_enter Tryz.func6, Tryz.ntmps6
  go_upto_region 2 with fail
  generalize hw1 : World.alloc w _ = w1
  have hx1 : w.Extends w1 := by subst hw1; exact prm_ext_alloc _ _
  have hp : PAt w1 w.heap.size 3 2 2 := by subst hw1; exact PAt.new w 23 3 2 2
  generalize w.heap.size = bx at hp ⊢
  have HX1 := Lib.hid hx1
  have HP1 := Lib.hid hp
  have hb1 := hp.lt
  clear hw1 hx1
  obtain ⟨p0, p1, p2⟩ := hp
  have KC := Lib.hid kc
  clear kc
  go_wp2_with fail
  refine (H1.out w1 (HT.out.ext HX1.out)).mono ?_
  rintro e w2 ⟨u, rfl, hx, hu⟩
  have HX2 := Lib.hid (Gr.ext_trans HX1.out hx)
  have HP2 := Lib.hid (HP1.out.ext hx)
  have hb2 := HP2.out.lt
  obtain ⟨ua, uc, rfl, _, _⟩ := hu.slice
  clear hx hu p0 p1 p2
  obtain ⟨p0, p1, p2⟩ := HP2.out
  have kc := KC.out
  go_wp2_with fail
  clear kc
  generalize hw3 : World.alloc w2 _ = w3
  have hu3 : U8s w3 (.slice (some ⟨w2.heap.size, 0, none⟩) 3 3) [97, 98, 99] := by subst hw3; exact u8s_mark w2 _ 3 _ _ _ _ rfl rfl rfl (by decide) (by decide)
  have hx3 : w2.Extends w3 := by subst hw3; exact ext_alloc _ _
  have HX3 := Lib.hid (Gr.ext_trans HX2.out hx3)
  have HP3 := Lib.hid (HP2.out.ext hx3)
  have HU3 := Lib.hid hu3
  clear hw3 hx3 hu3 p0 p1 p2
  refine (H2.out _ w3 HU3.out (HT.out.ext HX3.out)).mono ?_
  rintro e w4 ⟨o, rfl, hx, ho⟩
  have HX4 := Lib.hid (Gr.ext_trans HX3.out hx)
  have HP4 := Lib.hid (HP3.out.ext hx)
  have HO4 := Lib.hid ho
  clear hx ho
  go_wp2_with fail
  refine (num13_any _ w4).mono ?_
  rintro e w' ⟨rfl, rfl⟩
  go_wp2_with fail
  refine (num13_any _ w4).mono ?_
  rintro e w' ⟨rfl, rfl⟩
  obtain ⟨ho4, hc4⟩ := HOX.out w4 o HO4.out
  have HCP : Hid (∀ w', w4.drew.Extends w' → w'.cell? ⟨bx, 0, none⟩ = some (.int .i64 3) ∧ w'.cell? ⟨bx, 1, none⟩ = some (.int .i64 2) ∧ w'.cell? ⟨bx, 2, none⟩ = some (.int .i64 2)) := fun w' hw' => HP4.out.ext (Gr.of_drew hw')
  go_wp2_with fail
  have HXd := Lib.hid (Gr.ext_drew HX4.out)
  have HOd := Lib.hid (HOE.out w4 w4.drew o HO4.out (Gr.ext_drew (Gr.ext_refl w4)))
  refine Gr.region 9 [(false,0),(false,1),(false,2),(true,3),(true,4),(false,5),(false,6),(false,7),(false,8)] (by kernel_rfl) (by kernel_rfl) (fun d _ _ _ _ h => by cases d <;> exact h) ?_
  simp only [Gr.pick, List.getElem?_cons_zero, List.getElem?_cons_succ, List.drop_succ_cons, List.drop_zero]
  generalize w4.drew = w5 at *
  iterate 3
    refine Gr.walk_t ?_ (Or.inl ⟨by rfl, ?_⟩) ?_
    rotate_left
    · intro w' hw'
      obtain ⟨q0, q1, q2⟩ := HCP.out w' hw'
      clear hw'
      go_simp
      try with_reducible rfl
    simp only [Act.put, List.setIfInBounds_toArray, List.set_cons_zero, List.set_cons_succ]
  refine Gr.walk_c (fun K hK => ?_)
  go_simp
  refine (H3.out o w5 HOd.out (HT.out.ext HXd.out)).mono ?_
  rintro e w6 ⟨v, rfl, hx, hv⟩
  have HX6 := Lib.hid (Gr.ext_trans HXd.out hx)
  have HV6 := Lib.hid hv
  try go_simp
  refine hK.out _ _ (hx) ?_
  clear hK K
  clear hx hv HXd HOd
  refine Gr.walk_c (fun K hK => ?_)
  go_simp
  refine (H4.out v w6 HV6.out (HT.out.ext HX6.out)).mono ?_
  rintro e w7 ⟨x, rfl, hx, hX⟩
  have HX7 := Lib.hid (Gr.ext_trans HX6.out hx)
  have hcv := conv_ob hX
  rw [show strOf [97, 98, 99] = { data := #[97, 98, 99] } from rfl] at hcv
  obtain ⟨xa, xc, rfl, _, _⟩ := hX.slice
  have HCV : Hid ((convert 24 9 (.slice xa 3 xc)).run Tryz.prog w7 = .ok (.string { data := #[97, 98, 99] }) w7) := hcv
  try go_simp
  refine hK.out _ _ (hx) ?_
  clear hK K
  clear hx hX HX6 HV6 HCP hcv
  iterate 4
    refine Gr.walk_t ?_ (Or.inl ⟨by rfl, ?_⟩) ?_
    rotate_left
    · intro w' hw'
      clear hw'
      go_simp
      try with_reducible rfl
    simp only [Act.put, List.setIfInBounds_toArray, List.set_cons_zero, List.set_cons_succ]
  refine Gr.walk_nil ?_
  go_wp2_with fail
  refine (num13_any _ w7).mono ?_
  rintro e w' ⟨rfl, rfl⟩
  have hcv := HCV.out
  go_wp2
  go_ret
  exact ⟨rfl, HX7.out⟩
end Go.Proofs.YtippckajlghimaaGreatDoor
/- The records of an object, as the reference tells them. -/
namespace Go.Proofs.YtippckajlghimaaGreatDoor
set_option maxRecDepth 20000
open Go.RowKit Go.Deep
set_option linter.unusedVariables false
set_option maxHeartbeats 2000000 in
set_option maxRecDepth 100000 in
theorem rorecs_any (b s m p n extra until_ : Int) (o : Nat) (L : List (List (List Nat))) (bs : List Bk) (sz ex : Nat) (err : Int) (w : World) (hex : Extra extra ex) (hl : bs.length ≤ 4000) (hB : Bks s sz L bs err) (ho : OV (RLook sz) w o b s m bs) :
    Calls Tryz.prog 15 #[.pointer (some ⟨o, 0, none⟩), .agg #[.int .i64 p, .int .i64 n], .int .i64 extra, .int .i64 until_] w (RecsOut w (OM.recs p n b s m until_ sz bs ex)) := by
  have HS : Hid (∀ i, i < bs.length → ∀ (e : Nat) w, e ≤ 1000 → OV (RLook sz) w o b s m bs → Calls Tryz.prog 12 #[.pointer (some ⟨o, 0, none⟩), .int .i64 i, .int .i64 e] w (SymOut w (OM.rec1 p n b s m until_ sz bs i e).d 0)) := fun i hi e w he hv => by
    have h := rosym_any b s m o L bs sz err i e w hB hv
    unfold OM.sy OM.se at h
    rw [if_pos (by omega), if_pos (by omega), Int.toNat_natCast] at h
    unfold symErr at h
    rw [if_pos ⟨by omega, by omega⟩] at h
    simp only [OM.rec1]
    exact h
  have HRC : Hid (∀ i e, ∃ d, OM.rec1 p n b s m until_ sz bs i e = ⟨p, n, b, s, m, (i : Nat), (e : Nat), false, until_, d⟩) := fun i e => ⟨_, rfl⟩
  have HK : Hid (∀ i, i < bs.length → OM.cnt bs ex i = (bs.getD i Bk.zero).k + ex ∧ (bs.getD i Bk.zero).k ≤ 40) := fun i hi => ⟨if_pos hi, (hB.yes i hi).k2⟩
  have hle := hex.le
  have HRL : Hid (∀ q, q ≤ bs.length → (OM.recsTo (OM.rec1 p n b s m until_ sz bs) (OM.cnt bs ex) q).length ≤ 560000) := fun q hq => by
    have := OM.recsTo_length (OM.rec1 p n b s m until_ sz bs) (OM.cnt bs ex) (fun i => by
      by_cases hi : i < bs.length
      · unfold OM.cnt; rw [if_pos hi]; have := (hB.yes i hi).k2; omega
      · unfold OM.cnt; rw [if_neg hi]; omega) q
    omega
  have HB0 := Lib.hid (fun i => OM.blkTo_zero (OM.rec1 p n b s m until_ sz bs i))
  have HB1 := Lib.hid (fun i => OM.blkTo_succ (OM.rec1 p n b s m until_ sz bs i))
  have HBL := Lib.hid (fun i => OM.blkTo_length (OM.rec1 p n b s m until_ sz bs i))
  have HR0 := Lib.hid (OM.recsTo_zero (OM.rec1 p n b s m until_ sz bs) (OM.cnt bs ex))
  have HR1 := Lib.hid (OM.recsTo_succ (OM.rec1 p n b s m until_ sz bs) (OM.cnt bs ex))
  have HOUT : Hid (∀ v w', w.Extends w' → Recs w' v (OM.recsTo (OM.rec1 p n b s m until_ sz bs) (OM.cnt bs ex) bs.length) → RecsOut w (OM.recs p n b s m until_ sz bs ex) (.returned v) w') := fun v w' hx hv => ⟨v, rfl, hx, hv⟩
  have HLK := Lib.hid (rLooks sz)
  have HLKK : Hid (∀ {w : World} {p : Nat} {x : Bk} {u : Value}, RLook sz w p x u → w.cell? ⟨p, 0, none⟩ = some (.int .i64 x.k)) := fun h => h.1
  have HEX := Lib.hid hex
  have HO := Lib.hid ho
  obtain ⟨i2, hi', hz0', hz1', hz2'⟩ := info_parts recinfo
  have HI' := Lib.hid hi'; clear hi'
  have HZ0' := Lib.hid hz0'; clear hz0'
  have HZ1' := Lib.hid hz1'; clear hz1'
  have HZ2' := Lib.hid hz2'; clear hz2'
  clear hex hB ho
  generalize OM.recs p n b s m until_ sz bs ex = RR at *
  generalize OM.rec1 p n b s m until_ sz bs = f at *
  generalize OM.cnt bs ex = cn at *
  generalize RLook sz = A at *
  obtain ⟨l, hl0⟩ : ∃ l, l = bs.length := ⟨_, rfl⟩
  rw [← hl0] at HS HK HRL HOUT hl
  have HLN := Lib.hid hl0
  clear hl0
  go_enter Tryz.func15, Tryz.ntmps15
  go_upto_region 1 with fail
  generalize hw1 : World.alloc w _ = w1
  have hx1 : w.Extends w1 := by subst hw1; exact prm_ext_alloc _ _
  have hid1 : w1.cell? ⟨w.heap.size, 0, none⟩ = some (.int .i64 p) ∧ w1.cell? ⟨w.heap.size, 1, none⟩ = some (.int .i64 n) := by subst hw1; exact box_twoi w 26 p n
  generalize w.heap.size = bx at hid1 ⊢
  have hbx : bx < w1.heap.size := World.block_lt_of_cell? w1 _ hid1.1
  have HX1 := Lib.hid hx1
  have HID1 := Lib.hid hid1
  have HO1 := Lib.hid (HO.out.ext HLK.out hx1)
  clear hw1 hx1 hid1
  obtain ⟨hoz, c0, c1, c2, oa, oc, c3, hob⟩ := HO1.out
  rw [← HLN.out] at c3 hob
  have HOBP := Lib.hid hob
  have HC3 := Lib.hid c3
  clear c0 c1 c2 hob c3
  go_wp2_with fail
  go_loopw [9, 10] (fun v i wr => ∃ q : Nat, q ≤ l ∧ i = .int .i64 q ∧ Hid (w1.Extends wr) ∧ Hid (RMats wr w1.heap.size 0 v (OM.recsTo f cn q).length (OM.recsTo f cn q))) (fun _ i _ => (l - intOf i).toNat)
  case atStart => exact ⟨0, by omega, rfl, Lib.hid (Gr.ext_refl _), by rw [HR0.out]; exact Lib.hid (RMats.nil _ _ _ _)⟩
  case round =>
    obtain ⟨q, hq, rfl, HX, HM⟩ := hrel
    have c3 := HX.out.cell_of HC3.out
    by_cases h7 : q < l
    · obtain ⟨g, off, rfl, hgl, hpp⟩ := HOBP.out (by omega)
      obtain ⟨bp, bu, hc, hA, hR⟩ := hpp q h7
      have HSQ := Lib.hid (HS.out q h7)
      obtain ⟨hk1, hk2⟩ := HK.out q h7
      have HRLQ := Lib.hid (HRL.out q hq)
      have HR1Q := Lib.hid (HR1.out q)
      have HB0Q := Lib.hid (HB0.out q)
      have HB1Q := Lib.hid (HB1.out q)
      have HBLQ := Lib.hid (HBL.out q)
      have HRCQ := Lib.hid (HRC.out q)
      have hk1' := Lib.hid hk1
      have HCK := Lib.hid (HLKK.out hA)
      have HCC := Lib.hid hc
      clear hpp hA hR hk1 hc
      generalize bs.getD q Bk.zero = x at *
      generalize x.k = k at *
      generalize OM.recsTo f cn q = R at *
      generalize f q = fq at *
      go_wp2_with fail
      clear c3
      go_loopw [9, 11] (fun v i wr => ∃ z : Nat, z ≤ k + ex ∧ i = .int .i64 z ∧ Hid (w1.Extends wr) ∧ Hid (RMats wr w1.heap.size 0 v (R ++ OM.blkTo fq z).length (R ++ OM.blkTo fq z))) (fun _ i _ => ((k + ex : Nat) - intOf i).toNat)
      case atStart => exact ⟨0, by omega, rfl, HX, by rw [HB0Q.out, List.append_nil]; exact HM⟩
      case round =>
        clear HX HM
        obtain ⟨z, hz, rfl, HX1r, HM⟩ := hrel
        have HCK0 : Hid (∀ w', wr.drew.Extends w' → w'.cell? ⟨o, 3, none⟩ = some (.slice (some ⟨g, off, none⟩) l oc) ∧ w'.cell? ⟨g, off + q, none⟩ = some (.pointer (some ⟨bp, 0, none⟩)) ∧ w'.cell? ⟨bp, 0, none⟩ = some (.int .i64 k)) := fun w' hw' =>
          have hx := Gr.ext_trans HX1r.out (Gr.of_drew hw')
          ⟨hx.cell_of HC3.out, hx.cell_of HCC.out, hx.cell_of HCK.out⟩
        have HCUT : Hid (∀ w, Calls Tryz.prog 28 #[.int .i64 extra, .int .i64 0, .int .i64 100] w fun e w' => e = .returned (.int .i64 (ex : Nat)) ∧ w = w') := fun w => by
          have := cut_any extra 0 100 w
          rwa [HEX.out.clip] at this
        go_wp2_with fail
        have HX1d := Lib.hid (Gr.ext_drew HX1r.out)
        have HMd := Lib.hid (HM.out.ext (Gr.ext_drew (Gr.ext_refl wr)))
        clear HX1r HM
        refine Gr.region 14 [(false,0),(false,1),(false,2),(false,3),(false,4),(false,5),(false,6),(false,7),(false,8),(false,9),(false,10),(false,11),(true,12),(false,13)] (by kernel_rfl) (by kernel_rfl) (fun d _ _ _ _ h => by cases d <;> exact h) ?_
        simp only [Gr.pick, List.getElem?_cons_zero, List.getElem?_cons_succ, List.drop_succ_cons, List.drop_zero]
        generalize wr.drew = w4 at *
        iterate 12
          refine Gr.walk_t ?_ (Or.inl ⟨by rfl, ?_⟩) ?_
          rotate_left
          · intro w' hw'
            obtain ⟨q0, q1, q2⟩ := HCK0.out w' hw'
            clear hw'
            go_simp
            try with_reducible rfl
          simp only [Act.put, List.setIfInBounds_toArray, List.set_cons_zero, List.set_cons_succ]
        refine Gr.walk_c (fun K hK => ?_)
        go_simp
        refine (HCUT.out w4).mono ?_
        rintro e w5 ⟨rfl, rfl⟩
        try go_simp
        refine hK.out _ _ (Gr.ext_refl _) ?_
        clear hK K
        refine Gr.walk_t ?_ (Or.inl ⟨by rfl, ?_⟩) ?_
        rotate_left
        · intro w' hw'
          clear hw'
          go_simp
          try with_reducible rfl
        simp only [Act.put, List.setIfInBounds_toArray, List.set_cons_zero, List.set_cons_succ]
        refine Gr.walk_nil ?_
        by_cases h8 : z < k + ex
        · have HXr := Lib.hid (Gr.ext_trans HX1.out HX1d.out)
          have HB1Z := Lib.hid (HB1Q.out z)
          obtain ⟨d, hd⟩ := HRCQ.out z
          have HSZ := Lib.hid (HSQ.out z w4 (by omega) (HO1.out.ext HLK.out HX1d.out))
          have hlen : (R ++ OM.blkTo fq z).length ≤ 560140 := by rw [List.length_append, HBLQ.out]; have := HRLQ.out; omega
          rw [hd] at HSZ HB1Z
          clear hd
          have hlz := Lib.hid hlen
          clear hlen
          generalize OM.blkTo fq z = Z at *
          go_wp2_with fail
          refine HSZ.out.mono ?_
          rintro e w5 ⟨u, rfl, hx, hok⟩
          have HX5 := Lib.hid (Gr.ext_drew (Gr.ext_trans HX1d.out hx))
          have HM5 := Lib.hid ((HMd.out.ext hx).ext (Gr.ext_drew (Gr.ext_refl w5)))
          have HOK5 : Hid (RowOk w5.drew 0 u d) := RowOk.ext hok (Gr.ext_drew (Gr.ext_refl w5))
          obtain ⟨ua, uc, rfl, _⟩ := hok.1.slice
          obtain ⟨va, vc, rfl⟩ := HMd.out.slice
          clear hx hok HSZ HX1d HMd
          have HCF : Hid (∀ w', w5.drew.Extends w' → w'.cell? ⟨bx, 0, none⟩ = some (.int .i64 p) ∧ w'.cell? ⟨bx, 1, none⟩ = some (.int .i64 n) ∧ w'.cell? ⟨o, 0, none⟩ = some (.int .i64 b) ∧ w'.cell? ⟨o, 1, none⟩ = some (.int .i64 s) ∧ w'.cell? ⟨o, 2, none⟩ = some (.int .i64 m)) := fun w' hw' =>
            have hx := Gr.ext_trans HX5.out hw'
            ⟨hx.cell_of HID1.out.1, hx.cell_of HID1.out.2, hx.cell_of HO1.out.2.1, hx.cell_of HO1.out.2.2.1, hx.cell_of HO1.out.2.2.2.1⟩
          obtain ⟨rl, hrl0⟩ : ∃ rl, rl = (R ++ Z).length := ⟨_, rfl⟩
          rw [← hrl0] at HM5 hlz ⊢
          have HRLN : Hid ((R ++ Z).length = rl) := hrl0.symm
          clear hrl0
          go_wp2_with fail
          refine Gr.region 12 [(false,0),(false,1),(false,2),(false,3),(false,4),(false,5),(false,6),(false,7),(false,8),(false,9),(false,10),(true,11)] (by kernel_rfl) (by kernel_rfl) (fun d _ _ _ _ h => by cases d <;> exact h) ?_
          simp only [Gr.pick, List.getElem?_cons_zero, List.getElem?_cons_succ, List.drop_succ_cons, List.drop_zero]
          generalize w5.drew = w6 at *
          iterate 11
            refine Gr.walk_t ?_ (Or.inl ⟨by rfl, ?_⟩) ?_
            rotate_left
            · intro w' hw'
              obtain ⟨q0, q1, q2, q3, q4⟩ := HCF.out w' hw'
              clear hw'
              go_simp
              try with_reducible rfl
            simp only [Act.put, List.setIfInBounds_toArray, List.set_cons_zero, List.set_cons_succ]
          refine Gr.walk_c (fun K hK => ?_)
          go_simp
          generalize hw : World.alloc _ _ = w7
          have hx7 : w6.Extends w7 := by subst hw; exact ext_alloc _ _
          have HSRC : Hid (Src Tryz.prog 10 45 (.slice (some ⟨w6.heap.size, 0, none⟩) 1 1) 1 ((⟨p, n, b, s, m, q, z, false, until_, d⟩ : Rc).cells (.slice ua d.length uc)) w7) := by subst hw; exact src_rec (r := ⟨p, n, b, s, m, q, z, false, until_, d⟩) Tryz.underlying45 _ _ rfl rfl
          have HX7 := Lib.hid (Gr.ext_trans HX5.out hx7)
          have HM7 := Lib.hid (HM5.out.ext hx7)
          have HOK7 := Lib.hid (HOK5.out.ext hx7)
          refine hK.out _ _ hx7 ?_
          clear hK K hx7 hw HX5 HM5 HOK5
          obtain ⟨vs, hown, hrows⟩ := HM7.out
          have HOWN := Lib.hid hown
          have HROWS := Lib.hid hrows
          have HOB : Hid (∀ g, (Value.slice va rl vc).ownBlock = some g → w1.heap.size ≤ g) := fun g hg => (HOWN.out.lt g hg).1
          have hbs := HX7.out.size
          have hrl := hlz.out
          clear hown hrows HM7
          refine Gr.walk_nil ?_
          go_wp2_with (at_builtin; refine wpList_append_own_src _ rfl _ _ 45 45 rfl w1.heap.size 49 i2 (Rc.zero.val (.slice none 0 0)) 10 96 Tryz.underlying45 HI'.out HZ0'.out HZ1'.out HZ2'.out rfl _ _ _ rfl HOWN.out _ 1 ((⟨p, n, b, s, m, q, z, false, until_, d⟩ : Rc).cells (.slice ua d.length uc)) rfl HSRC.out (by unfold maxLen; omega) (by omega) (by omega) ?_)
          intro v' w8 ho8 hg8 _
          have HP : Hid (w1.Extends w8 ∧ RMats w8 w1.heap.size 0 v' (R ++ OM.blkTo fq (z + 1)).length (R ++ OM.blkTo fq (z + 1))) := by
            refine ⟨Gr.ext_of ((Gr.below_of HX7.out).grown hg8 hbs HOB.out), ?_⟩
            rw [← HB1Z.out, ← List.append_assoc, List.length_append, HRLN.out]
            exact RMats.snoc (Nat.zero_le _) HRLN.out.symm HOWN.out HROWS.out HOK7.out hg8 ho8
          clear ho8 hg8
          go_wp2
          go_roundw
          case rel => exact ⟨z + 1, by omega, by go_num, Lib.hid HP.out.1, Lib.hid HP.out.2⟩
          case measure => simp [intOf]; omega
        · obtain rfl : z = k + ex := by omega
          have HMN : Hid (RMats w4 w1.heap.size 0 u9 (OM.recsTo f cn (q + 1)).length (OM.recsTo f cn (q + 1))) := by
            show RMats _ _ _ _ _ _
            rw [← HR1Q.out, hk1'.out]
            exact HMd.out
          clear HMd
          go_wp2
          go_roundw
          case rel => exact ⟨q + 1, by omega, by go_num, HX1d, HMN⟩
          case measure => simp [intOf]; omega
    · obtain rfl : q = l := by omega
      have HP := Lib.hid (HOUT.out _ wr (Gr.ext_trans HX1.out HX.out) (HM.out.recs rfl))
      go_wp2
      go_returns
      exact HP.out
end Go.Proofs.YtippckajlghimaaGreatDoor
