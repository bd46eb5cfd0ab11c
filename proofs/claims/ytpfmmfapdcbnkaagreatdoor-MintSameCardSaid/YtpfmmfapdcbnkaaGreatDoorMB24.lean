/- In one text: MntEsi, ObjRecs, ObjLive, MntLive, ObjRefRecs, ObjBackTo, MntSameM, MntBack, MntId. -/
import Derived.Handy
import Derived.Lib.Hide
import Derived.Lib.SlBytesConst
import Derived.Test.YtpfmmfapdcbnkaaGreatDoorMB3
import Derived.Test.YtpfmmfapdcbnkaaGreatDoorMB9
import Derived.Test.YtpfmmfapdcbnkaaGreatDoorMB10
import Derived.Test.YtpfmmfapdcbnkaaGreatDoorMB12
import Derived.Test.YtpfmmfapdcbnkaaGreatDoorMB13
import Derived.Test.YtpfmmfapdcbnkaaGreatDoorMB14
import Derived.Test.YtpfmmfapdcbnkaaGreatDoorMB17
import Derived.Test.YtpfmmfapdcbnkaaGreatDoorMB23
namespace Go.Proofs.YtpfmmfapdcbnkaaGreatDoor
set_option maxRecDepth 20000
open Go.RowKit Go.Deep
set_option linter.unusedVariables false
def esiOf (p n : Int) : Int := 40 + RM.rand (p % 4294967296).toNat (n % 4294967296).toNat 16777176
theorem esiOf_in (p n : Int) : 40 ≤ esiOf p n ∧ esiOf p n < 16777216 := by
  have h := RM.rand_below (p % 4294967296).toNat (n % 4294967296).toNat 16777176 (by decide)
  unfold esiOf; omega
theorem esi_any (p n : Int) (w : World) : Calls Tryz.prog 10 #[.int .i64 p, .int .i64 n] w fun e w' => e = .returned (.int .i64 (esiOf p n)) ∧ w = w' := by
  have hin := esiOf_in p n
  have H : Hid (∀ w, Calls Tryz.prog 26 #[.int .u32 (p % 4294967296), .int .u32 (n % 4294967296), .int .i64 16777176] w fun e w' => e = .returned (.int .i64 (RM.rand (p % 4294967296).toNat (n % 4294967296).toNat 16777176)) ∧ w = w') := fun w => by
    have h := rand_any (p % 4294967296).toNat (n % 4294967296).toNat 16777176 (by omega) (by omega) (by omega) w
    rwa [show (((p % 4294967296).toNat : Nat) : Int) = p % 4294967296 by omega, show (((n % 4294967296).toNat : Nat) : Int) = n % 4294967296 by omega] at h
  unfold esiOf at *
  generalize RM.rand (p % 4294967296).toNat (n % 4294967296).toNat 16777176 = z at *
  go_enter Tryz.func10, Tryz.ntmps10
  go_wp2_with fail
  refine (H.out w).mono ?_
  rintro e w1 ⟨rfl, rfl⟩
  clear H
  go_wp2
  go_ret
  exact ⟨rfl, rfl⟩
end Go.Proofs.YtpfmmfapdcbnkaaGreatDoor
namespace Go.Proofs.YtpfmmfapdcbnkaaGreatDoor
set_option maxRecDepth 20000
open Go.RowKit Go.Deep
set_option linter.unusedVariables false
namespace OM
/-- The records of the first blocks' first numbers. -/
def blkTo (f : Nat → Rc) (c : Nat) : List Rc := (List.range c).map f
def recsTo (f : Nat → Nat → Rc) (cnt : Nat → Nat) (q : Nat) : List Rc := (List.range q).flatMap fun i => blkTo (f i) (cnt i)
theorem blkTo_zero (f : Nat → Rc) : blkTo f 0 = [] := rfl
theorem blkTo_succ (f : Nat → Rc) (c : Nat) : blkTo f c ++ [f c] = blkTo f (c + 1) := by simp [blkTo, List.range_succ]
theorem blkTo_length (f : Nat → Rc) (c : Nat) : (blkTo f c).length = c := by simp [blkTo]
theorem recsTo_zero (f : Nat → Nat → Rc) (cnt : Nat → Nat) : recsTo f cnt 0 = [] := rfl
theorem recsTo_succ (f : Nat → Nat → Rc) (cnt : Nat → Nat) (q : Nat) : recsTo f cnt q ++ blkTo (f q) (cnt q) = recsTo f cnt (q + 1) := by simp [recsTo, List.range_succ]
theorem recsTo_length (f : Nat → Nat → Rc) (cnt : Nat → Nat) (h : ∀ i, cnt i ≤ 140) : ∀ q, (recsTo f cnt q).length ≤ q * 140
  | 0 => by simp [recsTo]
  | q + 1 => by
    have := recsTo_length f cnt h q
    have := h q
    rw [← recsTo_succ, List.length_append, blkTo_length]; omega
/-- The record of a symbol. -/
def rec1 (p n b s m u : Int) (sz : Nat) (bs : List Bk) (i e : Nat) : Rc := ⟨p, n, b, s, m, i, e, false, u, symOf (bs.getD i Bk.zero).k (bs.getD i Bk.zero).j sz (bs.getD i Bk.zero).c e⟩
def cnt (bs : List Bk) (ex i : Nat) : Nat := if i < bs.length then (bs.getD i Bk.zero).k + ex else 0
def recs (p n b s m u : Int) (sz : Nat) (bs : List Bk) (ex : Nat) : List Rc := recsTo (rec1 p n b s m u sz bs) (cnt bs ex) bs.length
end OM
/-- How many symbols beside the source ones. -/
def Extra (extra : Int) (ex : Nat) : Prop := (extra < 0 ∧ ex = 0) ∨ (0 ≤ extra ∧ extra ≤ 100 ∧ (ex : Int) = extra) ∨ (100 < extra ∧ ex = 100)
theorem Extra.clip {extra : Int} {ex : Nat} (h : Extra extra ex) : RM.clip extra 0 100 = (ex : Nat) := by
  unfold RM.clip
  rcases h with ⟨h1, rfl⟩ | ⟨h1, h2, h3⟩ | ⟨h1, rfl⟩
  · rw [if_pos h1]; rfl
  · rw [if_neg (by omega), if_neg (by omega)]; exact h3.symm
  · rw [if_neg (by omega), if_pos (by omega)]; rfl
theorem Extra.le {extra : Int} {ex : Nat} (h : Extra extra ex) : ex ≤ 100 := by
  rcases h with ⟨h1, rfl⟩ | ⟨h1, h2, h3⟩ | ⟨h1, rfl⟩ <;> omega
theorem BLook.k {sz : Nat} {w : World} {p : Nat} {x : Bk} {u : Value} (h : BLook sz w p x u) : w.cell? ⟨p, 0, none⟩ = some (.int .i64 x.k) := h.1
theorem RLook.k {sz : Nat} {w : World} {p : Nat} {x : Bk} {u : Value} (h : RLook sz w p x u) : w.cell? ⟨p, 0, none⟩ = some (.int .i64 x.k) := h.1
theorem box_twoi (w : World) (T : TypeId) (p n : Int) : (w.alloc (.cells #[.int .i64 p, .int .i64 n] T)).cell? ⟨w.heap.size, 0, none⟩ = some (.int .i64 p) ∧ (w.alloc (.cells #[.int .i64 p, .int .i64 n] T)).cell? ⟨w.heap.size, 1, none⟩ = some (.int .i64 n) := box_two w T _ _
end Go.Proofs.YtpfmmfapdcbnkaaGreatDoor
namespace Go.Proofs.YtpfmmfapdcbnkaaGreatDoor
set_option maxRecDepth 20000
open Go.RowKit Go.Deep
set_option linter.unusedVariables false
/-- Decode of symbols of an object: its bytes if they are enough of each block, else that they are too little. -/
theorem dec_back (B S M : Nat) (hR : CM.Right B S M) (xs : List Nat) (hl : xs.length = B) (bs : List Bk) (hfull : bs.length = CM.bl B S M) (hB : Bks S S (CM.cut B S M xs) bs 5) (l : List Rc) (hll : l.length ≤ 1000000) (Lf : Nat → List Int) (fb : Nat → Bool)
    (hLl : ∀ c, c < CM.bl B S M → (Lf c).length ≤ 1000) (hok : ∀ c, c < CM.bl B S M → ∀ e ∈ Lf c, EsiOk e)
    (hp : ∀ c, c < CM.bl B S M → OM.pick B S M c l = DC.pairs (Lf c) ((Lf c).map (DC.dr (bs.getD c Bk.zero).k (bs.getD c Bk.zero).j S (bs.getD c Bk.zero).c)))
    (hf : ∀ c, c < CM.bl B S M → (fb c = true ↔ DC.Full (bs.getD c Bk.zero).k (bs.getD c Bk.zero).j (Lf c))) (er : Nat) (ys : List Nat) (hes : (∀ c, c < CM.bl B S M → fb c = true) ∧ er = 0 ∧ ys = xs ∨ (∃ c, c < CM.bl B S M ∧ fb c = false) ∧ er = 4 ∧ ys = []) (v : Value) (w : World) (hv : Recs w v l) (hT : Tab w) :
    Calls Tryz.prog 21 #[PV B S M, v] w (JoinOut w er ys) := by
  obtain ⟨h1, h2, h3, h4, h5, h6⟩ := CM.right_of hR
  have hn : CM.bl B S M ≤ 4000 := by have := CM.bl_le B S M; have := CM.sy_le B S h1; omega
  have hlen := CM.cut_length B S M xs
  obtain ⟨c0, e1, e2, e3⟩ := least_stop (CM.bl B S M) fun c => if fb c = true then 0 else 4
  have hb : ∀ c, c < CM.bl B S M → B10 S ((CM.cut B S M xs).getD c []) (bs.getD c Bk.zero).k (bs.getD c Bk.zero).j S (bs.getD c Bk.zero).c := fun c hc => hB.yes c (by omega)
  have hkk : ∀ c, c < CM.bl B S M → CM.kk B S M c = (bs.getD c Bk.zero).k := fun c hc => by
    have := (hb c hc).hk
    rw [((CM.cut_fit B S M xs).2 c (by omega)).1] at this
    exact this
  have hdn : ∀ c, c < CM.bl B S M → Dense ((CM.cut B S M xs).getD c []) := fun c hc => by
    have h := hb c hc
    refine ⟨by rw [h.hk]; exact h.k1, fun j hj e => ?_⟩
    have := h.all j hj
    rw [e] at this
    simp at this; omega
  have hz : ∀ c, c < c0 → (((if fb c = true then 0 else 4 : Nat) : Nat) : Int) = 0 ∧ Dense (if fb c = true then (CM.cut B S M xs).getD c [] else []) := fun c hc => by
    have h := e2 c hc
    by_cases hb' : fb c = true
    · simp only [if_pos hb']; exact ⟨rfl, hdn c (by omega)⟩
    · simp only [if_neg hb'] at h; cases h
  refine odec_any B S M v l (CM.bl B S M) c0 er (CM.kk B S M) (fun c => if fb c = true then (CM.cut B S M xs).getD c [] else []) (fun c => ((if fb c = true then 0 else 4 : Nat) : Nat)) ys w hT hn hll hv (fun w => right_yes _ _ _ w hR) (fun w => blocks_yes _ _ _ w hR) (fun c hc w => k_in B S M c w hR hc) (fun c hc u w hu hT => ?_) e1 hz (fun h => ?_) (fun h => ?_)
  · have h := hb c hc
    have ht := back_told (Lf c) h.seed h.parts h.hk fun i hi => by have := h.all i (by rw [h.hk]; exact hi); omega
    rw [← hp c hc] at ht
    have hpl : (OM.pick B S M c l).length ≤ 1000 := by rw [hp c hc, DC.pairs_length]; exact hLl c hc
    have hok' : ∀ p ∈ OM.pick B S M c l, EsiOk p.1 := by
      rw [hp c hc]
      exact DC.pairs_mem fun i hi => hok c hc _ (by rw [List.getD_eq_getElem?_getD, List.getElem?_eq_getElem hi]; exact List.getElem_mem hi)
    rw [hkk c hc]
    by_cases hb' : fb c = true
    · simp only [if_pos hb']
      rcases ht with ⟨_, ht⟩ | ⟨hn, _⟩
      · exact block_told _ S u _ w h.k1 h.k2 h3 h4 hu hpl hok' hT _ _ ht
      · exact absurd ((hf c hc).1 hb') hn
    · simp only [if_neg hb']
      rcases ht with ⟨hy, _⟩ | ⟨_, ht⟩
      · exact absurd ((hf c hc).2 hy) hb'
      · exact block_told _ S u _ w h.k1 h.k2 h3 h4 hu hpl hok' hT _ _ ht
  · have h' := e3 h
    rcases hes with ⟨ha, _⟩ | ⟨_, rfl, rfl⟩
    · rw [if_pos (ha c0 h)] at h'; exact absurd rfl h'
    · by_cases hb' : fb c0 = true
      · rw [if_pos hb'] at h'; exact absurd rfl h'
      · exact ⟨by simp [hb'], by decide, rfl⟩
  · rcases hes with ⟨ha, rfl, rfl⟩ | ⟨⟨c, hc, hcb⟩, _⟩
    · intro v w hv
      have hX : (List.range (CM.bl B S M)).map (fun c => if fb c = true then (CM.cut B S M ys).getD c [] else []) = CM.cut B S M ys := by
        apply List.ext_getElem (by simp [hlen])
        intro i i1 i2
        have hi : i < CM.bl B S M := by simpa using i1
        simp [ha i hi, i2]
      rw [hX] at hv
      have h := (join_any B S M v _ w hR hv).mono fun e w' h => h.1 (CM.cut_fit _ _ _ _)
      subst hl
      rw [CM.join_cut S M ys h3] at h
      exact h
    · have := e2 c (by omega)
      simp [hcb] at this
theorem small13_any (b s m : Int) (w : World) : ∃ sm : Bool, ∀ w, Calls Tryz.prog 6 #[PV b s m] w fun e w' => e = .returned (.bool sm) ∧ w.Extends w' := by
  obtain ⟨r, y, n, k, ha⟩ := asked12 b s m 0
  have HN := Lib.hid ha.nr
  clear ha
  refine ⟨decide (b ≤ 300 ∧ m ≤ 10 ∧ n ≤ 20), fun w => ?_⟩
  have hc : (¬ b ≤ 300) ∨ (b ≤ 300 ∧ ¬ m ≤ 10) ∨ (b ≤ 300 ∧ m ≤ 10) := by omega
  rcases hc with c1 | ⟨c1, c2⟩ | ⟨c1, c2⟩
  all_goals
    go_enter Tryz.func6, Tryz.ntmps6
    go_upto_region 1 with fail
    generalize hw1 : World.alloc w _ = w1
    have hx1 : w.Extends w1 := by subst hw1; exact prm_ext_alloc _ _
    have hp : PAt w1 w.heap.size b s m := by subst hw1; exact PAt.new w 25 b s m
    generalize w.heap.size = bx at hp ⊢
    have HX1 := Lib.hid hx1
    have hb1 := hp.lt
    clear hw1 hx1
    obtain ⟨p0, p1, p2⟩ := hp
  · go_wp2
    go_ret
    exact ⟨by simp; omega, HX1.out⟩
  · go_wp2
    go_ret
    exact ⟨by simp; omega, HX1.out⟩
  · go_wp2_with fail
    refine (HN.out w1).mono ?_
    rintro e w2 ⟨rfl, hx⟩
    have HX2 := Lib.hid (Gr.ext_trans HX1.out hx)
    clear hx p0 p1 p2
    go_wp2
    go_ret
    exact ⟨by simp [c1, c2]; omega, HX2.out⟩
/-! The example. -/
theorem symOf_dr (k j sz : Nat) (c : List (List Nat)) (e : Int) (h : EsiOk e) : symOf k j sz c e = DC.dr k j sz c e := if_pos h
end Go.Proofs.YtpfmmfapdcbnkaaGreatDoor
namespace Go.Proofs.YtpfmmfapdcbnkaaGreatDoor
set_option maxRecDepth 20000
open Go.RowKit Go.Deep
set_option linter.unusedVariables false
theorem one_right : CM.Right (1 : Nat) (1 : Nat) (1 : Nat) := by decide
theorem one_bl : CM.bl 1 1 1 = 1 := by decide
theorem one_cut : CM.cut 1 1 1 [97] = [[[97]]] := by decide
theorem one_lt : ∀ r ∈ ([[97]] : List (List Nat)), ∀ x ∈ r, x < 256 := by decide
theorem one_bks : ∃ c, Bks (1 : Nat) 1 (CM.cut 1 1 1 [97]) [⟨1, 0, c⟩] 5 := by
  rw [one_cut]
  rcases blk_fit 1 [[97]] one_lt (by omega) (by omega) (by simp) (by simp) (fun k hk => by
    have hk : k < 1 := hk
    match k, hk with
    | 0, _ => rfl) with ⟨h, _⟩ | ⟨j, c, h⟩
  · have := h.of_good SM.good_one
    omega
  · obtain ⟨rfl, _⟩ := h.seed.of_good SM.good_one
    exact ⟨c, ⟨Nat.le_refl _, fun i hi => by
      obtain rfl : i = 0 := by simp at hi; omega
      exact h, fun h => absurd h (Nat.lt_irrefl _), by decide⟩⟩
theorem dec_none (v : Value) (w : World) (hv : Recs w v []) (hT : Tab w) : Calls Tryz.prog 21 #[PV 1 1 1, v] w (JoinOut w 4 []) := by
  obtain ⟨c, hB⟩ := one_bks
  have hcl : ∀ i, i < CM.bl 1 1 1 → i = 0 := fun i hi => by rw [one_bl] at hi; omega
  exact dec_back 1 1 1 one_right [97] rfl [⟨1, 0, c⟩] one_bl.symm hB [] (by simp) (fun _ => []) (fun _ => false) (fun c hc => by simp) (fun c hc e he => by cases he) (fun i hi => rfl) (fun i hi => by
      obtain rfl := hcl i hi
      exact ⟨fun h => (by cases h), fun h => absurd h (DC.full_few (by show (0 : Nat) < 1; omega))⟩) 4 [] (.inr ⟨⟨0, by rw [one_bl]; omega, rfl⟩, rfl, rfl⟩) v w hv hT
theorem fresh_none (w : World) (hT : Tab w) : Calls Tryz.prog 8 #[.agg #[.int .i64 0, .int .i64 0], PV 1 1 1, .int .i64 0, .int .i64 0, .int .i64 0, .slice none 0 0] w (FreshOut w Rc.zero 4) :=
  pfresh_any 0 0 1 1 1 0 0 0 _ [] w w (Gr.ext_refl _) hT (Recs.nil _ _ _) (by simp) 4 [] (fun v w' hx hv => dec_none v w' hv (hT.ext hx)) 0 (fun _ _ => False) (fun h => absurd h (by decide)) 0 [] (fun h => absurd h (by decide))
theorem num24_any (n : Int) (w : World) : Calls Tryz.prog 13 #[.int .i64 n] w fun e w' => e = .returned (.int .i64 n) ∧ w = w' := by
  go_enter Tryz.func13, Tryz.ntmps13
  go_wp2
  go_ret
  exact ⟨rfl, rfl⟩
set_option maxHeartbeats 1000000 in
theorem alive24_any (w : World) (hT : Tab w) : Calls Tryz.prog 5 #[] w fun e w' => e = .returned (.bool true) ∧ w.Extends w' := by
  have HF := Lib.hid (fresh_none w hT)
  have hin := esiOf_in 1 1
  have HE := Lib.hid (fun w => esi_any 1 1 w)
  have HN := Lib.hid (fun w => num24_any 4 w)
  generalize esiOf 1 1 = z at *
  clear hT
  go_enter Tryz.func5, Tryz.ntmps5
  go_wp2_with fail
  refine HF.out.mono ?_
  rintro e w1 ⟨a, c, rfl, hx1, hu⟩
  have HX1 := Lib.hid hx1
  clear hx1 hu HF
  have hv : Rc.zero.val (.slice a Rc.zero.d.length c) = .agg #[.int .i64 0, .int .i64 0, .int .i64 0, .int .i64 0, .int .i64 0, .int .i64 0, .int .i64 0, .bool false, .int .i64 0, .slice a 0 c] := rfl
  rw [hv]
  clear hv
  go_wp2_with fail
  generalize hw : World.alloc _ _ = w2
  have hx : w1.Extends w2 := by subst hw; exact ext_alloc _ _
  have HX2 := Lib.hid (Gr.ext_trans HX1.out hx)
  clear hw hx
  refine (HE.out w2).mono ?_
  rintro e w3 ⟨rfl, rfl⟩
  have hd : decide (40 ≤ z) = true := decide_eq_true hin.1
  go_wp2_with fail
  refine (HN.out w2).mono ?_
  rintro e w4 ⟨rfl, rfl⟩
  go_wp2
  go_ret
  exact ⟨rfl, HX2.out⟩
end Go.Proofs.YtpfmmfapdcbnkaaGreatDoor
namespace Go.Proofs.YtpfmmfapdcbnkaaGreatDoor
set_option maxRecDepth 20000
open Go.RowKit Go.Deep
set_option linter.unusedVariables false
/-- Records that a call answers, in an array of its own. -/
def RecsOwn (w : World) (l : List Rc) (e : Ending) (w' : World) : Prop := ∃ v, e = .returned v ∧ w.Extends w' ∧ RMats w' w.heap.size 0 v l.length l
theorem RMats.mono {w : World} {B B' R : Nat} {v : Value} {k : Nat} {l : List Rc} (h : RMats w B R v k l) (hB : B' ≤ B) : RMats w B' R v k l := by
  obtain ⟨vs, h1, h2⟩ := h
  exact ⟨vs, owns_base h1 hB, h2⟩
set_option maxHeartbeats 2000000 in
set_option maxRecDepth 100000 in
theorem rorecs_own (b s m p n extra until_ : Int) (o : Nat) (L : List (List (List Nat))) (bs : List Bk) (sz ex : Nat) (err : Int) (w : World) (hex : Extra extra ex) (hl : bs.length ≤ 4000) (hB : Bks s sz L bs err) (ho : OV (RLook sz) w o b s m bs) :
    Calls Tryz.prog 17 #[.pointer (some ⟨o, 0, none⟩), .agg #[.int .i64 p, .int .i64 n], .int .i64 extra, .int .i64 until_] w (RecsOwn w (OM.recs p n b s m until_ sz bs ex)) := by
  have HS : Hid (∀ i, i < bs.length → ∀ (e : Nat) w, e ≤ 1000 → OV (RLook sz) w o b s m bs → Calls Tryz.prog 18 #[.pointer (some ⟨o, 0, none⟩), .int .i64 i, .int .i64 e] w (SymOut w (OM.rec1 p n b s m until_ sz bs i e).d 0)) := fun i hi e w he hv => by
    have h := rosym_any b s m o L bs sz err i e w hB hv
    unfold OM.sy OM.se at h
    rw [if_pos (by omega), if_pos (by omega), Int.toNat_natCast] at h
    unfold symErr at h
    rw [if_pos ⟨by omega, by omega⟩] at h
    simp only [OM.rec1]
    exact h
  have HRC : Hid (∀ i e, ∃ d, OM.rec1 p n b s m until_ sz bs i e = ⟨p, n, b, s, m, (i : Nat), (e : Nat), false, until_, d⟩) := fun i e => ⟨_, rfl⟩
  have HK : Hid (∀ i, i < bs.length → OM.cnt bs ex i = (bs.getD i Bk.zero).k + ex ∧ (bs.getD i Bk.zero).k ≤ 40) := fun i hi => ⟨if_pos hi, (hB.yes i hi).k2⟩
  have hle := hex.le
  have HRL : Hid (∀ q, q ≤ bs.length → (OM.recsTo (OM.rec1 p n b s m until_ sz bs) (OM.cnt bs ex) q).length ≤ 560000) := fun q hq => by
    have := OM.recsTo_length (OM.rec1 p n b s m until_ sz bs) (OM.cnt bs ex) (fun i => by
      by_cases hi : i < bs.length
      · unfold OM.cnt; rw [if_pos hi]; have := (hB.yes i hi).k2; omega
      · unfold OM.cnt; rw [if_neg hi]; omega) q
    omega
  have HB0 := Lib.hid (fun i => OM.blkTo_zero (OM.rec1 p n b s m until_ sz bs i))
  have HB1 := Lib.hid (fun i => OM.blkTo_succ (OM.rec1 p n b s m until_ sz bs i))
  have HBL := Lib.hid (fun i => OM.blkTo_length (OM.rec1 p n b s m until_ sz bs i))
  have HR0 := Lib.hid (OM.recsTo_zero (OM.rec1 p n b s m until_ sz bs) (OM.cnt bs ex))
  have HR1 := Lib.hid (OM.recsTo_succ (OM.rec1 p n b s m until_ sz bs) (OM.cnt bs ex))
  have HOUT : Hid (∀ v w' B, w.Extends w' → w.heap.size ≤ B → RMats w' B 0 v (OM.recsTo (OM.rec1 p n b s m until_ sz bs) (OM.cnt bs ex) bs.length).length (OM.recsTo (OM.rec1 p n b s m until_ sz bs) (OM.cnt bs ex) bs.length) → RecsOwn w (OM.recs p n b s m until_ sz bs ex) (.returned v) w') := fun v w' B hx hB hv => ⟨v, rfl, hx, hv.mono hB⟩
  have HLK := Lib.hid (rLooks sz)
  have HLKK : Hid (∀ {w : World} {p : Nat} {x : Bk} {u : Value}, RLook sz w p x u → w.cell? ⟨p, 0, none⟩ = some (.int .i64 x.k)) := fun h => h.1
  have HEX := Lib.hid hex
  have HO := Lib.hid ho
  obtain ⟨i2, hi', hz0', hz1', hz2'⟩ := info_parts recinfo
  have HI' := Lib.hid hi'; clear hi'
  have HZ0' := Lib.hid hz0'; clear hz0'
  have HZ1' := Lib.hid hz1'; clear hz1'
  have HZ2' := Lib.hid hz2'; clear hz2'
  clear hex hB ho
  generalize OM.recs p n b s m until_ sz bs ex = RR at *
  generalize OM.rec1 p n b s m until_ sz bs = f at *
  generalize OM.cnt bs ex = cn at *
  generalize RLook sz = A at *
  obtain ⟨l, hl0⟩ : ∃ l, l = bs.length := ⟨_, rfl⟩
  rw [← hl0] at HS HK HRL HOUT hl
  have HLN := Lib.hid hl0
  clear hl0
  go_enter Tryz.func17, Tryz.ntmps17
  go_upto_region 1 with fail
  generalize hw1 : World.alloc w _ = w1
  have hx1 : w.Extends w1 := by subst hw1; exact prm_ext_alloc _ _
  have hid1 : w1.cell? ⟨w.heap.size, 0, none⟩ = some (.int .i64 p) ∧ w1.cell? ⟨w.heap.size, 1, none⟩ = some (.int .i64 n) := by subst hw1; exact box_twoi w 23 p n
  generalize w.heap.size = bx at hid1 ⊢
  have hbx : bx < w1.heap.size := World.block_lt_of_cell? w1 _ hid1.1
  have HX1 := Lib.hid hx1
  have HID1 := Lib.hid hid1
  have HO1 := Lib.hid (HO.out.ext HLK.out hx1)
  clear hw1 hx1 hid1
  obtain ⟨hoz, c0, c1, c2, oa, oc, c3, hob⟩ := HO1.out
  rw [← HLN.out] at c3 hob
  have HOBP := Lib.hid hob
  have HC3 := Lib.hid c3
  clear c0 c1 c2 hob c3
  go_wp2_with fail
  go_loopw [9, 10] (fun v i wr => ∃ q : Nat, q ≤ l ∧ i = .int .i64 q ∧ Hid (w1.Extends wr) ∧ Hid (RMats wr w1.heap.size 0 v (OM.recsTo f cn q).length (OM.recsTo f cn q))) (fun _ i _ => (l - intOf i).toNat)
  case atStart => exact ⟨0, by omega, rfl, Lib.hid (Gr.ext_refl _), by rw [HR0.out]; exact Lib.hid (RMats.nil _ _ _ _)⟩
  case round =>
    obtain ⟨q, hq, rfl, HX, HM⟩ := hrel
    have c3 := HX.out.cell_of HC3.out
    by_cases h7 : q < l
    · obtain ⟨g, off, rfl, hgl, hpp⟩ := HOBP.out (by omega)
      obtain ⟨bp, bu, hc, hA, hR⟩ := hpp q h7
      have HSQ := Lib.hid (HS.out q h7)
      obtain ⟨hk1, hk2⟩ := HK.out q h7
      have HRLQ := Lib.hid (HRL.out q hq)
      have HR1Q := Lib.hid (HR1.out q)
      have HB0Q := Lib.hid (HB0.out q)
      have HB1Q := Lib.hid (HB1.out q)
      have HBLQ := Lib.hid (HBL.out q)
      have HRCQ := Lib.hid (HRC.out q)
      have hk1' := Lib.hid hk1
      have HCK := Lib.hid (HLKK.out hA)
      have HCC := Lib.hid hc
      clear hpp hA hR hk1 hc
      generalize bs.getD q Bk.zero = x at *
      generalize x.k = k at *
      generalize OM.recsTo f cn q = R at *
      generalize f q = fq at *
      go_wp2_with fail
      clear c3
      go_loopw [9, 11] (fun v i wr => ∃ z : Nat, z ≤ k + ex ∧ i = .int .i64 z ∧ Hid (w1.Extends wr) ∧ Hid (RMats wr w1.heap.size 0 v (R ++ OM.blkTo fq z).length (R ++ OM.blkTo fq z))) (fun _ i _ => ((k + ex : Nat) - intOf i).toNat)
      case atStart => exact ⟨0, by omega, rfl, HX, by rw [HB0Q.out, List.append_nil]; exact HM⟩
      case round =>
        clear HX HM
        obtain ⟨z, hz, rfl, HX1r, HM⟩ := hrel
        have HCK0 : Hid (∀ w', wr.drew.Extends w' → w'.cell? ⟨o, 3, none⟩ = some (.slice (some ⟨g, off, none⟩) l oc) ∧ w'.cell? ⟨g, off + q, none⟩ = some (.pointer (some ⟨bp, 0, none⟩)) ∧ w'.cell? ⟨bp, 0, none⟩ = some (.int .i64 k)) := fun w' hw' =>
          have hx := Gr.ext_trans HX1r.out (Gr.of_drew hw')
          ⟨hx.cell_of HC3.out, hx.cell_of HCC.out, hx.cell_of HCK.out⟩
        have HCUT : Hid (∀ w, Calls Tryz.prog 31 #[.int .i64 extra, .int .i64 0, .int .i64 100] w fun e w' => e = .returned (.int .i64 (ex : Nat)) ∧ w = w') := fun w => by
          have := cut_any extra 0 100 w
          rwa [HEX.out.clip] at this
        go_wp2_with fail
        have HX1d := Lib.hid (Gr.ext_drew HX1r.out)
        have HMd := Lib.hid (HM.out.ext (Gr.ext_drew (Gr.ext_refl wr)))
        clear HX1r HM
        refine Gr.region 14 [(false,0),(false,1),(false,2),(false,3),(false,4),(false,5),(false,6),(false,7),(false,8),(false,9),(false,10),(false,11),(true,12),(false,13)] (by kernel_rfl) (by kernel_rfl) (fun d _ _ _ _ h => by cases d <;> exact h) ?_
        simp only [Gr.pick, List.getElem?_cons_zero, List.getElem?_cons_succ, List.drop_succ_cons, List.drop_zero]
        generalize wr.drew = w4 at *
        iterate 12
          refine Gr.walk_t ?_ (Or.inl ⟨by rfl, ?_⟩) ?_
          rotate_left
          · intro w' hw'
            obtain ⟨q0, q1, q2⟩ := HCK0.out w' hw'
            clear hw'
            go_simp
            try with_reducible rfl
          simp only [Act.put, List.setIfInBounds_toArray, List.set_cons_zero, List.set_cons_succ]
        refine Gr.walk_c (fun K hK => ?_)
        go_simp
        refine (HCUT.out w4).mono ?_
        rintro e w5 ⟨rfl, rfl⟩
        try go_simp
        refine hK.out _ _ (Gr.ext_refl _) ?_
        clear hK K
        refine Gr.walk_t ?_ (Or.inl ⟨by rfl, ?_⟩) ?_
        rotate_left
        · intro w' hw'
          clear hw'
          go_simp
          try with_reducible rfl
        simp only [Act.put, List.setIfInBounds_toArray, List.set_cons_zero, List.set_cons_succ]
        refine Gr.walk_nil ?_
        by_cases h8 : z < k + ex
        · have HXr := Lib.hid (Gr.ext_trans HX1.out HX1d.out)
          have HB1Z := Lib.hid (HB1Q.out z)
          obtain ⟨d, hd⟩ := HRCQ.out z
          have HSZ := Lib.hid (HSQ.out z w4 (by omega) (HO1.out.ext HLK.out HX1d.out))
          have hlen : (R ++ OM.blkTo fq z).length ≤ 560140 := by rw [List.length_append, HBLQ.out]; have := HRLQ.out; omega
          rw [hd] at HSZ HB1Z
          clear hd
          have hlz := Lib.hid hlen
          clear hlen
          generalize OM.blkTo fq z = Z at *
          go_wp2_with fail
          refine HSZ.out.mono ?_
          rintro e w5 ⟨u, rfl, hx, hok⟩
          have HX5 := Lib.hid (Gr.ext_drew (Gr.ext_trans HX1d.out hx))
          have HM5 := Lib.hid ((HMd.out.ext hx).ext (Gr.ext_drew (Gr.ext_refl w5)))
          have HOK5 : Hid (RowOk w5.drew 0 u d) := RowOk.ext hok (Gr.ext_drew (Gr.ext_refl w5))
          obtain ⟨ua, uc, rfl, _⟩ := hok.1.slice
          obtain ⟨va, vc, rfl⟩ := HMd.out.slice
          clear hx hok HSZ HX1d HMd
          have HCF : Hid (∀ w', w5.drew.Extends w' → w'.cell? ⟨bx, 0, none⟩ = some (.int .i64 p) ∧ w'.cell? ⟨bx, 1, none⟩ = some (.int .i64 n) ∧ w'.cell? ⟨o, 0, none⟩ = some (.int .i64 b) ∧ w'.cell? ⟨o, 1, none⟩ = some (.int .i64 s) ∧ w'.cell? ⟨o, 2, none⟩ = some (.int .i64 m)) := fun w' hw' =>
            have hx := Gr.ext_trans HX5.out hw'
            ⟨hx.cell_of HID1.out.1, hx.cell_of HID1.out.2, hx.cell_of HO1.out.2.1, hx.cell_of HO1.out.2.2.1, hx.cell_of HO1.out.2.2.2.1⟩
          obtain ⟨rl, hrl0⟩ : ∃ rl, rl = (R ++ Z).length := ⟨_, rfl⟩
          rw [← hrl0] at HM5 hlz ⊢
          have HRLN : Hid ((R ++ Z).length = rl) := hrl0.symm
          clear hrl0
          go_wp2_with fail
          refine Gr.region 12 [(false,0),(false,1),(false,2),(false,3),(false,4),(false,5),(false,6),(false,7),(false,8),(false,9),(false,10),(true,11)] (by kernel_rfl) (by kernel_rfl) (fun d _ _ _ _ h => by cases d <;> exact h) ?_
          simp only [Gr.pick, List.getElem?_cons_zero, List.getElem?_cons_succ, List.drop_succ_cons, List.drop_zero]
          generalize w5.drew = w6 at *
          iterate 11
            refine Gr.walk_t ?_ (Or.inl ⟨by rfl, ?_⟩) ?_
            rotate_left
            · intro w' hw'
              obtain ⟨q0, q1, q2, q3, q4⟩ := HCF.out w' hw'
              clear hw'
              go_simp
              try with_reducible rfl
            simp only [Act.put, List.setIfInBounds_toArray, List.set_cons_zero, List.set_cons_succ]
          refine Gr.walk_c (fun K hK => ?_)
          go_simp
          generalize hw : World.alloc _ _ = w7
          have hx7 : w6.Extends w7 := by subst hw; exact ext_alloc _ _
          have HSRC : Hid (Src Tryz.prog 10 26 (.slice (some ⟨w6.heap.size, 0, none⟩) 1 1) 1 ((⟨p, n, b, s, m, q, z, false, until_, d⟩ : Rc).cells (.slice ua d.length uc)) w7) := by subst hw; exact src_rec (r := ⟨p, n, b, s, m, q, z, false, until_, d⟩) Tryz.underlying26 _ _ rfl rfl
          have HX7 := Lib.hid (Gr.ext_trans HX5.out hx7)
          have HM7 := Lib.hid (HM5.out.ext hx7)
          have HOK7 := Lib.hid (HOK5.out.ext hx7)
          refine hK.out _ _ hx7 ?_
          clear hK K hx7 hw HX5 HM5 HOK5
          obtain ⟨vs, hown, hrows⟩ := HM7.out
          have HOWN := Lib.hid hown
          have HROWS := Lib.hid hrows
          have HOB : Hid (∀ g, (Value.slice va rl vc).ownBlock = some g → w1.heap.size ≤ g) := fun g hg => (HOWN.out.lt g hg).1
          have hbs := HX7.out.size
          have hrl := hlz.out
          clear hown hrows HM7
          refine Gr.walk_nil ?_
          go_wp2_with (at_builtin; refine wpList_append_own_src _ rfl _ _ 26 26 rfl w1.heap.size 32 i2 (Rc.zero.val (.slice none 0 0)) 10 96 Tryz.underlying26 HI'.out HZ0'.out HZ1'.out HZ2'.out rfl _ _ _ rfl HOWN.out _ 1 ((⟨p, n, b, s, m, q, z, false, until_, d⟩ : Rc).cells (.slice ua d.length uc)) rfl HSRC.out (by unfold maxLen; omega) (by omega) (by omega) ?_)
          intro v' w8 ho8 hg8 _
          have HP : Hid (w1.Extends w8 ∧ RMats w8 w1.heap.size 0 v' (R ++ OM.blkTo fq (z + 1)).length (R ++ OM.blkTo fq (z + 1))) := by
            refine ⟨Gr.ext_of ((Gr.below_of HX7.out).grown hg8 hbs HOB.out), ?_⟩
            rw [← HB1Z.out, ← List.append_assoc, List.length_append, HRLN.out]
            exact RMats.snoc (Nat.zero_le _) HRLN.out.symm HOWN.out HROWS.out HOK7.out hg8 ho8
          clear ho8 hg8
          go_wp2
          go_roundw
          case rel => exact ⟨z + 1, by omega, by go_num, Lib.hid HP.out.1, Lib.hid HP.out.2⟩
          case measure => simp [intOf]; omega
        · obtain rfl : z = k + ex := by omega
          have HMN : Hid (RMats w4 w1.heap.size 0 u9 (OM.recsTo f cn (q + 1)).length (OM.recsTo f cn (q + 1))) := by
            show RMats _ _ _ _ _ _
            rw [← HR1Q.out, hk1'.out]
            exact HMd.out
          clear HMd
          go_wp2
          go_roundw
          case rel => exact ⟨q + 1, by omega, by go_num, HX1d, HMN⟩
          case measure => simp [intOf]; omega
    · obtain rfl : q = l := by omega
      have HP := Lib.hid (HOUT.out _ wr _ (Gr.ext_trans HX1.out HX.out) HX1.out.size HM.out)
      go_wp2
      go_returns
      exact HP.out
end Go.Proofs.YtpfmmfapdcbnkaaGreatDoor
namespace Go.Proofs.YtpfmmfapdcbnkaaGreatDoor
set_option maxRecDepth 20000
open Go.RowKit Go.Deep
set_option linter.unusedVariables false
namespace OM
theorem pick_cons_yes {b s m : Int} {c : Nat} {l : List Rc} {r : Rc} (h : counts b s m c r = true) : pick b s m c (r :: l) = (r.e, r.d) :: pick b s m c l := by simp [pick, h]
theorem pick_cons_no {b s m : Int} {c : Nat} {l : List Rc} {r : Rc} (h : counts b s m c r = false) : pick b s m c (r :: l) = pick b s m c l := by simp [pick, h]
end OM
theorem pairs_map (f : Int → List Nat) (L : List Int) : DC.pairs L (L.map f) = L.map fun e => (e, f e) := by
  apply List.ext_getElem (by rw [DC.pairs_length, List.length_map])
  intro i h1 h2
  have h : i < L.length := by simpa using h2
  simp [DC.pairs, DC.pairsTo, h]
/-- What is gathered behind q blocks and z numbers. -/
structure BackTo (b s m : Int) (D : Nat → Int → List Nat) (q z : Nat) (l : List Rc) (M : Nat → List Int) (A : List Int) : Prop where
  len : l.length ≤ q * 60 + z
  old : ∀ c, c < q → (M c).length ≤ 60 ∧ (∀ e ∈ M c, EsiOk e) ∧ OM.pick b s m c l = DC.pairs (M c).reverse ((M c).reverse.map (D c))
  cur : A.length ≤ z ∧ (∀ e ∈ A, EsiOk e) ∧ OM.pick b s m q l = DC.pairs A.reverse (A.reverse.map (D q))
  new : ∀ c, q < c → OM.pick b s m c l = []
theorem BackTo.start (b s m : Int) (D : Nat → Int → List Nat) (M : Nat → List Int) : BackTo b s m D 0 0 [] M [] :=
  ⟨by simp, fun c hc => absurd hc (Nat.not_lt_zero _), ⟨by simp, (fun e he => by cases he), rfl⟩, fun c hc => rfl⟩
theorem BackTo.skip {b s m : Int} {D : Nat → Int → List Nat} {q z : Nat} {l : List Rc} {M : Nat → List Int} {A : List Int} (h : BackTo b s m D q z l M A) : BackTo b s m D q (z + 1) l M A :=
  ⟨by have := h.len; omega, h.old, ⟨by have := h.cur.1; omega, h.cur.2⟩, h.new⟩
theorem BackTo.step {b s m : Int} {D : Nat → Int → List Nat} {q z : Nat} {l : List Rc} {M : Nat → List Int} {A : List Int} {e : Int} (h : BackTo b s m D q z l M A) (he : EsiOk e) : BackTo b s m D q (z + 1) (⟨0, 0, b, s, m, (q : Nat), e, false, 0, D q e⟩ :: l) M (A ++ [e]) := by
  refine ⟨by rw [List.length_cons]; have := h.len; omega, fun c hc => ?_, ⟨by rw [List.length_append]; have := h.cur.1; simp; omega, fun x hx => ?_, ?_⟩, fun c hc => ?_⟩
  · rw [OM.pick_cons_no (OM.counts_other rfl (by omega))]
    exact h.old c hc
  · rcases List.mem_append.1 hx with hx | hx
    · exact h.cur.2.1 x hx
    · rw [List.mem_singleton.1 hx]; exact he
  · rw [OM.pick_cons_yes (by simp [OM.counts]), h.cur.2.2, List.reverse_append, pairs_map, pairs_map]
    simp
  · rw [OM.pick_cons_no (OM.counts_other rfl (by omega))]
    exact h.new c hc
theorem BackTo.next {b s m : Int} {D : Nat → Int → List Nat} {q z : Nat} {l : List Rc} {M : Nat → List Int} {A : List Int} (h : BackTo b s m D q z l M A) (hz : z ≤ 60) : BackTo b s m D (q + 1) 0 l (fun c => if c = q then A else M c) [] := by
  refine ⟨by have := h.len; omega, fun c hc => ?_, ⟨by simp, (fun e he => by cases he), by rw [h.new (q + 1) (by omega)]; rfl⟩, fun c hc => h.new c (by omega)⟩
  by_cases e : c = q
  · subst e; simp only [if_true]; exact ⟨by have := h.cur.1; omega, h.cur.2⟩
  · simp only [if_neg e]; exact h.old c (by omega)
/-- Such a slice as a source of append. -/
theorem RMats.srcs {P : Program} {w : World} {B R : Nat} {v : Value} {k : Nat} {l : List Rc} (h : RMats w B R v k l) {tx e' : TypeId} (hk : P.underlying tx = some (.slice e')) :
    ∃ vs, Src P 10 tx v k vs w ∧ ∀ j, j < k → ∃ u, (∀ i, i < 10 → vs[j * 10 + i]? = ((l.getD j Rc.zero).cells u)[i]?) ∧ RowOk w R u (l.getD j Rc.zero).d := by
  obtain ⟨vs, hown, hrow⟩ := h
  have hl : vs.length = k * 10 := hown.1
  refine ⟨vs, ?_, hrow⟩
  have hone : ∀ u ∈ vs, u.oneCell' = true := fun u hu => by
    obtain ⟨q, hq, rfl⟩ := List.mem_iff_getElem.1 hu
    obtain ⟨u', h6, h7⟩ := hrow (q / 10) (by rw [hl] at hq; omega)
    have e := h6 (q % 10) (Nat.mod_lt _ (by omega))
    rw [show q / 10 * 10 + q % 10 = q by omega, List.getElem?_eq_getElem hq] at e
    have hm := List.mem_of_getElem? e.symm
    simp only [Rc.cells, List.mem_cons, List.not_mem_nil, or_false] at hm
    have hu1 := u8s_one h7.1
    rcases hm with h | h | h | h | h | h | h | h | h | h
    all_goals rw [h]
    all_goals first | exact hu1 | rfl
  rcases id hown.2 with ⟨rfl, rfl⟩ | ⟨g, cap, cur, rfl, _⟩
  · obtain rfl : vs = [] := List.eq_nil_of_length_eq_zero hl
    exact Src.ofNil w hk 0
  · exact Src.ofSlice w hk ⟨g, 0, none⟩ k cap vs hl (fun j u hu => hown.cells (g := g) rfl j u hu) hone
/-- One record ahead of others. -/
theorem RMats.cons {w w' : World} {B R k : Nat} {v v' u : Value} {l : List Rc} {r : Rc} {us : List Value} (hk : k = l.length) (hown : w.ownsRow B 32 10 v 1 (r.cells u)) (hR : R ≤ B) (hu : RowOk w R u r.d)
    (hr : ∀ j, j < k → ∃ u, (∀ i, i < 10 → us[j * 10 + i]? = ((l.getD j Rc.zero).cells u)[i]?) ∧ RowOk w R u (l.getD j Rc.zero).d)
    (hg : w.grownBy w' v.ownBlock) (ho : w'.ownsRow B 32 10 v' (1 + k) (r.cells u ++ us)) : RMats w' B R v' (k + 1) (r :: l) := by
  refine ⟨_, by rw [Nat.add_comm]; exact ho, fun j hj => ?_⟩
  have h10 : (r.cells u).length = 10 := rfl
  cases j with
  | zero =>
    refine ⟨u, fun i hi => ?_, hu.by_any hown (by decide) hR hg⟩
    rw [Nat.zero_mul, Nat.zero_add, List.getElem?_append_left (by omega)]; rfl
  | succ j =>
    obtain ⟨x, h1, h2⟩ := hr j (by omega)
    refine ⟨x, fun i hi => ?_, h2.by_any hown (by decide) hR hg⟩
    rw [List.getElem?_append_right (by omega), h10, show (j + 1) * 10 + i - 10 = j * 10 + i by omega]
    exact h1 i hi
end Go.Proofs.YtpfmmfapdcbnkaaGreatDoor
namespace Go.Proofs.YtpfmmfapdcbnkaaGreatDoor
set_option maxRecDepth 20000
open Go.RowKit Go.Deep
set_option linter.unusedVariables false
/-- A record's data are laid anew. -/
theorem RMats.put {w : World} {B g cap k j : Nat} {l : List Rc} {u : Value} {xs : List Nat} (h : RMats w B 0 (.slice (some ⟨g, 0, none⟩) k cap) k l) (hk : k = l.length) (hj : j < k) (hu : RowOk w 0 u xs) :
    RMats (w.setCell ⟨g, j * 10 + 9, none⟩ u) B 0 (.slice (some ⟨g, 0, none⟩) k cap) k (l.set j { l.getD j Rc.zero with d := xs }) ∧ (∃ v0, w.cell? ⟨g, j * 10 + 9, none⟩ = some v0) ∧ w.frozen? ⟨g, j * 10 + 9, none⟩ = false ∧ B ≤ g ∧ g < w.heap.size := by
  obtain ⟨vs, ho, hr⟩ := h
  have hlt := ho.lt g rfl
  have keep : ∀ {x : Value} {ys : List Nat}, RowOk w 0 x ys → RowOk (w.setCell ⟨g, j * 10 + 9, none⟩ u) 0 x ys := fun {x ys} hx => by
    refine hx.grown (grown_setCell (grown_refl _ _) _ _) ?_
    rcases hx.2 with h0 | h0
    · exact .inl h0
    · refine .inr fun e => ?_
      obtain ⟨_, h1⟩ := h0 g e
      rcases h1 with h1 | ⟨cs, hcs⟩
      · omega
      · rcases ho.2 with ⟨e2, _⟩ | ⟨g', cap', cur, e2, hbg, hg', _⟩
        · cases e2
        · cases e2
          rw [hg'] at hcs
          simp only [Option.some.injEq, Obj.cells.injEq] at hcs
          exact absurd hcs.2.1 (by decide)
  rcases ho.2 with ⟨e2, _⟩ | ⟨g', cap', cur, e2, hbg, hg', hnc, hcm, hcs, htake⟩
  · cases e2
  cases e2
  have hvl : vs.length = k * 10 := ho.1
  have hin : j * 10 + 9 < cur.size := by omega
  refine ⟨⟨vs.set (j * 10 + 9) u, ⟨by rw [List.length_set]; exact hvl, .inr ⟨g, cap, cur.setIfInBounds (j * 10 + 9) u, rfl, hbg, ?_, hnc, hcm, by rw [Array.size_setIfInBounds]; exact hcs, ?_⟩⟩, fun i hi => ?_⟩, ⟨cur[j * 10 + 9], ?_⟩, ?_, hlt.1, hlt.2⟩
  · exact heap_setCell_same _ _ _ _ _ _ hg'
  · rw [Array.toList_setIfInBounds, List.take_set, htake]
  · by_cases e : i = j
    · subst e
      have hg1 : (l.set i { l.getD i Rc.zero with d := xs }).getD i Rc.zero = { l.getD i Rc.zero with d := xs } := by
        rw [List.getD_eq_getElem?_getD, List.getElem?_set_self (by omega)]; rfl
      rw [hg1]
      obtain ⟨u', h1, _⟩ := hr i hi
      refine ⟨u, fun q hq => ?_, keep hu⟩
      by_cases e9 : q = 9
      · subst e9
        rw [List.getElem?_set_self (by omega)]; rfl
      · rw [List.getElem?_set_ne (by omega), h1 q hq]
        match q, hq with
        | 0, _ | 1, _ | 2, _ | 3, _ | 4, _ | 5, _ | 6, _ | 7, _ | 8, _ => rfl
        | 9, _ => exact absurd rfl e9
    · have hg1 : (l.set j { l.getD j Rc.zero with d := xs }).getD i Rc.zero = l.getD i Rc.zero := by
        rw [List.getD_eq_getElem?_getD, List.getElem?_set_ne (by omega), List.getD_eq_getElem?_getD]
      rw [hg1]
      obtain ⟨u', h1, h2⟩ := hr i hi
      exact ⟨u', fun q hq => by rw [List.getElem?_set_ne (by omega)]; exact h1 q hq, keep h2⟩
  · rw [cell_of_row _ _ _ _ _ _ hg']; simp [hin]
  · exact frozen_of_row _ _ _ _ _ hg'
namespace MS
/-- One record of a block. -/
def one (p n b s m : Int) (D : Nat → Int → List Nat) (c i : Nat) (e : Int) : Rc := ⟨p, n, b, s, m, c, e, false, i, D c e⟩
/-- The first z of a block. -/
def row (p n b s m : Int) (D : Nat → Int → List Nat) (ks : List Int) (c z : Nat) : List Rc := (List.range z).map fun i => one p n b s m D c i (ks.getD i 0)
/-- All of q blocks, and z of the next one. -/
def got (p n b s m : Int) (D : Nat → Int → List Nat) (ks : List Int) (q z : Nat) : List Rc := ((List.range q).flatMap fun c => row p n b s m D ks c ks.length) ++ row p n b s m D ks q z
variable {p n b s m : Int} {D : Nat → Int → List Nat} {ks : List Int}
theorem row_length (c z : Nat) : (row p n b s m D ks c z).length = z := by simp [row]
theorem got_zero : got p n b s m D ks 0 0 = [] := rfl
theorem got_next (q z : Nat) : got p n b s m D ks q z ++ [one p n b s m D q z (ks.getD z 0)] = got p n b s m D ks q (z + 1) := by
  unfold got row
  rw [List.append_assoc]
  simp [List.range_succ]
theorem got_row (q : Nat) : got p n b s m D ks q ks.length = got p n b s m D ks (q + 1) 0 := by
  unfold got
  rw [List.range_succ, List.flatMap_append]
  simp [row]
theorem got_length (q z : Nat) : (got p n b s m D ks q z).length = q * ks.length + z := by
  unfold got
  rw [List.length_append, row_length, List.length_flatMap]
  have : ((List.range q).map fun c => (row p n b s m D ks c ks.length).length).sum = q * ks.length := by
    have e : ((List.range q).map fun c => (row p n b s m D ks c ks.length).length) = List.replicate q ks.length := by
      apply List.ext_getElem (by simp)
      intro i h1 h2; simp [row_length]
    rw [e, List.sum_replicate_nat]
  rw [this]
theorem got_mem {q z : Nat} {r : Rc} (h : r ∈ got p n b s m D ks q z) : r.p = p ∧ r.n = n := by
  unfold got row at h
  rcases List.mem_append.1 h with h | h
  · obtain ⟨c, _, h⟩ := List.mem_flatMap.1 h
    obtain ⟨i, _, rfl⟩ := List.mem_map.1 h
    exact ⟨rfl, rfl⟩
  · obtain ⟨i, _, rfl⟩ := List.mem_map.1 h
    exact ⟨rfl, rfl⟩
theorem pick_append (c : Nat) (l1 l2 : List Rc) : OM.pick b s m c (l1 ++ l2) = OM.pick b s m c l1 ++ OM.pick b s m c l2 := by simp [OM.pick, List.filter_append]
theorem pick_row (c c' : Nat) : OM.pick b s m c (row p n b s m D ks c' ks.length) = if c' = c then DC.pairs ks (ks.map (D c)) else [] := by
  have hc : ∀ r ∈ row p n b s m D ks c' ks.length, OM.counts b s m c r = decide (c' = c) := fun r hr => by
    obtain ⟨i, _, rfl⟩ := List.mem_map.1 hr
    unfold OM.counts one
    by_cases h : c' = c
    · subst h; simp
    · have : ¬ (c' : Int) = (c : Int) := by omega
      simp [this, h]
  unfold OM.pick
  by_cases h : c' = c
  · rw [if_pos h, List.filter_eq_self.2 (fun r hr => by rw [hc r hr]; exact decide_eq_true h), pairs_map]
    subst h
    unfold row
    apply List.ext_getElem (by simp)
    intro i h1 h2
    have hi : i < ks.length := by simpa using h2
    simp [one, hi]
  · rw [if_neg h, List.filter_eq_nil_iff.2 (fun r hr => by rw [hc r hr]; simp [h])]; rfl
theorem pick_got (c : Nat) : ∀ q, OM.pick b s m c (got p n b s m D ks q 0) = if c < q then DC.pairs ks (ks.map (D c)) else []
  | 0 => rfl
  | q + 1 => by
    have e : got p n b s m D ks (q + 1) 0 = got p n b s m D ks q 0 ++ row p n b s m D ks q ks.length := by
      rw [← got_row]; unfold got; simp [row]
    rw [e, pick_append, pick_got c q, pick_row]
    rcases Nat.lt_trichotomy c q with h | h | h
    · rw [if_pos h, if_neg (by omega), if_pos (by omega), List.append_nil]
    · subst h; rw [if_neg (by omega), if_pos rfl, if_pos (by omega)]; rfl
    · rw [if_neg (by omega), if_neg (by omega), if_neg (by omega)]; rfl
theorem mine_all {others : List Rc} (ho : ∀ r ∈ others, ¬ (r.p = p ∧ r.n = n)) (q z : Nat) : mineOf p n (others ++ got p n b s m D ks q z) = got p n b s m D ks q z := by
  unfold mineOf
  rw [List.filter_append, List.filter_eq_nil_iff.2 (fun r hr => by rw [decide_eq_true_eq]; exact ho r hr), List.filter_eq_self.2 (fun r hr => by rw [decide_eq_true_eq]; exact got_mem hr)]
  rfl
end MS
end Go.Proofs.YtpfmmfapdcbnkaaGreatDoor
namespace Go.Proofs.YtpfmmfapdcbnkaaGreatDoor
set_option maxRecDepth 20000
open Go.RowKit Go.Deep
set_option linter.unusedVariables false
/-- What a block's symbol of a number is. -/
def bsym (S : Nat) (bs : List Bk) (c : Nat) (e : Int) : List Nat := DC.dr (bs.getD c Bk.zero).k (bs.getD c Bk.zero).j S (bs.getD c Bk.zero).c e
def bfull (bs : List Bk) (ks : List Int) (c : Nat) : Prop := DC.Full (bs.getD c Bk.zero).k (bs.getD c Bk.zero).j ks
theorem sy_bsym {S : Nat} {bs : List Bk} {c : Nat} {e : Int} (hc : c < bs.length) (he : EsiOk e) : OM.sy S bs c e = bsym S bs c e ∧ OM.se bs c e = 0 := by
  unfold OM.sy OM.se bsym
  rw [if_pos ⟨by omega, by omega⟩, if_pos ⟨by omega, by omega⟩, Int.toNat_natCast, symOf_dr _ _ _ _ _ he]
  unfold symErr
  rw [if_pos he]
  exact ⟨rfl, rfl⟩
theorem fresh_back (S M : Nat) (xs : List Nat) (hR : CM.Right xs.length S M) (bs : List Bk) (hfull : bs.length = CM.bl xs.length S M) (hB : Bks S S (CM.cut xs.length S M xs) bs 5)
    (hnew : ∀ v w, U8s w v xs → Tab w → Calls Tryz.prog 23 #[PV xs.length S M, v] w fun e w' => ∃ o, e = .returned (.tuple #[.pointer (some ⟨o, 0, none⟩), .int .i64 0]) ∧ w.Extends w' ∧ OV (BLook S) w' o xs.length S M bs)
    (p n : Int) (blk : Nat) (hblk : blk < CM.bl xs.length S M) (esi : Int) (he : EsiOk esi) (ks : List Int) (hks : ks.length ≤ 60) (hok : ∀ e ∈ ks, EsiOk e) (others : List Rc) (ho : ∀ r ∈ others, ¬ (r.p = p ∧ r.n = n))
    (hll : (others ++ MS.got p n xs.length S M (bsym S bs) ks (CM.bl xs.length S M) 0).length ≤ 9000) :
    ((∀ c, c < CM.bl xs.length S M → bfull bs ks c) → ∀ v w, Tab w → Recs w v (others ++ MS.got p n xs.length S M (bsym S bs) ks (CM.bl xs.length S M) 0) → Calls Tryz.prog 8 #[.agg #[.int .i64 p, .int .i64 n], PV xs.length S M, .int .i64 blk, .int .i64 esi, .int .i64 77, v] w (FreshOut w ⟨p, n, xs.length, S, M, blk, esi, false, 77, bsym S bs blk esi⟩ 0)) ∧
    ((¬ ∀ c, c < CM.bl xs.length S M → bfull bs ks c) → ∀ v w, Tab w → Recs w v (others ++ MS.got p n xs.length S M (bsym S bs) ks (CM.bl xs.length S M) 0) → Calls Tryz.prog 8 #[.agg #[.int .i64 p, .int .i64 n], PV xs.length S M, .int .i64 blk, .int .i64 esi, .int .i64 77, v] w (FreshOut w Rc.zero 4)) := by
  obtain ⟨g1, g2, g3, g4, g5, g6⟩ := CM.right_of hR
  have hml : (MS.got p n xs.length S M (bsym S bs) ks (CM.bl xs.length S M) 0).length ≤ 1000000 := by rw [List.length_append] at hll; omega
  have hp : ∀ c, c < CM.bl xs.length S M → OM.pick xs.length S M c (MS.got p n xs.length S M (bsym S bs) ks (CM.bl xs.length S M) 0) = DC.pairs ks (ks.map (bsym S bs c)) := fun c hc => by rw [MS.pick_got, if_pos hc]
  have hmine : mineOf p n (others ++ MS.got p n xs.length S M (bsym S bs) ks (CM.bl xs.length S M) 0) = MS.got p n xs.length S M (bsym S bs) ks (CM.bl xs.length S M) 0 := MS.mine_all ho _ _
  refine ⟨fun hall v w hT hv => ?_, fun hnot v w hT hv => ?_⟩
  · refine pfresh_any p n xs.length S M blk esi 77 v _ w w (Gr.ext_refl _) hT hv hll 0 xs (fun v w' hx hv => ?_) 0 (fun w o => OV (BLook S) w o xs.length S M bs) (fun _ v w' hx hu => ?_) 0 (bsym S bs blk esi) (fun _ _ o w' hx ho => ?_)
    · rw [hmine] at hv
      exact dec_back xs.length S M hR xs rfl bs hfull hB _ hml (fun _ => ks) (fun _ => true) (fun c hc => by omega) (fun c hc => hok) (fun c hc => hp c hc) (fun c hc => ⟨fun _ => hall c hc, fun _ => rfl⟩) 0 xs (.inl ⟨fun _ _ => rfl, rfl, rfl⟩) v w' hv (hT.ext hx)
    · exact (hnew v w' hu (hT.ext hx)).mono fun e w2 ⟨o, h1, h2, h3⟩ => ⟨h2, .inr ⟨rfl, o, h1, h3⟩⟩
    · have h := osym_any xs.length S M o _ bs S 5 blk esi w' (hT.ext hx) hB ho
      obtain ⟨e1, e2⟩ := sy_bsym (S := S) (bs := bs) (c := blk) (e := esi) (by omega) he
      rw [e1, e2] at h
      exact h
  · classical
    refine pfresh_any p n xs.length S M blk esi 77 v _ w w (Gr.ext_refl _) hT hv hll 4 [] (fun v w' hx hv => ?_) 0 (fun _ _ => False) (fun h => absurd h (by decide)) 0 [] (fun h => absurd h (by decide))
    rw [hmine] at hv
    refine dec_back xs.length S M hR xs rfl bs hfull hB _ hml (fun _ => ks) (fun c => decide (bfull bs ks c)) (fun c hc => by omega) (fun c hc => hok) (fun c hc => hp c hc) (fun c hc => decide_eq_true_iff) 4 [] (.inr ⟨?_, rfl, rfl⟩) v w' hv (hT.ext hx)
    obtain ⟨c, hc⟩ := Classical.not_forall.1 hnot
    obtain ⟨hc, hF⟩ := Classical.not_imp.1 hc
    exact ⟨c, hc, decide_eq_false hF⟩
end Go.Proofs.YtpfmmfapdcbnkaaGreatDoor
namespace Go.Proofs.YtpfmmfapdcbnkaaGreatDoor
set_option maxRecDepth 20000
open Go.RowKit Go.Deep
set_option linter.unusedVariables false
theorem id_eq_run (p n q r : Int) (w : World) : (Op.equalIn 10000 23 (.agg #[.int .i64 p, .int .i64 n]) (.agg #[.int .i64 q, .int .i64 r])).run Tryz.prog w = .ok (decide (p = q ∧ n = r)) w := by
  by_cases h1 : p = q
  · have e1 : (p == q) = true := beq_iff_eq.2 h1
    by_cases h2 : n = r
    · have e2 : (n == r) = true := beq_iff_eq.2 h2
      rw [decide_eq_true ⟨h1, h2⟩]
      clear h1 h2
      simp [go_sem, e1, e2]
    · have e2 : (n == r) = false := beq_eq_false_iff_ne.2 h2
      rw [decide_eq_false fun h => h2 h.2]
      clear h1 h2
      simp [go_sem, e1, e2]
  · have e1 : (p == q) = false := beq_eq_false_iff_ne.2 h1
    rw [decide_eq_false fun h => h1 h.1]
    clear h1
    simp [go_sem, e1]
theorem small13_is (b s m n : Int) (hn : ∀ w, Calls Tryz.prog 15 #[PV b s m] w fun e w' => e = .returned (.int .i64 n) ∧ w.Extends w') (w : World) : Calls Tryz.prog 6 #[PV b s m] w fun e w' => e = .returned (.bool (decide (b ≤ 300 ∧ m ≤ 10 ∧ n ≤ 20))) ∧ w.Extends w' := by
  have HN := Lib.hid hn
  clear hn
  have hc : (¬ b ≤ 300) ∨ (b ≤ 300 ∧ ¬ m ≤ 10) ∨ (b ≤ 300 ∧ m ≤ 10) := by omega
  rcases hc with c1 | ⟨c1, c2⟩ | ⟨c1, c2⟩
  all_goals
    go_enter Tryz.func6, Tryz.ntmps6
    go_upto_region 1 with fail
    generalize hw1 : World.alloc w _ = w1
    have hx1 : w.Extends w1 := by subst hw1; exact prm_ext_alloc _ _
    have hp : PAt w1 w.heap.size b s m := by subst hw1; exact PAt.new w 25 b s m
    generalize w.heap.size = bx at hp ⊢
    have HX1 := Lib.hid hx1
    have hb1 := hp.lt
    clear hw1 hx1
    obtain ⟨p0, p1, p2⟩ := hp
  · go_wp2
    go_ret
    exact ⟨by simp; omega, HX1.out⟩
  · go_wp2
    go_ret
    exact ⟨by simp; omega, HX1.out⟩
  · go_wp2_with fail
    refine (HN.out w1).mono ?_
    rintro e w2 ⟨rfl, hx⟩
    have HX2 := Lib.hid (Gr.ext_trans HX1.out hx)
    clear hx p0 p1 p2
    go_wp2
    go_ret
    exact ⟨by simp [c1, c2], HX2.out⟩
end Go.Proofs.YtpfmmfapdcbnkaaGreatDoor
