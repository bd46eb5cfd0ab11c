/- In one text: BlkParts, BlkNew, DroDrop, TupRef, TupRefParts, DroRef, From, DroDrops, DroLaw. -/
import Derived.Handy
import Derived.Lib.Hide
import Derived.Test.YtpfmmfapdcbnkaaGreatDoorMB1
import Derived.Test.YtpfmmfapdcbnkaaGreatDoorMB2
import Derived.Test.YtpfmmfapdcbnkaaGreatDoorMB3
import Derived.Test.YtpfmmfapdcbnkaaGreatDoorMB8
import Derived.Test.YtpfmmfapdcbnkaaGreatDoorMB9
import Derived.Test.YtpfmmfapdcbnkaaGreatDoorMB10
import Derived.Test.YtpfmmfapdcbnkaaGreatDoorMB11
import Derived.Test.YtpfmmfapdcbnkaaGreatDoorMB12
import Derived.Test.YtpfmmfapdcbnkaaGreatDoorMB13
import Derived.Test.YtpfmmfapdcbnkaaGreatDoorMB15
namespace Go.Proofs.YtpfmmfapdcbnkaaGreatDoor
set_option maxRecDepth 20000
open Go.RowKit Go.Deep
set_option linter.unusedVariables false
theorem allOf_any (size : Int) (v : Value) (l : List (List Nat)) (w : World) (hv : Rws w v l) :
    Calls Tryz.prog 71 #[.int .i64 size, v] w (Says (AllB size l) w) := by
  have hm := hv.len
  obtain ⟨a, cap, rfl, _⟩ := hv.slice
  have HV := Lib.hid hv.at.2
  have HALL : Hid ((∀ k, k < l.length → ((l.getD k []).length : Int) = size) ↔ AllB size l) := Iff.rfl
  clear hv
  generalize hn : l.length = n at *
  have HN := Lib.hid hn; clear hn
  unfold maxLen at hm
  go_enter Tryz.func71, Tryz.ntmps71
  go_wp2_with fail
  go_loopw [9] (fun i wr => ∃ k : Nat, k ≤ n ∧ i = .int .i64 k ∧ Hid (w.Extends wr) ∧ Hid (∀ i, i < k → ((l.getD i []).length : Int) = size)) (fun i _ => (n - intOf i).toNat)
  case atStart => exact ⟨0, by omega, rfl, Lib.hid (Gr.ext_refl _), Lib.hid (fun i hi => absurd hi (Nat.not_lt_zero _))⟩
  case round =>
    obtain ⟨k, hk, rfl, HX, HK⟩ := hrel
    by_cases h1 : k < n
    · obtain ⟨b1, o1, rfl, hb1, hc1⟩ := HV.out (by omega)
      obtain ⟨ra, rc, hc3, hr0⟩ := hc1 k h1
      have hc2 := HX.out.cell_of hc3
      clear hc1 hc3 hr0
      have HK2 : Hid (((l.getD k []).length : Int) = size → ∀ i, i < k + 1 → ((l.getD i []).length : Int) = size) := fun h2 i hi => by
        by_cases e : i = k
        · subst e; exact h2
        · exact HK.out i (by omega)
      have HK3 : Hid (AllB size l → ((l.getD k []).length : Int) = size) := fun h => h k (by rw [HN.out]; exact h1)
      generalize (l.getD k []).length = r at *
      by_cases h2 : (r : Int) = size
      · have hne : ((r : Int) != size) = false := by simpa using h2
        have HK4 := Lib.hid (HK2.out h2)
        clear h2 HK2 HK3
        go_wp2
        go_roundw
        case rel => exact ⟨k + 1, by omega, by go_num, HX, HK4⟩
        case measure => simp [intOf]; omega
      · have hne : ((r : Int) != size) = true := by simpa using h2
        have HP : Hid (Says (AllB size l) w (.returned (.bool false)) wr) := Says.no (fun h => h2 (HK3.out h)) HX.out
        clear h2 HK2 HK3
        go_wp2
        go_ret
        exact HP.out
    · obtain rfl : k = n := by omega
      have HP : Hid (Says (AllB size l) w (.returned (.bool true)) wr) := Says.yes (fun i hi => HK.out i (by rw [← HN.out]; exact hi)) HX.out
      go_wp2
      go_ret
      exact HP.out
theorem mkRowList (k : Nat) (hk : k ≤ 1000) (w : World) : (Instr.makeSlice 87 (.int .i64 (k : Int)) (.int .i64 (k : Int))).run Tryz.prog w = .ok (.slice (some ⟨w.heap.size, 0, none⟩) k k) (w.alloc (.cells (madeCells #[.slice none 0 0] k) 99)) :=
  run_make_row' (P := Tryz.prog) 87 99 (.slice none 0 0) 24 Tryz.underlying87 rowinfo rfl .i64 .i64 k (by omega) (by omega) w
/-- What partsOf answers. -/
def PartsOut (w : World) (k j size : Nat) (src : List (List Nat)) (e : Ending) (w' : World) : Prop :=
  ∃ res u, SolveRes (PM.l k) size (· < PM.l k) (BM.F k j size src) res ∧ e = .returned (.tuple #[u, .int .i64 (errOf res : Nat)]) ∧ w.Extends w' ∧ Rws w' u (res.getD [])
theorem solve_of (k j size : Nat) (u v : Value) (src : List (List Nat)) (w : World) (h1 : 1 ≤ k) (h2 : k ≤ 40) (hs1 : 1 ≤ size) (hs2 : size ≤ 64) (hl : src.length = k) (hu : Rws w u (SM.rows k j)) (hv : Rws w v (BM.mixed k src)) :
    Calls Tryz.prog 85 #[.int .i64 (PM.l k), .int .i64 size, u, v] w (PartsOut w k j size src) := by
  have hlk := PM.l_le k h2
  have hlen : (SM.rows k j).length = PM.l k := BM.rows_l k j
  refine (solve_good (PM.l k) size u v (SM.rows k j) (BM.mixed k src) w hu hv (by unfold PM.l; omega) (by omega) hs1 (by omega) (by rw [BM.mixed_length, hl, hlen]; unfold PM.l PM.w; omega)).mono fun e w' ⟨res, x, hres, he, hb, hr⟩ => ?_
  rw [hlen] at hres
  exact ⟨res, x, hres, he, Gr.ext_of hb, hr⟩
set_option maxHeartbeats 1000000 in
theorem partsOf_any (k j size : Nat) (v : Value) (src : List (List Nat)) (w : World) (h1 : 1 ≤ k) (h2 : k ≤ 40) (hj : j ≤ 255) (hs1 : 1 ≤ size) (hs2 : size ≤ 64) (hl : src.length = k) (hv : Rws w v src) (hT : Tab w) :
    Calls Tryz.prog 72 #[PV k (PM.s k) 2, .int .i64 j, .int .i64 size, v] w (PartsOut w k j size src) := by
  have hs7 := PM.s_le k h2
  have hL := prmL_any k (PM.s k) 2
  have hlk : (k : Int) + (PM.s k : Int) + 2 = (PM.l k : Int) := by unfold PM.l PM.w; omega
  rw [hlk] at hL
  have hl49 := PM.l_le k h2
  have HL := Lib.hid (fun w => hL w (by omega) (by omega))
  have HF := Lib.hid (fun w => firstEsis_any k w (by omega))
  have HM : Hid (∀ w v, Ints w v (SM.iota k) → Tab w → Calls Tryz.prog 84 #[PV k (PM.s k) 2, .int .i64 j, v] w (MadeRws w (SM.rows k j))) := fun w v hv hT => mat_some k j v (SM.iota k) w h1 h2 hj (SM.iota_ok k (by omega)) (by rw [SM.iota_length]; omega) hv hT
  have HS : Hid (∀ u v w, Rws w u (SM.rows k j) → Rws w v (BM.mixed k src) → Calls Tryz.prog 85 #[.int .i64 (PM.l k), .int .i64 size, u, v] w (PartsOut w k j size src)) := fun u v w hu hv => solve_of k j size u v src w h1 h2 hs1 hs2 hl hu hv
  have HO : Hid (∀ (w w' : World) e w0, w0.Extends w → PartsOut w k j size src e w' → PartsOut w0 k j size src e w') := fun w w' e w0 hx ⟨res, u, a, b, c, d⟩ => ⟨res, u, a, b, Gr.ext_trans hx c, d⟩
  have HOUT : Hid (∀ (w w' : World) e, PartsOut w k j size src e w' → ∃ u r, e = .returned (.tuple #[u, .int .i64 r])) := fun w w' e ⟨res, u, a, b, c, d⟩ => ⟨u, _, b⟩
  have HMX : Hid (List.replicate (PM.s k + 2) [] ++ src = BM.mixed k src) := rfl
  have HNM := Lib.hid (fun w => nils_mats w w.heap.size w.heap.size 99 (PM.s k + 2) (by omega) (Nat.le_refl _))
  have hmk := fun w => mkRowList (PM.s k + 2) (by omega) w
  rw [show ((PM.s k + 2 : Nat) : Int) = (PM.s k : Int) + 2 by omega] at hmk
  have HTB := Lib.hid hT
  have HV := Lib.hid hv
  have HSL := Lib.hid hl
  obtain ⟨a, cap, rfl, _⟩ := hv.slice
  clear hv hT hL hlk
  rw [hl]
  clear hl
  obtain ⟨i1, hi', hz0', hz1', hz2'⟩ := info_parts rowinfo
  have HI' := Lib.hid hi'; clear hi'
  have HZ0' := Lib.hid hz0'; clear hz0'
  have HZ1' := Lib.hid hz1'; clear hz1'
  have HZ2' := Lib.hid hz2'; clear hz2'
  generalize SM.rows k j = rs at *
  generalize BM.mixed k src = mx at *
  generalize PM.l k = L at *
  generalize PM.s k = S at *
  go_enter Tryz.func72, Tryz.ntmps72
  go_upto_region 1 with fail
  generalize hw1 : World.alloc w _ = w1
  have hx1 : w.Extends w1 := by subst hw1; exact prm_ext_alloc _ _
  have hp : PAt w1 w.heap.size k S 2 := by subst hw1; exact PAt.new w 118 k S 2
  generalize w.heap.size = b at hp ⊢
  clear hw1
  have HX1 := Lib.hid hx1
  have HP1 := Lib.hid hp
  clear hx1 hp
  obtain ⟨p0, p1, p2⟩ := HP1.out
  obtain ⟨vs, hown, hrows⟩ := HNM.out w1
  have hb1 := HX1.out.size
  have HOWN := Lib.hid hown
  have HROWS := Lib.hid hrows
  obtain ⟨us, hsrc, hus⟩ := HV.out.srcs_old (Gr.ext_trans HX1.out (ext_alloc w1 (.cells (madeCells #[.slice none 0 0] (S + 2)) 99))) (P := Tryz.prog) (tx := 87) Tryz.underlying87
  rw [HSL.out] at hsrc hus
  have HSRC := Lib.hid hsrc
  have HUS := Lib.hid hus
  clear hown hrows hsrc hus HNM
  go_wp2_with (at_builtin; refine wpList_append_own_src _ rfl _ _ 87 87 rfl w1.heap.size 99 i1 (.slice none 0 0) 1 24 Tryz.underlying87 HI'.out HZ0'.out HZ1'.out HZ2'.out rfl _ _ _ rfl HOWN.out _ k us rfl HSRC.out (by unfold maxLen; omega) (by omega) (by simp) ?_)
  intro v' w3 ho3 hg3 _
  have HX13 : Hid (w1.Extends w3) := Gr.ext_of (((Below.refl w1.heap.size w1).alloc (Nat.le_refl _) _).grown hg3 (by simp) (fun g hg => by simp only [Value.ownBlock, Option.some.injEq] at hg; omega))
  have HX3 := Lib.hid (Gr.ext_trans HX1.out HX13.out)
  have HP3 := Lib.hid (HP1.out.ext HX13.out)
  have HR3 : Hid (Rws w3 v' mx) := by
    have h := Mats.grow (Nat.le_refl _) (by decide) (by simp) HSL.out.symm HOWN.out HROWS.out (fun j hj => by obtain ⟨u, h3, h4⟩ := HUS.out j hj; exact ⟨u, h3, h4.mono hb1⟩) hg3 ho3
    rw [HMX.out] at h
    exact h.rws (by rw [← HMX.out, List.length_append, List.length_replicate, HSL.out])
  clear ho3 hg3 HOWN HROWS HUS HSRC HX1 HP1 HX13 p0 p1 p2 hmk
  go_wp2_with fail
  have HX4 := Lib.hid (Gr.ext_drew HX3.out)
  have HP4 := Lib.hid (HP3.out.ext (Gr.ext_drew (Gr.ext_refl w3)))
  have HR4 := Lib.hid (HR3.out.ext (Gr.ext_drew (Gr.ext_refl w3)))
  clear HX3 HP3 HR3
  refine Gr.region 13 [(false,0),(false,2),(false,3),(false,4),(false,5),(false,6),(false,9),(true,1),(true,7),(true,8),(true,10),(false,11),(false,12)] (by kernel_rfl) (by kernel_rfl) (fun d _ _ _ _ h => by cases d <;> exact h) ?_
  simp only [Gr.pick, List.getElem?_cons_zero, List.getElem?_cons_succ, List.drop_succ_cons, List.drop_zero]
  generalize w3.drew = w4 at *
  iterate 7
    refine Gr.walk_t ?_ (Or.inl ⟨by rfl, ?_⟩) ?_
    rotate_left
    · intro w' hw'
      obtain ⟨p0, p1, p2⟩ := HP4.out.ext hw'
      clear hw'
      go_simp
      try with_reducible rfl
    simp only [Act.put, List.setIfInBounds_toArray, List.set_cons_zero, List.set_cons_succ]
  refine Gr.walk_c (fun K hK => ?_)
  go_simp
  refine (HL.out w4).mono ?_
  rintro e w5 ⟨rfl, hx5⟩
  have HX5 := Lib.hid (Gr.ext_trans HX4.out hx5)
  have HR5 := Lib.hid (HR4.out.ext hx5)
  try go_simp
  refine hK.out _ _ (hx5) ?_
  clear hK K
  clear hx5 HX4 HR4 HP4
  refine Gr.walk_c (fun K hK => ?_)
  go_simp
  refine (HF.out w5).mono ?_
  rintro e w6 ⟨vi, rfl, hx6, hvi⟩
  have HX6 := Lib.hid (Gr.ext_trans HX5.out hx6)
  have HR6 := Lib.hid (HR5.out.ext hx6)
  have HVI := Lib.hid hvi
  try go_simp
  refine hK.out _ _ (hx6) ?_
  clear hK K
  clear hx6 HX5 HR5 hvi
  refine Gr.walk_c (fun K hK => ?_)
  go_simp
  refine (HM.out w6 vi HVI.out (HTB.out.ext HX6.out)).mono ?_
  rintro e w7 ⟨u7, rfl, hx7, hu7⟩
  have HX7 := Lib.hid (Gr.ext_trans HX6.out hx7)
  have HR7 := Lib.hid (HR6.out.ext hx7)
  have HU7 := Lib.hid (mats_rows hu7)
  try go_simp
  refine hK.out _ _ (hx7) ?_
  clear hK K
  clear hx7 HX6 HR6 hu7 HVI
  refine Gr.walk_c (fun K hK => ?_)
  go_simp
  refine (HS.out u7 v' w7 HU7.out HR7.out).mono ?_
  rintro e w8 ⟨res, x8, hres, rfl, hx8, hr8⟩
  have HP : Hid (PartsOut w k j size src (.returned (.tuple #[x8, .int .i64 (errOf res : Nat)])) w8) := ⟨res, x8, hres, rfl, Gr.ext_trans HX7.out hx8, hr8⟩
  try go_simp
  refine hK.out _ _ (hx8) ?_
  clear hK K
  clear hx8 HX7 HR7 HU7 hres hr8
  iterate 2
    refine Gr.walk_t ?_ (Or.inl ⟨by rfl, ?_⟩) ?_
    rotate_left
    · intro w' hw'
      clear hw'
      go_simp
      try with_reducible rfl
    simp only [Act.put, List.setIfInBounds_toArray, List.set_cons_zero, List.set_cons_succ]
  refine Gr.walk_nil ?_
  go_wp2
  go_returns
  exact HP.out
end Go.Proofs.YtpfmmfapdcbnkaaGreatDoor
namespace Go.Proofs.YtpfmmfapdcbnkaaGreatDoor
set_option maxRecDepth 20000
open Go.RowKit Go.Deep
set_option linter.unusedVariables false
/-- A block laid at b; v: its parts. -/
def BAt (w : World) (b : Nat) (k s h j size : Int) (v : Value) : Prop :=
  w.cell? ⟨b, 0, none⟩ = some (.int .i64 k) ∧ w.cell? ⟨b, 1, none⟩ = some (.int .i64 s) ∧ w.cell? ⟨b, 2, none⟩ = some (.int .i64 h) ∧
  w.cell? ⟨b, 3, none⟩ = some (.int .i64 j) ∧ w.cell? ⟨b, 4, none⟩ = some (.int .i64 size) ∧ w.cell? ⟨b, 5, none⟩ = some v
theorem BAt.ext {w w' : World} {b : Nat} {k s h j size : Int} {v : Value} (hp : BAt w b k s h j size v) (hx : w.Extends w') : BAt w' b k s h j size v :=
  ⟨hx.cell_of hp.1, hx.cell_of hp.2.1, hx.cell_of hp.2.2.1, hx.cell_of hp.2.2.2.1, hx.cell_of hp.2.2.2.2.1, hx.cell_of hp.2.2.2.2.2⟩
theorem BAt.new (w : World) (T : TypeId) (k s h j size : Int) (v : Value) : BAt (w.alloc (.cells #[.int .i64 k, .int .i64 s, .int .i64 h, .int .i64 j, .int .i64 size, v] T)) w.heap.size k s h j size v := by
  have h0 := heap_alloc_new w (.cells #[.int .i64 k, .int .i64 s, .int .i64 h, .int .i64 j, .int .i64 size, v] T)
  exact ⟨by rw [cell_of_row _ _ _ _ _ _ h0]; rfl, by rw [cell_of_row _ _ _ _ _ _ h0]; rfl, by rw [cell_of_row _ _ _ _ _ _ h0]; rfl, by rw [cell_of_row _ _ _ _ _ _ h0]; rfl, by rw [cell_of_row _ _ _ _ _ _ h0]; rfl, by rw [cell_of_row _ _ _ _ _ _ h0]; rfl⟩
/-- No block, and why. -/
def NoBlock (w : World) (err : Int) (e : Ending) (w' : World) : Prop := e = .returned (.tuple #[.pointer none, .int .i64 err]) ∧ w.Extends w'
/-- A block of the call's own. -/
def BNew (w : World) (k j size : Nat) (c : List (List Nat)) (e : Ending) (w' : World) : Prop :=
  ∃ b v, e = .returned (.tuple #[.pointer (some ⟨b, 0, none⟩), .int .i64 0]) ∧ w.Extends w' ∧ BAt w' b k (PM.s k) 2 j size v ∧ Rws w' v c
theorem seed5 {k r er : Nat} (h : SM.SeedIs k r er) : er = 0 ∨ er = 5 := by
  rcases h with ⟨h, _⟩ | ⟨h, _⟩
  · exact .inl h
  · exact .inr h
set_option maxHeartbeats 1000000 in
theorem new_none (size : Int) (v : Value) (src : List (List Nat)) (k : Nat) (w : World) (h1 : 1 ≤ size) (h2 : size ≤ 64) (hk : src.length = k) (k1 : 1 ≤ k) (k2 : k ≤ 40) (hv : Rws w v src) (hn : AllB size src) (hT : Tab w) (r : Nat) (hs : SM.SeedIs k r 5) :
    Calls Tryz.prog 44 #[.int .i64 size, v] w (NoBlock w 5) := by
  have HO := Lib.hid (fun w => prmOf_good k w k1 k2)
  have HA := Lib.hid (fun v w hv => allOf_any size v src w hv)
  have HF : Hid (∀ w, Tab w → Calls Tryz.prog 65 #[.int .i64 k] w fun e w' => e = .returned (.tuple #[.int .i64 r, .int .i64 (5 : Nat)]) ∧ w.Extends w') := fun w hT =>
    (find_some k w k1 k2 hT).mono fun e w' ⟨r', er', he, hr', hx⟩ => by
      obtain ⟨rfl, rfl⟩ := hs.uniq hr'
      exact ⟨he, hx⟩
  have HT := Lib.hid hT
  have HV := Lib.hid hv
  have HN := Lib.hid hn
  obtain ⟨a, cap, rfl, _⟩ := hv.slice
  rw [hk] at HV ⊢
  clear hk hv hn hT hs
  generalize PM.s k = S at *
  go_enter Tryz.func44, Tryz.ntmps44
  go_wp2_with fail
  refine (HO.out w).mono ?_
  rintro e w1 ⟨rfl, hx1⟩
  have HX1 := Lib.hid hx1
  clear hx1 HO
  go_wp2_with fail
  generalize hw2 : World.alloc w1 _ = w2
  have hx2 : w1.Extends w2 := by subst hw2; exact prm_ext_alloc _ _
  have hp : PAt w2 w1.heap.size k S 2 := by subst hw2; exact PAt.new w1 118 k S 2
  generalize w1.heap.size = p at hp ⊢
  clear hw2
  have HX2 := Lib.hid (Gr.ext_trans HX1.out hx2)
  have HP2 := Lib.hid hp
  clear hx2 hp HX1
  refine (HA.out _ w2 (HV.out.ext HX2.out)).mono ?_
  rintro e w3 ⟨⟨b, rfl, hb⟩, hx3⟩
  cases b with
  | false => exact absurd (hb.2 HN.out) (by decide)
  | true =>
    have HX3 := Lib.hid (Gr.ext_trans HX2.out hx3)
    have HP3 := Lib.hid (HP2.out.ext hx3)
    clear hb hx3 HX2 HP2
    obtain ⟨p0, p1, p2⟩ := HP3.out
    go_wp2_with fail
    refine (HF.out w3 (HT.out.ext HX3.out)).mono ?_
    rintro e w4 ⟨rfl, hx4⟩
    have HP : Hid (NoBlock w 5 (.returned (.tuple #[.pointer none, .int .i64 5])) w4) := ⟨rfl, Gr.ext_trans HX3.out hx4⟩
    clear hx4 p0 p1 p2
    go_wp2
    go_returns
    exact HP.out
set_option maxHeartbeats 1000000 in
theorem new_some (size : Nat) (v : Value) (src : List (List Nat)) (k : Nat) (w : World) (h1 : 1 ≤ size) (h2 : size ≤ 64) (hk : src.length = k) (k1 : 1 ≤ k) (k2 : k ≤ 40) (hv : Rws w v src) (hn : AllB size src) (hT : Tab w) (j : Nat) (hs : SM.SeedIs k j 0) (c : List (List Nat)) (hc : BM.PartsIs k j size src c) :
    Calls Tryz.prog 44 #[.int .i64 size, v] w (BNew w k j size c) := by
  have hj := hs.lt
  have HO := Lib.hid (fun w => prmOf_good k w k1 k2)
  have HA := Lib.hid (fun v w hv => allOf_any size v src w hv)
  have HF : Hid (∀ w, Tab w → Calls Tryz.prog 65 #[.int .i64 k] w fun e w' => e = .returned (.tuple #[.int .i64 j, .int .i64 (0 : Nat)]) ∧ w.Extends w') := fun w hT =>
    (find_some k w k1 k2 hT).mono fun e w' ⟨r', er', he, hr', hx⟩ => by
      obtain ⟨rfl, rfl⟩ := hs.uniq hr'
      exact ⟨he, hx⟩
  have hg : SM.Good k j := by
    rcases hs with ⟨_, _, h, _⟩ | ⟨h, _⟩
    · exact h
    · cases h
  have HPT : Hid (∀ v w, Rws w v src → Tab w → Calls Tryz.prog 72 #[PV k (PM.s k) 2, .int .i64 j, .int .i64 size, v] w fun e w' => ∃ u, e = .returned (.tuple #[u, .int .i64 ((0 : Nat) : Int)]) ∧ w.Extends w' ∧ Rws w' u c) := fun v w hv hT =>
    (partsOf_any k j size v src w k1 k2 (by omega) h1 h2 hk hv hT).mono fun e w' ⟨res, u, hres, he, hx, hr⟩ => by
      obtain ⟨c', rfl, hc'⟩ := BM.res_some hg hv.all_lt hres
      rw [BM.PartsIs.uniq hv.all_lt hc hc']
      exact ⟨u, he, hx, hr⟩
  have HOUT : Hid (∀ b v (w' : World), w.Extends w' → BAt w' b k (PM.s k) 2 j size v → Rws w' v c → BNew w k j size c (.returned (.tuple #[.pointer (some ⟨b, 0, none⟩), .int .i64 0])) w') := fun b v w' hx hb hr => ⟨b, v, rfl, hx, hb, hr⟩
  have HT := Lib.hid hT
  have HV := Lib.hid hv
  have HN := Lib.hid hn
  obtain ⟨a, cap, rfl, _⟩ := hv.slice
  rw [hk] at HV ⊢
  clear hk hv hn hT hs hc hg
  generalize PM.s k = S at *
  go_enter Tryz.func44, Tryz.ntmps44
  go_wp2_with fail
  refine (HO.out w).mono ?_
  rintro e w1 ⟨rfl, hx1⟩
  have HX1 := Lib.hid hx1
  clear hx1 HO
  go_wp2_with fail
  generalize hw2 : World.alloc w1 _ = w2
  have hx2 : w1.Extends w2 := by subst hw2; exact prm_ext_alloc _ _
  have hp : PAt w2 w1.heap.size k S 2 := by subst hw2; exact PAt.new w1 118 k S 2
  generalize w1.heap.size = p at hp ⊢
  clear hw2
  have HX2 := Lib.hid (Gr.ext_trans HX1.out hx2)
  have HP2 := Lib.hid hp
  clear hx2 hp HX1
  refine (HA.out _ w2 (HV.out.ext HX2.out)).mono ?_
  rintro e w3 ⟨⟨b, rfl, hb⟩, hx3⟩
  cases b with
  | false => exact absurd (hb.2 HN.out) (by decide)
  | true =>
    have HX3 := Lib.hid (Gr.ext_trans HX2.out hx3)
    have HP3 := Lib.hid (HP2.out.ext hx3)
    clear hb hx3 HX2 HP2
    obtain ⟨p0, p1, p2⟩ := HP3.out
    go_wp2_with fail
    refine (HF.out w3 (HT.out.ext HX3.out)).mono ?_
    rintro e w4 ⟨rfl, hx4⟩
    have HX4 := Lib.hid (Gr.ext_trans HX3.out hx4)
    have HP4 := Lib.hid (HP3.out.ext hx4)
    clear hx4 HX3 HP3 p0 p1 p2
    obtain ⟨p0, p1, p2⟩ := HP4.out
    go_wp2_with fail
    refine (HPT.out _ w4 (HV.out.ext HX4.out) (HT.out.ext HX4.out)).mono ?_
    rintro e w5 ⟨u, rfl, hx5, hu⟩
    have HX5 := Lib.hid (Gr.ext_trans HX4.out hx5)
    have HP5 := Lib.hid (HP4.out.ext hx5)
    have HU5 := Lib.hid hu
    obtain ⟨ua, uc, rfl, _⟩ := hu.slice
    clear hx5 HX4 HP4 p0 p1 p2 hu
    obtain ⟨p0, p1, p2⟩ := HP5.out
    go_wp2_with fail
    generalize hw6 : World.alloc w5 _ = w6
    have hx6 : w5.Extends w6 := by subst hw6; exact prm_ext_alloc _ _
    have HP := Lib.hid (HOUT.out w5.heap.size _ w6 (Gr.ext_trans HX5.out hx6) (by subst hw6; exact BAt.new w5 131 k S 2 j size _) (HU5.out.ext hx6))
    clear hw6 hx6
    go_returns
    exact HP.out
end Go.Proofs.YtpfmmfapdcbnkaaGreatDoor
namespace Go.Proofs.YtpfmmfapdcbnkaaGreatDoor
set_option maxRecDepth 20000
open Go.RowKit Go.Deep
set_option linter.unusedVariables false
theorem drop_size (k s h j size esi : Int) (v : Value) (w : World) (hs : size < 1 ∨ 64 < size) :
    Calls Tryz.prog 73 #[PV k s h, .int .i64 j, .int .i64 size, v, .int .i64 esi] w fun e w' => e = .returned (.slice none 0 0) ∧ w.Extends w' := by
  rcases hs with hs | hs
  all_goals
    go_enter Tryz.func73, Tryz.ntmps73
    go_wp2
    go_ret
    exact ⟨rfl, prm_ext_alloc _ _⟩
theorem drop_len (k s h j size esi : Int) (a : Option Addr) (n cap : Nat) (w : World) (h1 : 1 ≤ size) (h2 : size ≤ 64) (hb : -9223372036854775808 ≤ k + s ∧ k + s ≤ 9223372036854775807) (hb2 : -9223372036854775808 ≤ k + s + h ∧ k + s + h ≤ 9223372036854775807) (hn : (n : Int) ≠ k + s + h) :
    Calls Tryz.prog 73 #[PV k s h, .int .i64 j, .int .i64 size, .slice a n cap, .int .i64 esi] w fun e w' => e = .returned (.slice none 0 0) ∧ w.Extends w' := by
  have HL := Lib.hid (fun w => prmL_any k s h w hb hb2)
  generalize k + s + h = L at *
  have hne : ((n : Int) != L) = true := by simpa using hn
  clear hb hb2 hn
  go_enter Tryz.func73, Tryz.ntmps73
  go_wp2_with fail
  generalize hw1 : World.alloc w _ = w1
  have hx1 : w.Extends w1 := by subst hw1; exact prm_ext_alloc _ _
  have hp : PAt w1 w.heap.size k s h := by subst hw1; exact PAt.new w 118 k s h
  generalize w.heap.size = b at hp ⊢
  clear hw1
  have HX1 := Lib.hid hx1
  have HP1 := Lib.hid hp
  clear hx1 hp
  obtain ⟨p0, p1, p2⟩ := HP1.out
  go_wp2_with fail
  refine (HL.out w1).mono ?_
  rintro e w2 ⟨rfl, hx2⟩
  have HX2 := Lib.hid (Gr.ext_trans HX1.out hx2)
  clear hx2 HX1 HP1 p0 p1 p2
  go_wp2
  go_ret
  exact ⟨rfl, HX2.out⟩
theorem drop_fit (k s h j size esi : Int) (a : Option Addr) (n cap : Nat) (w : World) (h1 : 1 ≤ size) (h2 : size ≤ 64) (hb : -9223372036854775808 ≤ k + s ∧ k + s ≤ 9223372036854775807) (hn : k + s + h = (n : Int)) (hm : n ≤ maxLen) (hf : ¬ Fits k s h j esi) :
    Calls Tryz.prog 73 #[PV k s h, .int .i64 j, .int .i64 size, .slice a n cap, .int .i64 esi] w fun e w' => e = .returned (.slice none 0 0) ∧ w.Extends w' := by
  unfold maxLen at hm
  have HL := Lib.hid (fun w => prmL_any k s h w hb (by omega))
  rw [hn] at HL
  have HN := Lib.hid (fun w => parts_none k s h j esi w hf)
  clear hb hn hf
  go_enter Tryz.func73, Tryz.ntmps73
  go_wp2_with fail
  generalize hw1 : World.alloc w _ = w1
  have hx1 : w.Extends w1 := by subst hw1; exact prm_ext_alloc _ _
  have hp : PAt w1 w.heap.size k s h := by subst hw1; exact PAt.new w 118 k s h
  generalize w.heap.size = b at hp ⊢
  clear hw1
  have HX1 := Lib.hid hx1
  have HP1 := Lib.hid hp
  clear hx1 hp
  obtain ⟨p0, p1, p2⟩ := HP1.out
  go_wp2_with fail
  refine (HL.out w1).mono ?_
  rintro e w2 ⟨rfl, hx2⟩
  have HX2 := Lib.hid (Gr.ext_trans HX1.out hx2)
  have HP2 := Lib.hid (HP1.out.ext hx2)
  clear hx2 HX1 HP1 p0 p1 p2
  obtain ⟨p0, p1, p2⟩ := HP2.out
  go_wp2_with fail
  refine (HN.out w2).mono ?_
  rintro e w3 ⟨rfl, hx3⟩
  have HX3 := Lib.hid (Gr.ext_trans HX2.out hx3)
  clear hx3 HX2 HP2 p0 p1 p2
  go_wp2
  go_ret
  exact ⟨rfl, HX3.out⟩
set_option maxHeartbeats 1000000 in
set_option maxRecDepth 100000 in
theorem drop_some (k j size esi : Nat) (v : Value) (c : List (List Nat)) (w : World) (h1 : 1 ≤ k) (h2 : k ≤ 40) (hj : j ≤ 255) (he : esi < 16777216) (hs1 : 1 ≤ size) (hs2 : size ≤ 64) (hl : c.length = PM.l k) (hv : Rws w v c) (hT : Tab w) :
    Calls Tryz.prog 73 #[PV k (PM.s k) 2, .int .i64 j, .int .i64 size, v, .int .i64 esi] w (MadeRow w (DM.drop k j size c esi)) := by
  have HS := Lib.hid (fun w hT => parts_some k j esi w h1 h2 hj he hT)
  change Hid (∀ (w : World), Tab w → Calls _ _ _ w (MadeInts w (TM.parts k j esi))) at HS
  have hs := PM.s_le k h2
  have hlk : (PM.l k : Int) = k + PM.s k + 2 := by unfold PM.l PM.w; omega
  have hl2 := PM.l_le k h2
  have hL := prmL_any k (PM.s k) 2
  rw [← hlk] at hL
  have HL := Lib.hid (fun w => hL w (by omega) (by omega))
  have HPL := Lib.hid (parts_at k j esi)
  have hpl := parts_len k j esi
  have HSN := Lib.hid (DM.pick_snoc c (TM.parts k j esi))
  have HPK := Lib.hid (DM.pick_length c)
  have HD : Hid (DM.drop k j size c esi = RM.sum size (DM.pick c (TM.parts k j esi))) := rfl
  have HDL := Lib.hid (DM.drop_length k j size c esi)
  have HCUT : Hid (RM.cut (size : Int) = size) := by show _ = _; unfold RM.cut; omega
  have HT := Lib.hid hT
  clear hT hlk hL he
  obtain ⟨a, cap, rfl, _⟩ := hv.slice
  have HV := Lib.hid hv.at.2
  clear hv
  generalize DM.drop k j size c esi = row at *
  generalize TM.parts k j esi = l at *
  generalize PM.l k = L at *
  generalize PM.s k = m at *
  rw [hl] at HV ⊢
  clear hl
  obtain ⟨n, hn⟩ : ∃ n, n = l.length := ⟨_, rfl⟩
  rw [← hn] at hpl HPL HSN
  have HN := Lib.hid hn
  clear hn
  obtain ⟨hn1, hn2⟩ := hpl
  have hn0 : ((n : Int) == 0) = false := by rw [beq_eq_false_iff_ne]; omega
  obtain ⟨i1, hi', hz0', hz1', hz2'⟩ := info_parts rowinfo
  have HI' := Lib.hid hi'; clear hi'
  have HZ0' := Lib.hid hz0'; clear hz0'
  have HZ1' := Lib.hid hz1'; clear hz1'
  have HZ2' := Lib.hid hz2'; clear hz2'
  go_enter Tryz.func73, Tryz.ntmps73
  go_wp2_with fail
  generalize hw1 : World.alloc w _ = w1
  have hx1 : w.Extends w1 := by subst hw1; exact prm_ext_alloc _ _
  have hp : PAt w1 w.heap.size k m 2 := by subst hw1; exact PAt.new w 118 k m 2
  generalize w.heap.size = b at hp ⊢
  clear hw1
  have HX1 := Lib.hid hx1
  have HP1 := Lib.hid hp
  clear hx1 hp
  obtain ⟨p0, p1, p2⟩ := HP1.out
  go_wp2_with fail
  refine (HL.out w1).mono ?_
  rintro e w2 ⟨rfl, hx2⟩
  have HX2 := Lib.hid (Gr.ext_trans HX1.out hx2)
  have HP2 := Lib.hid (HP1.out.ext hx2)
  clear hx2 HX1 HP1 p0 p1 p2
  obtain ⟨p0, p1, p2⟩ := HP2.out
  go_wp2_with fail
  refine (HS.out w2 (HT.out.ext HX2.out)).mono ?_
  rintro e w3 ⟨vp, rfl, hx3, hown⟩
  have hints := owns_ints hown
  obtain ⟨ap, capp, rfl, hcap, hcap2⟩ := hints.slice
  rw [nats_length, ← HN.out] at hints ⊢
  have HIN := Lib.hid hints.cell.2
  have HX3 := Lib.hid (Gr.ext_trans HX2.out hx3)
  clear hx3 HX2 HP2 p0 p1 p2 hown hints hcap hcap2 hn1
  go_wp2_with fail
  go_loopw [12, 37] (fun o i wr => ∃ q : Nat, q ≤ n ∧ i = .int .i64 q ∧ Hid (w3.Extends wr) ∧ Hid (Mats wr w3.heap.size w.heap.size 99 o q (DM.pick c (l.take q)))) (fun _ i _ => (n - intOf i).toNat)
  case atStart => exact ⟨0, by omega, rfl, Lib.hid (Gr.ext_refl _), Lib.hid (Mats.nil _ _ _ _ _)⟩
  case round =>
    obtain ⟨q, hq, rfl, HX, HM⟩ := hrel
    by_cases h5 : q < n
    · obtain ⟨bp, off, rfl, hbp, hc⟩ := HIN.out (by omega)
      have hc1 := HX.out.cell_of (hc q h5)
      rw [nats_at] at hc1
      have hpL := HPL.out q h5
      have HS1 := Lib.hid (HSN.out q h5)
      clear hc hbp
      generalize l.getD q 0 = p at *
      obtain ⟨bc, oc, rfl, hbc, hcc⟩ := HV.out (by omega)
      obtain ⟨ra, rc, hc3, hr0⟩ := hcc p hpL
      have hc2 := (Gr.ext_trans HX3.out HX.out).cell_of hc3
      have HOK : Hid (RowOk wr w.heap.size (.slice ra (c.getD p []).length rc) (c.getD p [])) := (RowOk.old hr0 (Nat.le_refl _)).ext (Gr.ext_trans HX3.out HX.out)
      clear hcc hc3 hr0 hbc
      obtain ⟨vs, hown, hrows⟩ := HM.out
      have HOWN := Lib.hid hown
      have HROWS := Lib.hid hrows
      have HOB : Hid (∀ g, u12.ownBlock = some g → w3.heap.size ≤ g) := fun g hg => (HOWN.out.lt g hg).1
      have hbs := HX.out.size
      have hb3 := HX3.out.size
      have HPQ : Hid (q = (DM.pick c (l.take q)).length) := by
        show _ = _; rw [HPK.out, List.length_take, ← HN.out]; omega
      clear hown hrows HM
      go_wp2_with (at_builtin; refine wpList_append_own_src _ rfl _ _ 87 87 rfl w3.heap.size 99 i1 (.slice none 0 0) 1 24 Tryz.underlying87 HI'.out HZ0'.out HZ1'.out HZ2'.out rfl _ _ _ rfl (HOWN.out.alloc _) _ 1 [.slice ra (c.getD p []).length rc] rfl (src_one Tryz.underlying87 _ _ rfl rfl) (by unfold maxLen; omega) (by omega) (by simp; omega) ?_)
      intro v' w9 ho9 hg9 _
      have HP : Hid (w3.Extends w9 ∧ Mats w9 w3.heap.size w.heap.size 99 v' (q + 1) (DM.pick c (l.take (q + 1)))) := by
        refine ⟨Gr.ext_of (((Gr.below_of HX.out).alloc hbs _).grown hg9 (by simp; omega) HOB.out), ?_⟩
        rw [← HS1.out]
        exact Mats.snoc hb3 (by decide) HPQ.out (HOWN.out.alloc _) (fun j hj => by obtain ⟨u, h1, h2⟩ := HROWS.out j hj; exact ⟨u, h1, h2.ext (ext_alloc _ _)⟩) (HOK.out.ext (ext_alloc _ _)) hg9 ho9
      clear ho9 hg9
      go_wp2
      go_roundw
      case rel => exact ⟨q + 1, by omega, by go_num, Lib.hid HP.out.1, Lib.hid HP.out.2⟩
      case measure => simp [intOf]; omega
    · obtain rfl : q = n := by omega
      have HRW : Hid (Rws wr u12 (DM.pick c l)) := by
        have h := HM.out.rws (by rw [HPK.out, List.length_take, ← HN.out]; omega)
        rw [HN.out, List.take_length] at h
        exact h
      have HXW := Lib.hid (Gr.ext_trans HX3.out HX.out)
      clear HM HX
      go_wp2_with fail
      refine (sum_any (size : Int) u12 _ wr HRW.out).mono ?_
      rintro e w4 ⟨rfl, hb4, ho4⟩
      rw [HCUT.out, ← HD.out] at ho4
      rw [HCUT.out]
      have HP : Hid (MadeRow w row (.returned (.slice (some ⟨wr.heap.size, 0, none⟩) size size)) w4) := ⟨wr.heap.size, by rw [HDL.out], Gr.ext_trans HXW.out (Gr.ext_of hb4), HXW.out.size, ho4⟩
      clear hb4 ho4
      go_wp2
      go_ret
      exact HP.out
end Go.Proofs.YtpfmmfapdcbnkaaGreatDoor
namespace Go.Proofs.YtpfmmfapdcbnkaaGreatDoor
set_option maxRecDepth 20000
open Go.RowKit Go.Deep
set_option linter.unusedVariables false
def FitsK (k j esi : Int) : Prop := 1 ≤ k ∧ k ≤ 40 ∧ 0 ≤ j ∧ j ≤ 255 ∧ 0 ≤ esi ∧ esi < 16777216
theorem refParts_none (k j esi : Int) (w : World) (hf : ¬ FitsK k j esi) :
    Calls Tryz.prog 76 #[.int .i64 k, .int .i64 j, .int .i64 esi] w fun e w' => e = .returned (.slice none 0 0) ∧ w = w' := by
  have HF : Hid (k < 1 ∨ k > 40 ∨ j < 0 ∨ j > 255 ∨ esi < 0 ∨ esi ≥ 16777216) := by
    show _ ∨ _
    unfold FitsK at hf; omega
  clear hf
  by_cases c1 : k < 1
  rotate_left
  by_cases c2 : k > 40
  rotate_left
  by_cases c3 : j < 0
  rotate_left
  by_cases c4 : j > 255
  rotate_left
  by_cases c5 : esi < 0
  rotate_left
  have c6 : esi ≥ 16777216 := by have := HF.out; omega
  all_goals
    clear HF
    go_enter Tryz.func76, Tryz.ntmps76
    go_wp2
    go_ret
    exact ⟨rfl, rfl⟩
theorem refDraws_any (y : Nat) (hy : y < 4294967296) (w : World) (m r : Int) (i : Nat) (hr : RM.rand y i m = r) (h0 : -9223372036854775808 ≤ m) (h1 : m ≤ 9223372036854775807) :
    Calls Tryz.prog 27 #[.int .u32 y, .int .u32 i, .int .i64 m] w fun e w' => e = .returned (.int .i64 r) ∧ w = w' := by
  subst hr; exact refRand_any y i m hy h0 h1 w
theorem boolinfo : (Tryz.prog.info? 4).map (fun i => (i.zero, i.size, i.bytes)) = some (some (.bool false), 1, 1) := by kernel_rfl
theorem mkBools (k : Nat) (hk : k ≤ 1000) (w : World) : (Instr.makeSlice 151 (.int .i64 (k : Int)) (.int .i64 (k : Int))).run Tryz.prog w = .ok (.slice (some ⟨w.heap.size, 0, none⟩) k k) (w.alloc (.cells (madeCells #[.bool false] k) 4)) :=
  run_make_row' (P := Tryz.prog) 151 4 (.bool false) 1 Tryz.underlying151 boolinfo rfl .i64 .i64 k (by omega) (by omega) w
theorem u64_low (x : Nat) (hx : x < 18446744073709551616) : bits BinOp.and IntKind.u64 (x : Int) 4294967295 = ((x % 4294967296 : Nat) : Int) := by
  have h := u64_and_nat x 4294967295 hx (by decide)
  have e : x &&& 4294967295 = x % 4294967296 := Nat.and_two_pow_sub_one_eq_mod x 32
  rw [e] at h
  exact h
theorem cut_min (g W : Nat) : RM.clip (g : Int) 0 (W : Int) = ((min g W : Nat) : Int) := by unfold RM.clip; split <;> (try split) <;> omega
/-- Which places the reference has met. -/
def Had (w : World) (b W : Nat) (l : List Nat) : Prop := w.rowIs b 4 W (fun i => .bool (decide (i ∈ l)))
theorem Had.made (w : World) (W : Nat) : Had (w.alloc (.cells (madeCells #[.bool false] W) 4)) w.heap.size W [] :=
  (World.rowIs_made w (.bool false) W 4).congr fun i hi => by simp
theorem Had.ext {w w' : World} {b W : Nat} {l : List Nat} (h : Had w b W l) (hx : w.Extends w') : Had w' b W l := h.of_block (hx.block b h.lt)
theorem Had.grown {w w' : World} {b W : Nat} {l : List Nat} (h : Had w b W l) {r : Option Nat} (hg : w.grownBy w' r) (hr : some b ≠ r) : Had w' b W l := h.of_block (hg.block b h.lt hr)
theorem Had.set {w : World} {b W : Nat} {l : List Nat} (h : Had w b W l) (m : Nat) : Had (w.setCell ⟨b, m, none⟩ (.bool true)) b W (l ++ [m]) :=
  (World.rowIs.set h m (.bool true)).congr fun i hi => by
    by_cases e : i = m
    · subst e; simp
    · simp [e]
theorem owns_other {w : World} {B g : Nat} {e : TypeId} {s : Nat} {v : Value} {n : Nat} {xs : List Value} (h : w.ownsRow B e s v n xs) (i : Nat) (u : Value) (hg : g < B) : (w.setCell ⟨g, i, none⟩ u).ownsRow B e s v n xs :=
  h.kept (row := some g) (grown_setCell (grown_refl w (some g)) i u) (by
    cases hv : v.ownBlock with
    | none => exact .inl rfl
    | some k => refine .inr fun e => ?_
                have := (h.lt k hv).1
                have := Option.some.inj e
                omega)
end Go.Proofs.YtpfmmfapdcbnkaaGreatDoor
namespace Go.Proofs.YtpfmmfapdcbnkaaGreatDoor
set_option maxRecDepth 20000
open Go.RowKit Go.Deep
set_option linter.unusedVariables false
theorem last_num (y : Nat) : ∃ r : Nat, RM.rand y 3 2 = (r : Int) ∧ TM.last y = r ∧ r < 2 := by
  have h := RM.rand_below y 3 2 (by omega)
  refine ⟨TM.last y, ?_, rfl, TM.last_lt y⟩
  unfold TM.last
  omega
set_option maxRecDepth 100000 in
set_option maxHeartbeats 1000000 in
theorem refParts_some (k j esi : Nat) (w : World) (h1 : 1 ≤ k) (h2 : k ≤ 40) (hj : j ≤ 255) (he : esi < 16777216) :
    Calls Tryz.prog 76 #[.int .i64 k, .int .i64 j, .int .i64 esi] w (MadeInts w (TM.partsW (PM.w k) (TM.num j esi))) := by
  have HWK := Lib.hid (fun w => refW_any k w (by omega))
  have hwk : PM.w k ≤ 47 := PM.w_le k h2
  have hwk3 : 3 ≤ PM.w k := by unfold PM.w PM.s; omega
  generalize PM.w k = W at *
  obtain ⟨y, hyy⟩ : ∃ y, y = TM.num j esi := ⟨_, rfl⟩
  have HY32 := Lib.hid (show y < 4294967296 from hyy ▸ TM.num_lt j esi)
  rw [← hyy]
  have hyi : (j : Int) * 65537 + (esi : Int) * 31 = (y : Int) ∧ y < 18446744073709551616 ∧ y % 4294967296 = y := by
    have h := hyy
    unfold TM.num at h
    rw [Nat.mod_eq_of_lt (by omega)] at h
    have h3 : y < 4294967296 := HY32.out
    refine ⟨by omega, by omega, Nat.mod_eq_of_lt h3⟩
  have hbits := u64_low y hyi.2.1
  rw [hyi.2.2, ← hyi.1] at hbits
  have HYI := Lib.hid hyi.1
  clear hyy hyi
  obtain ⟨g, s, b, hg, hs, hb, g1, g8, sW, bW, eg, es, eb⟩ := drawn_nums W y (by omega)
  have H0 := Lib.hid (fun w => refDraws_any y HY32.out w 1048576 _ 0 rfl (by decide) (by decide))
  have HD := Lib.hid (fun w => refDegree_ext (RM.rand y 0 1048576) w)
  rw [hg] at HD
  have H1 := Lib.hid (fun w => refDraws_any y HY32.out w ((W : Int) - 1) _ 1 hs (by omega) (by omega))
  have H2 := Lib.hid (fun w => refDraws_any y HY32.out w W _ 2 hb (by omega) (by omega))
  obtain ⟨r, hr, er, hl2⟩ := last_num y
  have H3 := Lib.hid (fun w => refDraws_any y HY32.out w 2 _ 3 hr (by decide) (by decide))
  have HPL : Hid (TM.partsW W y = TM.met W (1 + s) b (min g W) ++ [W + r]) := by show _ = _; unfold TM.partsW TM.places; rw [eg, es, eb, er]
  clear hg hs hb eg es eb hr er
  generalize RM.rand y 0 1048576 = r0 at *
  have hc := cut_min g W
  obtain ⟨d, hd⟩ : ∃ d, d = min g W := ⟨_, rfl⟩
  rw [← hd] at HPL hc
  have hdW : d ≤ W := by omega
  have hd8 : d ≤ 8 := by omega
  have HC := Lib.hid (fun w => cut_any (g : Int) 0 (W : Int) w)
  rw [hc] at HC
  clear hd hc
  generalize TM.partsW W y = pw at *
  have HSN := Lib.hid (met_snoc W (1 + s) b)
  have HMS : Hid (∀ k, TM.met W (1 + s) b (k + 1) = TM.met W (1 + s) b k ++ [TM.skip W (TM.met W (1 + s) b k) W ((b + k * (1 + s)) % W)]) := fun k => rfl
  have HML := Lib.hid (TM.met_length W (1 + s) b)
  have HRA := Lib.hid (ring_at W s b)
  have HNX := Lib.hid (ring_next W)
  obtain ⟨i0, hi, hz0, hz1, hz2⟩ := info_parts intinfo
  have HI := Lib.hid hi; clear hi
  have HZ0 := Lib.hid hz0; clear hz0
  have HZ1 := Lib.hid hz1; clear hz1
  have HZ2 := Lib.hid hz2; clear hz2
  have hmk := fun w => mkBools W (by omega) w
  go_enter Tryz.func76, Tryz.ntmps76
  go_wp2_with fail
  refine (HWK.out w).mono ?_
  rintro e w' ⟨rfl, rfl⟩
  go_wp2_with fail
  rw [HYI.out]
  clear hbits
  refine (H0.out w).mono ?_
  rintro e w' ⟨rfl, rfl⟩
  go_wp2_with fail
  refine (HD.out w).mono ?_
  rintro e w1 ⟨rfl, hx1⟩
  have HX1 := Lib.hid hx1
  clear hx1
  go_wp2_with fail
  refine (HC.out w1).mono ?_
  rintro e w' ⟨rfl, rfl⟩
  go_wp2_with fail
  refine (H1.out w1).mono ?_
  rintro e w' ⟨rfl, rfl⟩
  go_wp2_with fail
  refine (H2.out w1).mono ?_
  rintro e w' ⟨rfl, rfl⟩
  go_wp2_with fail
  clear hmk H0 HD HC H1 H2 HWK HYI
  generalize hw2 : World.alloc w1 _ = w2
  have hx2 : w1.Extends w2 := by subst hw2; exact ext_alloc _ _
  have hhad : Had w2 w1.heap.size W [] := by subst hw2; exact Had.made w1 W
  have hs2 : w2.heap.size = w1.heap.size + 1 := by subst hw2; simp
  generalize hg1 : w1.heap.size = q1 at hhad hs2 ⊢
  have HQ1 : Hid (w.heap.size ≤ q1) := by have h := HX1.out.size; rw [hg1] at h; exact h
  clear hw2 hg1
  have HX2 := Lib.hid (Gr.ext_trans HX1.out hx2)
  have HH2 := Lib.hid hhad
  have HS2 : Hid (q1 + 1 = w2.heap.size) := hs2.symm
  clear hx2 hhad hs2 HX1
  go_loopw [13, 14] (fun v i wr => ∃ k : Nat, k ≤ d ∧ i = .int .i64 k ∧ Hid (w.Extends wr) ∧ Hid (w2.heap.size ≤ wr.heap.size) ∧ Hid (Had wr q1 W (TM.met W (1 + s) b k)) ∧ Hid (wr.ownsRow (q1 + 1) 3 1 v k (i64vs (nats (TM.met W (1 + s) b k))))) (fun _ i _ => (d - intOf i).toNat)
  case atStart => exact ⟨0, by omega, rfl, HX2, Lib.hid (Nat.le_refl _), HH2, Lib.hid (World.ownsRow_nil _ _ _ _)⟩
  case round =>
    obtain ⟨k, hk, rfl, HX, HSZ, HH, HOWN⟩ := hrel
    by_cases h5 : k < d
    · have HSN1 := Lib.hid (HSN.out k)
      have HMS1 := Lib.hid (HMS.out k)
      have HRA1 := Lib.hid (HRA.out k)
      have HOB : Hid (∀ g, u13.ownBlock = some g → q1 + 1 ≤ g) := fun g hg => (HOWN.out.lt g hg).1
      obtain ⟨q, hq, hnq⟩ := TM.hole W (TM.met W (1 + s) b k) (by rw [HML.out]; omega)
      have HQ := Lib.hid hnq
      clear hnq
      have hle : k * (1 + s) ≤ 8 * 1000 := Nat.mul_le_mul (by omega) (by omega)
      have hm1 : (k : Int) * (1 + (s : Int)) ≤ 8000 := by have := Int.ofNat_le.2 hle; rw [Int.natCast_mul, Int.natCast_add] at this; omega
      have hm0 : 0 ≤ (k : Int) * (1 + (s : Int)) := Int.mul_nonneg (by omega) (by omega)
      clear hle
      have hst : (b + k * (1 + s)) % W < W := Nat.mod_lt _ (by omega)
      obtain ⟨t, ht⟩ : ∃ t, t = TM.skip W (TM.met W (1 + s) b k) W ((b + k * (1 + s)) % W) := ⟨_, rfl⟩
      rw [← ht] at HSN1 HMS1
      have HTT := Lib.hid ht.symm
      clear ht
      have HSTEP : Hid (∀ m, m < W → m ∈ TM.met W (1 + s) b k → TM.skip W (TM.met W (1 + s) b k) W m = t → TM.skip W (TM.met W (1 + s) b k) W ((m + 1) % W) = t) := fun m hm hmem h => (TM.skip_step W q _ hq HQ.out m hm hmem).trans h
      clear HSN HML HRA HMS
      generalize TM.met W (1 + s) b k = l at *
      go_wp2_with fail
      go_loop [15] (fun p => ∃ m : Nat, m < W ∧ p = .int .i64 m ∧ Hid (TM.skip W l W m = t)) (fun p => TM.far W q (intOf p).toNat)
      case atStart => exact ⟨(b + k * (1 + s)) % W, hst, by rw [HRA1.out], HTT⟩
      case round =>
        obtain ⟨m, hm, rfl, HS⟩ := hrel
        have hcell := HH.out.cell (i := m) hm
        by_cases hmem : m ∈ l
        · rw [decide_eq_true hmem] at hcell
          have HNX1 := Lib.hid (HNX.out m)
          have HS1 := Lib.hid (HSTEP.out m hm hmem HS.out)
          have HF := Lib.hid (TM.far_succ W q m hq hm (fun e => HQ.out (e ▸ hmem)))
          have hnl := TM.next_lt W m (by omega)
          clear hmem
          go_wp2
          go_round
          case rel => exact ⟨(m + 1) % W, hnl, by rw [HNX1.out], HS1⟩
          case measure =>
            have h := HF.out
            rw [HNX1.out]
            show TM.far W q (((m + 1) % W : Nat) : Int).toNat < TM.far W q (m : Int).toNat
            rw [Int.toNat_natCast, Int.toNat_natCast]
            omega
        · rw [decide_eq_false hmem] at hcell
          have hfr := HH.out.frozen m
          have HE : Hid (m = t) := (TM.skip_stop W l m hmem W).symm.trans HS.out
          clear hmem HS
          obtain rfl := HE.out
          have HX6 := Lib.hid (HX.out.setCell ⟨q1, m, none⟩ (.bool true) HQ1.out)
          have HH6 : Hid (Had (wr.setCell ⟨q1, m, none⟩ (.bool true)) q1 W (TM.met W (1 + s) b (k + 1))) := by rw [HMS1.out]; exact HH.out.set m
          have HOWN6 := Lib.hid (owns_other HOWN.out m (.bool true) (Nat.lt_succ_self q1))
          have HSZ6 : Hid (w2.heap.size ≤ (wr.setCell ⟨q1, m, none⟩ (.bool true)).heap.size) := by have := HSZ.out; show _ ≤ _; simpa using this
          have hbs : q1 + 1 ≤ (wr.setCell ⟨q1, m, none⟩ (.bool true)).heap.size := by rw [HS2.out]; exact HSZ6.out
          have HBS := Lib.hid hbs
          clear HH HX HSZ
          go_wp2_with (at_builtin; refine wpList_append_own_src _ rfl _ _ 42 42 rfl (q1 + 1) 3 i0 (.int .i64 0) 1 8 Tryz.underlying42 HI.out HZ0.out HZ1.out HZ2.out rfl _ _ _ rfl (HOWN6.out.alloc _) _ 1 [.int .i64 m] rfl (src_one Tryz.underlying42 _ _ (by simp) rfl) (by unfold maxLen; omega) (by omega) (by have := HBS.out; simp at this ⊢; omega) ?_)
          intro v' w3 ho3 hg3 _
          have hg4 := grown_trans (World.grownBy_alloc _ _ _) hg3
          have HP1 : Hid (w.Extends w3) := HX6.out.grown hg4 (fun g hg => by have := HOB.out g hg; have := HQ1.out; omega)
          have HP2 : Hid (Had w3 q1 W (TM.met W (1 + s) b (k + 1))) := HH6.out.grown hg4 (fun e => by have := HOB.out q1 e.symm; omega)
          have HP3 : Hid (w2.heap.size ≤ w3.heap.size) := Nat.le_trans HSZ6.out hg4.size
          rw [HSN1.out] at ho3
          have HP4 := Lib.hid ho3
          clear ho3 hg3 hg4 hbs hcell hfr
          go_wp2
          go_roundw
          case rel => exact ⟨k + 1, by omega, by go_num, HP1, HP3, HP2, HP4⟩
          case measure => simp [intOf]; omega
    · obtain rfl : k = d := by omega
      have hbs : q1 + 1 ≤ wr.heap.size := by rw [HS2.out]; exact HSZ.out
      have HBS := Lib.hid hbs
      have HOWNB := Lib.hid (owns_base HOWN.out (Nat.le_trans HQ1.out (Nat.le_succ q1)))
      have HOB : Hid (∀ g, u13.ownBlock = some g → w.heap.size ≤ g) := fun g hg => (HOWNB.out.lt g hg).1
      have HPW : Hid (i64vs (nats (TM.met W (1 + s) b k)) ++ [.int .i64 ((W : Int) + (r : Int))] = i64vs (nats pw)) := by
        rw [HPL.out]
        show _ = i64vs (nats (_ ++ [_])); rw [nats_snoc, i64vs_snoc, Int.natCast_add]
      have HLN : Hid (pw.length = k + 1) := by rw [HPL.out, List.length_append, HML.out]; rfl
      clear HPL HML HMS HSN HRA HNX hbs
      generalize TM.met W (1 + s) b k = l at *
      go_wp2_with fail
      refine (H3.out wr).mono ?_
      rintro e w' ⟨rfl, rfl⟩
      go_wp2_with (at_builtin; refine wpList_append_own_src _ rfl _ _ 42 42 rfl w.heap.size 3 i0 (.int .i64 0) 1 8 Tryz.underlying42 HI.out HZ0.out HZ1.out HZ2.out rfl _ _ _ rfl (HOWNB.out.alloc _) _ 1 [.int .i64 ((W : Int) + (r : Int))] rfl (src_one Tryz.underlying42 _ _ rfl rfl) (by unfold maxLen; omega) (by omega) (Nat.le_trans HX.out.size (Below.size ((Below.refl 0 _).alloc (Nat.zero_le _) _))) ?_)
      intro v' w3 ho3 hg3 _
      have HP : Hid (MadeInts w pw (.returned v') w3) := by
        refine ⟨v', rfl, HX.out.grown (grown_trans (World.grownBy_alloc _ _ _) hg3) (fun g hg => HOB.out g hg), ?_⟩
        rw [HLN.out, ← HPW.out]; exact ho3
      clear ho3 hg3
      go_wp2
      go_ret
      exact HP.out
end Go.Proofs.YtpfmmfapdcbnkaaGreatDoor
namespace Go.Proofs.YtpfmmfapdcbnkaaGreatDoor
set_option maxRecDepth 20000
open Go.RowKit Go.Deep
set_option linter.unusedVariables false
set_option maxHeartbeats 1000000 in
set_option maxRecDepth 100000 in
theorem refDrop_some (k j size esi : Nat) (v : Value) (c : List (List Nat)) (w : World) (h1 : 1 ≤ k) (h2 : k ≤ 40) (hj : j ≤ 255) (he : esi < 16777216) (hs1 : 1 ≤ size) (hs2 : size ≤ 64) (hl : c.length = PM.l k) (hv : Rws w v c) :
    Calls Tryz.prog 54 #[.int .i64 k, .int .i64 j, .int .i64 size, v, .int .i64 esi] w (MadeRow w (DM.drop k j size c esi)) := by
  have HS := Lib.hid (fun w => refParts_some k j esi w h1 h2 hj he)
  change Hid (∀ (w : World), Calls _ _ _ w (MadeInts w (TM.parts k j esi))) at HS
  have hl2 := PM.l_le k h2
  have HL := Lib.hid (fun w => refL_any k w (by omega))
  have HPL := Lib.hid (parts_at k j esi)
  have hpl := parts_len k j esi
  have HSN := Lib.hid (DM.pick_snoc c (TM.parts k j esi))
  have HPK := Lib.hid (DM.pick_length c)
  have HD : Hid (DM.drop k j size c esi = RM.sum size (DM.pick c (TM.parts k j esi))) := rfl
  have HDL := Lib.hid (DM.drop_length k j size c esi)
  have HCUT : Hid (RM.cut (size : Int) = size) := by show _ = _; unfold RM.cut; omega
  clear he
  obtain ⟨a, cap, rfl, _⟩ := hv.slice
  have HV := Lib.hid hv.at.2
  clear hv
  generalize DM.drop k j size c esi = row at *
  generalize TM.parts k j esi = l at *
  generalize PM.l k = L at *
  rw [hl] at HV ⊢
  clear hl
  obtain ⟨n, hn⟩ : ∃ n, n = l.length := ⟨_, rfl⟩
  rw [← hn] at hpl HPL HSN
  have HN := Lib.hid hn
  clear hn
  obtain ⟨hn1, hn2⟩ := hpl
  have hn0 : ((n : Int) == 0) = false := by rw [beq_eq_false_iff_ne]; omega
  obtain ⟨i1, hi', hz0', hz1', hz2'⟩ := info_parts bytesinfo
  have HI' := Lib.hid hi'; clear hi'
  have HZ0' := Lib.hid hz0'; clear hz0'
  have HZ1' := Lib.hid hz1'; clear hz1'
  have HZ2' := Lib.hid hz2'; clear hz2'
  go_enter Tryz.func54, Tryz.ntmps54
  go_wp2_with fail
  refine (HS.out w).mono ?_
  rintro e w3 ⟨vp, rfl, hx3, hown⟩
  have hints := owns_ints hown
  obtain ⟨ap, capp, rfl, hcap, hcap2⟩ := hints.slice
  rw [nats_length, ← HN.out] at hints ⊢
  have HIN := Lib.hid hints.cell.2
  have HX3 := Lib.hid hx3
  clear hx3 hown hints hcap hcap2 hn1
  go_wp2_with fail
  refine (HL.out w3).mono ?_
  rintro e w4 ⟨rfl, rfl⟩
  go_wp2_with fail
  go_loopw [12, 13] (fun o i wr => ∃ q : Nat, q ≤ n ∧ i = .int .i64 q ∧ Hid (w3.Extends wr) ∧ Hid (Mats wr w3.heap.size w.heap.size 30 o q (DM.pick c (l.take q)))) (fun _ i _ => (n - intOf i).toNat)
  case atStart => exact ⟨0, by omega, rfl, Lib.hid (Gr.ext_refl _), Lib.hid (Mats.nil _ _ _ _ _)⟩
  case round =>
    obtain ⟨q, hq, rfl, HX, HM⟩ := hrel
    by_cases h5 : q < n
    · obtain ⟨bp, off, rfl, hbp, hc⟩ := HIN.out (by omega)
      have hc1 := HX.out.cell_of (hc q h5)
      rw [nats_at] at hc1
      have hpL := HPL.out q h5
      have HS1 := Lib.hid (HSN.out q h5)
      clear hc hbp
      generalize l.getD q 0 = p at *
      obtain ⟨bc, oc, rfl, hbc, hcc⟩ := HV.out (by omega)
      obtain ⟨ra, rc, hc3, hr0⟩ := hcc p hpL
      have hc2 := (Gr.ext_trans HX3.out HX.out).cell_of hc3
      have HOK : Hid (RowOk wr w.heap.size (.slice ra (c.getD p []).length rc) (c.getD p [])) := (RowOk.old hr0 (Nat.le_refl _)).ext (Gr.ext_trans HX3.out HX.out)
      clear hcc hc3 hr0 hbc
      obtain ⟨vs, hown, hrows⟩ := HM.out
      have HOWN := Lib.hid hown
      have HROWS := Lib.hid hrows
      have HOB : Hid (∀ g, u12.ownBlock = some g → w3.heap.size ≤ g) := fun g hg => (HOWN.out.lt g hg).1
      have hbs := HX.out.size
      have hb3 := HX3.out.size
      have HPQ : Hid (q = (DM.pick c (l.take q)).length) := by
        show _ = _; rw [HPK.out, List.length_take, ← HN.out]; omega
      clear hown hrows HM
      go_wp2_with (at_builtin; refine wpList_append_own_src _ rfl _ _ 73 73 rfl w3.heap.size 30 i1 (.slice none 0 0) 1 24 Tryz.underlying73 HI'.out HZ0'.out HZ1'.out HZ2'.out rfl _ _ _ rfl (HOWN.out.alloc _) _ 1 [.slice ra (c.getD p []).length rc] rfl (src_one Tryz.underlying73 _ _ rfl rfl) (by unfold maxLen; omega) (by omega) (by simp; omega) ?_)
      intro v' w9 ho9 hg9 _
      have HP : Hid (w3.Extends w9 ∧ Mats w9 w3.heap.size w.heap.size 30 v' (q + 1) (DM.pick c (l.take (q + 1)))) := by
        refine ⟨Gr.ext_of (((Gr.below_of HX.out).alloc hbs _).grown hg9 (by simp; omega) HOB.out), ?_⟩
        rw [← HS1.out]
        exact Mats.snoc hb3 (by decide) HPQ.out (HOWN.out.alloc _) (fun j hj => by obtain ⟨u, h1, h2⟩ := HROWS.out j hj; exact ⟨u, h1, h2.ext (ext_alloc _ _)⟩) (HOK.out.ext (ext_alloc _ _)) hg9 ho9
      clear ho9 hg9
      go_wp2
      go_roundw
      case rel => exact ⟨q + 1, by omega, by go_num, Lib.hid HP.out.1, Lib.hid HP.out.2⟩
      case measure => simp [intOf]; omega
    · obtain rfl : q = n := by omega
      have HRW : Hid (Rws wr u12 (DM.pick c l)) := by
        have h := HM.out.rws (by rw [HPK.out, List.length_take, ← HN.out]; omega)
        rw [HN.out, List.take_length] at h
        exact h
      have HXW := Lib.hid (Gr.ext_trans HX3.out HX.out)
      clear HM HX
      go_wp2_with fail
      refine (rsum_any (size : Int) u12 _ wr HRW.out).mono ?_
      rintro e w4 ⟨rfl, hb4, ho4⟩
      rw [HCUT.out, ← HD.out] at ho4
      rw [HCUT.out]
      have HP : Hid (MadeRow w row (.returned (.slice (some ⟨wr.heap.size, 0, none⟩) size size)) w4) := ⟨wr.heap.size, by rw [HDL.out], Gr.ext_trans HXW.out (Gr.ext_of hb4), HXW.out.size, ho4⟩
      clear hb4 ho4
      go_wp2
      go_ret
      exact HP.out
end Go.Proofs.YtpfmmfapdcbnkaaGreatDoor
namespace Go.Proofs.YtpfmmfapdcbnkaaGreatDoor
set_option maxRecDepth 20000
open Go.RowKit Go.Deep
set_option linter.unusedVariables false
theorem take_snoc (l : List (List Nat)) (k : Nat) (h : k < l.length) : l.take k ++ [l.getD k []] = l.take (k + 1) := by
  rw [List.take_succ_eq_append_getElem h]; simp [h]
/-- Rows of a call's own: new, and they read so. -/
def MadeList (w : World) (l : List (List Nat)) (e : Ending) (w' : World) : Prop := ∃ v, e = .returned v ∧ w.Extends w' ∧ Rws w' v l
end Go.Proofs.YtpfmmfapdcbnkaaGreatDoor
namespace Go.Proofs.YtpfmmfapdcbnkaaGreatDoor
set_option maxRecDepth 20000
open Go.RowKit Go.Deep
set_option linter.unusedVariables false
/-- The answer reads as xs, in a block of bytes. -/
def RowNew (w : World) (xs : List Nat) (e : Ending) (w' : World) : Prop := ∃ v, e = .returned v ∧ w.Extends w' ∧ RowOk w' 0 v xs
theorem new_made {w w' : World} {xs : List Nat} {e : Ending} (h : MadeRow w xs e w') : RowNew w xs e w' := by
  obtain ⟨g, rfl, hx, _, ho⟩ := h
  exact ⟨_, rfl, hx, RowOk.own ho 0 rfl rfl⟩
theorem new_nil {w w' : World} {e : Ending} (h : e = .returned (.slice none 0 0)) (hx : w.Extends w') : RowNew w [] e w' := ⟨_, h, hx, nil_u8s _ _ _, .inl rfl⟩
set_option maxHeartbeats 1000000 in
theorem drops_any (k s h j size : Int) (vc ve : Value) (es : List Int) (d : Int → List Nat) (w : World) (hl : es.length ≤ 1000000) (hv : Ints w ve es)
    (hd : ∀ e w', w.Extends w' → Calls Tryz.prog 73 #[PV k s h, .int .i64 j, .int .i64 size, vc, .int .i64 e] w' (RowNew w' (d e))) :
    Calls Tryz.prog 68 #[PV k s h, .int .i64 j, .int .i64 size, vc, ve] w (MadeList w (DM.all d es)) := by
  have HDR := Lib.hid hd
  have HYES := Lib.hid (DM.all_yes d es)
  have HNO := Lib.hid (DM.all_no d es)
  have HMS := Lib.hid (DM.map_snoc d es)
  obtain ⟨a, cap, rfl, hcap, hcap2⟩ := hv.slice
  have HCL := Lib.hid hv.cell.2
  clear hv hcap hcap2 hd
  obtain ⟨n, hn⟩ : ∃ n, n = es.length := ⟨_, rfl⟩
  rw [← hn] at HCL hl ⊢
  have HN := Lib.hid hn
  clear hn
  obtain ⟨i1, hi', hz0', hz1', hz2'⟩ := info_parts rowinfo
  have HI' := Lib.hid hi'; clear hi'
  have HZ0' := Lib.hid hz0'; clear hz0'
  have HZ1' := Lib.hid hz1'; clear hz1'
  have HZ2' := Lib.hid hz2'; clear hz2'
  go_enter Tryz.func68, Tryz.ntmps68
  go_wp2_with fail
  generalize hw1 : World.alloc w _ = w1
  have hx1 : w.Extends w1 := by subst hw1; exact prm_ext_alloc _ _
  have hp : PAt w1 w.heap.size k s h := by subst hw1; exact PAt.new w 118 k s h
  generalize w.heap.size = b at hp ⊢
  clear hw1
  have HX1 := Lib.hid hx1
  have HP1 := Lib.hid hp
  clear hx1 hp
  go_wp2_with fail
  go_loopw [11, 17] (fun o i wr => ∃ q : Nat, q ≤ n ∧ i = .int .i64 q ∧ Hid (w1.Extends wr) ∧ Hid (∀ i, i < q → 0 < (d (es.getD i 0)).length) ∧ Hid (Mats wr w1.heap.size 0 99 o q ((es.take q).map d))) (fun _ i _ => (n - intOf i).toNat)
  case atStart => exact ⟨0, by omega, rfl, Lib.hid (Gr.ext_refl _), Lib.hid (fun j hj => absurd hj (Nat.not_lt_zero _)), Lib.hid (Mats.nil _ _ _ _ _)⟩
  case round =>
    obtain ⟨q, hq, rfl, HX, HG, HM⟩ := hrel
    by_cases h5 : q < n
    · have hen : q < es.length := by have := HN.out; omega
      obtain ⟨bp, off, rfl, hbp, hc⟩ := HCL.out (by omega)
      have hc1 := (Gr.ext_trans HX1.out HX.out).cell_of (hc q h5)
      have HS1 := Lib.hid (HMS.out q hen)
      have HNO1 := Lib.hid (HNO.out q hen)
      obtain ⟨p0, p1, p2⟩ := HP1.out.ext HX.out
      clear hc hbp
      have HGS : Hid (0 < (d (es.getD q 0)).length → ∀ i, i < q + 1 → 0 < (d (es.getD i 0)).length) := fun h0 i hi => by
        by_cases hiq : i < q
        · exact HG.out i hiq
        · obtain rfl : i = q := by omega
          exact h0
      have HDQ := Lib.hid (HDR.out (es.getD q 0) wr (Gr.ext_trans HX1.out HX.out))
      generalize es.getD q 0 = x at *
      generalize d x = row at *
      go_wp2_with fail
      refine HDQ.out.mono ?_
      rintro _ wq ⟨v, rfl, hxq, hok⟩
      obtain ⟨ra, rc, rfl, _, _⟩ := hok.1.slice
      have HOK := Lib.hid hok
      have HXQ := Lib.hid (Gr.ext_trans HX.out hxq)
      obtain ⟨vs, hown, hrows⟩ := HM.out.ext hxq
      have HOWN := Lib.hid hown
      have HROWS := Lib.hid hrows
      have HOB : Hid (∀ g, u11.ownBlock = some g → w1.heap.size ≤ g) := fun g hg => (HOWN.out.lt g hg).1
      have hbs := HXQ.out.size
      have HPQ : Hid (q = ((es.take q).map d).length) := by
        show _ = _; rw [List.length_map, List.length_take, ← HN.out]; omega
      clear hown hrows hxq hok HM HDQ p0 p1 p2 hc1
      by_cases h0 : row.length = 0
      · have HP : Hid (MadeList w (DM.all d es) (.returned (.slice none 0 0)) wq) := ⟨_, rfl, Gr.ext_trans HX1.out HXQ.out, by rw [HNO1.out h0]; exact Rws.nil _ _ _⟩
        rw [h0]
        go_wp2
        go_ret
        exact HP.out
      · have hlen0 : ((row.length : Int) == 0) = false := by rw [beq_eq_false_iff_ne]; omega
        have HG2 := Lib.hid (HGS.out (by omega))
        go_wp2_with (at_builtin; refine wpList_append_own_src _ rfl _ _ 87 87 rfl w1.heap.size 99 i1 (.slice none 0 0) 1 24 Tryz.underlying87 HI'.out HZ0'.out HZ1'.out HZ2'.out rfl _ _ _ rfl (HOWN.out.alloc _) _ 1 [.slice ra row.length rc] rfl (src_one Tryz.underlying87 _ _ rfl rfl) (by unfold maxLen; omega) (by omega) (by simp; omega) ?_)
        intro v' w9 ho9 hg9 _
        have HP : Hid (w1.Extends w9 ∧ Mats w9 w1.heap.size 0 99 v' (q + 1) ((es.take (q + 1)).map d)) := by
          refine ⟨Gr.ext_of (((Gr.below_of HXQ.out).alloc hbs _).grown hg9 (by simp; omega) HOB.out), ?_⟩
          rw [← HS1.out]
          exact Mats.snoc (Nat.zero_le _) (by decide) HPQ.out (HOWN.out.alloc _) (fun j hj => by obtain ⟨u, h1, h2⟩ := HROWS.out j hj; exact ⟨u, h1, h2.ext (ext_alloc _ _)⟩) (HOK.out.ext (ext_alloc _ _)) hg9 ho9
        clear ho9 hg9
        go_wp2
        go_roundw
        case rel => exact ⟨q + 1, by omega, by go_num, Lib.hid HP.out.1, HG2, Lib.hid HP.out.2⟩
        case measure => simp [intOf]; omega
    · obtain rfl : q = n := by omega
      have HP : Hid (MadeList w (DM.all d es) (.returned u11) wr) := by
        refine ⟨u11, rfl, Gr.ext_trans HX1.out HX.out, ?_⟩
        rw [HYES.out (fun i hi => HG.out i (by have := HN.out; omega))]
        have h := HM.out.rws (by rw [List.length_map, List.length_take, ← HN.out]; omega)
        rw [HN.out, List.take_length] at h
        exact h
      go_wp2
      go_ret
      exact HP.out
end Go.Proofs.YtpfmmfapdcbnkaaGreatDoor
namespace Go.Proofs.YtpfmmfapdcbnkaaGreatDoor
set_option maxRecDepth 20000
open Go.RowKit Go.Deep
set_option linter.unusedVariables false
theorem not_right_zero8 : ¬ Right 0 0 0 := fun ⟨n, h, h1, _⟩ => by omega
/-- With Params of no block. -/
theorem drop_zero (j size esi : Int) (v : Value) (c : List (List Nat)) (w : World) (hv : Rws w v c) :
    Calls Tryz.prog 73 #[PV 0 0 0, .int .i64 j, .int .i64 size, v, .int .i64 esi] w (RowNew w []) := by
  have hm := hv.len
  obtain ⟨a, cap, rfl, _⟩ := hv.slice
  by_cases h1 : size < 1 ∨ 64 < size
  · exact (drop_size 0 0 0 j size esi _ w h1).mono fun _ _ h => new_nil h.1 h.2
  · by_cases h2 : c.length = 0
    · exact (drop_fit 0 0 0 j size esi a c.length cap w (by omega) (by omega) (by omega) (by omega) hm (fun h => not_right_zero8 h.1)).mono fun _ _ h => new_nil h.1 h.2
    · exact (drop_len 0 0 0 j size esi a c.length cap w (by omega) (by omega) (by omega) (by omega) (by omega)).mono fun _ _ h => new_nil h.1 h.2
/-- Numbers of which a block of k has a symbol. -/
def Has (k : Nat) (j size esi : Int) (n : Nat) : Prop := (0 ≤ j ∧ j ≤ 255 ∧ 1 ≤ size ∧ size ≤ 64 ∧ n = PM.l k) ∧ EsiOk esi
theorem drop_no (k : Nat) (j size esi : Int) (v : Value) (c : List (List Nat)) (w : World) (k1 : 1 ≤ k) (k2 : k ≤ 40) (hv : Rws w v c) (hn : ¬ Has k j size esi c.length) :
    Calls Tryz.prog 73 #[PV k (PM.s k) 2, .int .i64 j, .int .i64 size, v, .int .i64 esi] w (RowNew w []) := by
  have hm := hv.len
  have hs := PM.s_le k k2
  have hlk : (PM.l k : Int) = k + PM.s k + 2 := by unfold PM.l PM.w; omega
  obtain ⟨a, cap, rfl, _⟩ := hv.slice
  by_cases h1 : size < 1 ∨ 64 < size
  · exact (drop_size _ _ _ j size esi _ w h1).mono fun _ _ h => new_nil h.1 h.2
  · by_cases h2 : c.length = PM.l k
    · refine (drop_fit k (PM.s k) 2 j size esi a c.length cap w (by omega) (by omega) (by omega) (by omega) hm (fun h => hn ?_)).mono fun _ _ h => new_nil h.1 h.2
      obtain ⟨_, a1, a2, a3, a4⟩ := h
      exact ⟨⟨a1, a2, by omega, by omega, h2⟩, a3, a4⟩
    · exact (drop_len k (PM.s k) 2 j size esi a c.length cap w (by omega) (by omega) (by omega) (by omega) (by omega)).mono fun _ _ h => new_nil h.1 h.2
end Go.Proofs.YtpfmmfapdcbnkaaGreatDoor
