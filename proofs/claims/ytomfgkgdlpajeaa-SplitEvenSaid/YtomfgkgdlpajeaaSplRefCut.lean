/- The reference's CutUp. -/
import Derived.Test.YtomfgkgdlpajeaaSplCopy
import Derived.Test.YtomfgkgdlpajeaaRefSum
import Derived.Handy
import Derived.Lib.Hide
namespace Go.Proofs.Ytomfgkgdlpajeaa
open Go.RowKit Go.Deep
set_option linter.unusedVariables false
def slen : Value → Nat
  | .slice _ n _ => n
  | _ => 0
theorem byteslistinfo : (Try.prog.info? 29).map (fun i => (i.zero, i.size, i.bytes)) = some (some (.slice none 0 0), 1, 24) := by kernel_rfl
theorem CM.mod_end (y s n : Nat) (hs : 1 ≤ s) (h1 : (y - 1) * s < n) (h2 : n ≤ y * s) : n % s = 0 ↔ n = y * s := by
  constructor
  · intro h
    obtain ⟨k, rfl⟩ : ∃ k, n = k * s := ⟨n / s, by have := Nat.div_add_mod n s; rw [h, Nat.add_zero, Nat.mul_comm] at this; exact this.symm⟩
    have a1 : y - 1 < k := Nat.lt_of_mul_lt_mul_right h1
    have a2 : k ≤ y := Nat.le_of_mul_le_mul_right h2 (by omega)
    rw [show k = y by omega]
  · rintro rfl; exact Nat.mul_mod_left _ _
theorem CM.pad_of (xs : List Nat) (z : Nat) : xs ++ List.replicate z 0 = CM.pad (xs.length + z) xs := by
  refine CM.list_eq (by rw [CM.pad_length, List.length_append, List.length_replicate]) fun i hi => ?_
  rw [List.length_append, List.length_replicate] at hi
  rw [CM.pad_at _ _ _ hi]
  by_cases h : i < xs.length
  · rw [List.getD_eq_getElem?_getD, List.getElem?_append_left h, ← List.getD_eq_getElem?_getD]
  · rw [List.getD_eq_getElem?_getD, List.getElem?_append_right (by omega), List.getD_eq_getElem?_getD, List.getElem?_eq_none (l := xs) (by omega)]
    simp [show i - xs.length < z by omega]
theorem CM.pad_part (s : Nat) (xs : List Nat) (n j : Nat) (h : (j + 1) * s ≤ n) : ((CM.pad n xs).take (j * s + s)).drop (j * s) = CM.sym s xs j := by
  have hh : j * s + s ≤ n := by rw [Nat.add_mul, Nat.one_mul] at h; exact h
  refine CM.list_eq (by rw [List.length_drop, List.length_take, CM.pad_length, CM.sym_length]; omega) fun i hi => ?_
  rw [List.length_drop, List.length_take, CM.pad_length] at hi
  rw [CM.sym_at _ _ _ _ (by omega), List.getD_eq_getElem?_getD, List.getElem?_drop, List.getElem?_take, if_pos (by omega), ← List.getD_eq_getElem?_getD, CM.pad_at _ _ _ (by omega)]
theorem Own.owns {w : World} {b B : Nat} {T : TypeId} {xs : List Nat} (h : Own w b T xs) (hB : B ≤ b) : w.ownsRow B T 1 (.slice (some ⟨b, 0, none⟩) xs.length xs.length) xs.length (u8vs xs) := by
  obtain ⟨⟨cs, hc, hs, hi⟩, hm, _⟩ := h
  refine ⟨by rw [u8vs_length, Nat.mul_one], .inr ⟨b, xs.length, cs, rfl, hB, hc, Nat.le_refl _, hm, by rw [hs, Nat.mul_one], ?_⟩⟩
  rw [Nat.mul_one]
  apply List.ext_getElem?
  intro i
  by_cases h : i < xs.length
  · rw [List.getElem?_take, if_pos h, Array.getElem?_toList, hi i h]
    simp [u8vs, h]
  · rw [List.getElem?_take, if_neg h, List.getElem?_eq_none (by rw [u8vs_length]; omega)]
theorem Mats.raise {w : World} {B R R' : Nat} {T : TypeId} {v : Value} {k : Nat} {l : List (List Nat)} (h : Mats w B R T v k l) (hR : R ≤ R') : Mats w B R' T v k l := by
  obtain ⟨vs, ho, hr⟩ := h
  exact ⟨vs, ho, fun j hj => let ⟨u, h1, h2⟩ := hr j hj; ⟨u, h1, h2.mono hR⟩⟩
theorem CM.pad_lt (n : Nat) (xs : List Nat) (h : ∀ x ∈ xs, x < 256) : ∀ x ∈ CM.pad n xs, x < 256 := by
  intro x hx
  obtain ⟨j, hj, rfl⟩ := List.mem_map.1 hx
  exact getD_lt xs h j
theorem u8vs_zero (xs : List Nat) (z : Nat) : u8vs (xs ++ List.replicate z 0) ++ [Value.int .u8 0] = u8vs (xs ++ List.replicate (z + 1) 0) := by
  rw [List.replicate_succ', ← List.append_assoc]
  simp [u8vs]
theorem owns_at {w : World} {B n : Nat} {T : TypeId} {v : Value} {vs : List Value} (h : w.ownsRow B T 1 v n vs) (hn : 0 < n) : ∃ g cap, v = .slice (some ⟨g, 0, none⟩) n cap ∧ n ≤ cap ∧ cap ≤ maxLen := by
  rcases h.2 with ⟨rfl, rfl⟩ | ⟨g, cap, cur, rfl, _, _, h1, h2, _⟩
  · omega
  · exact ⟨g, cap, rfl, h1, h2⟩
theorem rcut_wrong (b s m : Int) (v : Value) (w : World) (h : ¬ CM.Right b s m) :
    Calls Try.prog 19 #[PV b s m, v] w (CutOut w 1 []) := by
  go_enter Try.func19, Try.ntmps19
  go_wp2_with fail
  generalize hw1 : World.alloc w _ = w1
  have hx1 : w.Extends w1 := by subst hw1; exact prm_ext_alloc _ _
  have hp : PAt w1 w.heap.size b s m := by subst hw1; exact PAt.new w 23 b s m
  generalize w.heap.size = g at hp ⊢
  clear hw1
  have HX1 := Lib.hid hx1
  have hb1 := hp.lt
  obtain ⟨p0, p1, p2⟩ := hp
  clear hx1
  refine (rright_no b s m w1 h).mono ?_
  rintro e w2 ⟨rfl, hx⟩
  have HX2 := Lib.hid (Gr.ext_trans HX1.out hx)
  go_wp2
  go_returns
  exact ⟨_, by rfl, HX2.out, RwsL.nil _ _ _⟩
theorem rcut_other (b s m : Nat) (v : Value) (xs : List Nat) (w : World) (h : CM.Right b s m) (hn : xs.length ≠ b) (hv : U8s w v xs) :
    Calls Try.prog 19 #[PV b s m, v] w (CutOut w 10 []) := by
  obtain ⟨va, vc, rfl, _⟩ := hv.slice
  have hlen := hv.len
  unfold maxLen at hlen
  obtain ⟨n, hn0⟩ : ∃ n, n = xs.length := ⟨_, rfl⟩
  rw [← hn0] at hn hlen ⊢
  have hne : ((n : Int) != b) = true := by simp; omega
  have HR := Lib.hid h
  clear h hv hn0
  go_enter Try.func19, Try.ntmps19
  go_wp2_with fail
  generalize hw1 : World.alloc w _ = w1
  have hx1 : w.Extends w1 := by subst hw1; exact prm_ext_alloc _ _
  have hp : PAt w1 w.heap.size b s m := by subst hw1; exact PAt.new w 23 b s m
  generalize w.heap.size = g at hp ⊢
  clear hw1
  have HX1 := Lib.hid hx1
  have HP1 := Lib.hid hp
  have hb1 := hp.lt
  obtain ⟨p0, p1, p2⟩ := hp
  clear hx1
  refine (rright_yes b s m w1 HR.out).mono ?_
  rintro e w2 ⟨rfl, hx⟩
  have HX2 := Lib.hid (Gr.ext_trans HX1.out hx)
  have HP2 := Lib.hid (HP1.out.ext hx)
  clear p0 p1 p2 hx
  obtain ⟨p0, p1, p2⟩ := HP2.out
  go_wp2
  go_returns
  exact ⟨_, by rfl, HX2.out, RwsL.nil _ _ _⟩
set_option maxHeartbeats 1000000 in
set_option maxRecDepth 100000 in
theorem rcut_some (b s m : Nat) (v : Value) (xs : List Nat) (w : World) (h : CM.Right b s m) (hn : xs.length = b) (hv : U8s w v xs) :
    Calls Try.prog 19 #[PV b s m, v] w (CutOut w 0 (CM.cut b s m xs)) := by
  obtain ⟨va, vc, rfl, _⟩ := hv.slice
  obtain ⟨h1, h2, h3, h4, h5, h6⟩ := CM.right_of h
  have HLT := Lib.hid hv.lt
  have HB := Lib.hid (fun w => rblocks_yes b s m w h)
  have HK := Lib.hid (fun w i hi => rk_in b s m i w h hi)
  have hyl := CM.sy_le b s h1
  have hyp := CM.sy_pos b s
  have hnl := CM.bl_le b s m
  have hnp := CM.bl_pos b s m
  have HLO := Lib.hid (CM.sy_lo b s h1 h3)
  have hhi := CM.sy_hi b s h3
  have hY : CM.sy b s * s ≤ 4000 * 64 := Nat.mul_le_mul (by omega) h4
  have HMOD : Hid (∀ z, b + z ≤ CM.sy b s * s → ((b + z) % s = 0 ↔ b + z = CM.sy b s * s)) := fun z hz => CM.mod_end (CM.sy b s) s (b + z) h3 (by have := HLO.out; omega) hz
  have HPAD : Hid (∀ z, xs ++ List.replicate z 0 = CM.pad (b + z) xs) := fun z => by rw [← hn]; exact CM.pad_of xs z
  have HPART : Hid (∀ j, j < CM.sy b s → ((CM.pad (CM.sy b s * s) xs).take (j * s + s)).drop (j * s) = CM.sym s xs j ∧ j * s + s ≤ CM.sy b s * s) := fun j hj => by
    have := Nat.mul_le_mul_right s (show j + 1 ≤ CM.sy b s from hj)
    exact ⟨CM.pad_part s xs _ j this, by rw [Nat.add_mul, Nat.one_mul] at this; exact this⟩
  have HKI : Hid (∀ i, i < CM.bl b s m → CM.kk b s m i = CM.deal (CM.sy b s) (CM.bl b s m) i) := fun i hi => CM.kk_in b s m i hi
  have HKL : Hid (∀ i, CM.kk b s m i ≤ 40) := fun i => Nat.le_trans (CM.kk_le b s m i h5) h6
  have HAS := Lib.hid (CM.ahead_succ (CM.sy b s) (CM.bl b s m))
  have HAL : Hid (∀ i, i ≤ CM.bl b s m → CM.ahead (CM.sy b s) (CM.bl b s m) i ≤ CM.sy b s) := fun i hi => CM.ahead_le _ _ _ hnp hi
  have HA0 : Hid (CM.ahead (CM.sy b s) (CM.bl b s m) 0 = 0) := CM.ahead_zero _ _
  have HSN : Hid (∀ i, i < CM.bl b s m → (CM.cut b s m xs).take i ++ [CM.blk s xs (CM.ahead (CM.sy b s) (CM.bl b s m) i) (CM.kk b s m i)] = (CM.cut b s m xs).take (i + 1)) := CM.cut_snoc b s m xs
  have HCL : Hid ((CM.cut b s m xs).length = CM.bl b s m) := CM.cut_length _ _ _ _
  have HC0 : Hid ((CM.cut b s m xs).take 0 = []) := by show _ = _; rw [List.take_zero]
  have HCE : Hid ((CM.cut b s m xs).take (CM.bl b s m) = CM.cut b s m xs) := by show _ = _; rw [← CM.cut_length b s m xs, List.take_length]
  have HU := Lib.hid hv
  rw [hn] at HU ⊢
  obtain ⟨i0, hi, hz0, hz1, hz2⟩ := info_parts u8info
  have HI := Lib.hid hi; clear hi
  have HZ0 := Lib.hid hz0; clear hz0
  have HZ1 := Lib.hid hz1; clear hz1
  have HZ2 := Lib.hid hz2; clear hz2
  obtain ⟨i1, hi', hz0', hz1', hz2'⟩ := info_parts bytesinfo
  have HI' := Lib.hid hi'; clear hi'
  have HZ0' := Lib.hid hz0'; clear hz0'
  have HZ1' := Lib.hid hz1'; clear hz1'
  have HZ2' := Lib.hid hz2'; clear hz2'
  obtain ⟨i2, hi'', hz0'', hz1'', hz2''⟩ := info_parts byteslistinfo
  have HI'' := Lib.hid hi''; clear hi''
  have HZ0'' := Lib.hid hz0''; clear hz0''
  have HZ1'' := Lib.hid hz1''; clear hz1''
  have HZ2'' := Lib.hid hz2''; clear hz2''
  have HN := Lib.hid hn
  generalize CM.cut b s m xs = L at *
  generalize CM.bl b s m = n at *
  generalize CM.sy b s = y at *
  generalize hkk : CM.kk b s m = kk at *
  have HR := Lib.hid h
  clear h hn hkk hv HLO
  obtain ⟨Y, hYY⟩ : ∃ Y, Y = y * s := ⟨_, rfl⟩
  rw [← hYY] at hY hhi HMOD HPART
  have HYY := Lib.hid hYY
  clear hYY
  go_enter Try.func19, Try.ntmps19
  go_wp2_with fail
  generalize hw1 : World.alloc w _ = w1
  have hx1 : w.Extends w1 := by subst hw1; exact prm_ext_alloc _ _
  have hp : PAt w1 w.heap.size b s m := by subst hw1; exact PAt.new w 23 b s m
  generalize w.heap.size = bx at hp ⊢
  clear hw1
  have HX1 := Lib.hid hx1
  have HP1 := Lib.hid hp
  have hb1 := hp.lt
  obtain ⟨p0, p1, p2⟩ := hp
  clear hx1
  refine (rright_yes b s m w1 HR.out).mono ?_
  rintro e w2 ⟨rfl, hx⟩
  have HX2 := Lib.hid (Gr.ext_trans HX1.out hx)
  have HP2 := Lib.hid (HP1.out.ext hx)
  have hb2 := HP2.out.lt
  clear p0 p1 p2 hx
  obtain ⟨p0, p1, p2⟩ := HP2.out
  go_wp2_with fail
  refine (rsum_any 0 _ [] w2 (Rws.nil _ _ _)).mono ?_
  rintro e w3 ⟨rfl, hb3, ho3⟩
  have hc0 : RM.cut 0 = 0 := by decide
  rw [hc0] at ho3 ⊢
  have HO3 : Hid (w3.ownsRow w2.heap.size 5 1 (.slice (some ⟨w2.heap.size, 0, none⟩) 0 0) 0 (u8vs [])) := ho3.owns (Nat.le_refl _)
  have hx3 := ext_below hb3 rfl
  have HX3 := Lib.hid (Gr.ext_trans HX2.out hx3)
  have HP3 := Lib.hid (HP2.out.ext hx3)
  have hs3 := hx3.size
  have HX23 := Lib.hid hx3
  clear p0 p1 p2 hb3 ho3 hc0 hx3
  have HB2 : Hid (w.heap.size ≤ w2.heap.size) := HX2.out.size
  generalize w2.heap.size = g at *
  go_wp2_with (at_builtin; refine wpList_append_own_src _ rfl _ _ 24 24 rfl g 5 i0 (.int .u8 0) 1 1 Try.underlying24 HI.out HZ0.out HZ1.out HZ2.out rfl _ _ _ rfl HO3.out _ b (u8vs xs) rfl (by have := (HU.out.ext HX3.out).src Try.underlying24; rw [HN.out] at this; exact this) (by unfold maxLen; omega) (by omega) (by omega) ?_)
  intro u w4 ho4 hg4 _
  have HO4 : Hid (w4.ownsRow g 5 1 u (b + 0) (u8vs (xs ++ List.replicate 0 0))) := by
    show World.ownsRow _ _ _ _ _ _ _
    rw [List.replicate_zero, List.append_nil]; exact ho4
  have HX4 : Hid (w.Extends w4) := ext_own HX3.out hg4 (fun x hx => by cases hx; exact HB2.out)
  have HP4 : Hid (PAt w4 bx b s m) := HP3.out.own hg4 (fun x hx => by cases hx; exact hb2)
  have hs4 : g ≤ w4.heap.size := Nat.le_trans hs3 hg4.size
  clear ho4 hg4 HO3
  go_wp2_with fail
  go_loopw [6] (fun u wr => ∃ z : Nat, b + z ≤ Y ∧ Hid (wr.ownsRow g 5 1 u (b + z) (u8vs (xs ++ List.replicate z 0))) ∧ Hid (w.Extends wr) ∧ Hid (PAt wr bx b s m) ∧ Hid (g ≤ wr.heap.size)) (fun u _ => Y - slen u)
  case atStart => exact ⟨0, by omega, HO4, HX4, HP4, Lib.hid hs4⟩
  case round =>
    obtain ⟨z, hz, HO, HX, HP, HS⟩ := hrel
    obtain ⟨ua, uc, rfl⟩ := owns_slice HO.out
    obtain ⟨p0, p1, p2⟩ := HP.out
    have hbr := HP.out.lt
    have HM := Lib.hid (HMOD.out z hz)
    obtain ⟨t, ht⟩ : ∃ t, t = b + z := ⟨_, rfl⟩
    rw [← ht] at HO HM hz ⊢
    have HT := Lib.hid ht
    clear ht
    have hrm : (t : Int) % s = (t % s : Nat) := by rw [Int.natCast_emod]
    obtain ⟨r, hr⟩ : ∃ r, r = t % s := ⟨_, rfl⟩
    rw [← hr] at HM hrm
    clear hr
    have hs0 := HS.out
    by_cases h7 : r = 0
    · subst h7
      obtain rfl : t = Y := HM.out.1 rfl
      have HO5 := HO.out
      rw [HPAD.out, ← HT.out] at HO5
      have HU5 : Hid (U8s wr (.slice ua t uc) (CM.pad t xs)) := owns_u8s HO5 (CM.pad_lt t xs HLT.out)
      obtain ⟨ga, cap, e, hc1, hc2⟩ := owns_at HO5 (by omega)
      cases e
      have HX5 := HX
      have HP5 := HP
      clear HO HO5 HX HP HM p0 p1 p2 hbr
      obtain ⟨w5, hw5⟩ : ∃ w5, w5 = wr := ⟨_, rfl⟩
      rw [← hw5] at HU5 HX5 HP5 hs0 HS ⊢
      clear hw5 wr
      have hb5 := HP5.out.lt
      obtain ⟨p0, p1, p2⟩ := HP5.out
      go_wp2_with fail
      clear p0 p1 p2 hrm
      go_loopw [7, 8, 9] (fun o nn i wr => ∃ q : Nat, q ≤ n ∧ i = .int .i64 q ∧ nn = .int .i64 (CM.ahead y n q * s : Nat) ∧ Hid (w5.Extends wr) ∧ Hid (Mts wr w5.heap.size 29 24 o q (L.take q))) (fun _ _ i _ => (n - intOf i).toNat)
      case atStart => exact ⟨0, by omega, rfl, by rw [HA0.out]; simp, Lib.hid (Gr.ext_refl _), by rw [HC0.out]; exact Lib.hid (Mts.nil _ _ _ _)⟩
      case round =>
        obtain ⟨q, hq, rfl, rfl, HX, HM⟩ := hrel
        have HPr := Lib.hid (HP5.out.ext HX.out)
        have hbr := HPr.out.lt
        obtain ⟨p0, p1, p2⟩ := HPr.out
        go_wp2_with fail
        refine (HB.out wr).mono ?_
        rintro e wo ⟨rfl, hx⟩
        have HXo := Lib.hid (Gr.ext_trans HX.out hx)
        have HMo := Lib.hid (HM.out.ext hx)
        have HPo := Lib.hid (HPr.out.ext hx)
        clear HX HM HPr hbr p0 p1 p2 hx
        by_cases h8 : q < n
        · have HKQ := Lib.hid (fun w => HK.out w q h8)
          have HDQ := Lib.hid (HKI.out q h8)
          have hkl := HKL.out q
          have HAQ := Lib.hid (HAS.out q)
          have haq := HAL.out (q + 1) (by omega)
          have HSQ := Lib.hid (HSN.out q h8)
          rw [HAQ.out, ← HDQ.out] at haq
          generalize kk q = k at *
          generalize CM.ahead y n q = a at *
          obtain ⟨oa, oc, rfl⟩ := HMo.out.slice
          go_wp2_with fail
          go_loopw [8, 10, 11] (fun nn l i wr => ∃ z : Nat, z ≤ k ∧ i = .int .i64 z ∧ nn = .int .i64 ((a + z) * s : Nat) ∧ Hid (wo.Extends wr) ∧ Hid (Mats wr wo.heap.size 0 24 l z (CM.blk s xs a z))) (fun _ _ i _ => (k - intOf i).toNat)
          case atStart => exact ⟨0, by omega, rfl, rfl, Lib.hid (Gr.ext_refl _), Lib.hid (Mats.nil _ _ _ _ _)⟩
          case round =>
            obtain ⟨z, hz, rfl, rfl, HX, HM⟩ := hrel
            have HPr := Lib.hid (HPo.out.ext HX.out)
            have hbr := HPr.out.lt
            obtain ⟨p0, p1, p2⟩ := HPr.out
            obtain ⟨pp, hpp⟩ : ∃ pp, pp = (a + z) * s := ⟨_, rfl⟩
            rw [← hpp]
            have HPP := Lib.hid hpp
            clear hpp
            go_wp2_with fail
            refine (HKQ.out wr).mono ?_
            rintro e w7 ⟨rfl, hx⟩
            have HX7 := Lib.hid (Gr.ext_trans HX.out hx)
            have HM7 := Lib.hid (HM.out.ext hx)
            have HP7 := Lib.hid (HPr.out.ext hx)
            have hb7 := HP7.out.lt
            clear HX HM HPr hbr p0 p1 p2 hx
            obtain ⟨p0, p1, p2⟩ := HP7.out
            by_cases h9 : z < k
            · obtain ⟨hpe, hple⟩ := HPART.out (a + z) (by omega)
              rw [← HPP.out] at hpe hple
              have HUP : Hid (U8s w7 (.slice (some ⟨ga, pp, none⟩) s (uc - pp)) (CM.sym s xs (a + z))) := by
                have hu := HU5.out.ext (Gr.ext_trans HXo.out HX7.out)
                have hu' : U8s w7 (.slice (some ⟨ga, 0, none⟩) (CM.pad t xs).length uc) (CM.pad t xs) := by rw [CM.pad_length]; exact hu
                obtain ⟨a', e, hv⟩ := hu'.sliced pp (pp + s) (by omega) (by rw [CM.pad_length]; exact hple)
                rw [hpe] at hv
                have e2 : Go.sliced (some ⟨ga, 0, none⟩) pp (pp + s) uc 1 = .slice (some ⟨ga, pp, none⟩) s (uc - pp) := by
                  unfold Go.sliced
                  rw [if_neg (by omega)]
                  simp [Addr.add_mid]
                rw [e2] at e
                injection e with e3 e4 e5
                subst e3
                rw [show pp + s - pp = s by omega] at hv
                exact hv
              have HSL := Lib.hid (CM.sym_length s xs (a + z))
              have HSLT := Lib.hid (CM.sym_lt s xs (a + z) HLT.out)
              have HBS := Lib.hid (CM.blk_snoc s xs a z)
              have HBL := Lib.hid (CM.blk_length s xs a z)
              generalize CM.sym s xs (a + z) = row at *
              have HSRC : Hid (Src Try.prog 1 24 (.slice (some ⟨ga, pp, none⟩) (pp + s - pp) (uc - pp)) s (u8vs row) w7) := by
                show Src _ _ _ _ _ _ _
                rw [show pp + s - pp = s by omega]
                have := HUP.out.src Try.underlying24
                rw [HSL.out] at this
                exact this
              have hnc : ¬ uc = pp := by omega
              have hsz7 := HX7.out.size
              obtain ⟨la, lc, rfl⟩ := HM7.out.slice
              go_wp2_with (at_builtin; refine wpList_append_own_src _ rfl (.const (.slice none 0 0)) _ 24 24 rfl wo.heap.size 5 i0 (.int .u8 0) 1 1 Try.underlying24 HI.out HZ0.out HZ1.out HZ2.out rfl _ _ _ rfl (World.ownsRow_nil _ _ _ _) _ s (u8vs row) rfl HSRC.out (by unfold maxLen; omega) (by omega) (by omega) ?_)
              intro x8 w8 ho8 hg8 _
              have hx8 : w7.Extends w8 := ext_own (Gr.ext_refl _) hg8 (fun x hx => by cases hx)
              have HX8 := Lib.hid (Gr.ext_trans HX7.out hx8)
              have HM8 := Lib.hid (HM7.out.ext hx8)
              have HOK8 : Hid (RowOk w8 0 x8 row) := owns_rowok ho8 HSLT.out
              obtain ⟨ra, rc, rfl⟩ := owns_slice ho8
              have hb8 : bx < w8.heap.size := Nat.lt_of_lt_of_le hb7 hx8.size
              have hsz8 := HX8.out.size
              have HP8 := Lib.hid (HP7.out.ext hx8)
              obtain ⟨vs, hown, hrows⟩ := HM8.out
              have HOWN := Lib.hid hown
              have HROWS := Lib.hid hrows
              have HNE : Hid (∀ x, (Value.slice la z lc).ownBlock = some x → wo.heap.size ≤ x) := fun x hx => (HOWN.out.lt x hx).1
              clear ho8 hg8 hx8 hown hrows HM7 HSRC HUP p0 p1 p2
              go_wp2_with (at_builtin; refine wpList_append_own_src _ rfl _ _ 29 29 rfl wo.heap.size 24 i1 (.slice none 0 0) 1 24 Try.underlying29 HI'.out HZ0'.out HZ1'.out HZ2'.out rfl _ _ _ rfl (HOWN.out.alloc _) _ 1 [.slice ra s rc] rfl (src_one Try.underlying29 _ _ rfl rfl) (by unfold maxLen; omega) (by omega) (by simp; omega) ?_)
              intro v9 w9 ho9 hg9 _
              have HX9 : Hid (wo.Extends w9) := ext_own (Gr.ext_trans HX8.out (ext_alloc _ _)) hg9 HNE.out
              have HP9 : Hid (PAt w9 bx b s m) := HPo.out.ext HX9.out
              have HM9 : Hid (Mats w9 wo.heap.size 0 24 v9 (z + 1) (CM.blk s xs a (z + 1))) := by
                show Mats _ _ _ _ _ _ _
                rw [← HBS.out]
                exact Mats.snoc (Nat.zero_le _) (by decide) HBL.out.symm (HOWN.out.alloc _) (fun j hj => by obtain ⟨x, e1, e2⟩ := HROWS.out j hj; exact ⟨x, e1, e2.ext (ext_alloc _ _)⟩) (HOK8.out.ext (ext_alloc _ _)) hg9 ho9
              obtain ⟨xa, xc, rfl⟩ := HM9.out.slice
              obtain ⟨p0, p1, p2⟩ := HP9.out
              have hb9 := HP9.out.lt
              have HPN : Hid (pp + s = (a + (z + 1)) * s) := by show _ = _; rw [HPP.out, ← Nat.add_assoc, Nat.add_mul _ 1, Nat.one_mul]
              clear ho9 hg9 HOWN HROWS HNE HM8
              go_wp2
              go_roundw
              case rel => exact ⟨z + 1, by omega, by go_num, by rw [← HPN.out]; go_num, HX9, HM9⟩
              case measure => simp [intOf]; omega
            · obtain rfl : z = k := by omega
              obtain ⟨la, lc, rfl⟩ := HM7.out.slice
              have HMS : Hid (Mats w7 w5.heap.size w5.heap.size 24 (.slice la z lc) (CM.blk s xs a z).length (CM.blk s xs a z)) := by
                show Mats _ _ _ _ _ _ _
                rw [CM.blk_length]; exact (HM7.out.base HXo.out.size).raise (Nat.zero_le _)
              have HXW := Lib.hid (Gr.ext_trans HXo.out HX7.out)
              have hs7 := HXW.out.size
              obtain ⟨vs, hown, hrows⟩ := HMo.out.ext HX7.out
              have HOWN := Lib.hid hown
              have HROWS := Lib.hid hrows
              have HNE : Hid (∀ x, (Value.slice oa q oc).ownBlock = some x → w5.heap.size ≤ x) := fun x hx => (HOWN.out.lt x hx).1
              clear hown hrows p0 p1 p2
              go_wp2_with (at_builtin; refine wpList_append_own_src _ rfl _ _ 25 25 rfl w5.heap.size 29 i2 (.slice none 0 0) 1 24 Try.underlying25 HI''.out HZ0''.out HZ1''.out HZ2''.out rfl _ _ _ rfl (HOWN.out.alloc _) _ 1 [.slice la z lc] rfl (src_one Try.underlying25 _ _ rfl rfl) (by unfold maxLen; omega) (by omega) (by simp; omega) ?_)
              intro v9 w9 ho9 hg9 _
              have HX9 : Hid (w5.Extends w9) := ext_own (Gr.ext_trans HXW.out (ext_alloc _ _)) hg9 HNE.out
              have HM9 : Hid (Mts w9 w5.heap.size 29 24 v9 (q + 1) (L.take (q + 1))) := by
                show Mts _ _ _ _ _ _ _
                rw [← HSQ.out]
                exact Mts.snoc (by decide) (by decide) (by rw [List.length_take, HCL.out]; omega) (HOWN.out.alloc _) (fun j hj => by obtain ⟨x, e1, e2⟩ := HROWS.out j hj; exact ⟨x, e1, e2.ext (ext_alloc _ _)⟩) (HMS.out.ext (ext_alloc _ _)) hg9 ho9
              have HPN : Hid (CM.ahead y n (q + 1) * s = pp) := by show _ = _; rw [HPP.out, HAQ.out, ← HDQ.out]
              clear ho9 hg9 HOWN HROWS HNE
              go_wp2
              go_roundw
              case rel => exact ⟨q + 1, by omega, by go_num, by rw [HPN.out], HX9, HM9⟩
              case measure => simp [intOf]; omega
        · obtain rfl : q = n := by omega
          have HF : Hid (w.Extends wo ∧ RwsL wo u7 L) := by
            have hm := HMo.out
            rw [HCE.out] at hm
            exact ⟨Gr.ext_trans HX5.out HXo.out, hm.rws HCL.out.symm⟩
          go_wp2
          go_returns
          exact ⟨_, by rfl, HF.out.1, HF.out.2⟩
    · have hne : ((r : Int) != 0) = true := by simp; omega
      have hlt : t < Y := by
        rcases Nat.lt_or_ge t Y with h' | h'
        · exact h'
        · exact absurd (HM.out.2 (by omega)) h7
      have HNE : Hid (∀ x, (Value.slice ua t uc).ownBlock = some x → g ≤ x) := fun x hx => (HO.out.lt x hx).1
      go_wp2_with (at_builtin; refine wpList_append_own_src _ rfl _ _ 24 24 rfl g 5 i0 (.int .u8 0) 1 1 Try.underlying24 HI.out HZ0.out HZ1.out HZ2.out rfl _ _ _ rfl (HO.out.alloc _) _ 1 [.int .u8 0] rfl (src_one Try.underlying24 _ _ rfl rfl) (by unfold maxLen; omega) (by omega) (by simp; omega) ?_)
      intro v' w' ho' hg' _
      have HP' : Hid (w'.ownsRow g 5 1 v' (t + 1) (u8vs (xs ++ List.replicate (z + 1) 0)) ∧ w.Extends w' ∧ PAt w' bx b s m ∧ g ≤ w'.heap.size) :=
        ⟨by rw [← u8vs_zero]; exact ho', ext_own (Gr.ext_trans HX.out (ext_alloc _ _)) hg' (fun x hx => Nat.le_trans HB2.out (HNE.out x hx)), (HP.out.ext (ext_alloc _ _)).own hg' (fun x hx => Nat.lt_of_lt_of_le hb2 (HNE.out x hx)), Nat.le_trans (Nat.le_trans hs0 (by simp)) hg'.size⟩
      obtain ⟨xa, xc, rfl⟩ := owns_slice HP'.out.1
      clear ho' hg'
      go_wp2
      go_roundw
      case rel => exact ⟨z + 1, by have := HT.out; omega, by rw [show b + (z + 1) = t + 1 by have := HT.out; omega]; exact Lib.hid HP'.out.1, Lib.hid HP'.out.2.1, Lib.hid HP'.out.2.2.1, Lib.hid HP'.out.2.2.2⟩
      case measure => simp [slen]; omega
end Go.Proofs.Ytomfgkgdlpajeaa
