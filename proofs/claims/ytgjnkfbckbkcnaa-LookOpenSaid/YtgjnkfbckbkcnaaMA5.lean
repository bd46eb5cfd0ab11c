/- In one text: LokDown, LokPush, LokAdd, LokTake, LokTook, LokSet. -/
import Derived.Great.BuildSlice
import Derived.Laws.ResultCell
import Derived.Test.YtgjnkfbckbkcnaaRows
import Derived.WalkKit
import Derived.Handy
import Derived.Lib.Hide
import Derived.Maps.OwnSet
import Derived.Test.YtgjnkfbckbkcnaaMA1
import Derived.Test.YtgjnkfbckbkcnaaMA4
namespace Go.Proofs.Ytgjnkfbckbkcnaa
set_option maxRecDepth 20000
open Go.RowKit Go.Deep
set_option linter.unusedVariables false
def DownOut (g n : Nat) (l : List Cd) (post : List Value) (w : World) (e : Ending) (w' : World) : Prop :=
  ∃ b, e = .returned (.bool b) ∧ ∃ l', l'.Perm l ∧ HM.Heap dlt z22 n l' ∧ DAt w' g 55 [] l' post ∧ w.grownBy w' (some g) ∧ ∀ q, n ≤ q → l'.getD q z22 = l.getD q z22
set_option maxHeartbeats 2000000 in
theorem down_any (t o g cap n m : Nat) (l : List Cd) (post : List Value) (w : World) (hc : w.cell? ⟨t, o, none⟩ = some (.slice (some ⟨g, 0, none⟩) m cap)) (htg : t ≠ g) (htl : t < w.heap.size)
    (h : DAt w g 55 [] l post) (hm : l.length = m) (hnm : n ≤ m) (hnb : m ≤ 100000) (hok : ∀ c ∈ l, KY.Ok c.k) (hdn : HM.Dn dlt z22 n l 0) :
    Calls Try.prog 39 #[.iface 64 (.pointer (some ⟨t, o, none⟩)), .int .i64 0, .int .i64 (n : Nat)] w (DownOut g n l post w) := by
  have HC : Hid (∀ w', w.grownBy w' (some g) → w'.cell? ⟨t, o, none⟩ = some (.slice (some ⟨g, 0, none⟩) m cap)) := fun w' hg => (World.cell?_of_block (hg.block t htl (by simpa using htg))).trans hc
  have HW := dlt_wk
  have HWK := Lib.hid HW
  have H0 := Lib.hid h
  have HN0 := Lib.hid hm
  have HOK := Lib.hid hok
  have HUP := Lib.hid hdn
  clear h hm hok hdn HW hc
  go_enter Try.func39, Try.ntmps39
  go_wp2_with fail
  go_loopw [7] (fun s7 wr => ∃ (k : Nat) (lr : List Cd), k ≤ n ∧ s7 = .int .i64 k ∧ Hid (lr.Perm l) ∧ Hid (HM.Dn dlt z22 n lr k) ∧ Hid (DAt wr g 55 [] lr post) ∧ Hid (w.grownBy wr (some g)) ∧ Hid (∀ q, n ≤ q → lr.getD q z22 = l.getD q z22)) (fun s7 _ => (n - intOf s7).toNat)
  case atStart => exact ⟨0, l, by omega, rfl, List.Perm.refl _, HUP.out, H0.out, grown_refl _ _, fun _ _ => rfl⟩
  case round =>
    obtain ⟨k, lr, hk, rfl, HPM, HU, HD, HG, HST⟩ := hrel
    have hlen : lr.length = m := by rw [HPM.out.length_eq, HN0.out]
    have HLEN := Lib.hid hlen
    have HKO : Hid (∀ c ∈ lr, KY.Ok c.k) := fun c hc => HOK.out c (HPM.out.mem_iff.1 hc)
    clear hlen
    by_cases h0 : n ≤ 2 * k + 1
    · have HE : Hid (HM.Heap dlt z22 n lr) := HU.out.none h0
      go_wp2
      go_ret
      exact ⟨_, rfl, lr, HPM.out, HE.out, HD.out, HG.out, HST.out⟩
    · by_cases h2 : 2 * k + 2 < n
      · have hcw := HC.out wr HG.out
        have hm0 := qm_less hcw
        have HL0 := Lib.hid (qless_any g m cap (2 * k + 2) (2 * k + 1) lr post wr HD.out HLEN.out (by omega) (by omega) HKO.out)
        have ec : ((2 * k + 2 : Nat) : Int) = 2 * (k : Int) + 1 + 1 := by omega
        have ed : ((2 * k + 1 : Nat) : Int) = 2 * (k : Int) + 1 := by omega
        have HEC := Lib.hid ec
        have HED := Lib.hid ed
        rw [ec, ed] at HL0
        clear hcw ec ed
        go_wp2_with fail
        refine HL0.out.mono ?_
        rintro e wy ⟨rfl, hy⟩
        have HGx : Hid (w.grownBy wy (some g)) := grown_trans HG.out (grown_below (Gr.below_of hy) (Nat.le_refl _))
        have HDx : Hid (DAt wy g 55 [] lr post) := HD.out.ext hy
        clear hy HL0 hm0
        have hq : ∃ q, dlt (lr.getD (2 * k + 2) z22) (lr.getD (2 * k + 1) z22) = q := ⟨_, rfl⟩
        obtain ⟨q, hq⟩ := hq
        rw [hq]
        have HQ := Lib.hid hq
        clear hq
        cases q
        · obtain ⟨j, hj⟩ : ∃ j, 2 * k + 1 = j := ⟨_, rfl⟩
          have HEX : Hid (∀ c, 0 < c → c < n → (c - 1) / 2 = k → dlt (lr.getD c z22) (lr.getD j z22) = false) := fun c c0 c1 c2 => by
            have : c = 2 * k + 1 ∨ c = 2 * k + 2 := by omega
            rcases this with rfl | rfl
            · rw [← hj]; exact HWK.out.irr _
            · rw [← hj]; exact HQ.out
          have hjc : 2 * (k : Int) + 1 = (j : Int) := by omega
          have HUS : Hid (dlt (lr.getD j z22) (lr.getD k z22) = false → HM.Heap dlt z22 n lr) := fun hR => HU.out.stop HWK.out hR (by exact HEX.out)
          have HUN : Hid (dlt (lr.getD j z22) (lr.getD k z22) = true → HM.Dn dlt z22 n (HM.swap z22 lr k j) j) := fun hR => HU.out.step HWK.out (by rw [HLEN.out]; exact hnm) (by omega) (by omega) (by omega) hR (by exact HEX.out)
          have HPS := Lib.hid (HM.swap_perm (z := z22) lr (i := k) (j := j) (by rw [HLEN.out]; omega) (by rw [HLEN.out]; omega))
          have HSG := Lib.hid (fun q => HM.swap_get (z := z22) lr (i := k) (j := j) (by rw [HLEN.out]; omega) (by rw [HLEN.out]; omega) q)
          have hcx := HC.out wy HGx.out
          have hm1 := qm_less hcx
          have HLS := Lib.hid (qless_any g m cap j k lr post wy HDx.out HLEN.out (by omega) (by omega) HKO.out)
          clear hcx
          go_wp2_with fail
          refine HLS.out.mono ?_
          rintro e w1 ⟨rfl, hx1⟩
          have HG1 : Hid (w.grownBy w1 (some g)) := grown_trans HGx.out (grown_below (Gr.below_of hx1) (Nat.le_refl _))
          have HD1 : Hid (DAt w1 g 55 [] lr post) := HDx.out.ext hx1
          clear hx1 HLS hm1
          generalize dlt (lr.getD j z22) (lr.getD k z22) = q at *
          cases q
          · go_wp2
            go_ret
            exact ⟨_, rfl, lr, HPM.out, HUS.out (by simp), HD1.out, HG1.out, HST.out⟩
          · have hm2 := qm_swap (HC.out w1 HG1.out)
            have HSW := Lib.hid (qswap_any g m cap k j lr post w1 HD1.out HLEN.out (by omega) (by omega))
            go_wp2_with fail
            refine HSW.out.mono ?_
            rintro e w2 ⟨rfl, hd2, hg2⟩
            have HD2 := Lib.hid hd2
            have HG2 := Lib.hid (grown_trans HG1.out hg2)
            have HST2 : Hid (∀ q, n ≤ q → (HM.swap z22 lr k j).getD q z22 = l.getD q z22) := fun q hq => by
              rw [HSG.out, if_neg (by omega), if_neg (by omega)]; exact HST.out q hq
            clear hd2 hg2 HSW hm2
            go_wp2
            go_roundw
            case rel => exact ⟨j, HM.swap z22 lr k j, by omega, by go_num, HPS.out.trans HPM.out, HUN.out (by simp), HD2.out, HG2.out, HST2.out⟩
            case measure => simp [intOf]; omega
        · obtain ⟨j, hj⟩ : ∃ j, 2 * k + 2 = j := ⟨_, rfl⟩
          have HEX : Hid (∀ c, 0 < c → c < n → (c - 1) / 2 = k → dlt (lr.getD c z22) (lr.getD j z22) = false) := fun c c0 c1 c2 => by
            have : c = 2 * k + 1 ∨ c = 2 * k + 2 := by omega
            rcases this with rfl | rfl
            · rw [← hj]; exact HWK.out.asym HQ.out
            · rw [← hj]; exact HWK.out.irr _
          have hjc : 2 * (k : Int) + 1 + 1 = (j : Int) := by omega
          have HUS : Hid (dlt (lr.getD j z22) (lr.getD k z22) = false → HM.Heap dlt z22 n lr) := fun hR => HU.out.stop HWK.out hR (by exact HEX.out)
          have HUN : Hid (dlt (lr.getD j z22) (lr.getD k z22) = true → HM.Dn dlt z22 n (HM.swap z22 lr k j) j) := fun hR => HU.out.step HWK.out (by rw [HLEN.out]; exact hnm) (by omega) (by omega) (by omega) hR (by exact HEX.out)
          have HPS := Lib.hid (HM.swap_perm (z := z22) lr (i := k) (j := j) (by rw [HLEN.out]; omega) (by rw [HLEN.out]; omega))
          have HSG := Lib.hid (fun q => HM.swap_get (z := z22) lr (i := k) (j := j) (by rw [HLEN.out]; omega) (by rw [HLEN.out]; omega) q)
          have hcx := HC.out wy HGx.out
          have hm1 := qm_less hcx
          have HLS := Lib.hid (qless_any g m cap j k lr post wy HDx.out HLEN.out (by omega) (by omega) HKO.out)
          clear hcx
          go_wp2_with fail
          refine HLS.out.mono ?_
          rintro e w1 ⟨rfl, hx1⟩
          have HG1 : Hid (w.grownBy w1 (some g)) := grown_trans HGx.out (grown_below (Gr.below_of hx1) (Nat.le_refl _))
          have HD1 : Hid (DAt w1 g 55 [] lr post) := HDx.out.ext hx1
          clear hx1 HLS hm1
          generalize dlt (lr.getD j z22) (lr.getD k z22) = q at *
          cases q
          · go_wp2
            go_ret
            exact ⟨_, rfl, lr, HPM.out, HUS.out (by simp), HD1.out, HG1.out, HST.out⟩
          · have hm2 := qm_swap (HC.out w1 HG1.out)
            have HSW := Lib.hid (qswap_any g m cap k j lr post w1 HD1.out HLEN.out (by omega) (by omega))
            go_wp2_with fail
            refine HSW.out.mono ?_
            rintro e w2 ⟨rfl, hd2, hg2⟩
            have HD2 := Lib.hid hd2
            have HG2 := Lib.hid (grown_trans HG1.out hg2)
            have HST2 : Hid (∀ q, n ≤ q → (HM.swap z22 lr k j).getD q z22 = l.getD q z22) := fun q hq => by
              rw [HSG.out, if_neg (by omega), if_neg (by omega)]; exact HST.out q hq
            clear hd2 hg2 HSW hm2
            go_wp2
            go_roundw
            case rel => exact ⟨j, HM.swap z22 lr k j, by omega, by go_num, HPS.out.trans HPM.out, HUN.out (by simp), HD2.out, HG2.out, HST2.out⟩
            case measure => simp [intOf]; omega
      · obtain ⟨j, hj⟩ : ∃ j, 2 * k + 1 = j := ⟨_, rfl⟩
        have HGx := HG
        have HDx := HD
        have HEX : Hid (∀ c, 0 < c → c < n → (c - 1) / 2 = k → dlt (lr.getD c z22) (lr.getD j z22) = false) := fun c c0 c1 c2 => by
          have : c = 2 * k + 1 := by omega
          subst this
          rw [← hj]; exact HWK.out.irr _
        have hjc : 2 * (k : Int) + 1 = (j : Int) := by omega
        have HUS : Hid (dlt (lr.getD j z22) (lr.getD k z22) = false → HM.Heap dlt z22 n lr) := fun hR => HU.out.stop HWK.out hR (by exact HEX.out)
        have HUN : Hid (dlt (lr.getD j z22) (lr.getD k z22) = true → HM.Dn dlt z22 n (HM.swap z22 lr k j) j) := fun hR => HU.out.step HWK.out (by rw [HLEN.out]; exact hnm) (by omega) (by omega) (by omega) hR (by exact HEX.out)
        have HPS := Lib.hid (HM.swap_perm (z := z22) lr (i := k) (j := j) (by rw [HLEN.out]; omega) (by rw [HLEN.out]; omega))
        have HSG := Lib.hid (fun q => HM.swap_get (z := z22) lr (i := k) (j := j) (by rw [HLEN.out]; omega) (by rw [HLEN.out]; omega) q)
        have hcx := HC.out wr HGx.out
        have hm1 := qm_less hcx
        have HLS := Lib.hid (qless_any g m cap j k lr post wr HDx.out HLEN.out (by omega) (by omega) HKO.out)
        clear hcx
        go_wp2_with fail
        refine HLS.out.mono ?_
        rintro e w1 ⟨rfl, hx1⟩
        have HG1 : Hid (w.grownBy w1 (some g)) := grown_trans HGx.out (grown_below (Gr.below_of hx1) (Nat.le_refl _))
        have HD1 : Hid (DAt w1 g 55 [] lr post) := HDx.out.ext hx1
        clear hx1 HLS hm1
        generalize dlt (lr.getD j z22) (lr.getD k z22) = q at *
        cases q
        · go_wp2
          go_ret
          exact ⟨_, rfl, lr, HPM.out, HUS.out (by simp), HD1.out, HG1.out, HST.out⟩
        · have hm2 := qm_swap (HC.out w1 HG1.out)
          have HSW := Lib.hid (qswap_any g m cap k j lr post w1 HD1.out HLEN.out (by omega) (by omega))
          go_wp2_with fail
          refine HSW.out.mono ?_
          rintro e w2 ⟨rfl, hd2, hg2⟩
          have HD2 := Lib.hid hd2
          have HG2 := Lib.hid (grown_trans HG1.out hg2)
          have HST2 : Hid (∀ q, n ≤ q → (HM.swap z22 lr k j).getD q z22 = l.getD q z22) := fun q hq => by
            rw [HSG.out, if_neg (by omega), if_neg (by omega)]; exact HST.out q hq
          clear hd2 hg2 HSW hm2
          go_wp2
          go_roundw
          case rel => exact ⟨j, HM.swap z22 lr k j, by omega, by go_num, HPS.out.trans HPM.out, HUN.out (by simp), HD2.out, HG2.out, HST2.out⟩
          case measure => simp [intOf]; omega
end Go.Proofs.Ytgjnkfbckbkcnaa
namespace Go.Proofs.Ytgjnkfbckbkcnaa
set_option maxRecDepth 20000
open Go.RowKit Go.Deep
set_option linter.unusedVariables false
theorem wp_lit_cd {o : Oper} {a : Act} {K : Act → World → Prop} {Q : Exit → Act → World → Prop} {w : World} (x : Operand) (ho : o.op = .buildSlice 48 1 #[(0, x)]) (c : Cd) (hx : a.eval x = DV c)
    (h : K (a.put o.dst (.slice (some ⟨w.heap.size, 0, none⟩) 1 1)) (w.alloc (.cells (DL c).toArray 55))) : o.wp Try.prog a w K Q := by
  obtain ⟨i, hi, hz0, hz1, hz2⟩ := cdParts
  refine wp_buildSlice 48 55 1 _ ho (DL c).toArray i (DV z22) cdUnder hi hz0 (by rw [hz1]; decide) (by rw [hz1]; decide) ?_ h
  rw [hz1]
  have hsz : (Array.map (fun q => (DV z22).cells[q % (DV z22).cells.size]!) (Array.range (1 * 22))).size = 22 := by simp
  obtain ⟨r, hr, h1, h2⟩ := Great.fill_dense (s := 22) (by decide) [DV c] 0 (Array.map (fun q => (DV z22).cells[q % (DV z22).cells.size]!) (Array.range (1 * 22))) (fun v hv => by
    obtain rfl : v = DV c := by simpa using hv
    show (DL c).toArray.size = 22
    rw [List.size_toArray, DL_length]) (by rw [hsz]; simp)
  have e : r = (DL c).toArray := by
    apply Array.ext_getElem?
    intro k
    rw [h2 k]
    by_cases hk : k < 22
    · rw [if_pos ⟨by omega, by simpa using hk⟩, show k / 22 - 0 = 0 by omega, show k % 22 = k by omega]
      rfl
    · rw [if_neg (by simp; omega), Array.getElem?_eq_none (by rw [hsz]; omega), Array.getElem?_eq_none (by rw [List.size_toArray, DL_length]; omega)]
  subst e
  have hp : (Array.map (fun (q : Nat × Operand) => (q.1, a.eval q.2)) #[(0, x)]).toList = List.map (fun x => (x.snd, x.fst)) [DV c].zipIdx := by
    rw [← hx]; simp
  rw [← hr]
  show Instr.fill _ _ (Array.map (fun (q : Nat × Operand) => (q.1, a.eval q.2)) #[(0, x)]).toList = _
  rw [hp]
theorem lit_srcD {w : World} {y : Nat} {c : Cd} (h : DAt w y 55 [] [c] []) : Src Try.prog 22 48 (.slice (some ⟨y, 0, none⟩) 1 1) 1 (flatD [c]) w := h.src rfl rfl 1
/-- At offset o of block t lies a queue: the slice v of the candidates l. -/
structure QIs (w : World) (t o : Nat) (v : Value) (l : List Cd) : Prop where
  row : ∃ cs T, w.heap[t]? = some (.cells cs T (0, 0)) ∧ cs[o]? = some v
  own : OwnD w 0 v l
  ne : v.ownBlock ≠ some t
/-- What a call leaves that writes a queue alone. -/
structure QW (w : World) (t o : Nat) (v v' : Value) (w' : World) : Prop where
  os : w'.os = w.os
  tape : w'.tape = w.tape
  output : w'.output = w.output
  size : w.heap.size ≤ w'.heap.size
  block : ∀ i, i < w.heap.size → i ≠ t → v.ownBlock ≠ some i → w'.heap[i]? = w.heap[i]?
  here : ∀ cs T, w.heap[t]? = some (.cells cs T (0, 0)) → w'.heap[t]? = some (.cells (cs.setIfInBounds o v') T (0, 0))
  new : v'.ownBlock = v.ownBlock ∨ ∃ g, v'.ownBlock = some g ∧ w.heap.size ≤ g
section
variable {w w1 w2 w' : World} {t o : Nat} {v v1 v2 v' : Value} {l l' : List Cd}
theorem QIs.lt (h : QIs w t o v l) : t < w.heap.size := by
  obtain ⟨cs, T, h1, _⟩ := h.row
  exact (Array.getElem?_eq_some_iff.1 h1).1
theorem QIs.cell (h : QIs w t o v l) : w.cell? ⟨t, o, none⟩ = some v := by
  obtain ⟨cs, T, h1, h2⟩ := h.row
  rw [cell_of_row _ _ _ _ _ _ h1]; exact h2
theorem QIs.frozen (h : QIs w t o v l) : w.frozen? ⟨t, o, none⟩ = false := by
  obtain ⟨cs, T, h1, h2⟩ := h.row
  exact frozen_of_row _ _ _ _ _ h1
theorem QIs.ext (h : QIs w t o v l) (hx : w.Extends w') : QIs w' t o v l := by
  obtain ⟨cs, T, h1, h2⟩ := h.row
  exact ⟨⟨cs, T, (hx.block t h.lt).trans h1, h2⟩, h.own.ext hx, h.ne⟩
theorem QIs.grown (h : QIs w t o v l) (hg : w.grownBy w' v.ownBlock) (ho : OwnD w' 0 v l') : QIs w' t o v l' := by
  obtain ⟨cs, T, h1, h2⟩ := h.row
  exact ⟨⟨cs, T, (hg.block t h.lt (fun e => h.ne e.symm)).trans h1, h2⟩, ho, h.ne⟩
theorem QIs.put (h : QIs w t o v l) (ho : OwnD w 0 v' l') (hn : v'.ownBlock ≠ some t) : QIs (w.setCell ⟨t, o, none⟩ v') t o v' l' := by
  obtain ⟨cs, T, h1, h2⟩ := h.row
  refine ⟨⟨cs.setIfInBounds o v', T, heap_setCell_same _ _ _ _ _ _ h1, ?_⟩, ho.kept (grown_setCell (grown_refl _ _) o v') (.inr hn), hn⟩
  have := (Array.getElem?_eq_some_iff.1 h2).1
  simp [this]
theorem QW.of_grown (h : QIs w t o v l) (hg : w.grownBy w' v.ownBlock) : QW w t o v v w' := by
  refine ⟨hg.os, hg.tape, hg.output, hg.size, fun i hi _ hv => hg.block i hi (fun e => hv e.symm), fun cs T h1 => ?_, .inl rfl⟩
  obtain ⟨cs', T', h2, h3⟩ := h.row
  rw [h1] at h2
  simp only [Option.some.injEq, Obj.cells.injEq] at h2
  obtain ⟨rfl, rfl, _⟩ := h2
  rw [hg.block t h.lt (fun e => h.ne e.symm), h1]
  congr 2
  obtain ⟨h4, h5⟩ := Array.getElem?_eq_some_iff.1 h3
  apply Array.ext_getElem?
  intro k
  rw [Array.getElem?_setIfInBounds]
  split
  · rename_i e; subst e; simp [h4, h5]
  · rfl
theorem QW.set (w : World) (v : Value) (h : v'.ownBlock = v.ownBlock ∨ ∃ g, v'.ownBlock = some g ∧ w.heap.size ≤ g) : QW w t o v v' (w.setCell ⟨t, o, none⟩ v') := by
  have hg : w.grownBy (w.setCell ⟨t, o, none⟩ v') (some t) := grown_setCell (grown_refl _ _) o v'
  exact ⟨hg.os, hg.tape, hg.output, hg.size, fun i hi hne _ => hg.block i hi (by simpa using hne), fun cs T h1 => heap_setCell_same _ _ _ _ _ _ h1, h⟩
theorem QW.trans (h : QW w t o v v1 w1) (k : QW w1 t o v1 v2 w2) : QW w t o v v2 w2 := by
  refine ⟨k.os.trans h.os, k.tape.trans h.tape, k.output.trans h.output, Nat.le_trans h.size k.size, fun i hi hne hv => ?_, fun cs T h1 => ?_, ?_⟩
  · refine (k.block i (Nat.lt_of_lt_of_le hi h.size) hne fun e => ?_).trans (h.block i hi hne hv)
    rcases h.new with h2 | ⟨g, h2, h3⟩
    · exact hv (h2 ▸ e)
    · rw [h2] at e; have := Option.some.inj e; omega
  · have := k.here _ _ (h.here cs T h1)
    simpa using this
  · rcases k.new with h2 | ⟨g, h2, h3⟩
    · rw [h2]; exact h.new
    · exact .inr ⟨g, h2, Nat.le_trans h.size h3⟩
theorem QW.ext (h : QIs w t o v l) (hx : w.Extends w') : QW w t o v v w' := QW.of_grown h (grown_below (Gr.below_of hx) (Nat.le_refl _))
end
theorem run_assert_cd (x : Value) (w : World) : (Instr.typeAssert (.iface 55 x) 20 55 false).run Try.prog w = .ok x w := by
  simp [Instr.typeAssert, run_underlying Try.underlying55]
def PushOut (t o : Nat) (l : List Cd) (c : Cd) (v : Value) (w : World) (e : Ending) (w' : World) : Prop := e = .returned (.tuple #[]) ∧ ∃ v', QIs w' t o v' (l ++ [c]) ∧ QW w t o v v' w'
set_option maxHeartbeats 2000000 in
theorem qpush_any (t o : Nat) (v : Value) (l : List Cd) (c : Cd) (w : World) (h : QIs w t o v l) (hl : l.length ≤ 9000) :
    Calls Try.prog 66 #[.pointer (some ⟨t, o, none⟩), .iface 55 (DV c)] w (PushOut t o l c v w) := by
  have H := Lib.hid h
  have HL := Lib.hid hl
  obtain ⟨va, vc, hv⟩ := h.own.slice
  obtain ⟨n, hn⟩ : ∃ n, l.length = n := ⟨_, rfl⟩
  rw [hn] at hv
  have HN := Lib.hid hn
  subst hv
  obtain ⟨xc, hxc⟩ : ∃ x, DV c = x := ⟨_, rfl⟩
  have HXC := Lib.hid hxc
  rw [hxc]
  have hta := run_assert_cd xc
  clear h hl hn hxc
  go_enter Try.func66, Try.ntmps66
  go_wp2_with fail
  refine GrR.region ((Value.slice va n vc).ownBlock) 8 [(false,0),(false,1),(false,2),(false,3),(false,4),(false,5),(true,6),(true,7)] (by kernel_rfl) (by kernel_rfl) (fun d _ _ _ _ h => by cases d <;> exact h) ?_
  simp only [Gr.pick, List.getElem?_cons_zero, List.getElem?_cons_succ, List.drop_succ_cons, List.drop_zero]
  generalize hwd : w.drew = wf at *
  have HD : Hid (QIs wf t o (.slice va n vc) l) := by rw [← hwd]; exact H.out.ext (Gr.ext_drew (Gr.ext_refl _))
  have HGD : Hid (w.grownBy wf (Value.slice va n vc).ownBlock) := by rw [← hwd]; exact grown_drew (grown_refl _ _)
  clear hwd
  iterate 3
    refine GrR.walk_t ?_ (Or.inl ⟨by rfl, ?_⟩) ?_
    rotate_left
    · intro w' hw'
      clear hw'
      go_simp
      try with_reducible rfl
    simp only [Act.put, List.setIfInBounds_toArray, List.set_cons_zero, List.set_cons_succ]
  refine GrR.walk_t ?_ (Or.inl ⟨by rfl, ?_⟩) ?_
  rotate_left
  · intro w' hw'
    have hc0 := (World.cell?_of_block (hw'.block t HD.out.lt (fun e => HD.out.ne e.symm))).trans HD.out.cell
    clear hw'
    go_simp
    try with_reducible rfl
  simp only [Act.put, List.setIfInBounds_toArray, List.set_cons_zero, List.set_cons_succ]
  iterate 2
    refine GrR.walk_t ?_ (Or.inl ⟨by rfl, ?_⟩) ?_
    rotate_left
    · intro w' hw'
      clear hw'
      go_simp
      try with_reducible rfl
    simp only [Act.put, List.setIfInBounds_toArray, List.set_cons_zero, List.set_cons_succ]
  refine GrR.walk_c (fun K hK => ?_)
  rw [if_pos (by rfl)]
  refine wp_lit_cd (.tmp 9) rfl c (by exact HXC.out.symm) ?_
  generalize hw : World.alloc wf _ = wl
  have HXL : Hid (wf.Extends wl ∧ DAt wl wf.heap.size 55 [] [c] []) := by subst hw; exact ⟨ext_alloc _ _, DAt.box wf _ c⟩
  have hgl : wf.grownBy wl (Value.slice va n vc).ownBlock := by subst hw; exact World.grownBy_alloc _ _ _
  have HGL := Lib.hid hgl
  simp only [Act.put, List.setIfInBounds_toArray, List.set_cons_zero, List.set_cons_succ]
  refine hK.out _ _ hgl ?_
  clear hK K hw hgl
  refine GrR.walk_c (fun K hK => ?_)
  rw [if_pos (by rfl)]
  refine wp_app_cds (.tmp 7) (.tmp 10) rfl 0 (.slice va n vc) l rfl (HD.out.own.ext HXL.out.1) _ 1 [c] rfl rfl (lit_srcD HXL.out.2) (by have := HL.out; show l.length + 1 ≤ 10000; omega) (Nat.zero_le _) ?_
  intro v7 w7 ho hg hn7
  have HG7 : Hid (wf.grownBy w7 (Value.slice va n vc).ownBlock) := grown_trans HGL.out hg
  have HO7 := Lib.hid ho
  have HN7 : Hid (v7.ownBlock = (Value.slice va n vc).ownBlock ∨ ∃ g', v7.ownBlock = some g' ∧ wl.heap.size ≤ g') := hn7
  simp only [Act.put, List.setIfInBounds_toArray, List.set_cons_zero, List.set_cons_succ]
  refine hK.out _ _ hg ?_
  clear hK K ho hg hn7
  refine GrR.walk_nil ?_
  have HQ7 : Hid (∃ cs T, w7.heap[t]? = some (.cells cs T (0, 0)) ∧ cs[o]? = some (.slice va n vc)) := by
    obtain ⟨cs, T, h1, h2⟩ := HD.out.row
    exact ⟨cs, T, (HG7.out.block t HD.out.lt (fun e => HD.out.ne e.symm)).trans h1, h2⟩
  have HNT : Hid (v7.ownBlock ≠ some t) := by
    rcases HN7.out with e | ⟨g', e, h⟩
    · rw [e]; exact HD.out.ne
    · intro e'; rw [e] at e'; have := Option.some.inj e'; have h1 := HD.out.lt; have h2 := HXL.out.1.size; omega
  have HFIN : Hid (PushOut t o l c (.slice va n vc) w (.returned (.tuple #[])) (w7.setCell ⟨t, o, none⟩ v7)) := by
    obtain ⟨cs, T, h1, h2⟩ := HQ7.out
    have hnew : v7.ownBlock = (Value.slice va n vc).ownBlock ∨ ∃ g', v7.ownBlock = some g' ∧ w7.heap.size ≤ g' ∨ (∃ g', v7.ownBlock = some g' ∧ w.heap.size ≤ g') := by
      rcases HN7.out with e | ⟨g', e, h⟩
      · exact .inl e
      · exact .inr ⟨g', .inr ⟨g', e, by have h1 := HGD.out.size; have h2 := HXL.out.1.size; omega⟩⟩
    have hgs : w7.grownBy (w7.setCell ⟨t, o, none⟩ v7) (some t) := grown_setCell (grown_refl _ _) o v7
    have hg07 := grown_trans HGD.out HG7.out
    refine ⟨rfl, v7, ⟨⟨cs.setIfInBounds o v7, T, heap_setCell_same _ _ _ _ _ _ h1, ?_⟩, HO7.out.kept hgs (.inr HNT.out), HNT.out⟩, ⟨hgs.os.trans hg07.os, hgs.tape.trans hg07.tape, hgs.output.trans hg07.output, Nat.le_trans hg07.size hgs.size, fun i hi hne hv => ?_, fun cs' T' h3 => ?_, ?_⟩⟩
    · have := (Array.getElem?_eq_some_iff.1 h2).1
      simp [this]
    · exact (hgs.block i (Nat.lt_of_lt_of_le hi hg07.size) (by simpa using hne)).trans (hg07.block i hi (fun e => hv e.symm))
    · have h4 := (hg07.block t (by rw [← Array.getElem?_eq_some_iff.1 h3 |>.2] at *; exact (Array.getElem?_eq_some_iff.1 h3).1) (fun e => H.out.ne e.symm)).trans h3
      exact heap_setCell_same _ _ _ _ _ _ h4
    · rcases hnew with e | ⟨_, h | h⟩
      · exact .inl e
      · exact .inr ⟨_, h.1, Nat.le_trans hg07.size h.2⟩
      · exact .inr h
  have hc7 : w7.cell? ⟨t, o, none⟩ = some (.slice va n vc) := by
    obtain ⟨cs, T, h1, h2⟩ := HQ7.out
    rw [cell_of_row _ _ _ _ _ _ h1]; exact h2
  have hf7 : w7.frozen? ⟨t, o, none⟩ = false := by
    obtain ⟨cs, T, h1, h2⟩ := HQ7.out
    exact frozen_of_row _ _ _ _ _ h1
  obtain ⟨xa, xcp, hx7⟩ := HO7.out.slice
  subst hx7
  clear HO7 HG7 HN7 HQ7 HNT HXL HGL HD HGD H
  generalize (l ++ [c]).length = el at *
  go_wp2
  go_end0
  exact HFIN.out
end Go.Proofs.Ytgjnkfbckbkcnaa
namespace Go.Proofs.Ytgjnkfbckbkcnaa
set_option maxRecDepth 20000
open Go.RowKit Go.Deep
set_option linter.unusedVariables false
def AddOut (t o : Nat) (l : List Cd) (c : Cd) (v : Value) (w : World) (e : Ending) (w' : World) : Prop :=
  e = .returned (.tuple #[]) ∧ ∃ v' l', l'.Perm (l ++ [c]) ∧ HM.Heap dlt z22 l'.length l' ∧ QIs w' t o v' l' ∧ QW w t o v v' w'
/-- A queue that is not empty has an array. -/
theorem QIs.array {w : World} {t o : Nat} {v : Value} {l : List Cd} (h : QIs w t o v l) (hl : 0 < l.length) : ∃ g cap post, v = .slice (some ⟨g, 0, none⟩) l.length cap ∧ g ≠ t ∧ DAt w g 55 [] l post := by
  rcases h.own.kinds with ⟨rfl, rfl⟩ | ⟨g, cap, rfl⟩
  · simp at hl
  · obtain ⟨_, _, _, post, hp⟩ := h.own.at_
    exact ⟨g, cap, post, rfl, fun e => h.ne (by rw [e]; rfl), hp⟩
/-- Behind a call that writes the array alone. -/
theorem QIs.again {w w' : World} {t o g n cap : Nat} {l l' : List Cd} {post : List Value} (h : QIs w t o (.slice (some ⟨g, 0, none⟩) n cap) l) (hp : l'.Perm l) (h0 : DAt w g 55 [] l post) (h1 : DAt w' g 55 [] l' post) (hg : w.grownBy w' (some g)) :
    QIs w' t o (.slice (some ⟨g, 0, none⟩) n cap) l' := by
  refine h.grown hg ?_
  have hl := hp.length_eq
  rcases h.own.2 with ⟨e, _⟩ | ⟨g', cap', cur, e, hB, hgg, hnc, hcm, hcs, htake⟩
  · cases e
  · cases e
    exact OwnD.of_at h.own hl h0 h1
set_option maxHeartbeats 1000000 in
theorem hpush_any (t o : Nat) (v : Value) (l : List Cd) (c : Cd) (w : World) (h : QIs w t o v l) (hl : l.length ≤ 9000) (hh : HM.Heap dlt z22 l.length l) (hok : ∀ x ∈ l, KY.Ok x.k) (hc : KY.Ok c.k) :
    Calls Try.prog 38 #[.iface 64 (.pointer (some ⟨t, o, none⟩)), .iface 55 (DV c)] w (AddOut t o l c v w) := by
  have HP := Lib.hid (qpush_any t o v l c w h hl)
  have HH := Lib.hid hh
  have HKO : Hid (∀ x ∈ l ++ [c], KY.Ok x.k) := fun x hx => by
    rcases List.mem_append.1 hx with hx | hx
    · exact hok x hx
    · rw [List.mem_singleton.1 hx]; exact hc
  have hm1 := qm_push w ⟨t, o, none⟩
  have HL := Lib.hid hl
  obtain ⟨xc, hxc⟩ : ∃ x, DV c = x := ⟨_, rfl⟩
  rw [hxc] at HP ⊢
  clear h hl hh hok hc hxc
  go_enter Try.func38, Try.ntmps38
  go_wp2_with fail
  refine HP.out.mono ?_
  rintro e w1 ⟨rfl, v1, hq1, hw1⟩
  obtain ⟨n, hn⟩ : ∃ n, l.length = n := ⟨_, rfl⟩
  have hn1 : (l ++ [c]).length = n + 1 := by rw [List.length_append, List.length_singleton, hn]
  obtain ⟨g, cap, post, rfl, hgt, hd⟩ := hq1.array (by omega)
  rw [hn1] at hq1 hw1
  have hnb : n ≤ 9000 := by rw [← hn]; exact HL.out
  have hcell := hq1.cell
  have hm2 := qm_len hcell
  have HLN := Lib.hid (qlen_any g (n + 1) cap w1)
  have HUP := Lib.hid (up_any t o g cap (n + 1) n (l ++ [c]) post w1 hcell (Ne.symm hgt) hq1.lt hd hn1 (by omega) (by omega) HKO.out (by
    have := HM.Up.start (x := c) HH.out
    rwa [hn] at this))
  have HQ1 := Lib.hid hq1
  have HW1 := Lib.hid hw1
  have HD1 := Lib.hid hd
  have HN := Lib.hid hn
  have HN1 := Lib.hid hn1
  have e1 : ((n + 1 : Nat) : Int) - 1 = (n : Int) := by omega
  clear hm1 HP hq1 hw1 hd hn hn1 hcell
  go_wp2_with fail
  refine HLN.out.mono ?_
  rintro e w2 ⟨rfl, rfl⟩
  go_wp2_with fail
  refine HUP.out.mono ?_
  rintro e w2 ⟨rfl, l', hp, hh, hd, hg⟩
  have HF : Hid (AddOut t o l c v w (.returned (.tuple #[])) w2) := by
    have hq2 := HQ1.out.again hp HD1.out hd hg
    refine ⟨rfl, _, l', hp, by rw [hp.length_eq, HN1.out]; exact hh, hq2, HW1.out.trans (QW.of_grown HQ1.out hg)⟩
  clear hp hh hd hg HUP HLN hm2
  go_wp2
  go_end0
  exact HF.out
set_option maxHeartbeats 1000000 in
theorem add_any (t o : Nat) (v : Value) (l : List Cd) (c : Cd) (w : World) (h : QIs w t o v l) (hl : l.length ≤ 9000) (hh : HM.Heap dlt z22 l.length l) (hok : ∀ x ∈ l, KY.Ok x.k) (hc : KY.Ok c.k) :
    Calls Try.prog 31 #[.pointer (some ⟨t, o, none⟩), DV c] w (AddOut t o l c v w) := by
  have HP : Hid (∀ w1, w.Extends w1 → Calls Try.prog 38 #[.iface 64 (.pointer (some ⟨t, o, none⟩)), .iface 55 (DV c)] w1 (AddOut t o l c v w)) := fun w1 hx =>
    (hpush_any t o v l c w1 (h.ext hx) hl hh hok hc).mono fun e w2 ⟨he, v', l', h1, h2, h3, h4⟩ => ⟨he, v', l', h1, h2, h3, (QW.ext h hx).trans h4⟩
  have HBX : Hid (∀ w1, w1 = w.alloc (.cells (DL c).toArray 55) → w.Extends w1 ∧ w1.rangeAt w.heap.size 0 (DL c)) := fun w1 e => by
    subst e
    exact ⟨ext_alloc _ _, (DAt.box w 55 c).range (k := 0) (by simp) (by simp)⟩
  obtain ⟨xc, hxc⟩ : ∃ x, DV c = x := ⟨_, rfl⟩
  rw [hxc] at HP
  have HXC := Lib.hid hxc
  clear h hl hh hok hc hxc
  go_enter Try.func31, Try.ntmps31
  go_upto_region 1 with fail
  generalize hw1 : World.alloc w _ = w1
  obtain ⟨hx1, hr1⟩ := HBX.out w1 hw1.symm
  have HX1 := Lib.hid hx1
  have HR1 := Lib.hid hr1
  generalize w.heap.size = s at *
  clear hw1 HBX hx1 hr1
  go_wp2_with (refine wpList_load_cd rfl (.tmp 3) rfl s 0 c xc HXC.out rfl HR1.out ?_)
  refine (HP.out w1 HX1.out).mono ?_
  rintro e w2 h2
  have H2 := Lib.hid h2
  obtain ⟨rfl, _⟩ := h2
  go_wp2
  go_end0
  exact H2.out
end Go.Proofs.Ytgjnkfbckbkcnaa
namespace Go.Proofs.Ytgjnkfbckbkcnaa
set_option maxRecDepth 20000
open Go.RowKit Go.Deep
set_option linter.unusedVariables false
def PopOut (t o : Nat) (l : List Cd) (x : Value) (v : Value) (w : World) (e : Ending) (w' : World) : Prop := e = .returned x ∧ ∃ v', QIs w' t o v' l ∧ QW w t o v v' w'
theorem DL_zero : (DL z22).toArray = #[.int .i64 0, .int .i64 0, .int .u8 0, .int .u8 0, .int .u8 0, .int .u8 0, .int .u8 0, .int .u8 0, .int .u8 0, .int .u8 0, .int .u8 0, .int .u8 0, .int .u8 0, .int .u8 0, .int .u8 0, .int .u8 0, .int .u8 0, .int .u8 0, .int .u8 0, .int .u8 0, .int .u8 0, .int .u8 0] := by rfl
set_option maxHeartbeats 1000000 in
theorem qpop_any (t o : Nat) (v : Value) (l : List Cd) (c : Cd) (w : World) (h : QIs w t o v (l ++ [c])) (hl : l.length ≤ 9000) :
    Calls Try.prog 65 #[.pointer (some ⟨t, o, none⟩)] w (PopOut t o l (.iface 55 (DV c)) v w) := by
  obtain ⟨n, hn⟩ : ∃ n, l.length = n := ⟨_, rfl⟩
  have hn1 : (l ++ [c]).length = n + 1 := by rw [List.length_append, List.length_singleton, hn]
  obtain ⟨g, cap, post, rfl, hgt, hd⟩ := h.array (by omega)
  rw [hn1] at h ⊢
  have hcap : n + 1 ≤ cap := h.own.at_.2.1
  have HR : Hid (w.rangeAt g (n * 22) (DL c)) := by
    have := hd.range (o := n * 22) (k := n) (by simp) (by omega)
    rwa [show (l ++ [c]).getD n z22 = c by rw [List.getD_eq_getElem?_getD, List.getElem?_append_right (by omega), hn, Nat.sub_self]; rfl] at this
  have hcell := h.cell
  have hfr := h.frozen
  have hcut := cutd_to g (n + 1) cap n (by omega)
  have HQ : Hid (∀ w1, w.Extends w1 → PopOut t o l (.iface 55 (DV c)) (.slice (some ⟨g, 0, none⟩) (n + 1) cap) w (.returned (.iface 55 (DV c))) (w1.setCell ⟨t, o, none⟩ (.slice (some ⟨g, 0, none⟩) n cap))) := fun w1 hx => by
    have hq1 := h.ext hx
    refine ⟨rfl, _, hq1.put ?_ (fun e => hgt (Option.some.inj e)), (QW.ext h hx).trans (QW.set w1 _ (.inl rfl))⟩
    have := hq1.own.cut (m := n) (by omega)
    rwa [List.take_append_of_le_length (by omega), List.take_of_length_le (by omega)] at this
  have HTL := Lib.hid h.lt
  have hnb : n ≤ 9000 := by omega
  obtain ⟨xc, hxc⟩ : ∃ x, DV c = x := ⟨_, rfl⟩
  rw [hxc] at HQ ⊢
  have HXC := Lib.hid hxc
  have HXS : Hid (xc = DV c) := hxc.symm
  clear h hd hn hn1 hl hxc
  have HZ : Hid (∀ w1, w1 = w.alloc (.cells #[.int .i64 0, .int .i64 0, .int .u8 0, .int .u8 0, .int .u8 0, .int .u8 0, .int .u8 0, .int .u8 0, .int .u8 0, .int .u8 0, .int .u8 0, .int .u8 0, .int .u8 0, .int .u8 0, .int .u8 0, .int .u8 0, .int .u8 0, .int .u8 0, .int .u8 0, .int .u8 0, .int .u8 0, .int .u8 0] 55) → w.Extends w1 ∧ DAt w1 w.heap.size 55 [] [z22] []) := fun w1 e => by
    subst e
    rw [← DL_zero]
    exact ⟨ext_alloc _ _, DAt.box w _ z22⟩
  go_enter Try.func65, Try.ntmps65
  go_wp2_with (first | (refine wpList_load_cd rfl (.tmp 14) rfl g (n * 22) c xc HXC.out rfl HR.out ?_) | (refine wpList_store_cd rfl (.tmp 4) (.tmp 15) rfl w.heap.size 0 0 c 55 [] [] [z22] rfl HXS.out (HZ.out _ rfl).2 rfl (by simp) ?_))
  intro w2 hd2 hg2
  have HX2 : Hid (w.Extends w2) := by
    have h1 := (HZ.out _ rfl).1
    exact Gr.ext_of ((Gr.below_of h1).grown hg2 (by simp) (fun q hq => by have := Option.some.inj hq; omega))
  have hcell2 := HX2.out.cell_of hcell
  have hfr2 : w2.frozen? ⟨t, o, none⟩ = false := by rw [HX2.out.frozen ⟨t, o, none⟩ HTL.out]; exact hfr
  have HF2 := Lib.hid (HQ.out w2 HX2.out)
  have HS2 : Hid ((w2.setCell ⟨t, o, none⟩ (.slice (some ⟨g, 0, none⟩) n cap)).rangeAt w.heap.size 0 (DL c)) := by
    have hne : w.heap.size ≠ t := by have := HTL.out; omega
    have := hd2.kept (w' := w2.setCell ⟨t, o, none⟩ (.slice (some ⟨g, 0, none⟩) n cap)) ((grown_setCell (grown_refl _ _) o _ : w2.grownBy _ (some t)).block _ hd2.lt (by simpa using hne))
    exact this.range (k := 0) (by simp) (by simp)
  generalize w.heap.size = s at *
  clear hd2 hg2 HZ hcell hfr HQ HR HX2
  go_wp2_with (refine wpList_load_cd rfl (.tmp 4) rfl s 0 c xc HXC.out rfl HS2.out ?_)
  go_ret
  exact HF2.out
def HPopOut (t o : Nat) (l : List Cd) (x : Value → Value) (v : Value) (w : World) (e : Ending) (w' : World) : Prop :=
  ∃ v' l' c, c = l.getD 0 z22 ∧ e = .returned (x (DV c)) ∧ (c :: l').Perm l ∧ HM.Heap dlt z22 l'.length l' ∧ QIs w' t o v' l' ∧ QW w t o v v' w'
theorem perm_last {l l' : List Cd} {n : Nat} (hl : l.length = n + 1) : l = l.take n ++ [l.getD n z22] := by
  apply List.ext_getElem?
  intro k
  rcases Nat.lt_trichotomy k n with h | h | h
  · rw [List.getElem?_append_left (by rw [List.length_take]; omega), List.getElem?_take_of_lt h]
  · subst h
    rw [List.getElem?_append_right (by rw [List.length_take]; omega), List.length_take, show k - min k l.length = 0 by omega, List.getD_eq_getElem?_getD, List.getElem?_eq_getElem (by omega)]
    rfl
  · rw [List.getElem?_eq_none (by omega), List.getElem?_eq_none (by rw [List.length_append, List.length_take, List.length_singleton]; omega)]
set_option maxHeartbeats 1000000 in
theorem hpop_any (t o : Nat) (v : Value) (l : List Cd) (w : World) (h : QIs w t o v l) (h0 : 0 < l.length) (hl : l.length ≤ 9000) (hh : HM.Heap dlt z22 l.length l) (hok : ∀ x ∈ l, KY.Ok x.k) :
    Calls Try.prog 32 #[.iface 64 (.pointer (some ⟨t, o, none⟩))] w (HPopOut t o l (.iface 55) v w) := by
  obtain ⟨n, hn⟩ : ∃ n, l.length = n + 1 := ⟨l.length - 1, by omega⟩
  obtain ⟨g, cap, post, rfl, hgt, hd⟩ := h.array h0
  rw [hn] at h hh hl ⊢
  have hcell := h.cell
  have hm1 := qm_len hcell
  have hm2 := qm_swap hcell
  have HLN := Lib.hid (qlen_any g (n + 1) cap w)
  have HSW : Hid (Calls Try.prog 61 #[.slice (some ⟨g, 0, none⟩) (n + 1) cap, .int .i64 0, .int .i64 (n : Nat)] w fun e w' => e = .returned (.tuple #[]) ∧ DAt w' g 55 [] (HM.swap z22 l 0 n) post ∧ w.grownBy w' (some g)) := qswap_any g (n + 1) cap 0 n l post w hd hn (by omega) (by omega)
  have HPS := Lib.hid (HM.swap_perm (z := z22) l (i := 0) (j := n) (by omega) (by omega))
  have HDN : Hid (HM.Dn dlt z22 n (HM.swap z22 l 0 n) 0) := HM.Dn.start hh hn
  have HLA : Hid ((HM.swap z22 l 0 n).getD n z22 = l.getD 0 z22) := by
    show _ = _
    rw [HM.swap_get l (by omega) (by omega), if_pos rfl]
  have HQ := Lib.hid h
  have HD := Lib.hid hd
  have HN := Lib.hid hn
  have HOK : Hid (∀ x ∈ l, KY.Ok x.k) := hok
  have HGT := Lib.hid hgt
  have e1 : ((n + 1 : Nat) : Int) - 1 = (n : Int) := by omega
  generalize HM.swap z22 l 0 n = ls at *
  clear h hn hd hh hok hcell h0
  go_enter Try.func32, Try.ntmps32
  go_wp2_with fail
  refine HLN.out.mono ?_
  rintro e w1 ⟨rfl, rfl⟩
  clear HLN hm1
  go_wp2_with fail
  refine HSW.out.mono ?_
  rintro e w1 ⟨rfl, hd1, hg1⟩
  have HQ1 := Lib.hid (HQ.out.again HPS.out HD.out hd1 hg1)
  have HW1 := Lib.hid (QW.of_grown HQ.out hg1)
  have HDW := Lib.hid (down_any t o g cap n (n + 1) ls post w1 HQ1.out.cell (Ne.symm HGT.out) HQ1.out.lt hd1 (by rw [HPS.out.length_eq, HN.out]) (by omega) (by omega) (fun c hc => HOK.out c (HPS.out.mem_iff.1 hc)) HDN.out)
  have HD1 := Lib.hid hd1
  clear hd1 hg1 hm2 HSW
  go_wp2_with fail
  refine HDW.out.mono ?_
  rintro e w2 ⟨b, rfl, l2, hp2, hh2, hd2, hg2, hst⟩
  have HQ2 := Lib.hid (HQ1.out.again hp2 HD1.out hd2 hg2)
  have HW2 := Lib.hid (HW1.out.trans (QW.of_grown HQ1.out hg2))
  have hl2 : l2.length = n + 1 := by rw [hp2.length_eq, HPS.out.length_eq, HN.out]
  have hsplit : l2 = l2.take n ++ [l.getD 0 z22] := by
    have := perm_last (l' := l2) hl2
    rwa [hst n (Nat.le_refl _), HLA.out] at this
  have hpm : (l.getD 0 z22 :: l2.take n).Perm l := by
    refine (List.perm_append_singleton _ _).symm.trans ?_
    rw [← hsplit]
    exact hp2.trans HPS.out
  have hht : HM.Heap dlt z22 (l2.take n).length (l2.take n) := by
    rw [List.length_take, Nat.min_eq_left (by omega)]
    exact hh2.take (Nat.le_refl _)
  have HPM := Lib.hid hpm
  have HHT := Lib.hid hht
  have HPO := Lib.hid (qpop_any t o _ (l2.take n) (l.getD 0 z22) w2 (hsplit ▸ HQ2.out) (by rw [List.length_take]; omega))
  have hm3 := qm_pop w2 ⟨t, o, none⟩
  clear hp2 hh2 hd2 hg2 hst hl2 hsplit hpm hht HDW
  generalize hlt : l2.take n = lt at *
  generalize hc0 : l.getD 0 z22 = c0 at *
  have HC0 := Lib.hid hc0
  clear hlt hc0
  go_wp2_with fail
  refine HPO.out.mono ?_
  rintro e w3 ⟨rfl, v', hq3, hw3⟩
  have HF : Hid (HPopOut t o l (.iface 55) (.slice (some ⟨g, 0, none⟩) (n + 1) cap) w (.returned (.iface 55 (DV c0))) w3) := ⟨v', lt, c0, HC0.out.symm, rfl, HPM.out, HHT.out, hq3, HW2.out.trans hw3⟩
  clear hq3 hw3 HPO hm3 HQ2 HW2
  generalize (DL c0).toArray = xs at *
  go_wp2
  go_ret
  exact HF.out
end Go.Proofs.Ytgjnkfbckbkcnaa
namespace Go.Proofs.Ytgjnkfbckbkcnaa
set_option maxRecDepth 20000
open Go.RowKit Go.Deep
set_option linter.unusedVariables false
theorem results_cd {fn : Func} {p : Tmp} (h : fn.results = #[.cell p 55]) (tmps : Array Value) (w : World) (g : Nat) (c : Cd)
    (hp : tmps.getD p undef = .pointer (some ⟨g, 0, none⟩)) (hr : w.rangeAt g 0 (DL c)) :
    (results fn tmps).run Try.prog w = .ok (DV c) w := by
  have hp' : tmps[p]?.getD undef = .pointer (some ⟨g, 0, none⟩) := by simpa using hp
  simp [results, h, hp', asAddr, run_cd_load hr]
set_option maxHeartbeats 1000000 in
theorem take_any (t o : Nat) (v : Value) (l : List Cd) (w : World) (h : QIs w t o v l) (h0 : 0 < l.length) (hl : l.length ≤ 9000) (hh : HM.Heap dlt z22 l.length l) (hok : ∀ x ∈ l, KY.Ok x.k) :
    Calls Try.prog 23 #[.pointer (some ⟨t, o, none⟩)] w (HPopOut t o l id v w) := by
  have HP : Hid (∀ w1, w.Extends w1 → Calls Try.prog 32 #[.iface 64 (.pointer (some ⟨t, o, none⟩))] w1 (HPopOut t o l (.iface 55) v w1)) := fun w1 hx => hpop_any t o v l w1 (h.ext hx) h0 hl hh hok
  have HZ : Hid (∀ w1, w1 = w.alloc (.cells #[.int .i64 0, .int .i64 0, .int .u8 0, .int .u8 0, .int .u8 0, .int .u8 0, .int .u8 0, .int .u8 0, .int .u8 0, .int .u8 0, .int .u8 0, .int .u8 0, .int .u8 0, .int .u8 0, .int .u8 0, .int .u8 0, .int .u8 0, .int .u8 0, .int .u8 0, .int .u8 0, .int .u8 0, .int .u8 0] 55) → w.Extends w1 ∧ DAt w1 w.heap.size 55 [] [z22] []) := fun w1 e => by
    subst e
    rw [← DL_zero]
    exact ⟨ext_alloc _ _, DAt.box w _ z22⟩
  have H := Lib.hid h
  have HS : Hid (w.heap.size ≠ t ∧ ∀ g, v.ownBlock = some g → g ≠ w.heap.size) := ⟨by have := h.lt; omega, fun g hg => by have := (h.own.block hg).2.1; omega⟩
  clear h h0 hl hh hok
  go_enter Try.func23, Try.ntmps23
  go_upto_region 1 with fail
  generalize hw1 : World.alloc w _ = w1
  obtain ⟨hx1, hd1⟩ := HZ.out w1 hw1.symm
  have HX1 := Lib.hid hx1
  have HD1 := Lib.hid hd1
  generalize hs : w.heap.size = s at *
  have HSZ := Lib.hid hs
  clear hw1 hx1 hd1 HZ hs
  go_wp2_with fail
  refine (HP.out w1 HX1.out).mono ?_
  rintro e w2 ⟨v', l', c, hc, rfl, hp, hh, hq, hw⟩
  have hta := run_assert_cd (DV c)
  have HD2 : Hid (DAt w2 s 55 [] [z22] []) := HD1.out.kept (hw.block s HD1.out.lt HS.out.1 (fun e => HS.out.2 s e rfl))
  have HQ := Lib.hid hq
  have HNW := Lib.hid hw.new
  have HW := Lib.hid ((QW.ext H.out HX1.out).trans hw)
  have HC := Lib.hid hc
  have HPM := Lib.hid hp
  have HH := Lib.hid hh
  clear hq hw hc hp hh HP
  obtain ⟨xc, hxc⟩ : ∃ x, DV c = x := ⟨_, rfl⟩
  have HXS : Hid (xc = DV c) := hxc.symm
  rw [hxc] at hta ⊢
  clear hxc
  go_wp2_with (refine wpList_store_cd rfl (.tmp 2) (.tmp 6) rfl s 0 0 c 55 [] [] [z22] rfl HXS.out HD2.out rfl (by simp) ?_)
  intro w3 hd3 hg3
  have HX3 : Hid (QIs w3 t o v' l' ∧ QW w t o v v' w3) := by
    have hne : ∀ i, i < w2.heap.size → i ≠ s → w3.heap[i]? = w2.heap[i]? := fun i hi hne => hg3.block i hi (by simpa using hne)
    obtain ⟨cs, T, h1, h2⟩ := HQ.out.row
    have hts : t ≠ s := Ne.symm HS.out.1
    have hvs : v'.ownBlock ≠ some s := fun e => by
      rcases HNW.out with e2 | ⟨g, e2, h3⟩
      · exact HS.out.2 s (e2 ▸ e) rfl
      · rw [e2] at e
        have := Option.some.inj e
        have := HD1.out.lt
        omega
    refine ⟨⟨⟨cs, T, (hne t HQ.out.lt hts).trans h1, h2⟩, HQ.out.own.kept hg3 (.inr hvs), HQ.out.ne⟩, ?_⟩
    have hw := HW.out
    refine ⟨hg3.os.trans hw.os, hg3.tape.trans hw.tape, hg3.output.trans hw.output, Nat.le_trans hw.size hg3.size, fun i hi h4 h5 => ?_, fun cs' T' h6 => ?_, hw.new⟩
    · exact (hne i (Nat.lt_of_lt_of_le hi hw.size) (by have := HSZ.out; omega)).trans (hw.block i hi h4 h5)
    · exact (hne t HQ.out.lt hts).trans (hw.here cs' T' h6)
  have hr3 := hd3.range (o := 0) (k := 0) (by simp) (by simp)
  go_wp2
  refine bodyPost_ret (v := DV c) (results_cd rfl _ _ s c rfl hr3) rfl ?_
  exact ⟨v', l', c, HC.out, rfl, HPM.out, HH.out, HX3.out.1, HX3.out.2⟩
end Go.Proofs.Ytgjnkfbckbkcnaa
namespace Go.Proofs.Ytgjnkfbckbkcnaa
set_option maxRecDepth 20000
open Go.RowKit Go.Deep Go.Maps
set_option linter.unusedVariables false
/-- A number that an int holds. -/
abbrev In64 (x : Int) : Prop := -9223372036854775808 ≤ x ∧ x ≤ 9223372036854775807
theorem in64_wf {x : Int} (h : In64 x) : (Lit.int .i64 x).wf = true := by
  have e1 : IntKind.i64.min = -9223372036854775808 := by decide
  have e2 : IntKind.i64.max = 9223372036854775807 := by decide
  show (decide (IntKind.i64.min ≤ x) && decide (x ≤ IntKind.i64.max)) = true
  rw [e1, e2, Bool.and_eq_true, decide_eq_true_eq, decide_eq_true_eq]
  exact h
theorem intKeyed : Keyed Try.prog 3 := int_keyed Try.underlying3
theorem zeroUnit (w : World) : (zeroValue 57).run Try.prog w = .ok (.agg #[]) w := by kernel_rfl
/-- Block m is a map: the set of the numbers l. -/
def SetAt (w : World) (m : Nat) (l : List Int) : Prop :=
  ∃ D : DataW Unit, w.ownsMap Try.prog 3 unitElem m l.length D ∧ (∀ x : Int, Maps.has D (.int .i64 x) = decide (x ∈ l)) ∧ Maps.size D = l.length
/-- Those that are not x. -/
def outI (x : Int) (l : List Int) : List Int := l.filter fun y => !decide (y = x)
theorem mem_outI {x y : Int} {l : List Int} : y ∈ outI x l ↔ y ∈ l ∧ y ≠ x := by simp [outI]
theorem outI_length {x : Int} {l : List Int} (h : l.Nodup) (hx : x ∈ l) : (outI x l).length + 1 = l.length := by
  induction l with
  | nil => simp at hx
  | cons a r ih =>
    rw [List.nodup_cons] at h
    unfold outI at *
    by_cases e : a = x
    · subst e
      have : r.filter (fun y => !decide (y = a)) = r := List.filter_eq_self.2 fun y hy => by
        have : y ≠ a := fun e => h.1 (e ▸ hy)
        simp [this]
      simp [this]
    · have := ih h.2 (by rcases List.mem_cons.1 hx with h1 | h1; exact absurd h1.symm e; exact h1)
      simp [e]
      omega
theorem outI_nodup {x : Int} {l : List Int} (h : l.Nodup) : (outI x l).Nodup := h.filter _
theorem outI_not {x : Int} {l : List Int} (h : x ∉ l) : outI x l = l := List.filter_eq_self.2 fun y hy => by
  have : y ≠ x := fun e => h (e ▸ hy)
  simp [this]
theorem SetAt.lt {w : World} {m : Nat} {l : List Int} (h : SetAt w m l) : m < w.heap.size := by
  obtain ⟨D, h1, _⟩ := h
  exact h1.lt
theorem SetAt.block {w : World} {m : Nat} {l : List Int} (h : SetAt w m l) : ∃ es c, w.heap[m]? = some (.map es c) := by
  obtain ⟨D, ⟨es, c, hb, _⟩, _⟩ := h
  exact ⟨es, c, hb⟩
theorem SetAt.kept {w w' : World} {m : Nat} {l : List Int} (h : SetAt w m l) (hk : w'.heap[m]? = w.heap[m]?) : SetAt w' m l := by
  obtain ⟨D, ⟨es, c, hb, hr⟩, h2⟩ := h
  exact ⟨D, ⟨es, c, hk.trans hb, hr⟩, h2⟩
theorem SetAt.ext {w w' : World} {m : Nat} {l : List Int} (h : SetAt w m l) (hx : w.Extends w') : SetAt w' m l := h.kept (hx.block m h.lt)
theorem SetAt.new (w : World) : SetAt (w.alloc (.map #[] 0)) w.heap.size [] := ⟨.map [], World.ownsMap_made _ _ _ _, fun x => by simp [Maps.has], rfl⟩
theorem SetAt.look {w : World} {m : Nat} {l : List Int} (h : SetAt w m l) {x : Int} (hx : In64 x) : (Instr.lookup 46 (.map (some m)) (.int .i64 x) true).run Try.prog w = .ok (.tuple #[.agg #[], .bool (decide (x ∈ l))]) w := by
  obtain ⟨D, h1, h2, h3⟩ := h
  obtain ⟨v, ps, hr, hv⟩ := h1.look_ok (zd := .agg []) (zp := []) intKeyed Try.underlying46 (zeroUnit w) unitElem_mk (keyOf_int_mk Try.underlying3 (in64_wf hx))
  obtain ⟨rfl, _⟩ := unitElem_inv hv
  rw [hr, h2]
theorem SetAt.len {w : World} {m : Nat} {l : List Int} (h : SetAt w m l) (ty : TypeId) : (Builtin.len_ #[46] ty #[.map (some m)]).run Try.prog w = .ok (.int .i64 ((l.length : Nat) : Int)) w := by
  obtain ⟨D, h1, h2, h3⟩ := h
  rw [h1.len Try.underlying46 ty, h3]
theorem SetAt.put {w : World} {m : Nat} {l : List Int} (h : SetAt w m l) {x : Int} (hx : In64 x) (hn : x ∉ l) (hl : l.length ≤ 100000) :
    ∃ w', (Instr.mapUpdate 46 (.map (some m)) (.int .i64 x) (.agg #[])).run Try.prog w = .ok () w' ∧ SetAt w' m (l ++ [x]) ∧ w.grownBy w' (some m) := by
  obtain ⟨D, h1, h2, h3⟩ := h
  obtain ⟨w', hr, h4, h5⟩ := h1.store (val := .agg #[]) intKeyed Try.underlying46 (by unfold maxLen; omega) (keyOf_int_mk Try.underlying3 (in64_wf hx)) unitElem_mk
  have hlen : (l ++ [x]).length = l.length + 1 := by simp
  refine ⟨w', hr, ⟨_, by rw [hlen]; exact h4, fun y => ?_, ?_⟩, h5.grown⟩
  · by_cases e : y = x
    · subst e
      rw [has_put_same (k := .int .i64 y) h1.isMap trivial]; simp
    · rw [has_put_other (by simpa using e), h2]
      simp [e]
  · rw [size_put (h1.tidy intKeyed), h2, h3, hlen]
    simp [hn]
theorem SetAt.del {w : World} {m : Nat} {l : List Int} (h : SetAt w m l) {x : Int} (hx : In64 x) (hn : x ∈ l) (hd : l.Nodup) :
    ∃ w', (∀ ty, (Builtin.delete_ #[46, 3] ty #[.map (some m), .int .i64 x]).run Try.prog w = .ok (.tuple #[]) w') ∧ SetAt w' m (outI x l) ∧ w.grownBy w' (some m) := by
  obtain ⟨D, h1, h2, h3⟩ := h
  have hk := keyOf_int_mk Try.underlying3 (in64_wf hx)
  obtain ⟨w', hr, h4, h5⟩ := h1.drop intKeyed Try.underlying46 hk 0
  have hlen := outI_length hd hn
  have hsz : Maps.size (D.del (.int .i64 x)) = (outI x l).length := by
    have := size_del (k := .int .i64 x) (h1.tidy intKeyed)
    rw [h2, h3] at this
    simp [hn] at this
    omega
  refine ⟨w', fun ty => ?_, ⟨_, ?_, fun y => ?_, hsz⟩, h5.grown⟩
  · exact hr
  · obtain ⟨es, c, hb, F, hs, e⟩ := h4
    refine ⟨es, c, hb, F, ?_, e⟩
    rw [← hsz, e, size_eq, length_sorted]; simp
  · by_cases e : y = x
    · subst e
      rw [has_del_same]; simp [outI]
    · rw [has_del_other (by simpa using e), h2]
      simp [outI, e]
theorem shas_any (m : Nat) (l : List Int) (x : Int) (w : World) (h : SetAt w m l) (hx : In64 x) :
    Calls Try.prog 28 #[.map (some m), .int .i64 x] w fun e w' => e = .returned (.bool (decide (x ∈ l))) ∧ w.Extends w' := by
  have HL : Hid (∀ w', w.Extends w' → (Instr.lookup 46 (.map (some m)) (.int .i64 x) true).run Try.prog w' = .ok (.tuple #[.agg #[], .bool (decide (x ∈ l))]) w') := fun w' hx' => (h.ext hx').look hx
  generalize decide (x ∈ l) = q at *
  clear h hx
  have hl0 := HL.out w (Gr.ext_refl w)
  have hl1 := HL.out _ (ext_alloc w (.cells #[] 57))
  go_enter Try.func28, Try.ntmps28
  go_wp2
  go_ret
  exact ⟨rfl, ext_alloc _ _⟩
end Go.Proofs.Ytgjnkfbckbkcnaa
