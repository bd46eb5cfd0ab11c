/- slices.DeleteFunc of contacts, in place. -/
import Derived.Test.YtmbbhmmciidfnaaBkIdx
import Derived.Laws.IdiomRangeMap
namespace Go.Proofs.Ytmbbhmmciidfnaa
set_option maxRecDepth 20000
open Go.RowKit Go.Deep
set_option linter.unusedVariables false
abbrev cfilt (q : Ct → Bool) (l : List Ct) : List Ct := l.filter fun c => !q c
/-- What is answered lies where it lay, and what is behind it is zero. -/
def CDelOut (w : World) (g o cap : Nat) (T : TypeId) (pre : List Value) (l : List Ct) (post : List Value) (n : Nat) (e : Ending) (w' : World) : Prop :=
  e = .returned (.slice (some ⟨g, o, none⟩) l.length cap) ∧ CAt w' g T pre (l ++ List.replicate (n - l.length) z21) post ∧ w.grownBy w' (some g)
theorem take_snocc (l : List Ct) (j : Nat) (h : j < l.length) : l.take (j + 1) = l.take j ++ [l.getD j z21] := by
  rw [List.take_add_one, List.getElem?_eq_getElem h, List.getD_eq_getElem?_getD, List.getElem?_eq_getElem h]; rfl
theorem cf_yes {q : Ct → Bool} {l : List Ct} {j : Nat} (h : j < l.length) (hq : q (l.getD j z21) = true) : cfilt q (l.take (j + 1)) = cfilt q (l.take j) := by
  unfold cfilt
  rw [take_snocc l j h, List.filter_append, List.filter_cons]
  simp only [hq]
  simp
theorem cf_no {q : Ct → Bool} {l : List Ct} {j : Nat} (h : j < l.length) (hq : q (l.getD j z21) = false) : cfilt q (l.take (j + 1)) = cfilt q (l.take j) ++ [l.getD j z21] := by
  unfold cfilt
  rw [take_snocc l j h, List.filter_append, List.filter_cons]
  simp only [hq]
  simp
theorem cf_first {q : Ct → Bool} {l : List Ct} : ∀ m, m ≤ cfnd q l → cfilt q (l.take m) = l.take m
  | 0, _ => by simp [cfilt]
  | m + 1, h => by
    have hl := cfnd_le q l
    rw [cf_no (by omega) (cfnd_lt q l m (by omega)), cf_first m (by omega), take_snocc l m (by omega)]
theorem cf_start {q : Ct → Bool} {l : List Ct} (h : cfnd q l < l.length) : cfilt q (l.take (cfnd q l + 1)) = l.take (cfnd q l) := by
  rw [cf_yes h (cfnd_at q l h), cf_first _ (Nat.le_refl _)]
theorem cf_none {q : Ct → Bool} {l : List Ct} (h : ¬ cfnd q l < l.length) : cfilt q l = l := by
  have hl := cfnd_le q l
  have := cf_first (q := q) (l := l) l.length (by omega)
  rwa [List.take_length] at this
theorem drop_getD {l L : List Ct} {j : Nat} (hl : L.length = l.length) (h : L.drop j = l.drop j) : L.getD j z21 = l.getD j z21 := by
  have := congrArg (fun x => x[0]?) h
  simp only [List.getElem?_drop, Nat.add_zero] at this
  rw [List.getD_eq_getElem?_getD, List.getD_eq_getElem?_getD, this]
theorem drop_next {l L : List Ct} {j : Nat} (h : L.drop j = l.drop j) : L.drop (j + 1) = l.drop (j + 1) := by
  rw [← List.drop_drop, h, List.drop_drop]
theorem set_take {L : List Ct} {i : Nat} (c : Ct) (h : i < L.length) : (L.set i c).take (i + 1) = L.take i ++ [c] := by
  rw [List.set_eq_take_append_cons_drop, if_pos h, List.take_append, List.take_of_length_le (by rw [List.length_take]; omega), List.length_take, show i + 1 - min i L.length = 1 by omega]
  rfl
theorem set_drop {L : List Ct} {i j : Nat} (c : Ct) (h : i < j) : (L.set i c).drop j = L.drop j := List.drop_set_of_lt h
set_option maxHeartbeats 4000000 in
theorem cdel_any (F c : Nat) (hen : CEnters F) (q : Ct → Bool) (g o cap n : Nat) (T : TypeId) (pre post : List Value) (l : List Ct) (w : World) (hA : CAt w g T pre l post) (ho : pre.length = o) (hn : l.length = n) (hnc : n ≤ cap) (hcap : cap ≤ 1000000) (hF : CTells F c q w) (hc : c < w.heap.size) (hcg : c ≠ g) :
    Calls Try.prog 13 #[.slice (some ⟨g, o, none⟩) n cap, .func (.func F) #[] #[.pointer (some ⟨c, 0, none⟩)]] w (CDelOut w g o cap T pre (cfilt q l) post n) := by
  have HI := Lib.hid (cidx_any F c hen q g o cap n l w hn (by omega) (fun k hk => hA.range (by omega) (by omega)) hA.lt hF hc)
  have HF := Lib.hid hF
  have HA0 := Lib.hid hA
  have HN := Lib.hid hn
  have HO := Lib.hid ho
  clear hF hA hn ho
  go_enter Try.func13, Try.ntmps13
  go_wp2_with fail
  refine HI.out.mono ?_
  rintro e w2 ⟨rfl, hx2⟩
  clear HI
  by_cases hk : cfnd q l < l.length
  · rw [show cidx q l = ((cfnd q l : Nat) : Int) from if_pos hk]
    have HST := Lib.hid (cf_start hk)
    have HYES : Hid (∀ j, j < n → q (l.getD j z21) = true → cfilt q (l.take (j + 1)) = cfilt q (l.take j)) := fun j hj hq => cf_yes (HN.out ▸ hj) hq
    have HNO : Hid (∀ j, j < n → q (l.getD j z21) = false → cfilt q (l.take (j + 1)) = cfilt q (l.take j) ++ [l.getD j z21]) := fun j hj hq => cf_no (HN.out ▸ hj) hq
    have HALL : Hid (cfilt q (l.take n) = cfilt q l) := by rw [← HN.out, List.take_length]; rfl
    rw [HN.out] at hk
    have HX2 := Lib.hid hx2
    clear hx2
    generalize cfnd q l = k0 at *
    have hk1 : (((k0 : Nat) : Int) == -1) = false := by simp
    go_wp2_with fail
    go_loopw [5, 6] (fun s5 s6 wr => ∃ (i j : Nat) (L : List Ct), i < j ∧ j ≤ n ∧ s5 = .int .i64 i ∧ s6 = .int .i64 j ∧ Hid (CAt wr g T pre L post) ∧ Hid (L.length = n) ∧ Hid (L.take i = cfilt q (l.take j)) ∧ Hid (i ≤ n) ∧ Hid (L.drop j = l.drop j) ∧ Hid (w.grownBy wr (some g))) (fun _ s6 _ => n - (intOf s6).toNat)
    case atStart =>
      exact ⟨k0, k0 + 1, l, by omega, by omega, rfl, by go_num, HA0.out.ext HX2.out, HN, HST.out.symm, by show k0 ≤ n; omega, by show l.drop _ = _; rfl, grown_below (Gr.below_of HX2.out) (Nat.le_refl _)⟩
    case round =>
      obtain ⟨i, j, L, hij, hj, rfl, rfl, HA, HLN, HTK, HIN, HDR, HG⟩ := hrel
      by_cases h1 : j < n
      · have hr := HA.out.range (o := o + j * 21) (k := j) (by rw [HO.out]) (by rw [HLN.out]; exact h1)
        rw [drop_getD (by rw [HLN.out, HN.out]) HDR.out] at hr
        have HY := Lib.hid (HYES.out j h1)
        have HNN := Lib.hid (HNO.out j h1)
        have HCLF : Hid (∀ wb : World, wb.heap[c]? = w.heap[c]? → Calls Try.prog F #[CV (l.getD j z21), .pointer (some ⟨c, 0, none⟩)] wb fun e w2 => e = .returned (.bool (q (l.getD j z21))) ∧ wb.Extends w2) := fun wb h => HF.out (l.getD j z21) wb h
        generalize l.getD j z21 = p at *
        generalize hb : q p = b at *
        have HB := Lib.hid hb
        clear hb
        obtain ⟨x, hx⟩ : ∃ x, CV p = x := ⟨_, rfl⟩
        have HXV := Lib.hid hx
        rw [hx] at HCLF
        clear hx
        have hgr : g < wr.heap.size := HA.out.lt
        have HBX0 : Hid (CAt (wr.alloc (.cells (CL z21).toArray 28)) wr.heap.size 28 [] [z21] []) := CAt.box wr _ z21
        go_wp2_with (first | (refine wpList_load_ct rfl (.tmp 24) rfl g (o + j * 21) p x HXV.out rfl hr ?_) | (refine wpList_store_ct rfl (.tmp 7) (.tmp 25) rfl wr.heap.size 0 0 p 28 [] [] [z21] rfl HXV.out.symm HBX0.out rfl (Nat.zero_lt_one) ?_) | fail)
        intro wb hab hgb
        have hxb : wr.Extends wb := ext_own (ext_alloc wr (.cells (CL z21).toArray 28)) hgb (fun y hy => by have := Option.some.inj hy; omega)
        have hbx := hab.range (o := 0) (k := 0) rfl Nat.zero_lt_one
        have hcb : wb.heap[c]? = w.heap[c]? := (hxb.block c (Nat.lt_of_lt_of_le hc HG.out.size)).trans (HG.out.block c hc (by simpa using hcg))
        have HCL := Lib.hid (HCLF.out wb hcb)
        obtain ⟨y, hy⟩ : ∃ y, y = wr.heap.size := ⟨_, rfl⟩
        rw [← hy] at hbx ⊢
        have HBX : Hid (wb.rangeAt y 0 (CL p)) := hbx
        have hbx' := HBX.out
        have HXB := Lib.hid hxb
        clear hy hab hgb hxb hcb hbx HBX0
        go_wp2_with (first | (refine wpList_load_ct rfl (.tmp 7) rfl y 0 p x HXV.out rfl hbx' ?_) | fail)
        refine HCL.out.mono ?_
        rintro e w3 ⟨rfl, hx3⟩
        have HX3 := Lib.hid (Gr.ext_trans HXB.out hx3)
        have HBX3 := Lib.hid (range_ext HBX.out hx3)
        have hbx3 := HBX3.out
        clear hx3 HCL HCLF HBX HXB hbx' hr
        cases b with
        | true =>
          have hfe := HY.out rfl
          have HR : Hid (CAt w3 g T pre L post ∧ L.take i = cfilt q (l.take (j + 1)) ∧ L.drop (j + 1) = l.drop (j + 1) ∧ w.grownBy w3 (some g)) :=
            ⟨HA.out.ext HX3.out, by rw [hfe]; exact HTK.out, drop_next HDR.out, grown_trans HG.out (grown_below (Gr.below_of HX3.out) (Nat.le_refl _))⟩
          clear hfe hbx3
          go_wp2
          go_roundw
          case rel => exact ⟨i, j + 1, L, by omega, by omega, rfl, by go_num, HR.out.1, HLN, HR.out.2.1, HIN, HR.out.2.2.1, HR.out.2.2.2⟩
          case measure => simp [intOf]; omega
        | false =>
          have hfe := HNN.out rfl
          have HA3 := Lib.hid (HA.out.ext HX3.out)
          have HFE := Lib.hid hfe
          clear hfe
          go_wp2_with (first | (refine wpList_load_ct rfl (.tmp 7) rfl y 0 p x HXV.out rfl hbx3 ?_) | (refine wpList_store_ct rfl (.tmp 33) (.tmp 32) rfl g (o + i * 21) i p T pre post L rfl HXV.out.symm HA3.out (by rw [HO.out]) (by rw [HLN.out]; omega) ?_) | fail)
          intro w4 ha4 hg4
          have HR : Hid (CAt w4 g T pre (L.set i p) post ∧ (L.set i p).length = n ∧ (L.set i p).take (i + 1) = cfilt q (l.take (j + 1)) ∧ (L.set i p).drop (j + 1) = l.drop (j + 1) ∧ w.grownBy w4 (some g)) :=
            ⟨ha4, by rw [List.length_set]; exact HLN.out, by rw [set_take p (by rw [HLN.out]; omega), HTK.out, HFE.out], by rw [set_drop p (by omega)]; exact drop_next HDR.out, grown_trans (grown_trans HG.out (grown_below (Gr.below_of HX3.out) (Nat.le_refl _))) hg4⟩
          clear ha4 hg4 hbx3
          go_wp2
          go_roundw
          case rel => exact ⟨i + 1, j + 1, _, by omega, by omega, by go_num, by go_num, HR.out.1, HR.out.2.1, HR.out.2.2.1, by show i + 1 ≤ n; omega, HR.out.2.2.2.1, HR.out.2.2.2.2⟩
          case measure => simp [intOf]; omega
      · obtain rfl : j = n := by omega
        have hb1 : ¬ cap = i := by omega
        have hb2 : ¬ cap = 0 := by omega
        obtain ⟨w5, hcl, ha5, hg5⟩ := HA.out.cleared HLN.out hij (o := o + i * 21) (by rw [HO.out]) (cap - i)
        have hcl0 := hcl 0
        have HP : Hid (CDelOut w g o cap T pre (cfilt q l) post j (.returned (.slice (some ⟨g, o, none⟩) i cap)) w5) := by
          have htk := HTK.out
          rw [HALL.out] at htk
          have hil : i = (cfilt q l).length := by rw [← htk, List.length_take, HLN.out]; omega
          rw [htk] at ha5
          refine ⟨by rw [← hil], ?_, grown_trans HG.out hg5⟩
          rw [← hil]; exact ha5
        clear hcl ha5 hg5
        go_wp2
        go_ret
        exact HP.out
  · rw [show cidx q l = -1 from if_neg hk]
    have HP : Hid (CDelOut w g o cap T pre (cfilt q l) post n (.returned (.slice (some ⟨g, o, none⟩) n cap)) w2) := by
      rw [cf_none hk]
      refine ⟨by rw [HN.out], ?_, grown_below (Gr.below_of hx2) (Nat.le_refl _)⟩
      rw [HN.out, Nat.sub_self, List.replicate_zero, List.append_nil]
      exact HA0.out.ext hx2
    clear hx2
    go_wp2
    go_ret
    exact HP.out
end Go.Proofs.Ytmbbhmmciidfnaa
