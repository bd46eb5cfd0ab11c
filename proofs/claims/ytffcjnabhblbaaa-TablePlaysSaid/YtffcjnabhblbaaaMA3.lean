/- In one text: BkDel, BkAt, BkDrop, BkAll, BkSee, BkLive, GrowB. -/
import Derived.Laws.IdiomRangeMap
import Derived.Deep.DeepCutAuto
import Derived.BigQuiet
import Derived.Handy
import Derived.BigRegion
import Derived.Test.YtffcjnabhblbaaaMA1
import Derived.Test.YtffcjnabhblbaaaMA2
namespace Go.Proofs.Ytffcjnabhblbaaa
set_option maxRecDepth 20000
open Go.RowKit Go.Deep
set_option linter.unusedVariables false
abbrev cfilt (q : Ct → Bool) (l : List Ct) : List Ct := l.filter fun c => !q c
/-- What is answered lies where it lay, and what is behind it is zero. -/
def CDelOut (w : World) (g o cap : Nat) (T : TypeId) (pre : List Value) (l : List Ct) (post : List Value) (n : Nat) (e : Ending) (w' : World) : Prop :=
  e = .returned (.slice (some ⟨g, o, none⟩) l.length cap) ∧ CAt w' g T pre (l ++ List.replicate (n - l.length) z21) post ∧ w.grownBy w' (some g)
theorem take_snocc (l : List Ct) (j : Nat) (h : j < l.length) : l.take (j + 1) = l.take j ++ [l.getD j z21] := by
  rw [List.take_add_one, List.getElem?_eq_getElem h, List.getD_eq_getElem?_getD, List.getElem?_eq_getElem h]; rfl
theorem cf_yes {q : Ct → Bool} {l : List Ct} {j : Nat} (h : j < l.length) (hq : q (l.getD j z21) = true) : cfilt q (l.take (j + 1)) = cfilt q (l.take j) := by
  unfold cfilt
  rw [take_snocc l j h, List.filter_append, List.filter_cons]
  simp only [hq]
  simp
theorem cf_no {q : Ct → Bool} {l : List Ct} {j : Nat} (h : j < l.length) (hq : q (l.getD j z21) = false) : cfilt q (l.take (j + 1)) = cfilt q (l.take j) ++ [l.getD j z21] := by
  unfold cfilt
  rw [take_snocc l j h, List.filter_append, List.filter_cons]
  simp only [hq]
  simp
theorem cf_first {q : Ct → Bool} {l : List Ct} : ∀ m, m ≤ cfnd q l → cfilt q (l.take m) = l.take m
  | 0, _ => by simp [cfilt]
  | m + 1, h => by
    have hl := cfnd_le q l
    rw [cf_no (by omega) (cfnd_lt q l m (by omega)), cf_first m (by omega), take_snocc l m (by omega)]
theorem cf_start {q : Ct → Bool} {l : List Ct} (h : cfnd q l < l.length) : cfilt q (l.take (cfnd q l + 1)) = l.take (cfnd q l) := by
  rw [cf_yes h (cfnd_at q l h), cf_first _ (Nat.le_refl _)]
theorem cf_none {q : Ct → Bool} {l : List Ct} (h : ¬ cfnd q l < l.length) : cfilt q l = l := by
  have hl := cfnd_le q l
  have := cf_first (q := q) (l := l) l.length (by omega)
  rwa [List.take_length] at this
theorem drop_getD {l L : List Ct} {j : Nat} (hl : L.length = l.length) (h : L.drop j = l.drop j) : L.getD j z21 = l.getD j z21 := by
  have := congrArg (fun x => x[0]?) h
  simp only [List.getElem?_drop, Nat.add_zero] at this
  rw [List.getD_eq_getElem?_getD, List.getD_eq_getElem?_getD, this]
theorem drop_next {l L : List Ct} {j : Nat} (h : L.drop j = l.drop j) : L.drop (j + 1) = l.drop (j + 1) := by
  rw [← List.drop_drop, h, List.drop_drop]
theorem set_take {L : List Ct} {i : Nat} (c : Ct) (h : i < L.length) : (L.set i c).take (i + 1) = L.take i ++ [c] := by
  rw [List.set_eq_take_append_cons_drop, if_pos h, List.take_append, List.take_of_length_le (by rw [List.length_take]; omega), List.length_take, show i + 1 - min i L.length = 1 by omega]
  rfl
theorem set_drop {L : List Ct} {i j : Nat} (c : Ct) (h : i < j) : (L.set i c).drop j = L.drop j := List.drop_set_of_lt h
set_option maxHeartbeats 4000000 in
theorem cdel_any (F c : Nat) (hen : CEnters F) (q : Ct → Bool) (g o cap n : Nat) (T : TypeId) (pre post : List Value) (l : List Ct) (w : World) (hA : CAt w g T pre l post) (ho : pre.length = o) (hn : l.length = n) (hnc : n ≤ cap) (hcap : cap ≤ 1000000) (hF : CTells F c q w) (hc : c < w.heap.size) (hcg : c ≠ g) :
    Calls Try.prog 40 #[.slice (some ⟨g, o, none⟩) n cap, .func (.func F) #[] #[.pointer (some ⟨c, 0, none⟩)]] w (CDelOut w g o cap T pre (cfilt q l) post n) := by
  have HI := Lib.hid (cidx_any F c hen q g o cap n l w hn (by omega) (fun k hk => hA.range (by omega) (by omega)) hA.lt hF hc)
  have HF := Lib.hid hF
  have HA0 := Lib.hid hA
  have HN := Lib.hid hn
  have HO := Lib.hid ho
  clear hF hA hn ho
  go_enter Try.func40, Try.ntmps40
  go_wp2_with fail
  refine HI.out.mono ?_
  rintro e w2 ⟨rfl, hx2⟩
  clear HI
  by_cases hk : cfnd q l < l.length
  · rw [show cidx q l = ((cfnd q l : Nat) : Int) from if_pos hk]
    have HST := Lib.hid (cf_start hk)
    have HYES : Hid (∀ j, j < n → q (l.getD j z21) = true → cfilt q (l.take (j + 1)) = cfilt q (l.take j)) := fun j hj hq => cf_yes (HN.out ▸ hj) hq
    have HNO : Hid (∀ j, j < n → q (l.getD j z21) = false → cfilt q (l.take (j + 1)) = cfilt q (l.take j) ++ [l.getD j z21]) := fun j hj hq => cf_no (HN.out ▸ hj) hq
    have HALL : Hid (cfilt q (l.take n) = cfilt q l) := by rw [← HN.out, List.take_length]; rfl
    rw [HN.out] at hk
    have HX2 := Lib.hid hx2
    clear hx2
    generalize cfnd q l = k0 at *
    have hk1 : (((k0 : Nat) : Int) == -1) = false := by simp
    go_wp2_with fail
    go_loopw [5, 6] (fun s5 s6 wr => ∃ (i j : Nat) (L : List Ct), i < j ∧ j ≤ n ∧ s5 = .int .i64 i ∧ s6 = .int .i64 j ∧ Hid (CAt wr g T pre L post) ∧ Hid (L.length = n) ∧ Hid (L.take i = cfilt q (l.take j)) ∧ Hid (i ≤ n) ∧ Hid (L.drop j = l.drop j) ∧ Hid (w.grownBy wr (some g))) (fun _ s6 _ => n - (intOf s6).toNat)
    case atStart =>
      exact ⟨k0, k0 + 1, l, by omega, by omega, rfl, by go_num, HA0.out.ext HX2.out, HN, HST.out.symm, by show k0 ≤ n; omega, by show l.drop _ = _; rfl, grown_below (Gr.below_of HX2.out) (Nat.le_refl _)⟩
    case round =>
      obtain ⟨i, j, L, hij, hj, rfl, rfl, HA, HLN, HTK, HIN, HDR, HG⟩ := hrel
      by_cases h1 : j < n
      · have hr := HA.out.range (o := o + j * 21) (k := j) (by rw [HO.out]) (by rw [HLN.out]; exact h1)
        rw [drop_getD (by rw [HLN.out, HN.out]) HDR.out] at hr
        have HY := Lib.hid (HYES.out j h1)
        have HNN := Lib.hid (HNO.out j h1)
        have HCLF : Hid (∀ wb : World, wb.heap[c]? = w.heap[c]? → Calls Try.prog F #[CV (l.getD j z21), .pointer (some ⟨c, 0, none⟩)] wb fun e w2 => e = .returned (.bool (q (l.getD j z21))) ∧ wb.Extends w2) := fun wb h => HF.out (l.getD j z21) wb h
        generalize l.getD j z21 = p at *
        generalize hb : q p = b at *
        have HB := Lib.hid hb
        clear hb
        obtain ⟨x, hx⟩ : ∃ x, CV p = x := ⟨_, rfl⟩
        have HXV := Lib.hid hx
        rw [hx] at HCLF
        clear hx
        have hgr : g < wr.heap.size := HA.out.lt
        have HBX0 : Hid (CAt (wr.alloc (.cells (CL z21).toArray 47)) wr.heap.size 47 [] [z21] []) := CAt.box wr _ z21
        go_wp2_with (first | (refine wpList_load_ct rfl (.tmp 24) rfl g (o + j * 21) p x HXV.out rfl hr ?_) | (refine wpList_store_ct rfl (.tmp 7) (.tmp 25) rfl wr.heap.size 0 0 p 47 [] [] [z21] rfl HXV.out.symm HBX0.out rfl (Nat.zero_lt_one) ?_) | fail)
        intro wb hab hgb
        have hxb : wr.Extends wb := ext_own (ext_alloc wr (.cells (CL z21).toArray 47)) hgb (fun y hy => by have := Option.some.inj hy; omega)
        have hbx := hab.range (o := 0) (k := 0) rfl Nat.zero_lt_one
        have hcb : wb.heap[c]? = w.heap[c]? := (hxb.block c (Nat.lt_of_lt_of_le hc HG.out.size)).trans (HG.out.block c hc (by simpa using hcg))
        have HCL := Lib.hid (HCLF.out wb hcb)
        obtain ⟨y, hy⟩ : ∃ y, y = wr.heap.size := ⟨_, rfl⟩
        rw [← hy] at hbx ⊢
        have HBX : Hid (wb.rangeAt y 0 (CL p)) := hbx
        have hbx' := HBX.out
        have HXB := Lib.hid hxb
        clear hy hab hgb hxb hcb hbx HBX0
        go_wp2_with (first | (refine wpList_load_ct rfl (.tmp 7) rfl y 0 p x HXV.out rfl hbx' ?_) | fail)
        refine HCL.out.mono ?_
        rintro e w3 ⟨rfl, hx3⟩
        have HX3 := Lib.hid (Gr.ext_trans HXB.out hx3)
        have HBX3 := Lib.hid (range_ext HBX.out hx3)
        have hbx3 := HBX3.out
        clear hx3 HCL HCLF HBX HXB hbx' hr
        cases b with
        | true =>
          have hfe := HY.out rfl
          have HR : Hid (CAt w3 g T pre L post ∧ L.take i = cfilt q (l.take (j + 1)) ∧ L.drop (j + 1) = l.drop (j + 1) ∧ w.grownBy w3 (some g)) :=
            ⟨HA.out.ext HX3.out, by rw [hfe]; exact HTK.out, drop_next HDR.out, grown_trans HG.out (grown_below (Gr.below_of HX3.out) (Nat.le_refl _))⟩
          clear hfe hbx3
          go_wp2
          go_roundw
          case rel => exact ⟨i, j + 1, L, by omega, by omega, rfl, by go_num, HR.out.1, HLN, HR.out.2.1, HIN, HR.out.2.2.1, HR.out.2.2.2⟩
          case measure => simp [intOf]; omega
        | false =>
          have hfe := HNN.out rfl
          have HA3 := Lib.hid (HA.out.ext HX3.out)
          have HFE := Lib.hid hfe
          clear hfe
          go_wp2_with (first | (refine wpList_load_ct rfl (.tmp 7) rfl y 0 p x HXV.out rfl hbx3 ?_) | (refine wpList_store_ct rfl (.tmp 33) (.tmp 32) rfl g (o + i * 21) i p T pre post L rfl HXV.out.symm HA3.out (by rw [HO.out]) (by rw [HLN.out]; omega) ?_) | fail)
          intro w4 ha4 hg4
          have HR : Hid (CAt w4 g T pre (L.set i p) post ∧ (L.set i p).length = n ∧ (L.set i p).take (i + 1) = cfilt q (l.take (j + 1)) ∧ (L.set i p).drop (j + 1) = l.drop (j + 1) ∧ w.grownBy w4 (some g)) :=
            ⟨ha4, by rw [List.length_set]; exact HLN.out, by rw [set_take p (by rw [HLN.out]; omega), HTK.out, HFE.out], by rw [set_drop p (by omega)]; exact drop_next HDR.out, grown_trans (grown_trans HG.out (grown_below (Gr.below_of HX3.out) (Nat.le_refl _))) hg4⟩
          clear ha4 hg4 hbx3
          go_wp2
          go_roundw
          case rel => exact ⟨i + 1, j + 1, _, by omega, by omega, by go_num, by go_num, HR.out.1, HR.out.2.1, HR.out.2.2.1, by show i + 1 ≤ n; omega, HR.out.2.2.2.1, HR.out.2.2.2.2⟩
          case measure => simp [intOf]; omega
      · obtain rfl : j = n := by omega
        have hb1 : ¬ cap = i := by omega
        have hb2 : ¬ cap = 0 := by omega
        obtain ⟨w5, hcl, ha5, hg5⟩ := HA.out.cleared HLN.out hij (o := o + i * 21) (by rw [HO.out]) (cap - i)
        have hcl0 := hcl 0
        have HP : Hid (CDelOut w g o cap T pre (cfilt q l) post j (.returned (.slice (some ⟨g, o, none⟩) i cap)) w5) := by
          have htk := HTK.out
          rw [HALL.out] at htk
          have hil : i = (cfilt q l).length := by rw [← htk, List.length_take, HLN.out]; omega
          rw [htk] at ha5
          refine ⟨by rw [← hil], ?_, grown_trans HG.out hg5⟩
          rw [← hil]; exact ha5
        clear hcl ha5 hg5
        go_wp2
        go_ret
        exact HP.out
  · rw [show cidx q l = -1 from if_neg hk]
    have HP : Hid (CDelOut w g o cap T pre (cfilt q l) post n (.returned (.slice (some ⟨g, o, none⟩) n cap)) w2) := by
      rw [cf_none hk]
      refine ⟨by rw [HN.out], ?_, grown_below (Gr.below_of hx2) (Nat.le_refl _)⟩
      rw [HN.out, Nat.sub_self, List.replicate_zero, List.append_nil]
      exact HA0.out.ext hx2
    clear hx2
    go_wp2
    go_ret
    exact HP.out
end Go.Proofs.Ytffcjnabhblbaaa
namespace Go.Proofs.Ytffcjnabhblbaaa
set_option maxRecDepth 20000
open Go.RowKit Go.Deep
set_option linter.unusedVariables false
theorem CAt.split {w : World} {g : Nat} {T : TypeId} {pre post : List Value} {a b : List Ct} : CAt w g T pre (a ++ b) post ↔ CAt w g T pre a (flatC b ++ post) := by
  unfold CAt
  rw [flatC_append, ← List.append_assoc, ← List.append_assoc]
/-- Behind pre in block g of type T lies a bucket with the contacts l. -/
structure BAt (w : World) (g : Nat) (T : TypeId) (pre : List Value) (l : List Ct) (post : List Value) : Prop where
  le : l.length ≤ 3
  at_ : CAt w g T pre (l ++ List.replicate (3 - l.length) z21) (.int .i64 (l.length : Nat) :: post)
theorem cgrown_set (w : World) (a : Addr) (v : Value) : w.grownBy (w.setCell a v) (some a.block) := ⟨rfl, rfl, rfl, by simp, fun k _ hk => heap_setCell_other w a k v (fun e => hk (by rw [e]))⟩
section
variable {w w' : World} {g : Nat} {T : TypeId} {pre post : List Value} {l : List Ct}
theorem BAt.lt (h : BAt w g T pre l post) : g < w.heap.size := h.at_.lt
theorem BAt.kept (h : BAt w g T pre l post) (hk : w'.heap[g]? = w.heap[g]?) : BAt w' g T pre l post := ⟨h.le, h.at_.kept hk⟩
theorem BAt.ext (h : BAt w g T pre l post) (hx : w.Extends w') : BAt w' g T pre l post := ⟨h.le, h.at_.ext hx⟩
theorem BAt.grown {r : Option Nat} (h : BAt w g T pre l post) (hg : w.grownBy w' r) (hr : some g ≠ r) : BAt w' g T pre l post := h.kept (hg.block g h.lt hr)
theorem three_len (h : l.length ≤ 3) : (l ++ List.replicate (3 - l.length) z21).length = 3 := by rw [List.length_append, List.length_replicate]; omega
theorem CAt.behind {L : List Ct} {n o : Nat} {v : Value} (h : CAt w g T pre L (v :: post)) (hL : L.length = n) (ho : o = pre.length + n * 21) : w.cell? ⟨g, o, none⟩ = some v := by
  rw [cell_of_row _ _ _ _ _ _ h, List.getElem?_toArray, List.getElem?_append_right (by rw [List.length_append, flatC_length]; omega), List.length_append, flatC_length, hL, ho, Nat.sub_self]
  rfl
theorem CAt.set_behind {L : List Ct} {n o : Nat} {v u : Value} (h : CAt w g T pre L (v :: post)) (hL : L.length = n) (ho : o = pre.length + n * 21) (hw : w' = w.setCell ⟨g, o, none⟩ u) : CAt w' g T pre L (u :: post) ∧ w.grownBy w' (some g) := by
  subst hw
  refine ⟨?_, cgrown_set _ _ _⟩
  unfold CAt
  rw [heap_setCell_same _ _ _ _ _ _ h]
  have e : o = (pre ++ flatC L).length := by rw [List.length_append, flatC_length, hL, ho]
  rw [e]
  simp
theorem BAt.count (h : BAt w g T pre l post) {o : Nat} (ho : pre.length = o) : w.cell? ⟨g, o + 63, none⟩ = some (.int .i64 (l.length : Nat)) := h.at_.behind (three_len h.le) (by omega)
theorem BAt.frozen (h : BAt w g T pre l post) (o : Nat) : w.frozen? ⟨g, o, none⟩ = false := h.at_.frozen o
theorem BAt.new (w : World) (T : TypeId) : BAt (w.alloc (.cells (flatC [z21, z21, z21] ++ [Value.int .i64 0]).toArray T)) w.heap.size T [] [] [] := by
  refine ⟨Nat.zero_le _, ?_⟩
  unfold CAt
  rw [heap_alloc_new, List.nil_append]
  rfl
end
/-- The contacts of other peers than p. -/
def dropC (p : Int) (l : List Ct) : List Ct := cfilt (fun c => decide (c.p = p)) l
theorem dropC_le (p : Int) (l : List Ct) : (dropC p l).length ≤ l.length := List.length_filter_le _ _
/-- Does Drop answer true? -/
def isIn (p : Int) (l : List Ct) : Bool := decide ((dropC p l).length < l.length)
/-- The closure of Drop. -/
theorem dropfn_any (c : Nat) (p : Int) (w : World) (hp : w.heap[c]? = some (.cells #[.int .i64 p] 3 (0, 0))) : CTells 41 c (fun x => decide (x.p = p)) w := by
  intro x w' hw
  have h1 : w'.cell? ⟨c, 0, none⟩ = some (.int .i64 p) := by rw [cell_of_row _ _ _ _ _ _ (hw.trans hp)]; rfl
  have hlt : c < w'.heap.size := World.block_lt_of_cell? w' _ h1
  obtain ⟨q, hq⟩ : ∃ q, decide (x.p = p) = q := ⟨_, rfl⟩
  have hq2 : (x.p == p) = q := by rw [← hq, Bool.eq_iff_iff, beq_iff_eq, decide_eq_true_eq]
  show Calls _ _ _ _ fun e w2 => e = .returned (.bool (decide (x.p = p))) ∧ _
  rw [hq]
  have HB : Hid (∀ wb, wb = w'.alloc (.cells (CL x).toArray 47) → w'.Extends wb ∧ wb.cell? ⟨c, 0, none⟩ = some (.int .i64 p) ∧ wb.cell? ⟨w'.heap.size, 0, none⟩ = some (.int .i64 x.p)) := fun wb e => by
    subst e
    exact ⟨ext_alloc _ _, (ext_alloc _ _).cell_of h1, range_peer ((CAt.box w' 47 x).range (o := 0) (k := 0) rfl Nat.zero_lt_one)⟩
  generalize x.p = xp at *
  clear hq hp hw
  go_enter Try.func41, Try.ntmps41
  go_upto_region 1 with fail
  generalize hwb : World.alloc w' _ = wb
  obtain ⟨hx, h3, h4⟩ := HB.out wb hwb.symm
  have HX := Lib.hid hx
  clear hwb hx h1
  go_wp2
  go_ret
  exact ⟨rfl, HX.out⟩
end Go.Proofs.Ytffcjnabhblbaaa
namespace Go.Proofs.Ytffcjnabhblbaaa
set_option maxRecDepth 20000
open Go.RowKit Go.Deep
set_option linter.unusedVariables false
theorem three_split {w : World} {g : Nat} {T : TypeId} {pre post : List Value} {l : List Ct} {n : Nat} (hn : l.length = n) (hl : n ≤ 3) :
    CAt w g T pre (l ++ List.replicate (3 - n) z21) post ↔ CAt w g T pre l (flatC (List.replicate (3 - n) z21) ++ post) := CAt.split
theorem three_merge {w : World} {g : Nat} {T : TypeId} {pre post : List Value} {L : List Ct} {m n : Nat} (hm : m ≤ n) (hn : n ≤ 3) :
    CAt w g T pre (L ++ List.replicate (n - m) z21) (flatC (List.replicate (3 - n) z21) ++ post) = CAt w g T pre (L ++ List.replicate (3 - m) z21) post := by
  rw [← propext (CAt.split (a := L ++ List.replicate (n - m) z21)), List.append_assoc, List.replicate_append_replicate, show n - m + (3 - n) = 3 - m by omega]
/-- contacts[:n] of a bucket. -/
theorem slice3 (g o n : Nat) (hn : n ≤ 3) (w' : World) : (Instr.sliceAt 48 (.pointer (some ⟨g, o, none⟩)) none (some (.int .i64 (n : Nat))) none).run Try.prog w' = .ok (.slice (some ⟨g, o, none⟩) n 3) w' := by
  have hl : Try.prog.arrayLen 48 = 3 := by kernel_rfl
  have he : Try.prog.elem 48 = 47 := by kernel_rfl
  have hu : Try.prog.underlying 48 = some (.array (Try.prog.arrayLen 48) (Try.prog.elem 48)) := by rw [hl, he]; exact Try.underlying48
  rw [run_sliceAt_array_h (P := Try.prog) w' 48 ⟨g, o, none⟩ hu .i64 ((n : Nat) : Int) (by omega) (by rw [hl]; omega), he, hl]
  obtain ⟨i, hi⟩ := ctInfo
  simp [sizeOf, typeInfo, hi, slicedAt, Addr.add_mid]
  try omega
set_option maxHeartbeats 2000000 in
theorem bdrop_any (g o : Nat) (T : TypeId) (pre post : List Value) (l : List Ct) (p : Int) (w : World) (h : BAt w g T pre l post) (ho : pre.length = o) :
    Calls Try.prog 23 #[.pointer (some ⟨g, o, none⟩), .int .i64 p] w fun e w' => e = .returned (.bool (isIn p l)) ∧ BAt w' g T pre (dropC p l) post ∧ w.grownBy w' (some g) := by
  have hen : CEnters 41 := center_of Try.func41 (by decide) (by rfl)
  have HEN := Lib.hid hen
  have H := Lib.hid h
  have HO := Lib.hid ho
  obtain ⟨n, hn⟩ : ∃ n, n = l.length := ⟨_, rfl⟩
  have hn3 : n ≤ 3 := by rw [hn]; exact h.le
  have HN : Hid (l.length = n) := hn.symm
  have hc0 := h.count ho
  rw [HN.out] at hc0
  have HC0 := Lib.hid hc0
  have HOUT : Hid (∀ q, (dropC p l).length = q → isIn p l = decide (q < n)) := fun q hq => by unfold isIn; rw [hq, HN.out]
  have hm3 : (dropC p l).length ≤ n := by rw [hn]; exact dropC_le p l
  clear h ho hn hen hc0
  go_enter Try.func23, Try.ntmps23
  go_upto_region 1 with fail
  generalize hw1 : World.alloc w _ = w1
  have HX1 : Hid (w.Extends w1 ∧ w1.heap[w.heap.size]? = some (.cells #[.int .i64 p] 3 (0, 0))) := by subst hw1; exact ⟨ext_alloc _ _, heap_alloc_new _ _⟩
  have hc1 := HX1.out.1.cell_of HC0.out
  clear hw1
  obtain ⟨c, hc⟩ : ∃ c, c = w.heap.size := ⟨_, rfl⟩
  rw [← hc] at HX1 ⊢
  have HC := Lib.hid hc
  have hsl := fun w' => slice3 g o n hn3 w'
  clear hc
  go_upto_region 3 with fail
  refine Gr.region 8 [(false,0),(false,1),(false,2),(false,3),(false,4),(false,5),(false,6),(false,7)] (by kernel_rfl) (by kernel_rfl) (fun d _ _ _ _ h => by cases d <;> exact h) ?_
  simp only [Gr.pick, List.getElem?_cons_zero, List.getElem?_cons_succ, List.drop_succ_cons, List.drop_zero]
  generalize hwd : w1.drew = wd
  have HXD : Hid (w1.Extends wd) := by rw [← hwd]; exact Gr.ext_drew (Gr.ext_refl w1)
  clear hwd
  have hcd := HXD.out.cell_of hc1
  iterate 6
    refine Gr.walk_t ?_ (Or.inl ⟨by rfl, ?_⟩) ?_
    rotate_left
    · intro w' hw'
      clear hw'
      go_simp
      try with_reducible rfl
    simp only [Act.put, List.setIfInBounds_toArray, List.set_cons_zero, List.set_cons_succ]
  refine Gr.walk_t ?_ (Or.inl ⟨by rfl, ?_⟩) ?_
  rotate_left
  · intro w' hw'
    have hcd' := hw'.cell_of hcd
    clear hw'
    go_simp
    try with_reducible rfl
  simp only [Act.put, List.setIfInBounds_toArray, List.set_cons_zero, List.set_cons_succ]
  refine Gr.walk_t ?_ (Or.inl ⟨by rfl, ?_⟩) ?_
  rotate_left
  · intro w' hw'
    clear hw'
    go_simp
    try with_reducible rfl
  simp only [Act.put, List.setIfInBounds_toArray, List.set_cons_zero, List.set_cons_succ]
  refine Gr.walk_nil ?_
  have HXW : Hid (w.Extends wd) := Gr.ext_trans HX1.out.1 HXD.out
  have hhd : wd.heap[c]? = some (.cells #[.int .i64 p] 3 (0, 0)) := (HXD.out.block c (Array.getElem?_eq_some_iff.1 HX1.out.2).1).trans HX1.out.2
  have hcg : c ≠ g := fun e => by have := H.out.lt; have := HC.out; omega
  have HD := Lib.hid (show Calls _ _ _ wd (CDelOut wd g o 3 T pre (dropC p l) _ n) from cdel_any 41 c HEN.out (fun x => decide (x.p = p)) g o 3 n T pre _ l wd ((three_split HN.out hn3).1 (by have := (H.out.ext HXW.out).at_; rw [HN.out] at this; exact this)) HO.out HN.out hn3 (by decide) (dropfn_any c p wd hhd) (Array.getElem?_eq_some_iff.1 hhd).1 hcg)
  clear hcd hc1 hhd hsl
  go_wp2_with fail
  refine HD.out.mono ?_
  rintro e w3 ⟨rfl, ha3, hg3⟩
  clear HD
  obtain ⟨m, hm⟩ : ∃ m, (dropC p l).length = m := ⟨_, rfl⟩
  have HIS := Lib.hid (HOUT.out m hm)
  rw [hm] at ha3 hm3 ⊢
  have HM := Lib.hid hm
  rw [three_merge hm3 hn3] at ha3
  have hlen : (dropC p l ++ List.replicate (3 - m) z21).length = 3 := by rw [List.length_append, List.length_replicate, hm]; omega
  have hc3 := ha3.behind (o := o + 63) hlen (by rw [HO.out])
  have hf3 := ha3.frozen (o + 63)
  have HA3 := Lib.hid ha3
  have HLEN := Lib.hid hlen
  have HG3 := Lib.hid (grown_trans (grown_below (Gr.below_of HXW.out) (Nat.le_refl _)) hg3)
  clear ha3 hg3 hlen hm HOUT
  go_upto_region 5 with fail
  generalize hw4 : World.setCell w3 _ _ = w4
  obtain ⟨ha4, hg4⟩ := HA3.out.set_behind (o := o + 63) HLEN.out (by rw [HO.out]) hw4.symm
  have hc4 := ha4.behind (o := o + 63) HLEN.out (by rw [HO.out])
  have HP : Hid (BAt w4 g T pre (dropC p l) post ∧ w.grownBy w4 (some g)) := ⟨⟨by have := HM.out; omega, by rw [HM.out]; exact ha4⟩, grown_trans HG3.out hg4⟩
  clear hw4 ha4 hg4 hc3 hf3
  go_wp2
  go_ret
  exact ⟨by rw [HIS.out]; rfl, HP.out.1, HP.out.2⟩
end Go.Proofs.Ytffcjnabhblbaaa
namespace Go.Proofs.Ytffcjnabhblbaaa
set_option maxRecDepth 20000
open Go.RowKit Go.Deep
set_option linter.unusedVariables false
/-- v is a slice of the call's own, in memory from B on, of the contacts l. -/
def OwnC (w : World) (B : Nat) (v : Value) (l : List Ct) : Prop := w.ownsRow B 47 21 v l.length (flatC l)
theorem OwnC.nil (w : World) (B : Nat) : OwnC w B (.slice none 0 0) [] := World.ownsRow_nil _ _ _ _
theorem OwnC.kinds {w : World} {B : Nat} {v : Value} {l : List Ct} (h : OwnC w B v l) : (v = .slice none 0 0 ∧ l = []) ∨ ∃ g cap, v = .slice (some ⟨g, 0, none⟩) l.length cap := by
  rcases h.2 with ⟨rfl, h0⟩ | ⟨g, cap, cur, rfl, _⟩
  · exact .inl ⟨rfl, List.eq_nil_of_length_eq_zero h0⟩
  · exact .inr ⟨g, cap, rfl⟩
theorem OwnC.slice {w : World} {B : Nat} {v : Value} {l : List Ct} (h : OwnC w B v l) : ∃ a cap, v = .slice a l.length cap := by
  rcases h.kinds with ⟨rfl, rfl⟩ | ⟨g, cap, rfl⟩
  · exact ⟨_, _, rfl⟩
  · exact ⟨_, _, rfl⟩
theorem OwnC.kept {w w' : World} {B : Nat} {v : Value} {l : List Ct} {row : Option Nat} (h : OwnC w B v l) (hg : w.grownBy w' row) (hne : v.ownBlock = none ∨ v.ownBlock ≠ row) : OwnC w' B v l := World.ownsRow.kept h hg hne
theorem OwnC.ext {w w' : World} {B : Nat} {v : Value} {l : List Ct} (h : OwnC w B v l) (hx : w.Extends w') : OwnC w' B v l := by
  have hg : w.grownBy w' none := ⟨hx.os, hx.tape, hx.output, hx.size, fun i hi _ => hx.block i hi⟩
  exact h.kept hg (by cases v.ownBlock <;> simp)
theorem OwnC.block {w : World} {B : Nat} {v : Value} {l : List Ct} (h : OwnC w B v l) {g : Nat} (hg : v.ownBlock = some g) : B ≤ g ∧ g < w.heap.size ∧ ∃ cs, w.heap[g]? = some (.cells cs 47 (0, 0)) := by
  refine ⟨(World.ownsRow.lt h g hg).1, (World.ownsRow.lt h g hg).2, ?_⟩
  rcases h.2 with ⟨rfl, h0⟩ | ⟨g', cap, cur, rfl, _, hh, _⟩
  · cases hg
  · simp only [Value.ownBlock, Option.some.injEq] at hg
    subst hg
    exact ⟨cur, hh⟩
theorem OwnC.mono {w : World} {B B' : Nat} {v : Value} {l : List Ct} (h : OwnC w B v l) (hB : B' ≤ B) : OwnC w B' v l := by
  refine ⟨h.1, ?_⟩
  rcases h.2 with h0 | ⟨g, cap, cur, hv, hb, hr⟩
  · exact .inl h0
  · exact .inr ⟨g, cap, cur, hv, by omega, hr⟩
/-- v is a slice of the contacts l. -/
def Cts (w : World) (v : Value) (l : List Ct) : Prop := (l = [] ∧ ∃ a c, v = .slice a 0 c) ∨ ∃ g o cap, v = .slice (some ⟨g, o, none⟩) l.length cap ∧ l.length ≤ cap ∧ g < w.heap.size ∧ ∀ k, k < l.length → w.rangeAt g (o + k * 21) (CL (l.getD k z21))
theorem Cts.slice {w : World} {v : Value} {l : List Ct} (h : Cts w v l) : ∃ a cap, v = .slice a l.length cap := by
  rcases h with ⟨rfl, a, c, rfl⟩ | ⟨g, o, cap, rfl, _⟩
  · exact ⟨a, c, rfl⟩
  · exact ⟨_, _, rfl⟩
theorem Cts.ext {w w' : World} {v : Value} {l : List Ct} (h : Cts w v l) (hx : w.Extends w') : Cts w' v l := by
  rcases h with h | ⟨g, o, cap, hv, h1, h2, h3⟩
  · exact .inl h
  · exact .inr ⟨g, o, cap, hv, h1, Nat.lt_of_lt_of_le h2 hx.size, fun k hk => range_ext (h3 k hk) hx⟩
theorem Cts.at {w : World} {a : Option Addr} {n cap : Nat} {l : List Ct} (h : Cts w (.slice a n cap) l) {k : Nat} (hk : k < l.length) : ∃ g o, a = some ⟨g, o, none⟩ ∧ w.rangeAt g (o + k * 21) (CL (l.getD k z21)) := by
  rcases h with ⟨rfl, _⟩ | ⟨g, o, cap', hv, _, _, h3⟩
  · simp at hk
  · cases hv; exact ⟨g, o, rfl, h3 k hk⟩
theorem OwnC.at_ {w : World} {B g n cap : Nat} {l : List Ct} (h : OwnC w B (.slice (some ⟨g, 0, none⟩) n cap) l) : n = l.length ∧ n ≤ cap ∧ g < w.heap.size ∧ ∃ post, CAt w g 47 [] l post := by
  rcases h.2 with ⟨e, _⟩ | ⟨g', cap', cur, e, _, hg, hnc, hcm, hcs, htake⟩
  · cases e
  · cases e
    refine ⟨rfl, hnc, (Array.getElem?_eq_some_iff.1 hg).1, cur.toList.drop (l.length * 21), ?_⟩
    unfold CAt
    rw [hg, List.nil_append, ← htake, List.take_append_drop, Array.toArray_toList]
theorem OwnC.cts {w : World} {B : Nat} {v : Value} {l : List Ct} (h : OwnC w B v l) : Cts w v l := by
  rcases h.kinds with ⟨rfl, rfl⟩ | ⟨g, cap, rfl⟩
  · exact .inl ⟨rfl, _, _, rfl⟩
  · obtain ⟨_, h1, h2, post, h3⟩ := h.at_
    exact .inr ⟨g, 0, cap, rfl, h1, h2, fun k hk => h3.range (by simp) hk⟩
/-- Contacts somewhere in a block as a source of append. -/
theorem CAt.src {w : World} {g o n : Nat} {T : TypeId} {pre post : List Value} {l : List Ct} (h : CAt w g T pre l post) (ho : pre.length = o) (hn : l.length = n) (cap : Nat) : Src Try.prog 21 56 (.slice (some ⟨g, o, none⟩) n cap) n (flatC l) w := by
  refine Src.ofSlice w ctUnder ⟨g, o, none⟩ n cap (flatC l) (by rw [flatC_length, hn]) (fun j u hu => ?_) (fun u hu => flatC_one l u hu)
  have hj : j < (flatC l).length := (List.getElem?_eq_some_iff.1 hu).1
  rw [Addr.add_mid, cell_of_row _ _ _ _ _ _ h, List.getElem?_toArray, List.getElem?_append_left (by rw [List.length_append]; omega), List.getElem?_append_right (by omega), ← ho, Nat.add_sub_cancel_left]
  exact hu
theorem ctParts : ∃ i, Try.prog.info? 47 = some i ∧ i.zero = some (CV z21) ∧ i.size = 21 ∧ i.bytes = 32 := by
  obtain ⟨i, hi⟩ := ctInfo
  have h : (Try.prog.info? 47).map (fun i => (i.zero, i.size, i.bytes)) = some (some (CV z21), 21, 32) := by kernel_rfl
  rw [hi] at h
  simp only [Option.map_some, Option.some.injEq, Prod.mk.injEq] at h
  exact ⟨i, hi, h.1, h.2.1, h.2.2⟩
theorem eql_cts_nil (a : Option Addr) (n c : Nat) (w : World) : (binOp .eql 56 (.slice a n c) (.slice none 0 0)).run Try.prog w = .ok (.bool a.isNone) w := by
  have h : ∀ d, (Op.equalIn (d + 1) 56 (.slice a n c) (.slice none 0 0)).run Try.prog w = .ok a.isNone w := fun d => by
    cases a <;> simp [Op.equalIn, run_underlying Try.underlying56]
  simp only [binOp]
  simp [Op.equal, Op.maxDepth, h 9999]
/-- A copy of the call's own. -/
def CloneC (w : World) (l : List Ct) (e : Ending) (w' : World) : Prop := ∃ a c, e = .returned (.slice a l.length c) ∧ w.Extends w' ∧ OwnC w' w.heap.size (.slice a l.length c) l
theorem clonec_of {w w' : World} {v : Value} {l : List Ct} (hx : w.Extends w') (ho : OwnC w' w.heap.size v l) : ∃ a c, v = .slice a l.length c ∧ CloneC w l (.returned v) w' := by
  obtain ⟨a, c, rfl⟩ := ho.slice
  exact ⟨a, c, rfl, a, c, rfl, hx, ho⟩
theorem cclone_any (g o cap n : Nat) (T : TypeId) (pre post : List Value) (l : List Ct) (w : World) (hA : CAt w g T pre l post) (ho : pre.length = o) (hn : l.length = n) (hl : n ≤ 100000) :
    Calls Try.prog 56 #[.slice (some ⟨g, o, none⟩) n cap] w (CloneC w l) := by
  obtain ⟨iu, hiu, hz0, hz1, hz2⟩ := ctParts
  have HI := Lib.hid hiu
  have HZ0 := Lib.hid hz0
  have HZ1 := Lib.hid hz1
  have HZ2 := Lib.hid hz2
  have HSRC : Hid (∀ w', w.Extends w' → Src Try.prog 21 56 (.slice (some ⟨g, o, none⟩) n cap) n (flatC l) w') := fun w' hx => (hA.ext hx).src ho hn cap
  have HEND : Hid (∀ v' w1 w', w.Extends w1 → w'.ownsRow w.heap.size 47 21 v' n (flatC l) → w1.grownBy w' (some w.heap.size) → ∃ a c, v' = .slice a n c ∧ CloneC w l (.returned v') w') := fun v' w1 w' h1 hown hg => by
    have := clonec_of (w := w) (w' := w') (v := v') (l := l) (ext_own h1 hg (fun k hk => by have := Option.some.inj hk; omega)) (by
      unfold OwnC
      rw [hn]
      exact hown)
    rwa [hn] at this
  clear hA ho hn hiu hz0 hz1 hz2
  unfold CloneC at *
  go_enter Try.func56, Try.ntmps56
  have hnil := fun w => eql_cts_nil (some ⟨g, o, none⟩) n cap w
  rw [show (some (⟨g, o, none⟩ : Addr)).isNone = false from rfl] at hnil
  have hmk : (w.alloc (.cells #[] 47)).ownsRow w.heap.size 47 21 (.slice (some ⟨w.heap.size, 0, none⟩) 0 0) 0 [] := World.ownsRow_made w #[] 0 (Nat.le_refl _) (by decide) rfl
  have HMK := Lib.hid hmk
  have HSR := Lib.hid (HSRC.out _ (ext_alloc w (.cells #[] 47)))
  have HX1 := Lib.hid (ext_alloc w (.cells #[] 47))
  clear hmk
  go_wp2_with (at_builtin; refine wpList_append_own_src _ rfl _ _ 56 56 rfl w.heap.size 47 iu (CV z21) 21 32 Try.underlying56 HI.out HZ0.out HZ1.out HZ2.out rfl _ _ _ rfl HMK.out _ n (flatC l) rfl HSR.out (by unfold maxLen; omega) (by omega) (by simp) ?_)
  intro v' w' ho hg _
  obtain ⟨a, c, rfl, HP⟩ := HEND.out v' _ w' HX1.out ho hg
  have HP := Lib.hid HP
  clear ho hg HEND HSRC HMK HSR HX1
  go_wp2
  go_ret
  exact HP.out
/-- The contacts of a bucket, in a row of the call's own. -/
theorem ball_any (g o : Nat) (T : TypeId) (pre post : List Value) (l : List Ct) (w : World) (h : BAt w g T pre l post) (ho : pre.length = o) :
    Calls Try.prog 44 #[.pointer (some ⟨g, o, none⟩)] w (CloneC w l) := by
  obtain ⟨n, hn⟩ : ∃ n, l.length = n := ⟨_, rfl⟩
  have hn3 : n ≤ 3 := by rw [← hn]; exact h.le
  have hc0 := h.count ho
  rw [hn] at hc0
  have HCL : Hid (∀ w', w.Extends w' → Calls Try.prog 56 #[.slice (some ⟨g, o, none⟩) n 3] w' (CloneC w' l)) := fun w' hx =>
    cclone_any g o 3 n T pre _ l w' ((three_split hn hn3).1 (by have := (h.ext hx).at_; rw [hn] at this; exact this)) ho hn (by omega)
  clear h ho
  have HN := Lib.hid hn
  clear hn
  have HOUT : Hid (∀ w1 w2 e, w.Extends w1 → CloneC w1 l e w2 → ∃ a c, e = .returned (.slice a n c) ∧ w1.Extends w2 ∧ CloneC w l e w2) := fun w1 w2 e hx ⟨a, c, e1, h1, h2⟩ => by
    rw [HN.out] at e1
    exact ⟨a, c, e1, h1, a, c, by rw [HN.out]; exact e1, Gr.ext_trans hx h1, h2.mono hx.size⟩
  have HC0 := Lib.hid hc0
  clear hc0
  unfold CloneC at *
  go_enter Try.func44, Try.ntmps44
  have hsl := fun w' => slice3 g o n hn3 w'
  go_upto_region 3 with fail
  refine Gr.region 9 [(false,0),(false,1),(false,2),(false,3),(false,4),(false,5),(false,6),(false,7),(true,8)] (by kernel_rfl) (by kernel_rfl) (fun d _ _ _ _ h => by cases d <;> exact h) ?_
  simp only [Gr.pick, List.getElem?_cons_zero, List.getElem?_cons_succ, List.drop_succ_cons, List.drop_zero]
  generalize hwd : w.drew = wd
  have HXD : Hid (w.Extends wd) := by rw [← hwd]; exact Gr.ext_drew (Gr.ext_refl w)
  clear hwd
  have hcd := HXD.out.cell_of HC0.out
  iterate 6
    refine Gr.walk_t ?_ (Or.inl ⟨by rfl, ?_⟩) ?_
    rotate_left
    · intro w' hw'
      clear hw'
      go_simp
      try with_reducible rfl
    simp only [Act.put, List.setIfInBounds_toArray, List.set_cons_zero, List.set_cons_succ]
  refine Gr.walk_t ?_ (Or.inl ⟨by rfl, ?_⟩) ?_
  rotate_left
  · intro w' hw'
    have hcd' := hw'.cell_of hcd
    clear hw'
    go_simp
    try with_reducible rfl
  simp only [Act.put, List.setIfInBounds_toArray, List.set_cons_zero, List.set_cons_succ]
  refine Gr.walk_t ?_ (Or.inl ⟨by rfl, ?_⟩) ?_
  rotate_left
  · intro w' hw'
    clear hw'
    go_simp
    try with_reducible rfl
  simp only [Act.put, List.setIfInBounds_toArray, List.set_cons_zero, List.set_cons_succ]
  refine Gr.walk_c (fun K hK => ?_)
  go_simp
  refine (HCL.out wd HXD.out).mono ?_
  rintro e w2 hcl
  obtain ⟨a, c, rfl, hx2, hp⟩ := HOUT.out wd w2 e HXD.out hcl
  have HP := Lib.hid hp
  clear hp hcl hcd
  try go_simp
  refine hK.out _ _ (hx2) ?_
  clear hK K
  refine Gr.walk_nil ?_
  clear hx2
  go_wp2
  go_ret
  exact HP.out
end Go.Proofs.Ytffcjnabhblbaaa
namespace Go.Proofs.Ytffcjnabhblbaaa
set_option maxRecDepth 20000
open Go.RowKit Go.Deep
set_option linter.unusedVariables false
/-- What See leaves, what it answers. -/
def seeL (l : List Ct) (c : Ct) : List Ct := if (dropC c.p l).length = 3 then dropC c.p l else dropC c.p l ++ [c]
def seeX (l : List Ct) (c : Ct) : Ct := if (dropC c.p l).length = 3 then (dropC c.p l).getD 0 z21 else z21
def seeB (l : List Ct) (c : Ct) : Bool := decide ((dropC c.p l).length = 3)
theorem set_room {l : List Ct} {c : Ct} {m : Nat} (hm : l.length = m) (h : m < 3) : (l ++ List.replicate (3 - m) z21).set m c = (l ++ [c]) ++ List.replicate (3 - (m + 1)) z21 := by
  subst hm
  rw [List.set_append_right _ _ (Nat.le_refl _), Nat.sub_self, show 3 - l.length = (3 - (l.length + 1)) + 1 by omega, List.replicate_succ, List.set_cons_zero, List.append_assoc]
  rfl
theorem results_ct {fn : Func} {p q : Tmp} (h : fn.results = #[.cell p 47, .tmp q]) (tmps : Array Value) (w : World) (g : Nat) (c : Ct) (b : Bool)
    (hp : tmps.getD p undef = .pointer (some ⟨g, 0, none⟩)) (hq : tmps.getD q undef = .bool b) (hr : w.rangeAt g 0 (CL c)) :
    (results fn tmps).run Try.prog w = .ok (.tuple #[CV c, .bool b]) w := by
  have hp' : tmps[p]?.getD undef = .pointer (some ⟨g, 0, none⟩) := by simpa using hp
  have hq' : tmps[q]?.getD undef = .bool b := by simpa using hq
  simp [results, h, hp', hq', asAddr, run_ct_load hr]
set_option maxHeartbeats 2000000 in
theorem bsee_any (g o : Nat) (T : TypeId) (pre post : List Value) (l : List Ct) (c : Ct) (w : World) (h : BAt w g T pre l post) (ho : pre.length = o) :
    Calls Try.prog 43 #[.pointer (some ⟨g, o, none⟩), CV c] w fun e w' => e = .returned (.tuple #[CV (seeX l c), .bool (seeB l c)]) ∧ BAt w' g T pre (seeL l c) post ∧ w.grownBy w' (some g) := by
  have H := Lib.hid h
  have HO := Lib.hid ho
  obtain ⟨s, hs⟩ : ∃ s, w.heap.size = s := ⟨_, rfl⟩
  have HWS : Hid (w.heap.size = s) := hs
  have HGS : Hid (g < s) := by have := h.lt; show g < s; omega
  have HBOX : Hid (∀ w2, w2 = (w.alloc (.cells (CL c).toArray 47)).alloc (.cells (CL z21).toArray 47) → w.Extends w2 ∧ CAt w2 s 47 [] [c] [] ∧ CAt w2 (s + 1) 47 [] [z21] [] ∧ s + 1 < w2.heap.size) := fun w2 e => by
    subst e
    subst hs
    have b1 := CAt.box w 47 c
    have b2 := CAt.box (w.alloc (.cells (CL c).toArray 47)) 47 z21
    have e1 : (w.alloc (.cells (CL c).toArray 47)).heap.size = w.heap.size + 1 := by simp
    rw [e1] at b2
    exact ⟨Gr.ext_trans (ext_alloc _ _) (ext_alloc _ _), b1.ext (ext_alloc _ _), b2, b2.lt⟩
  clear h ho
  go_enter Try.func43, Try.ntmps43
  go_upto_region 1 with fail
  generalize hw1 : World.alloc w _ = w1
  generalize hw2 : World.alloc w1 _ = w2
  obtain ⟨hx2, hb1, hb2, hsz⟩ := HBOX.out w2 (by rw [← hw2, ← hw1]; rfl)
  clear hw1 hw2 HBOX hs
  have HX2 := Lib.hid hx2
  have hpr := range_peer (hb1.range (o := 0) (k := 0) rfl Nat.zero_lt_one)
  have HD := Lib.hid (bdrop_any g o T pre post l c.p w2 (H.out.ext hx2) HO.out)
  have HB1 := Lib.hid hb1
  have HB2 := Lib.hid hb2
  have HSZ := Lib.hid hsz
  clear hx2 hb1 hb2 hsz
  simp only [List.getD_cons_zero] at hpr
  go_wp2_with fail
  refine HD.out.mono ?_
  rintro e w3 ⟨rfl, hb3, hg3⟩
  clear HD hpr
  have HG3 := Lib.hid (grown_trans (grown_below (Gr.below_of HX2.out) (Nat.le_refl _)) hg3)
  have hs1 : (some s : Option Nat) ≠ some g := fun e => by have := HGS.out; have := Option.some.inj e; omega
  have hs2 : (some (s + 1) : Option Nat) ≠ some g := fun e => by have := HGS.out; have := Option.some.inj e; omega
  have HC1 : Hid (CAt w3 s 47 [] [c] []) := HB1.out.kept (hg3.block s HB1.out.lt hs1)
  have HC2 : Hid (CAt w3 (s + 1) 47 [] [z21] []) := HB2.out.kept (hg3.block (s + 1) HB2.out.lt hs2)
  have HLT : Hid (s + 1 < w3.heap.size) := HC2.out.lt
  clear HB1 HB2 HSZ hg3 hs1 hs2
  obtain ⟨m, hm⟩ : ∃ m, (dropC c.p l).length = m := ⟨_, rfl⟩
  have hm3 : m ≤ 3 := by rw [← hm]; exact hb3.le
  have hcm := hb3.count HO.out
  rw [hm] at hcm
  have HM := Lib.hid hm
  have HB3 := Lib.hid hb3
  clear hb3 hm
  by_cases h3 : m = 3
  · have hc3 : (((m : Nat) : Int) == 3) = true := by rw [h3]; rfl
    have HS : Hid (seeL l c = dropC c.p l ∧ seeX l c = (dropC c.p l).getD 0 z21 ∧ seeB l c = true) := by
      unfold seeL seeX seeB
      rw [HM.out, if_pos h3, if_pos h3, decide_eq_true h3]; exact ⟨rfl, rfl, rfl⟩
    obtain ⟨x, hx⟩ : ∃ x, CV (seeX l c) = x := ⟨_, rfl⟩
    have HXV := Lib.hid hx
    clear hx
    have hr : w3.rangeAt g o (CL (seeX l c)) := by
      have := HB3.out.at_.range (o := o) (k := 0) (by rw [HO.out]; omega) (by rw [three_len HB3.out.le]; decide)
      rw [HS.out.2.1]
      rw [List.getD_eq_getElem?_getD, List.getElem?_append_left (by rw [HM.out]; omega), ← List.getD_eq_getElem?_getD] at this
      exact this
    have HC2' := HC2.out
    clear h3
    go_wp2_with (first | (refine wpList_load_ct rfl (.tmp 21) rfl g o (seeX l c) x HXV.out rfl hr ?_) | (refine wpList_store_ct rfl (.tmp 4) (.tmp 22) rfl (s + 1) 0 0 (seeX l c) 47 [] [] [z21] rfl HXV.out.symm HC2.out rfl (Nat.zero_lt_one) ?_) | fail)
    intro w4 ha4 hg4
    have HP : Hid (BAt w4 g T pre (dropC c.p l) post ∧ w.grownBy w4 (some g) ∧ w4.rangeAt (s + 1) 0 (CL (seeX l c))) :=
      ⟨HB3.out.grown hg4 (fun e => by have := HGS.out; have := Option.some.inj e; omega), grown_in HG3.out hg4 (fun y hy => by have := Option.some.inj hy; have := HWS.out; omega), ha4.range (o := 0) (k := 0) rfl Nat.zero_lt_one⟩
    clear ha4 hg4 hr
    repeat (first | go_values | go_skip | go_guarded | go_step)
    refine bodyPost_ret (results_ct rfl _ _ (s + 1) (seeX l c) true (by rfl) (by rfl) HP.out.2.2) rfl ?_
    exact ⟨by rw [HS.out.2.2], by rw [HS.out.1]; exact HP.out.1, HP.out.2.1⟩
  · have hc3 : (((m : Nat) : Int) == 3) = false := by simp; omega
    have HS : Hid (seeL l c = dropC c.p l ++ [c] ∧ seeX l c = z21 ∧ seeB l c = false) := by
      unfold seeL seeX seeB
      rw [HM.out, if_neg h3, if_neg h3, decide_eq_false h3]; exact ⟨rfl, rfl, rfl⟩
    have hm2 : m < 3 := by omega
    have hm4 : ((m : Nat) : Int) < 3 := by omega
    clear h3
    go_upto_region 6 with fail
    refine Gr.region 9 [(false,0),(false,1),(false,2),(false,3),(false,4),(false,5),(false,6),(false,7),(false,8)] (by kernel_rfl) (by kernel_rfl) (fun d _ _ _ _ h => by cases d <;> exact h) ?_
    simp only [Gr.pick, List.getElem?_cons_zero, List.getElem?_cons_succ, List.drop_succ_cons, List.drop_zero]
    generalize hwd : w3.drew = wd
    have HXD : Hid (w3.Extends wd) := by rw [← hwd]; exact Gr.ext_drew (Gr.ext_refl w3)
    clear hwd
    iterate 4
      refine Gr.walk_t ?_ (Or.inl ⟨by rfl, ?_⟩) ?_
      rotate_left
      · intro w' hw'
        clear hw'
        go_simp
        try with_reducible rfl
      simp only [Act.put, List.setIfInBounds_toArray, List.set_cons_zero, List.set_cons_succ]
    refine Gr.walk_t ?_ (Or.inl ⟨by rfl, ?_⟩) ?_
    rotate_left
    · intro w' hw'
      have hcd' := (Gr.ext_trans HXD.out hw').cell_of hcm
      clear hw'
      go_simp
      try with_reducible rfl
    simp only [Act.put, List.setIfInBounds_toArray, List.set_cons_zero, List.set_cons_succ]
    refine Gr.walk_t _ (Or.inl ⟨by rfl, fun w' hw' => ct_yields ((HC1.out.ext (Gr.ext_trans HXD.out hw')).range (o := 0) (k := 0) rfl Nat.zero_lt_one) rfl rfl rfl⟩) ?_
    simp only [Act.put, List.setIfInBounds_toArray, List.set_cons_zero, List.set_cons_succ]
    iterate 3
      refine Gr.walk_t ?_ (Or.inl ⟨by rfl, ?_⟩) ?_
      rotate_left
      · intro w' hw'
        clear hw'
        go_simp
        try with_reducible rfl
      simp only [Act.put, List.setIfInBounds_toArray, List.set_cons_zero, List.set_cons_succ]
    refine Gr.walk_nil ?_
    have hA3 := (HB3.out.ext HXD.out).at_
    rw [HM.out] at hA3
    go_upto_region 7 with (refine wpList_store_ct rfl (.tmp 31) (.tmp 28) rfl g (o + m * 21) m c T pre _ (dropC c.p l ++ List.replicate (3 - m) z21) rfl rfl hA3 (by rw [HO.out]) (by rw [List.length_append, List.length_replicate, HM.out]; omega) ?_)
    intro w4 ha4 hg4
    rw [set_room HM.out hm2] at ha4
    have hlen : ((dropC c.p l ++ [c]) ++ List.replicate (3 - (m + 1)) z21).length = 3 := by simp [HM.out]; omega
    have hc4 := ha4.behind (o := o + 63) hlen (by rw [HO.out])
    have hf4 := ha4.frozen (o + 63)
    have HA4 := Lib.hid ha4
    have HLEN := Lib.hid hlen
    have HG4 : Hid (w.grownBy w4 (some g)) := grown_trans (grown_trans HG3.out (grown_below (Gr.below_of HXD.out) (Nat.le_refl _))) hg4
    have HC4 : Hid (CAt w4 (s + 1) 47 [] [z21] []) := (HC2.out.ext HXD.out).kept (hg4.block _ (Nat.lt_of_lt_of_le HLT.out HXD.out.size) (fun e => by have := HGS.out; have := Option.some.inj e; omega))
    clear ha4 hg4 hA3 hlen hcm HXD
    go_upto_region 8 with fail
    generalize hw5 : World.setCell w4 _ _ = w5
    obtain ⟨ha5, hg5⟩ := HA4.out.set_behind (o := o + 63) HLEN.out (by rw [HO.out]) hw5.symm
    have HB5 : Hid (BAt w5 g T pre (dropC c.p l ++ [c]) post) := ⟨by rw [List.length_append, HM.out]; show m + 1 ≤ 3; omega, by rw [List.length_append, HM.out]; exact ha5⟩
    have HC5 : Hid (CAt w5 (s + 1) 47 [] [z21] []) := HC4.out.kept (hg5.block _ HC4.out.lt (fun e => by have := HGS.out; have := Option.some.inj e; omega))
    have HG5 : Hid (w.grownBy w5 (some g)) := grown_trans HG4.out hg5
    clear hw5 ha5 hg5 hc4 hf4
    go_wp2_with (first | (refine wpList_store_ct rfl (.tmp 4) (.tmp 39) rfl (s + 1) 0 0 z21 47 [] [] [z21] rfl (by rfl) HC5.out rfl (Nat.zero_lt_one) ?_) | fail)
    intro w6 ha6 hg6
    have HP : Hid (BAt w6 g T pre (seeL l c) post ∧ w.grownBy w6 (some g) ∧ w6.rangeAt (s + 1) 0 (CL (seeX l c))) := by
      rw [HS.out.1, HS.out.2.1]
      exact ⟨HB5.out.grown hg6 (fun e => by have := HGS.out; have := Option.some.inj e; omega), grown_in HG5.out hg6 (fun y hy => by have := Option.some.inj hy; have := HWS.out; omega), ha6.range (o := 0) (k := 0) rfl Nat.zero_lt_one⟩
    clear ha6 hg6
    repeat (first | go_values | go_skip | go_guarded | go_step)
    refine bodyPost_ret (results_ct rfl _ _ (s + 1) (seeX l c) false (by rfl) (by rfl) HP.out.2.2) rfl ?_
    exact ⟨by rw [HS.out.2.2], HP.out.1, HP.out.2.1⟩
end Go.Proofs.Ytffcjnabhblbaaa
namespace Go.Proofs.Ytffcjnabhblbaaa
set_option maxRecDepth 20000
open Go.RowKit Go.Deep
set_option linter.unusedVariables false
/-- A variable that is made and written. -/
theorem var_new {w w' : World} {o : Obj} {y : Nat} (hy : w.heap.size = y) (hg : (w.alloc o).grownBy w' (some y)) : w.Extends w' := ext_own (ext_alloc _ o) hg (fun x hx => by have := Option.some.inj hx; omega)
end Go.Proofs.Ytffcjnabhblbaaa
namespace Go.Proofs.Ytffcjnabhblbaaa
set_option maxRecDepth 20000
open Go.RowKit
namespace GrB
open Gr (AnyE check growB pick)
section
variable {P : Program} {ops : Array Oper} {Q : Exit → Act → World → Prop} {md : Region.Mode} {S : World → Prop}
def walk (B : Nat) (P : Program) (ops : Array Oper) (Q : Exit → Act → World → Prop) (tail : List Oper) : List (Bool × Oper) → Act → World → Prop
  | [], a, w => wpList P ops Q tail a w
  | (true, o) :: rest, a, w => if Region.wanted o (yielded ops a.tmps) = true then o.wp P a w (fun a' w' => Below B w w' ∧ walk B P ops Q tail rest a' w') Q else walk B P ops Q tail rest (a.put o.dst undef) w
  | (false, o) :: rest, a, w => ∃ v, YieldsIf P ops (Below B w) o v a ∧ walk B P ops Q tail rest (a.put o.dst v) w
theorem walk_nil {B : Nat} {tail : List Oper} {a : Act} {w : World} (h : wpList P ops Q tail a w) : walk B P ops Q tail [] a w := h
/-- An operation that is taken. -/
theorem walk_t {B : Nat} {tail : List Oper} {rest : List (Bool × Oper)} {o : Oper} {a : Act} {w : World} (v : Value) (hy : YieldsIf P ops (Below B w) o v a) (h : walk B P ops Q tail rest (a.put o.dst v) w) :
    walk B P ops Q tail ((false, o) :: rest) a w := ⟨v, hy, h⟩
/-- An operation that is carried out. -/
theorem walk_c {B : Nat} {tail : List Oper} {rest : List (Bool × Oper)} {o : Oper} {a : Act} {w : World}
    (h : ∀ K : Act → World → Prop, Shut (∀ a' w', Below B w w' → walk B P ops Q tail rest a' w' → K a' w') → if Region.wanted o (yielded ops a.tmps) = true then o.wp P a w K Q else K (a.put o.dst undef) w) :
    walk B P ops Q tail ((true, o) :: rest) a w := by
  have h0 := h (fun a' w' => Below B w w' ∧ walk B P ops Q tail rest a' w') (fun _ _ h1 h2 => ⟨h1, h2⟩)
  unfold walk
  split
  · rename_i hw; rw [if_pos hw] at h0; exact h0
  · rename_i hw; rw [if_neg hw] at h0; exact h0.2

theorem walk_sound (B : Nat) {l : List Oper} {n : Nat} (hsel : Region.noSelect l.toArray = true) (hs : Region.sinkB md l.toArray n = true) (hc : Region.chainB md l.toArray n = true) (hn : n < l.toArray.size)
    (hQ : ∀ d v c a w, Q (.panic c) (Act.put a d v) w → Q (.panic c) a w) :
    ∀ (ord : List (Bool × Nat)) (listed : Array Bool) (a : Act) (w : World), HeadInv md l.toArray n listed → check md l.toArray n (l.toArray.size - n) ord listed = true →
      walk B P l.toArray Q (l.drop n) (pick l ord) a w →
      AnyE P md l.toArray Q n (fun listed' a' w' => Region.seqB md l.toArray (l.toArray.size - n) n listed' = true ∧ wpList P l.toArray Q (l.drop n) a' w') (Below B w) ord.length listed a w
  | [], listed, a, w, _, hB, h => ⟨hB, h⟩
  | (c, i) :: rest, listed, a, w, inv, hB, h => by
    simp only [check, Bool.and_eq_true, decide_eq_true_eq] at hB
    obtain ⟨⟨hin, hr⟩, hB'⟩ := hB
    have hil : i < l.length := by have : l.toArray.size = l.length := by simp
                                  omega
    have ho : l[i]? = some l[i] := List.getElem?_eq_getElem hil
    have hoa : l.toArray[i]? = some l[i] := by simp
    simp only [pick, ho] at h
    cases c with
    | true =>
      simp only [decide_eq_true_eq] at hr
      refine ⟨(by rw [hr]; simp), fun j hj => ?_⟩
      rw [hr] at hj
      obtain rfl : j = i := by simpa using hj
      refine ⟨hin, ?_⟩
      have hrm : j ∈ Region.ready md l.toArray listed := by rw [hr]; simp
      unfold walk at h
      unfold wpOp
      simp only [hoa]
      split
      · rename_i hw
        rw [if_pos hw] at h
        exact .inl (Oper.wp_mono (fun a' w' hk => ⟨hk.1, AnyE.weaken (fun u hu => Below.trans hk.1 hu) _ _ _ _ (walk_sound B hsel hs hc hn hQ rest _ a' w' (inv.set hrm hin) hB' hk.2)⟩) h)
      · rename_i hw
        rw [if_neg hw] at h
        exact ⟨Below.refl B w, walk_sound B hsel hs hc hn hQ rest _ _ w (inv.set hrm hin) hB' h⟩
    | false =>
      simp only [Bool.and_eq_true] at hr
      unfold walk at h
      obtain ⟨v, hy, hK⟩ := h
      have hrm : i ∈ Region.ready md l.toArray listed := by simpa using hr.1
      exact AnyE.first hoa (Region.noSelect_spec hsel) hs hc hn hin (fun c a w => hQ _ v c a w) (fun listed' a' w' hL => seqB_ready hL.1) rest.length listed a w inv (Region.free_spec hoa hr.2) hrm hy (Below.refl B w)
        (walk_sound B hsel hs hc hn hQ rest _ _ w (inv.set hrm hin) hB' hK)

theorem region (B : Nat) {id : Nat} {a : Act} {w : World} {l : List Oper} (n : Nat) (ord : List (Bool × Nat)) (hm : P.follows .mixedOrders = true) (hB : growB .any l.toArray n ord = true)
    (hQ : ∀ d v c a w, Q (.panic c) (Act.put a d v) w → Q (.panic c) a w)
    (h : walk B P l.toArray Q (l.drop n) (pick l ord) a w.drew) : (Code.region id l.toArray true).wp P Q a w := by
  simp only [growB, Bool.and_eq_true, decide_eq_true_eq] at hB
  obtain ⟨⟨⟨⟨⟨hsel, hn⟩, hs⟩, hc⟩, hlen⟩, hck⟩ := hB
  have hdl : (l.drop n).length = l.toArray.size - n := by simp
  have inv0 : HeadInv .any l.toArray n (Array.replicate l.toArray.size false) :=
    ⟨by simp, fun j oj _ hl => (by rw [getD_replicate_false] at hl; cases hl), fun t _ ht => getD_in (by simpa using ht) (getD_replicate_false _ _)⟩
  have H := walk_sound B (md := .any) hsel hs hc hn hQ ord _ a w.drew inv0 hck h
  refine wp_region_any hm ?_
  have := AnyE.any (Q := Q) (g := l.toArray.size - n) (fun listed a' w' hL => by
    have := wpAny_of_seq (md := .any) (Q' := Q) (l.drop n) n listed a' w' (fun j => by simp [List.getElem?_drop]) (by rw [hdl]; exact hL.1) hL.2
    rwa [hdl] at this) _ _ _ _ H
  rw [hlen] at this
  exact this
end
end GrB
end Go.Proofs.Ytffcjnabhblbaaa
