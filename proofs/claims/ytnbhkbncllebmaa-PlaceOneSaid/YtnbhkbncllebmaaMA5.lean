/- In one text: PlcKeys, KeyDist, KeyLess, RndStir, RndRand, KeyRefOf, GrowU, GrowL. -/
import Derived.Laws.MakeOwn
import Derived.Laws.CopyRow
import Derived.Deep.MidRow
import Derived.WalkLawsBesides
import Derived.Outline
import Derived.BigRegion
import Derived.Laws.BitsAllLaws
import Derived.Deep.DeepCutAuto
import Derived.Lib.BytesEntry
import Derived.Laws.MathBits
import Derived.Laws.Bits64
import Derived.Test.YtnbhkbncllebmaaMA1
import Derived.Test.YtnbhkbncllebmaaMA2
import Derived.Test.YtnbhkbncllebmaaMA3
import Derived.Test.YtnbhkbncllebmaaMA4
namespace Go.Proofs.Ytnbhkbncllebmaa
set_option maxRecDepth 20000
open Go.RowKit Go.Deep
set_option linter.unusedVariables false
/-- The cells of keys, one behind the other. -/
def FK (L : List (List Nat)) : List Value := L.flatMap fun k => (KC k).toList
def AllK (L : List (List Nat)) : Prop := ∀ k ∈ L, k.length = 20
theorem FK_cons (k : List Nat) (L : List (List Nat)) : FK (k :: L) = (KC k).toList ++ FK L := rfl
theorem FK_append (a b : List (List Nat)) : FK (a ++ b) = FK a ++ FK b := by simp [FK]
theorem KCl {k : List Nat} (h : k.length = 20) : (KC k).toList.length = 20 := by rw [Array.length_toList, KC_size, h]
theorem AllK.get {L : List (List Nat)} (h : AllK L) {k : Nat} (hk : k < L.length) : (L.getD k []).length = 20 := by
  rw [List.getD_eq_getElem?_getD, List.getElem?_eq_getElem hk]; exact h _ (List.getElem_mem hk)
theorem AllK.take {L : List (List Nat)} (h : AllK L) (k : Nat) : AllK (L.take k) := fun x hx => h x (List.mem_of_mem_take hx)
theorem AllK.drop {L : List (List Nat)} (h : AllK L) (k : Nat) : AllK (L.drop k) := fun x hx => h x (List.mem_of_mem_drop hx)
theorem FK_length : ∀ (L : List (List Nat)), AllK L → (FK L).length = L.length * 20
  | [], _ => rfl
  | k :: L, h => by rw [FK_cons, List.length_append, FK_length L (fun x hx => h x (by simp [hx])), List.length_cons, KCl (h k (by simp))]; omega
theorem FK_take (L : List (List Nat)) (h : AllK L) (k : Nat) : (FK L).take (k * 20) = FK (L.take k) := by
  rcases Nat.le_total L.length k with hk | hk
  · rw [List.take_of_length_le (by rw [FK_length L h]; omega), List.take_of_length_le hk]
  · have e : FK L = FK (L.take k) ++ FK (L.drop k) := by rw [← FK_append, List.take_append_drop]
    rw [e, List.take_append_of_le_length (by rw [FK_length _ (h.take k), List.length_take]; omega), List.take_of_length_le (by rw [FK_length _ (h.take k), List.length_take]; omega)]
theorem FK_drop (L : List (List Nat)) (h : AllK L) (k : Nat) : (FK L).drop (k * 20) = FK (L.drop k) := by
  rcases Nat.le_total L.length k with hk | hk
  · rw [List.drop_eq_nil_of_le (by rw [FK_length L h]; omega), List.drop_eq_nil_of_le hk]; rfl
  · have e : FK L = FK (L.take k) ++ FK (L.drop k) := by rw [← FK_append, List.take_append_drop]
    have hl : (FK (L.take k)).length = k * 20 := by rw [FK_length _ (h.take k), List.length_take]; omega
    rw [e, ← hl, List.drop_left]
theorem FK_at : ∀ (L : List (List Nat)) (k i : Nat), AllK L → k < L.length → i < 20 → (FK L)[k * 20 + i]? = (KC (L.getD k [])).toList[i]?
  | c :: L, 0, i, h, _, hi => by
    rw [FK_cons, Nat.zero_mul, Nat.zero_add, List.getElem?_append_left (by rw [KCl (h c (by simp))]; exact hi)]; rfl
  | c :: L, k + 1, i, h, hk, hi => by
    have hc := KCl (h c (by simp))
    rw [FK_cons, List.getElem?_append_right (by rw [hc]; omega), hc, show (k + 1) * 20 + i - 20 = k * 20 + i by omega, FK_at L k i (fun x hx => h x (by simp [hx])) (by simpa using hk) hi]
    rfl
theorem FK_set (L : List (List Nat)) (h : AllK L) (k : Nat) (c : List Nat) (hk : k < L.length) : FK (L.set k c) = (FK L).take (k * 20) ++ (KC c).toList ++ (FK L).drop (k * 20 + 20) := by
  rw [FK_take L h, show k * 20 + 20 = (k + 1) * 20 by omega, FK_drop L h, List.set_eq_take_append_cons_drop, if_pos hk, FK_append, FK_cons, List.append_assoc]
/-- Block g holds the keys L. -/
def KsAt (w : World) (g : Nat) (L : List (List Nat)) : Prop := w.heap[g]? = some (.cells (FK L).toArray 25 (0, 0))
theorem KsAt.lt {w : World} {g : Nat} {L : List (List Nat)} (h : KsAt w g L) : g < w.heap.size := (Array.getElem?_eq_some_iff.1 h).1
theorem KsAt.ext {w w' : World} {g : Nat} {L : List (List Nat)} (h : KsAt w g L) (hx : w.Extends w') : KsAt w' g L := (hx.block g h.lt).trans h
theorem KsAt.range {w : World} {g k : Nat} {L : List (List Nat)} (h : KsAt w g L) (ha : AllK L) (hk : k < L.length) : w.rangeAt g (k * 20) (KC (L.getD k [])).toList := fun j v hv => by
  have hj : j < 20 := by rw [← KCl (ha.get hk)]; exact (List.getElem?_eq_some_iff.1 hv).1
  rw [cell_of_row _ _ _ _ _ _ h, List.getElem?_toArray, FK_at L k j ha hk hj]
  exact hv
/-- A key is read out of a row. -/
theorem kk_yields {w : World} {g o : Nat} {k : List Nat} (hl : k.length = 20) (hr : w.rangeAt g o (KC k).toList) {a : Act} {op : Oper} {x : Operand} (ho : op.op = .load 25 x) (hx : a.eval x = .pointer (some ⟨g, o, none⟩)) {v : Value} (hv : KV k = v) :
    (execOp a.eval op).run Try.prog w = .ok (.value v) w := by
  subst hv
  unfold execOp
  have h := run_loadVar_mid w g o 25 (KC k).toList _ hr Try.underlying25 rfl (by rw [Array.length_toList, KC_size, hl]; kernel_rfl)
  simp only [ho, hx, Instr.loadAt, Instr.sureAddr, Sem.run_bind, Sem.run_pure, Result.andThen_ok, h]
/-- A key is stored in a row. -/
theorem wpList_store_kk {ops : Array Oper} {rest : List Oper} {o : Oper} {a : Act} {w : World} {Q : Exit → Act → World → Prop} (hgd : o.guard = none) (x y : Operand) (ho : o.op = .store 25 x y)
    (g off k : Nat) (c : List Nat) (L : List (List Nat)) (hx : a.eval x = .pointer (some ⟨g, off, none⟩)) (hy : a.eval y = KV c) (hA : KsAt w g L) (ha : AllK L) (hc : c.length = 20) (hoff : off = k * 20) (hk : k < L.length)
    (h : ∀ w', KsAt w' g (L.set k c) → w.grownBy w' (some g) → wpList Try.prog ops Q rest (a.put o.dst undef) w') : wpList Try.prog ops Q (o :: rest) a w := by
  refine wpList_plain hgd fun K hK => ?_
  have h1 : ∀ v ∈ (KC c).toList, v.oneCell' = true := fun v hv => by
    have := Array.all_eq_true_iff_forall_mem.1 (KC_one (k := c)) v (by simpa using hv)
    exact this
  have hst := run_storeCells_at Try.prog g off 25 (KC c).toList 0 (FK L).toArray w hA (by rw [KCl hc, List.size_toArray, FK_length L ha]; omega) h1
  simp only [Nat.add_zero, KCl hc] at hst
  have hrun : (storeVar 25 ⟨g, off, none⟩ (KV c)).run Try.prog w = .ok () (w.setRow g ((FK L).take off ++ (KC c).toList ++ (FK L).drop (off + 20)).toArray) := by
    have hty := key_info hc
    cases hq : Try.prog.info? 25 with
    | none => simp [hq] at hty
    | some t =>
      have hs' : t.size = 20 := by simpa [hq, KC_size, hc] using hty
      simp [storeVar, sizeOf, typeInfo, hq, Value.cells, KC_size, hc, hs', hst]
  unfold Oper.wp execOp
  simp only [ho, hx, hy, Instr.storeAt, Instr.sureAddr, Sem.run_bind, Sem.run_pure, Result.andThen_ok, hrun]
  refine hK _ _ (h _ ?_ ⟨rfl, rfl, rfl, by simp [World.setRow], fun k _ hk => setRow_other w g k _ (fun e => hk (by rw [e]))⟩)
  unfold KsAt
  rw [setRow_heap w g _ _ _ _ hA, FK_set L ha k c hk, hoff]
/-- Some keys, the others 0. -/
def kUp (l : List Int) (i : Nat) : List (List Nat) := (List.range l.length).map fun j => if j < i then KY.of [l.getD j 0] else KY.zero
theorem kUp_length (l : List Int) (i : Nat) : (kUp l i).length = l.length := by simp [kUp]
theorem kUp_all (l : List Int) (i : Nat) : AllK (kUp l i) := fun k hk => by
  obtain ⟨j, _, rfl⟩ := List.mem_map.1 hk
  split
  · exact (KY.of_ok _).1
  · exact KY.zero_ok.1
theorem kUp_zero (l : List Int) : kUp l 0 = List.replicate l.length KY.zero := by
  apply List.ext_getElem
  · simp [kUp]
  · intro i h1 h2; simp [kUp]
theorem kUp_step (l : List Int) (i : Nat) : (kUp l i).set i (KY.of [l.getD i 0]) = kUp l (i + 1) := by
  apply List.ext_getElem
  · simp [kUp]
  · intro j h1 h2
    rw [List.getElem_set]
    simp only [kUp, List.getElem_map, List.getElem_range]
    by_cases e : i = j
    · subst e; rw [if_pos rfl, if_pos (by omega)]
    · rw [if_neg e]
      by_cases e2 : j < i
      · rw [if_pos e2, if_pos (by omega)]
      · rw [if_neg e2, if_neg (by omega)]
/-- The keys of peers. -/
def keysOf (l : List Int) : List (List Nat) := l.map fun p => KY.of [p]
theorem kUp_full (l : List Int) : kUp l l.length = keysOf l := by
  apply List.ext_getElem
  · simp [kUp, keysOf]
  · intro j h1 h2
    have hj : j < l.length := by simpa [keysOf] using h2
    simp [kUp, keysOf, hj]
theorem FK_zeros : ∀ n, ∀ v ∈ FK (List.replicate n KY.zero), v = .int .u8 0
  | 0, v, h => by cases h
  | n + 1, v, h => by
    rw [List.replicate_succ, FK_cons, List.mem_append] at h
    rcases h with h | h
    · rw [KC_zero] at h
      simpa using h
    · exact FK_zeros n v h
theorem made_zeros (n : Nat) : madeCells Z20 (n * 20) = (FK (List.replicate n KY.zero)).toArray := by
  have ha : AllK (List.replicate n KY.zero) := fun k hk => by rw [(List.mem_replicate.1 hk).2]; exact KY.zero_ok.1
  apply Array.ext
  · rw [size_madeCells, List.size_toArray, FK_length _ ha, List.length_replicate]
  · intro i h1 h2
    have hz2 : (FK (List.replicate n KY.zero)).toArray[i] = .int .u8 0 := FK_zeros n _ (List.mem_toArray.1 (Array.getElem_mem h2))
    rw [hz2]
    simp only [madeCells, Array.getElem_map, Array.getElem_range]
    have hz : ∀ j, j < 20 → Z20[j]! = .int .u8 0 := by
      intro j hj
      match j, hj with
      | 0, _ | 1, _ | 2, _ | 3, _ | 4, _ | 5, _ | 6, _ | 7, _ | 8, _ | 9, _ | 10, _ | 11, _ | 12, _ | 13, _ | 14, _ | 15, _ | 16, _ | 17, _ | 18, _ | 19, _ => rfl
      | j + 20, h => exact absurd h (by omega)
    exact hz (i % 20) (Nat.mod_lt _ (by decide))
theorem pkinfo : (Try.prog.info? 25).map (fun i => (i.zero, i.size, i.bytes)) = some (some (.agg Z20), 20, 20) := by kernel_rfl
theorem mkKeys (k : Nat) (hk : k ≤ 1000) (w : World) : (Instr.makeSlice 49 (.int .i64 (k : Int)) (.int .i64 (k : Int))).run Try.prog w = .ok (.slice (some ⟨w.heap.size, 0, none⟩) k k) (w.alloc (.cells (FK (List.replicate k KY.zero)).toArray 25)) := by
  obtain ⟨i, hi, hz0, hz1, hz2⟩ := info_parts pkinfo
  have h := run_make (P := Try.prog) w 49 25 i (.agg Z20) Try.underlying49 hi hz0 .i64 .i64 k k (by omega) (Int.le_refl _) (by rw [hz2]; omega) (by omega)
  rw [hz1] at h
  simp only [Int.toNat_natCast, Value.cells] at h
  rw [h, made_zeros]
set_option maxHeartbeats 2000000 in
theorem keys_any (v : Value) (l : List Int) (w : World) (hv : Ints w v l) (h0 : 0 < l.length) (hl : l.length ≤ 1000) :
    Calls Try.prog 19 #[v] w fun e w' => ∃ g, e = .returned (.slice (some ⟨g, 0, none⟩) l.length l.length) ∧ w.Extends w' ∧ KsAt w' g (keysOf l) := by
  obtain ⟨a, cap, rfl, hle, hcap⟩ := hv.slice
  obtain ⟨b1, o1, rfl, hb1, hc1⟩ := hv.cell.2 h0
  have HV : Hid (∀ i, i < l.length → ∀ w', w.Extends w' → w'.cell? ⟨b1, o1 + i, none⟩ = some (.int .i64 (l.getD i 0))) := fun i hi w' hx => hx.cell_of (hc1 i hi)
  have hmk := fun w => mkKeys l.length hl w
  obtain ⟨s, hs⟩ : ∃ s, s = w.heap.size := ⟨_, rfl⟩
  have H1 : Hid (w.Extends (w.alloc (.cells (FK (List.replicate l.length KY.zero)).toArray 25)) ∧ KsAt (w.alloc (.cells (FK (List.replicate l.length KY.zero)).toArray 25)) s (kUp l 0)) := ⟨ext_alloc _ _, by subst hs; unfold KsAt; rw [kUp_zero, heap_alloc_new]⟩
  have HST : Hid (∀ i, (kUp l i).set i (KY.of [l.getD i 0]) = kUp l (i + 1)) := fun i => kUp_step l i
  have HAL : Hid (∀ i, AllK (kUp l i)) := fun i => kUp_all l i
  have HLE : Hid (∀ i, (kUp l i).length = l.length) := fun i => kUp_length l i
  have HEND : Hid (kUp l l.length = keysOf l) := kUp_full l
  have HSZ := Lib.hid hs
  generalize keysOf l = KL at *
  generalize hF : kUp l = F at *
  generalize hX : l.getD = X at *
  generalize l.length = n at *
  clear hF hX hc1 hv
  go_enter Try.func19, Try.ntmps19
  go_wp2_with fail
  rw [← hs]
  clear hs
  generalize hw1 : World.alloc w _ = w1 at *
  obtain ⟨hx1, hk1⟩ := H1.out
  have HX1 := Lib.hid hx1
  have HK1 := Lib.hid hk1
  clear hw1 H1 hx1 hk1 hmk
  go_loopw [11] (fun s11 wr => ∃ i : Nat, i ≤ n ∧ s11 = .int .i64 (i : Nat) ∧ Hid (w.Extends wr) ∧ Hid (KsAt wr s (F i))) (fun s11 _ => n - (intOf s11).toNat)
  case atStart => exact ⟨0, by omega, by rfl, HX1, HK1⟩
  case round =>
    obtain ⟨i, hi, rfl, HX, HK⟩ := hrel
    by_cases h1 : i < n
    · have hc := HV.out i h1 wr HX.out
      have HS := Lib.hid (HST.out i)
      have HOF : Hid (∀ w v, Ints w v [X i 0] → Calls Try.prog 24 #[v] w fun e w' => e = .returned (KV (KY.of [X i 0])) ∧ w.Extends w') := fun w v h => kof_any w h
      have HDL : Hid ((KY.of [X i 0]).length = 20) := (KY.of_ok _).1
      generalize KY.of [X i 0] = d at *
      generalize X i 0 = x at *
      go_wp2_with fail
      have hi3 := ints_one wr x 3
      generalize hw3 : World.alloc wr _ = w3 at *
      have hx3 : wr.Extends w3 := by subst hw3; exact ext_alloc _ _
      refine (HOF.out w3 _ hi3).mono ?_
      rintro e w4 ⟨rfl, hx4⟩
      have HX4 := Lib.hid (Gr.ext_trans HX.out (Gr.ext_trans hx3 hx4))
      have HK4 := Lib.hid (HK.out.ext (Gr.ext_trans hx3 hx4))
      clear hw3 hx3 hx4 hi3 hc HX HK
      go_wp2_with (refine wpList_store_kk rfl (.tmp 21) (.tmp 20) rfl s _ i d (F i) rfl rfl HK4.out (HAL.out i) HDL.out (by omega) (by rw [HLE.out]; exact h1) ?_)
      intro w5 hk5 hg5
      rw [HS.out] at hk5
      have HX5 : Hid (w.Extends w5) := ext_own HX4.out hg5 (fun q hq => by have := Option.some.inj hq; have := HSZ.out; omega)
      have HK5 := Lib.hid hk5
      clear hk5 hg5 HX4 HK4
      go_wp2
      go_roundw
      case rel => exact ⟨i + 1, by omega, by go_num, HX5, HK5⟩
      case measure => simp [intOf]; omega
    · obtain rfl : i = n := by omega
      have HP : Hid (∃ g, Ending.returned (.slice (some ⟨s, 0, none⟩) i i) = .returned (.slice (some ⟨g, 0, none⟩) i i) ∧ w.Extends wr ∧ KsAt wr g KL) := ⟨s, rfl, HX.out, by rw [← HEND.out]; exact HK.out⟩
      go_wp2
      go_ret
      exact HP.out
end Go.Proofs.Ytnbhkbncllebmaa
namespace Go.Proofs.Ytnbhkbncllebmaa
set_option maxRecDepth 20000
open Go.RowKit
set_option linter.unusedVariables false
/-- What stands where a call on two keys has boxed both, and laid two variables. -/
structure Four (w w1 : World) (s : Nat) (a b : List Nat) : Prop where
  below : Below w.heap.size w w1
  at_ : w.heap.size = s
  a : KAt w1 s a
  b : KAt w1 (s + 1) b
  r : KAt w1 (s + 1 + 1) KY.zero
  v : KAt w1 (s + 1 + 1 + 1) KY.zero
theorem Four.made (w : World) {a b : List Nat} (ha : KY.Ok a) (hb : KY.Ok b) :
    Four w ((((w.alloc (.cells (KC a) 25)).alloc (.cells (KC b) 25)).alloc (.cells Z20 25)).alloc (.cells Z20 25)) w.heap.size a b := by
  have h2 := KAt.new (w.alloc (.cells (KC a) 25)) hb.1
  have h3 := KAt.zeros ((w.alloc (.cells (KC a) 25)).alloc (.cells (KC b) 25))
  have h4 := KAt.zeros (((w.alloc (.cells (KC a) 25)).alloc (.cells (KC b) 25)).alloc (.cells Z20 25))
  have e : ∀ (w : World) (o : Obj), (w.alloc o).heap.size = w.heap.size + 1 := fun w o => by simp
  rw [e] at h2
  rw [e, e] at h3
  rw [e, e, e] at h4
  exact ⟨((((Below.refl _ _).alloc (Nat.le_refl _) _).alloc (by simp) _).alloc (by simp; omega) _).alloc (by simp; omega) _, rfl, (((KAt.new w ha.1).alloc _).alloc _).alloc _, (h2.alloc _).alloc _, h3.alloc _, h4⟩
set_option maxHeartbeats 1000000 in
theorem kdist_any {a b : List Nat} (ha : KY.Ok a) (hb : KY.Ok b) (w : World) :
    Calls Try.prog 28 #[KV a, KV b] w fun e w' => e = .returned (KV (KY.dist a b)) ∧ w.Extends w' := by
  obtain ⟨d, hd⟩ : ∃ d, d = KY.dist a b := ⟨_, rfl⟩
  have hdl : d.length = 20 := by rw [hd]; exact KY.dist_len ha.1 hb.1
  have HG := Lib.hid fun i => KY.dist_get ha.1 hb.1 i
  rw [← hd] at HG ⊢
  have HDL := Lib.hid hdl
  clear hd hdl
  go_enter Try.func28, Try.ntmps28
  go_wp2_with fail
  have HF := Lib.hid (Four.made w ha hb)
  generalize hw1 : World.alloc _ _ = w1 at *
  clear hw1
  obtain ⟨s, hs⟩ : ∃ s, s = w.heap.size := ⟨_, rfl⟩
  rw [← hs] at HF ⊢
  clear hs
  go_loopw [7] (fun i wr => ∃ k : Nat, k ≤ 20 ∧ i = .int .i64 k ∧ w1.grownBy wr (some (s + 1 + 1 + 1)) ∧ wr.rowIs (s + 1 + 1 + 1) 25 20 (KTo d k)) (fun i _ => (20 - intOf i).toNat)
  case atStart => exact ⟨0, by omega, rfl, grown_refl _ _, KTo.start _ HF.out.v⟩
  case round =>
    obtain ⟨k, hk, rfl, hg, hr⟩ := hrel
    by_cases h1 : k < 20
    · have hra := HF.out.a.of_block (hg.block s (by have := HF.out.a.lt; omega) (by simp; omega))
      have hrb := HF.out.b.of_block (hg.block (s + 1) (by have := HF.out.b.lt; omega) (by simp))
      have hc1 := hra.cell h1
      have hc2 := hrb.cell h1
      have hc3 := hr.cell h1
      have hf3 := hr.frozen k
      have hx := ha.lt k
      have hy := hb.lt k
      have HN := Lib.hid (KTo.next hr (i := k) rfl)
      have HGR := Lib.hid (grown_setCell hg k (.int .u8 (d.getD k 0 : Nat)))
      have HV := Lib.hid (u8_xor_nat _ _ hx hy)
      rw [HG.out k] at HN HGR
      clear hg hr hra hrb
      generalize a.getD k 0 = x at *
      generalize b.getD k 0 = y at *
      generalize KTo d k k = old at *
      go_wp2_with fail
      go_region
      rw [HV.out]
      have HR := Lib.hid HN.out.drew
      have HW := Lib.hid (grown_drew HGR.out)
      clear HN HGR
      go_wp2
      go_roundw
      case rel => exact ⟨k + 1, by omega, by go_num, HW.out, HR.out⟩
      case measure => simp [intOf]; omega
    · obtain rfl : k = 20 := by omega
      have hk1 := KAt.block (KTo.done hr) HDL.out
      have hro := HF.out.r.of_block (hg.block (s + 1 + 1) (by have := HF.out.v.lt; omega) (by simp))
      obtain ⟨old, hk4, hk5⟩ := key_block hro
      have hi := key_info HDL.out
      have hsame : old.size = (KC d).size := by rw [KC_size, HDL.out, hk5]
      have hb := HF.out.below.grown hg (by have := HF.out.below.size; omega) (fun q hq => by have := HF.out.at_; cases hq; omega)
      have HFIN := Lib.hid (key_left (r := s + 1 + 1) (k := d) (by have := HF.out.at_; omega) hb ⟨old, hk4, hk5⟩)
      clear hg hr hro hb
      go_wp2_with (first | (refine wpList_load_row rfl 25 (.tmp 5) rfl (s + 1 + 1 + 1) rfl 25 (KC d) (0, 0) _ hk1 Try.underlying25 rfl hi ?_) | (refine wpList_store_row rfl 25 (.tmp 4) (.tmp 20) rfl (s + 1 + 1) (KC d) rfl rfl 25 old hk4 hi hsame KC_one ?_))
      refine bodyPost_ret (v := KV d) (results_cell_row rfl _ _ (s + 1 + 1) 25 (KC d) (0, 0) _ rfl HFIN.out.2 Try.underlying25 rfl hi) rfl ⟨rfl, Gr.ext_of HFIN.out.1⟩
set_option maxHeartbeats 1000000 in
theorem rkdist_any {a b : List Nat} (ha : KY.Ok a) (hb : KY.Ok b) (w : World) :
    Calls Try.prog 30 #[KV a, KV b] w fun e w' => e = .returned (KV (KY.dist a b)) ∧ w.Extends w' := by
  obtain ⟨d, hd⟩ : ∃ d, d = KY.dist a b := ⟨_, rfl⟩
  have hdl : d.length = 20 := by rw [hd]; exact KY.dist_len ha.1 hb.1
  have HG := Lib.hid fun i => KY.dist_get ha.1 hb.1 i
  rw [← hd] at HG ⊢
  have HDL := Lib.hid hdl
  clear hd hdl
  go_enter Try.func30, Try.ntmps30
  go_wp2_with fail
  have HF := Lib.hid (Four.made w ha hb)
  generalize hw1 : World.alloc _ _ = w1 at *
  clear hw1
  obtain ⟨s, hs⟩ : ∃ s, s = w.heap.size := ⟨_, rfl⟩
  rw [← hs] at HF ⊢
  clear hs
  go_loopw [6] (fun i wr => ∃ k : Nat, k ≤ 20 ∧ i = .int .i64 k ∧ w1.grownBy wr (some (s + 1 + 1 + 1)) ∧ wr.rowIs (s + 1 + 1 + 1) 25 20 (KTo d k)) (fun i _ => (20 - intOf i).toNat)
  case atStart => exact ⟨0, by omega, rfl, grown_refl _ _, KTo.start _ HF.out.v⟩
  case round =>
    obtain ⟨k, hk, rfl, hg, hr⟩ := hrel
    by_cases h1 : k < 20
    · have hra := HF.out.a.of_block (hg.block s (by have := HF.out.a.lt; omega) (by simp; omega))
      have hrb := HF.out.b.of_block (hg.block (s + 1) (by have := HF.out.b.lt; omega) (by simp))
      have hc1 := hra.cell h1
      have hc2 := hrb.cell h1
      have hc3 := hr.cell h1
      have hf3 := hr.frozen k
      have hx := ha.lt k
      have hy := hb.lt k
      have HN := Lib.hid (KTo.next hr (i := k) rfl)
      have HGR := Lib.hid (grown_setCell hg k (.int .u8 (d.getD k 0 : Nat)))
      have HV := Lib.hid (u8_xor_nat _ _ hx hy)
      rw [HG.out k] at HN HGR
      clear hg hr hra hrb
      generalize a.getD k 0 = x at *
      generalize b.getD k 0 = y at *
      generalize KTo d k k = old at *
      go_wp2_with fail
      go_region
      rw [HV.out]
      have HR := Lib.hid HN.out.drew
      have HW := Lib.hid (grown_drew HGR.out)
      clear HN HGR
      go_wp2
      go_roundw
      case rel => exact ⟨k + 1, by omega, by go_num, HW.out, HR.out⟩
      case measure => simp [intOf]; omega
    · obtain rfl : k = 20 := by omega
      have hk1 := KAt.block (KTo.done hr) HDL.out
      have hro := HF.out.r.of_block (hg.block (s + 1 + 1) (by have := HF.out.v.lt; omega) (by simp))
      obtain ⟨old, hk4, hk5⟩ := key_block hro
      have hi := key_info HDL.out
      have hsame : old.size = (KC d).size := by rw [KC_size, HDL.out, hk5]
      have hb := HF.out.below.grown hg (by have := HF.out.below.size; omega) (fun q hq => by have := HF.out.at_; cases hq; omega)
      have HFIN := Lib.hid (key_left (r := s + 1 + 1) (k := d) (by have := HF.out.at_; omega) hb ⟨old, hk4, hk5⟩)
      clear hg hr hro hb
      go_wp2_with (first | (refine wpList_load_row rfl 25 (.tmp 5) rfl (s + 1 + 1 + 1) rfl 25 (KC d) (0, 0) _ hk1 Try.underlying25 rfl hi ?_) | (refine wpList_store_row rfl 25 (.tmp 4) (.tmp 20) rfl (s + 1 + 1) (KC d) rfl rfl 25 old hk4 hi hsame KC_one ?_))
      refine bodyPost_ret (v := KV d) (results_cell_row rfl _ _ (s + 1 + 1) 25 (KC d) (0, 0) _ rfl HFIN.out.2 Try.underlying25 rfl hi) rfl ⟨rfl, Gr.ext_of HFIN.out.1⟩
end Go.Proofs.Ytnbhkbncllebmaa
namespace Go.Proofs.Ytnbhkbncllebmaa
set_option maxRecDepth 20000
open Go.RowKit
set_option linter.unusedVariables false
theorem run_bytes_of_key {w : World} {s : Nat} {k : List Nat} (h : KAt w s k) (hl : k.length = 20) :
    (Extern.Bytes.bytesOf (.slice (some ⟨s, 0, none⟩) 20 20)).run Try.prog w = .ok ⟨(k.map fun x => UInt8.ofNat x).toArray⟩ w := by
  have hr := Lib.run_loadBytesX (P := Try.prog) w (k.map fun (x : Nat) => (x : Int)) ⟨s, 0, none⟩ .empty (fun j x hj => by
    have hjl : j < k.length := by have := (List.getElem?_eq_some_iff.1 hj).1; simpa using this
    have e : (⟨s, 0, none⟩ : Addr).add j = ⟨s, j, none⟩ := by unfold Addr.add; split <;> simp_all
    rw [e, h.cell (by omega), KY.get_in _ _ hjl]
    simp only [List.getElem?_map, List.getElem?_eq_getElem hjl, Option.map_some, Option.some.injEq] at hj
    rw [← hj])
  rw [List.length_map, hl] at hr
  unfold Extern.Bytes.bytesOf
  rw [hr]
  congr 1
  apply ByteArray.ext
  show (#[] : Array UInt8) ++ (Lib.bytesOf (k.map fun (x : Nat) => (x : Int))).toArray = _
  simp [Lib.bytesOf, Function.comp_def]
theorem run_compare_keys {w : World} {s r : Nat} {a b : List Nat} (ha : KAt w s a) (hb : KAt w r b) (hla : a.length = 20) (hlb : b.length = 20) :
    (Extern.BytealgCompare.compare #[.slice (some ⟨s, 0, none⟩) 20 20, .slice (some ⟨r, 0, none⟩) 20 20]).run Try.prog w = .ok (.int .i64 (Lib.compareBytes (a.map fun x => UInt8.ofNat x) (b.map fun x => UInt8.ofNat x))) w := by
  change Sem.run Try.prog (do pure (goInt (Extern.BytealgCompare.cmp (← Extern.Bytes.bytesOf (.slice (some ⟨s, 0, none⟩) 20 20)) (← Extern.Bytes.bytesOf (.slice (some ⟨r, 0, none⟩) 20 20))))) w = _
  simp only [Sem.run_bind, Sem.run_pure, run_bytes_of_key ha hla, run_bytes_of_key hb hlb, Result.andThen]
  rw [Lib.cmp_eq]
  rfl
theorem bcompare_any {w : World} {s r : Nat} {a b : List Nat} (ha : KAt w s a) (hb : KAt w r b) (hla : a.length = 20) (hlb : b.length = 20) :
    Calls Try.prog 35 #[.slice (some ⟨s, 0, none⟩) 20 20, .slice (some ⟨r, 0, none⟩) 20 20] w fun e w' => e = .returned (.int .i64 (Lib.compareBytes (a.map fun x => UInt8.ofNat x) (b.map fun x => UInt8.ofNat x))) ∧ w = w' := by
  have hr := run_compare_keys ha hb hla hlb
  go_enter Try.func35, Try.ntmps35
  go_wp2
  rw [run_callFunc_extern Try.func36 (by kernel_rfl) (by kernel_rfl) (by kernel_rfl) (e := Extern.BytealgCompare.compare) (by kernel_rfl), hr]
  simp only [Result.andThen]
  rw [Oper.upon_value]
  go_wp2
  go_ret
  exact ⟨rfl, rfl⟩
/-- What stands where a call on two keys has boxed both. -/
structure Boxed (w w1 : World) (s : Nat) (a b : List Nat) : Prop where
  ext : w.Extends w1
  at_ : w.heap.size = s
  a : KAt w1 s a
  b : KAt w1 (s + 1) b
theorem Boxed.made (w : World) {a b : List Nat} (ha : KY.Ok a) (hb : KY.Ok b) : Boxed w ((w.alloc (.cells (KC a) 25)).alloc (.cells (KC b) 25)) w.heap.size a b := by
  have h2 := KAt.new (w.alloc (.cells (KC a) 25)) hb.1
  rw [show (w.alloc (.cells (KC a) 25)).heap.size = w.heap.size + 1 by simp] at h2
  exact ⟨Gr.ext_of (((Below.refl _ _).alloc (Nat.le_refl _) _).alloc (by simp) _), rfl, (KAt.new w ha.1).alloc _, h2⟩
set_option maxHeartbeats 1000000 in
theorem kless_any {a b : List Nat} (ha : KY.Ok a) (hb : KY.Ok b) (w : World) :
    Calls Try.prog 27 #[KV a, KV b] w fun e w' => e = .returned (.bool (KY.lt a b)) ∧ w.Extends w' := by
  have HC := Lib.hid (KY.compare_lt a b (by rw [ha.1, hb.1]) ha.2 hb.2)
  generalize KY.lt a b = q at *
  go_enter Try.func27, Try.ntmps27
  go_wp2_with fail
  have HB := Lib.hid (Boxed.made w ha hb)
  generalize hw1 : World.alloc _ _ = w1 at *
  clear hw1
  obtain ⟨s, hs⟩ : ∃ s, s = w.heap.size := ⟨_, rfl⟩
  rw [← hs] at HB ⊢
  clear hs
  refine Gr.region 2 [(false,0),(false,1)] (by kernel_rfl) (by kernel_rfl) (fun d _ _ _ _ h => by cases d <;> exact h) ?_
  simp only [Gr.pick, List.getElem?_cons_zero, List.getElem?_cons_succ, List.drop_succ_cons, List.drop_zero]
  have HA1 := Lib.hid HB.out.a.drew
  have HA2 := Lib.hid HB.out.b.drew
  have HX := Lib.hid (Gr.ext_drew HB.out.ext)
  generalize w1.drew = w2 at *
  iterate 2
    refine Gr.walk_t ?_ (Or.inl ⟨by rfl, ?_⟩) ?_
    rotate_left
    · intro w' hw'
      clear hw'
      go_simp
      try with_reducible rfl
    simp only [Act.put, List.setIfInBounds_toArray, List.set_cons_zero, List.set_cons_succ]
  refine Gr.walk_nil ?_
  go_wp2_with fail
  refine (bcompare_any HA1.out HA2.out ha.1 hb.1).mono ?_
  rintro e w' ⟨rfl, rfl⟩
  generalize Lib.compareBytes _ _ = c at *
  go_wp2
  go_ret
  rw [← HC.out]
  exact ⟨rfl, HX.out⟩
set_option maxHeartbeats 1000000 in
theorem rkless_any {a b : List Nat} (ha : KY.Ok a) (hb : KY.Ok b) (w : World) :
    Calls Try.prog 29 #[KV a, KV b] w fun e w' => e = .returned (.bool (KY.lt a b)) ∧ w.Extends w' := by
  obtain ⟨q, hq⟩ : ∃ q, q = KY.lt a b := ⟨_, rfl⟩
  have HC := Lib.hid hq
  rw [← hq]
  clear hq
  go_enter Try.func29, Try.ntmps29
  go_wp2_with fail
  have HB := Lib.hid (Boxed.made w ha hb)
  generalize hw1 : World.alloc _ _ = w1 at *
  clear hw1
  obtain ⟨s, hs⟩ : ∃ s, s = w.heap.size := ⟨_, rfl⟩
  rw [← hs] at HB ⊢
  clear hs
  go_loopw [5] (fun i wr => ∃ k : Nat, k ≤ 20 ∧ i = .int .i64 k ∧ w1.Extends wr ∧ q = KY.lt (a.drop k) (b.drop k)) (fun i _ => (20 - intOf i).toNat)
  case atStart => exact ⟨0, by omega, rfl, Gr.ext_refl _, HC.out⟩
  case round =>
    obtain ⟨k, hk, rfl, hx, hl⟩ := hrel
    by_cases h1 : k < 20
    · have hc1 := (HB.out.a.ext hx).cell h1
      have hc2 := (HB.out.b.ext hx).cell h1
      have hka := ha.1
      have hkb := hb.1
      have hd := KY.lt_drop (a := a) (b := b) (k := k) (by omega) (by omega)
      have HD := Lib.hid (hl.trans hd)
      have HX := Lib.hid hx
      have HXW := Lib.hid (Gr.ext_trans HB.out.ext hx)
      clear hd hl hx hka hkb
      generalize a.getD k 0 = x at *
      generalize b.getD k 0 = y at *
      go_wp2_with fail
      go_region
      by_cases h2 : x = y
      · go_wp2
        go_roundw
        case rel => exact ⟨k + 1, by omega, by go_num, Gr.ext_drew HX.out, by rw [HD.out, if_neg (by omega), if_neg (by omega)]⟩
        case measure => simp [intOf]; omega
      · go_wp2
        go_region
        go_wp2
        go_ret
        refine ⟨?_, Gr.ext_drew (Gr.ext_drew HXW.out)⟩
        rw [HD.out]
        by_cases h3 : x < y
        · rw [if_pos h3]; simp [h3]
        · rw [if_neg h3, if_pos (by omega)]; simp [h3]
    · have hkk : k = 20 := by omega
      rw [hkk, List.drop_of_length_le (by rw [ha.1]; omega)] at hl
      have HL := Lib.hid (hl.trans (show KY.lt [] _ = false by simp [KY.lt]))
      have HXW := Lib.hid (Gr.ext_trans HB.out.ext hx)
      clear hl hx
      go_wp2
      go_ret
      rw [HL.out]
      exact ⟨rfl, HXW.out⟩
end Go.Proofs.Ytnbhkbncllebmaa
namespace Go.Proofs.Ytnbhkbncllebmaa
set_option maxRecDepth 20000
open Go.RowKit
theorem refStir_any (x : Nat) (hx : x < 4294967296) (w : World) :
    Calls Try.prog 33 #[.int .u32 x] w fun e w' => e = .returned (.int .u32 (RM.stir x : Nat)) ∧ w = w' := by
  go_enter Try.func33, Try.ntmps33
  go_wp2
  go_ret
  exact ⟨retu32 (u32_stir x hx), rfl⟩
end Go.Proofs.Ytnbhkbncllebmaa
namespace Go.Proofs.Ytnbhkbncllebmaa
set_option maxRecDepth 20000
open Go.RowKit
theorem refRand_any (y i : Nat) (m : Int) (hy : y < 4294967296) (hm0 : -9223372036854775808 ≤ m) (hm1 : m ≤ 9223372036854775807) (w : World) :
    Calls Try.prog 34 #[.int .u32 y, .int .u32 i, .int .i64 m] w fun e w' => e = .returned (.int .i64 (RM.rand y i m)) ∧ w = w' := by
  by_cases h : m < 1
  · have e : RM.rand y i m = 0 := if_pos h
    rw [e]
    go_enter Try.func34, Try.ntmps34
    go_wp2
    go_ret
    exact ⟨rfl, rfl⟩
  · have hl := RM.stir_lt ((RM.stir y + i * 2654435769) % 4294967296)
    have hr := rand_val y i m (by omega)
    go_enter Try.func34, Try.ntmps34
    go_wp2_with fail
    refine (refStir_any _ hy _).mono ?_
    rintro e w' ⟨rfl, rfl⟩
    go_wp2_with fail
    rw [u32_drawn]
    refine (refStir_any _ (Nat.mod_lt _ (by decide)) _).mono ?_
    rintro e w' ⟨rfl, rfl⟩
    go_wp2
    go_ret
    refine ⟨retn64 ?_, rfl⟩
    have hb := RM.rand_below y i m (by omega)
    rw [IntWalk.wrap64_in _ ⟨by omega, by omega⟩]
end Go.Proofs.Ytnbhkbncllebmaa
namespace Go.Proofs.Ytnbhkbncllebmaa
set_option maxRecDepth 20000
open Go.RowKit
set_option linter.unusedVariables false
theorem key_low (x : Int) : bits .and .u64 (IntKind.u64.wrap x) 4294967295 = x % 4294967296 := by
  rw [IntKind.wrap_u64, and_low32 _ (by omega) (by omega)]; omega
theorem key_step2 (y : Nat) (x : Int) : ((y : Int) + x % 4294967296) % 4294967296 = ((y + (x % 4294967296).toNat) % 4294967296 : Nat) := by omega
set_option maxHeartbeats 1000000 in
theorem rkof_any {v : Value} {xs : List Int} (w : World) (h : Ints w v xs) :
    Calls Try.prog 25 #[v] w fun e w' => e = .returned (KV (KY.of xs)) ∧ w.Extends w' := by
  obtain ⟨a, cap, rfl, hle, hcap⟩ := h.slice
  have hL : xs.length ≤ 9223372036854775807 := Nat.le_trans h.len (by decide)
  obtain ⟨d, hd⟩ : ∃ d, d = KY.of xs := ⟨_, rfl⟩
  have HD := Lib.hid (show d = KY.keyOf (KY.stirred xs) from hd)
  have HDL := Lib.hid (show d.length = 20 by rw [hd]; exact KY.keyOf_len _)
  rw [← hd]
  clear hd
  go_enter Try.func25, Try.ntmps25
  go_wp2_with fail
  generalize hw1 : World.alloc _ _ = w1 at *
  have hx1 : w.Extends w1 := by subst hw1; exact Gr.ext_of ((Below.refl _ _).alloc (Nat.le_refl _) _)
  have hz : KAt w1 w.heap.size KY.zero := by subst hw1; exact KAt.zeros w
  have HI := Lib.hid (h.ext hx1)
  obtain ⟨s, hs⟩ : ∃ s, s = w.heap.size := ⟨_, rfl⟩
  rw [← hs] at hz ⊢
  have HX := Lib.hid hx1
  have HZ := Lib.hid hz
  have HS := Lib.hid hs
  clear hx1 hz hw1 hs
  go_loopw [4, 3] (fun i y wr => ∃ k : Nat, k ≤ xs.length ∧ i = .int .i64 k ∧ y = .int .u32 (KY.stirred (xs.take k) : Nat) ∧ w1 = wr) (fun i _ _ => (xs.length - intOf i).toNat)
  case atStart => exact ⟨0, by omega, rfl, rfl, rfl⟩
  case round =>
    obtain ⟨k, hk, rfl, rfl, rfl⟩ := hrel
    by_cases h1 : k < xs.length
    · have hc := (HI.out.cell).2
      obtain ⟨b, off, rfl, hb, hcl⟩ := hc (by omega)
      have hc1 := hcl k h1
      have hy := KY.stirred_lt (xs.take k)
      have HN := Lib.hid (stirred_next xs k h1)
      generalize KY.stirred (xs.take k) = y at *
      generalize xs.getD k 0 = x at *
      have HY := Lib.hid (key_step2 y x)
      have HA := Lib.hid (key_low x)
      clear hcl hc
      go_wp2_with fail
      rw [HA.out, HY.out]
      refine (refStir_any _ (Nat.mod_lt _ (by decide)) _).mono ?_
      rintro e w' ⟨rfl, rfl⟩
      rw [← HN.out]
      clear HN
      go_wp2
      go_roundw
      case rel => exact ⟨k + 1, by omega, by go_num, by first | rfl | trivial, by first | rfl | trivial⟩
      case measure => simp [intOf]; omega
    · have hkk : k = xs.length := by omega
      rw [hkk, List.take_length]
      rw [hkk] at h1
      clear hkk hk
      have HY := Lib.hid (KY.stirred_lt xs)
      generalize KY.stirred xs = y at *
      go_wp2_with fail
      have HZ2 := Lib.hid (KAt.zeros w1)
      have HR2 := Lib.hid (HZ.out.alloc (.cells Z20 25))
      have HX2 := Lib.hid (Gr.ext_trans HX.out (Gr.ext_of ((Below.refl w1.heap.size w1).alloc (Nat.le_refl _) (.cells Z20 25))))
      have hsv : s < w1.heap.size := HZ.out.lt
      generalize hw2 : World.alloc w1 _ = w2 at *
      obtain ⟨v, hv⟩ : ∃ v, v = w1.heap.size := ⟨_, rfl⟩
      rw [← hv] at HZ2 hsv ⊢
      clear hw2 hv HI h
      go_loopw [6] (fun i wr => ∃ k : Nat, k ≤ 20 ∧ i = .int .i64 k ∧ w2.grownBy wr (some v) ∧ wr.rowIs v 25 20 (KTo d k)) (fun i _ => (20 - intOf i).toNat)
      case atStart => exact ⟨0, by omega, rfl, grown_refl _ _, KTo.start _ HZ2.out⟩
      case round =>
        obtain ⟨k, hk, rfl, hg, hr⟩ := hrel
        by_cases h1 : k < 20
        · have hc3 := hr.cell h1
          have hf3 := hr.frozen k
          have HN := Lib.hid (KTo.next hr (i := k) rfl)
          have HGR := Lib.hid (grown_setCell hg k (.int .u8 (d.getD k 0 : Nat)))
          have HB := Lib.hid (show d.getD k 0 = KY.byteOf y k by rw [HD.out]; exact KY.keyOf_get y k h1)
          have hb : KY.byteOf y k < 256 := Nat.mod_lt _ (by decide)
          have HV := Lib.hid (KY.rand256 y k)
          rw [HB.out] at HN HGR
          clear hg hr HB
          generalize KY.byteOf y k = x at *
          generalize KTo d k k = old at *
          go_wp2_with fail
          refine (refRand_any y k 256 HY.out (by decide) (by decide) _).mono ?_
          rintro e w' ⟨rfl, rfl⟩
          rw [HV.out]
          go_wp2
          go_roundw
          case rel => exact ⟨k + 1, by omega, by go_num, HGR.out, HN.out⟩
          case measure => simp [intOf]; omega
        · obtain rfl : k = 20 := by omega
          have hk1 := KAt.block (KTo.done hr) HDL.out
          have hro := HR2.out.of_block (hg.block s (by have := HZ2.out.lt; omega) (by simp; omega))
          obtain ⟨old, hk4, hk5⟩ := key_block hro
          have hi := key_info HDL.out
          have hsame : old.size = (KC d).size := by rw [KC_size, HDL.out, hk5]
          have hsw := HS.out
          have hb := (Gr.below_of HX2.out).grown hg HX2.out.size (fun q hq => by cases hq; omega)
          have HFIN := Lib.hid (key_left (r := s) (k := d) (by omega) hb ⟨old, hk4, hk5⟩)
          clear hg hr hro hb hsw
          go_wp2_with (first | (refine wpList_load_row rfl 25 (.tmp 5) rfl v rfl 25 (KC d) (0, 0) _ hk1 Try.underlying25 rfl hi ?_) | (refine wpList_store_row rfl 25 (.tmp 2) (.tmp 34) rfl s (KC d) rfl rfl 25 old hk4 hi hsame KC_one ?_))
          refine bodyPost_ret (v := KV d) (results_cell_row rfl _ _ s 25 (KC d) (0, 0) _ rfl HFIN.out.2 Try.underlying25 rfl hi) rfl ⟨rfl, Gr.ext_of HFIN.out.1⟩
end Go.Proofs.Ytnbhkbncllebmaa
namespace Go.Proofs.Ytnbhkbncllebmaa
set_option maxRecDepth 20000
open Go.RowKit
namespace GrU
open Gr (AnyE check growB pick)
section
variable {P : Program} {ops : Array Oper} {Q : Exit → Act → World → Prop} {md : Region.Mode} {S : World → Prop}
variable {R : World → World → Prop}
structure Way (R : World → World → Prop) : Prop where
  refl : ∀ w, R w w
  trans : ∀ {a b c}, R a b → R b c → R a c
open Gr (checkTo lists)
/-! Where more than one operation that is carried out may come up: the walk goes a step at a time. -/
/-- What is left: 'f' operations of the head, then the tail. -/
def Left (R : World → World → Prop) (P : Program) (l : List Oper) (Q : Exit → Act → World → Prop) (n f : Nat) (listed : Array Bool) (a : Act) (w : World) : Prop :=
  HeadInv .any l.toArray n listed → AnyE P .any l.toArray Q n (fun listed' a' w' => Region.seqB .any l.toArray (l.toArray.size - n) n listed' = true ∧ wpList P l.toArray Q (l.drop n) a' w') (R w) f listed a w
theorem Left.done {l : List Oper} {n : Nat} {listed : Array Bool} {a : Act} {w : World} (hB : Region.seqB .any l.toArray (l.toArray.size - n) n listed = true) (h : wpList P l.toArray Q (l.drop n) a w) : Left R P l Q n 0 listed a w := fun _ => ⟨hB, h⟩
theorem Left.take (hR : Way R) {l : List Oper} {n f i : Nat} {o : Oper} {listed : Array Bool} {a : Act} {w : World} (hi : l[i]? = some o)
    (hk : (Region.noSelect l.toArray && decide (n < l.toArray.size) && Region.sinkB .any l.toArray n && Region.chainB .any l.toArray n && decide (i < n) && (Region.ready .any l.toArray listed).contains i && Region.free .any l.toArray listed i) = true)
    (hQ : ∀ d v c a w, Q (.panic c) (Act.put a d v) w → Q (.panic c) a w) (v : Value) (hy : YieldsIf P l.toArray (R w) o v a)
    (h : Left R P l Q n f (listed.setIfInBounds i true) (a.put o.dst v) w) : Left R P l Q n (f + 1) listed a w := fun inv => by
  simp only [Bool.and_eq_true, decide_eq_true_eq] at hk
  obtain ⟨⟨⟨⟨⟨⟨hsel, hn⟩, hs⟩, hc⟩, hin⟩, hr⟩, hf⟩ := hk
  have hoa : l.toArray[i]? = some o := by simpa using hi
  have hrm : i ∈ Region.ready .any l.toArray listed := by simpa using hr
  exact AnyE.first hoa (Region.noSelect_spec hsel) hs hc hn hin (fun c a w => hQ _ v c a w) (fun listed' a' w' hL => seqB_ready hL.1) f listed a w inv (Region.free_spec hoa hf) hrm hy (hR.refl w) (h (inv.set hrm hin))
/-- One step of an operation that is carried out. -/
def Step (R : World → World → Prop) (P : Program) (l : List Oper) (Q : Exit → Act → World → Prop) (n f i : Nat) (listed : Array Bool) (a : Act) (w : World) : Prop :=
  ∀ o, l[i]? = some o → ∀ K : Act → World → Prop, Shut (∀ a' w', R w w' → Left R P l Q n f (listed.setIfInBounds i true) a' w' → K a' w') → if Region.wanted o (yielded l.toArray a.tmps) = true then o.wp P a w K Q else K (a.put o.dst undef) w
theorem Step.mk {l : List Oper} {n f i : Nat} {o : Oper} {listed : Array Bool} {a : Act} {w : World} (hi : l[i]? = some o)
    (h : ∀ K : Act → World → Prop, Shut (∀ a' w', R w w' → Left R P l Q n f (listed.setIfInBounds i true) a' w' → K a' w') → if Region.wanted o (yielded l.toArray a.tmps) = true then o.wp P a w K Q else K (a.put o.dst undef) w) : Step R P l Q n f i listed a w := fun o' ho' => by
  rw [hi] at ho'; cases ho'; exact h
theorem Left.some (hR : Way R) {l : List Oper} {n f : Nat} {rs : List Nat} {listed : Array Bool} {a : Act} {w : World} (hr : Region.ready .any l.toArray listed = rs) (hne : (!rs.isEmpty && rs.all (· < n) && rs.all (· < l.length)) = true)
    (h : ∀ i ∈ rs, Step R P l Q n f i listed a w) : Left R P l Q n (f + 1) listed a w := fun inv => by
  simp only [Bool.and_eq_true, List.all_eq_true, decide_eq_true_eq] at hne
  refine ⟨(by rw [hr]; intro h0; rw [h0] at hne; simp at hne), fun j hj => ?_⟩
  have hjr : j ∈ rs := hr ▸ hj
  refine ⟨hne.1.2 j hjr, ?_⟩
  have hjl := hne.2 j hjr
  have hoa : l.toArray[j]? = Option.some l[j] := by simp
  have h0 := h j hjr l[j] (List.getElem?_eq_getElem hjl) (fun a' w' => R w w' ∧ Left R P l Q n f (listed.setIfInBounds j true) a' w') (fun _ _ h1 h2 => ⟨h1, h2⟩)
  have hinv := inv.set hj (hne.1.2 j hjr)
  have fin : ∀ a' w', R w w' ∧ Left R P l Q n f (listed.setIfInBounds j true) a' w' → R w w' ∧ AnyE P .any l.toArray Q n _ (R w) f (listed.setIfInBounds j true) a' w' :=
    fun a' w' hk => ⟨hk.1, AnyE.weaken (fun u hu => hR.trans hk.1 hu) _ _ _ _ (hk.2 hinv)⟩
  unfold wpOp
  simp only [hoa]
  split
  · rename_i hw; rw [if_pos hw] at h0; exact .inl (Oper.wp_mono fin h0)
  · rename_i hw; rw [if_neg hw] at h0; exact fin _ _ h0
theorem Left.one (hR : Way R) {l : List Oper} {n f i : Nat} {listed : Array Bool} {a : Act} {w : World} (hr : Region.ready .any l.toArray listed = [i]) (hne : (decide (i < n) && decide (i < l.length)) = true)
    (h : Step R P l Q n f i listed a w) : Left R P l Q n (f + 1) listed a w :=
  Left.some hR hr (by simpa using hne) (fun j hj => by
    obtain rfl : j = i := by simpa using hj
    exact h)
theorem Left.two (hR : Way R) {l : List Oper} {n f i j : Nat} {listed : Array Bool} {a : Act} {w : World} (hr : Region.ready .any l.toArray listed = [i, j]) (hne : (decide (i < n) && decide (i < l.length) && decide (j < n) && decide (j < l.length)) = true)
    (h1 : Step R P l Q n f i listed a w) (h2 : Step R P l Q n f j listed a w) : Left R P l Q n (f + 1) listed a w :=
  Left.some hR hr (by simp only [Bool.and_eq_true, decide_eq_true_eq] at hne; simp; omega) (fun k hk => by
    simp only [List.mem_cons, List.not_mem_nil, or_false] at hk
    rcases hk with rfl | rfl
    · exact h1
    · exact h2)
def walkE (R : World → World → Prop) (P : Program) (ops : Array Oper) (Q : Exit → Act → World → Prop) (E : Act → World → Prop) : List (Bool × Oper) → Act → World → Prop
  | [], a, w => E a w
  | (true, o) :: rest, a, w => if Region.wanted o (yielded ops a.tmps) = true then o.wp P a w (fun a' w' => R w w' ∧ walkE R P ops Q E rest a' w') Q else walkE R P ops Q E rest (a.put o.dst undef) w
  | (false, o) :: rest, a, w => ∃ v, YieldsIf P ops (R w) o v a ∧ walkE R P ops Q E rest (a.put o.dst v) w
theorem walkE_nil {E : Act → World → Prop} {a : Act} {w : World} (h : E a w) : walkE R P ops Q E [] a w := h
theorem walkE_t {E : Act → World → Prop} {rest : List (Bool × Oper)} {o : Oper} {a : Act} {w : World} (v : Value) (hy : YieldsIf P ops (R w) o v a) (h : walkE R P ops Q E rest (a.put o.dst v) w) :
    walkE R P ops Q E ((false, o) :: rest) a w := ⟨v, hy, h⟩
theorem walkE_sound (hR : Way R) {l : List Oper} {n g : Nat} (hsel : Region.noSelect l.toArray = true) (hs : Region.sinkB .any l.toArray n = true) (hc : Region.chainB .any l.toArray n = true) (hn : n < l.toArray.size)
    (hQ : ∀ d v c a w, Q (.panic c) (Act.put a d v) w → Q (.panic c) a w) :
    ∀ (ord : List (Bool × Nat)) (listed : Array Bool) (a : Act) (w : World), checkTo .any l.toArray n ord listed = true →
      walkE R P l.toArray Q (Left R P l Q n g (lists ord listed)) (pick l ord) a w → Left R P l Q n (ord.length + g) listed a w
  | [], listed, a, w, _, h => by rw [List.length_nil, Nat.zero_add]; exact h
  | (c, i) :: rest, listed, a, w, hB, h => fun inv => by
    simp only [checkTo, Bool.and_eq_true, decide_eq_true_eq] at hB
    obtain ⟨⟨hin, hr⟩, hB'⟩ := hB
    have hil : i < l.length := by have : l.toArray.size = l.length := by simp
                                  omega
    have ho : l[i]? = Option.some l[i] := List.getElem?_eq_getElem hil
    have hoa : l.toArray[i]? = Option.some l[i] := by simp
    have hlen : ((c, i) :: rest).length + g = (rest.length + g) + 1 := by simp; omega
    rw [hlen]
    simp only [pick, ho] at h
    cases c with
    | true =>
      simp only [decide_eq_true_eq] at hr
      refine ⟨(by rw [hr]; simp), fun j hj => ?_⟩
      rw [hr] at hj
      obtain rfl : j = i := by simpa using hj
      refine ⟨hin, ?_⟩
      have hrm : j ∈ Region.ready .any l.toArray listed := by rw [hr]; simp
      unfold walkE at h
      unfold wpOp
      simp only [hoa]
      split
      · rename_i hw
        rw [if_pos hw] at h
        exact .inl (Oper.wp_mono (fun a' w' hk => ⟨hk.1, AnyE.weaken (fun u hu => hR.trans hk.1 hu) _ _ _ _ (walkE_sound hR hsel hs hc hn hQ rest _ a' w' hB' hk.2 (inv.set hrm hin))⟩) h)
      · rename_i hw
        rw [if_neg hw] at h
        exact ⟨hR.refl w, walkE_sound hR hsel hs hc hn hQ rest _ _ w hB' h (inv.set hrm hin)⟩
    | false =>
      simp only [Bool.and_eq_true] at hr
      unfold walkE at h
      obtain ⟨v, hy, hK⟩ := h
      have hrm : i ∈ Region.ready .any l.toArray listed := by simpa using hr.1
      exact AnyE.first hoa (Region.noSelect_spec hsel) hs hc hn hin (fun c a w => hQ _ v c a w) (fun listed' a' w' hL => seqB_ready hL.1) (rest.length + g) listed a w inv (Region.free_spec hoa hr.2) hrm hy (hR.refl w)
        (walkE_sound hR hsel hs hc hn hQ rest _ _ w hB' hK (inv.set hrm hin))
theorem regionE (hR : Way R) {id : Nat} {a : Act} {w : World} {l : List Oper} (n g : Nat) (ord : List (Bool × Nat)) (hm : P.follows .mixedOrders = true)
    (hB : (Region.noSelect l.toArray && decide (n < l.toArray.size) && Region.sinkB .any l.toArray n && Region.chainB .any l.toArray n && decide (ord.length + g = n) && checkTo .any l.toArray n ord (Array.replicate l.toArray.size false)) = true)
    (hQ : ∀ d v c a w, Q (.panic c) (Act.put a d v) w → Q (.panic c) a w)
    (h : walkE R P l.toArray Q (Left R P l Q n g (lists ord (Array.replicate l.toArray.size false))) (pick l ord) a w.drew) : (Code.region id l.toArray true).wp P Q a w := by
  simp only [Bool.and_eq_true, decide_eq_true_eq] at hB
  obtain ⟨⟨⟨⟨⟨hsel, hn⟩, hs⟩, hc⟩, hlen⟩, hck⟩ := hB
  have hdl : (l.drop n).length = l.toArray.size - n := by simp
  have inv0 : HeadInv .any l.toArray n (Array.replicate l.toArray.size false) :=
    ⟨by simp, fun j oj _ hl => (by rw [getD_replicate_false] at hl; cases hl), fun t _ ht => getD_in (by simpa using ht) (getD_replicate_false _ _)⟩
  have H := walkE_sound hR hsel hs hc hn hQ ord _ a w.drew hck h inv0
  refine wp_region_any hm ?_
  have := AnyE.any (Q := Q) (g := l.toArray.size - n) (fun listed a' w' hL => by
    have := wpAny_of_seq (md := .any) (Q' := Q) (l.drop n) n listed a' w' (fun j => by simp [List.getElem?_drop]) (by rw [hdl]; exact hL.1) hL.2
    rwa [hdl] at this) _ _ _ _ H
  rw [hlen, show n + (l.toArray.size - n) = l.toArray.size by omega] at this
  exact this
end
end GrU
end Go.Proofs.Ytnbhkbncllebmaa
namespace Go.Proofs.Ytnbhkbncllebmaa
set_option maxRecDepth 20000
open Go.RowKit
namespace GrL
open Gr (AnyE check growB pick)
section
variable {P : Program} {ops : Array Oper} {Q : Exit → Act → World → Prop} {md : Region.Mode} {S : World → Prop}
variable {B : Nat}
open Gr (checkTo lists)
/-! Where more than one operation that is carried out may come up: the walk goes a step at a time. -/
/-- What is left: 'f' operations of the head, then the tail. -/
def Left (B : Nat) (P : Program) (l : List Oper) (Q : Exit → Act → World → Prop) (n f : Nat) (listed : Array Bool) (a : Act) (w : World) : Prop :=
  HeadInv .any l.toArray n listed → AnyE P .any l.toArray Q n (fun listed' a' w' => Region.seqB .any l.toArray (l.toArray.size - n) n listed' = true ∧ wpList P l.toArray Q (l.drop n) a' w') (Below B w) f listed a w
theorem Left.done {l : List Oper} {n : Nat} {listed : Array Bool} {a : Act} {w : World} (hB : Region.seqB .any l.toArray (l.toArray.size - n) n listed = true) (h : wpList P l.toArray Q (l.drop n) a w) : Left B P l Q n 0 listed a w := fun _ => ⟨hB, h⟩
theorem Left.take {l : List Oper} {n f i : Nat} {o : Oper} {listed : Array Bool} {a : Act} {w : World} (hi : l[i]? = some o)
    (hk : (Region.noSelect l.toArray && decide (n < l.toArray.size) && Region.sinkB .any l.toArray n && Region.chainB .any l.toArray n && decide (i < n) && (Region.ready .any l.toArray listed).contains i && Region.free .any l.toArray listed i) = true)
    (hQ : ∀ d v c a w, Q (.panic c) (Act.put a d v) w → Q (.panic c) a w) (v : Value) (hy : YieldsIf P l.toArray (Below B w) o v a)
    (h : Left B P l Q n f (listed.setIfInBounds i true) (a.put o.dst v) w) : Left B P l Q n (f + 1) listed a w := fun inv => by
  simp only [Bool.and_eq_true, decide_eq_true_eq] at hk
  obtain ⟨⟨⟨⟨⟨⟨hsel, hn⟩, hs⟩, hc⟩, hin⟩, hr⟩, hf⟩ := hk
  have hoa : l.toArray[i]? = some o := by simpa using hi
  have hrm : i ∈ Region.ready .any l.toArray listed := by simpa using hr
  exact AnyE.first hoa (Region.noSelect_spec hsel) hs hc hn hin (fun c a w => hQ _ v c a w) (fun listed' a' w' hL => seqB_ready hL.1) f listed a w inv (Region.free_spec hoa hf) hrm hy (Below.refl B w) (h (inv.set hrm hin))
/-- One step of an operation that is carried out. -/
def Step (B : Nat) (P : Program) (l : List Oper) (Q : Exit → Act → World → Prop) (n f i : Nat) (listed : Array Bool) (a : Act) (w : World) : Prop :=
  ∀ o, l[i]? = some o → ∀ K : Act → World → Prop, Shut (∀ a' w', Below B w w' → Left B P l Q n f (listed.setIfInBounds i true) a' w' → K a' w') → if Region.wanted o (yielded l.toArray a.tmps) = true then o.wp P a w K Q else K (a.put o.dst undef) w
theorem Step.mk {l : List Oper} {n f i : Nat} {o : Oper} {listed : Array Bool} {a : Act} {w : World} (hi : l[i]? = some o)
    (h : ∀ K : Act → World → Prop, Shut (∀ a' w', Below B w w' → Left B P l Q n f (listed.setIfInBounds i true) a' w' → K a' w') → if Region.wanted o (yielded l.toArray a.tmps) = true then o.wp P a w K Q else K (a.put o.dst undef) w) : Step B P l Q n f i listed a w := fun o' ho' => by
  rw [hi] at ho'; cases ho'; exact h
theorem Left.some {l : List Oper} {n f : Nat} {rs : List Nat} {listed : Array Bool} {a : Act} {w : World} (hr : Region.ready .any l.toArray listed = rs) (hne : (!rs.isEmpty && rs.all (· < n) && rs.all (· < l.length)) = true)
    (h : ∀ i ∈ rs, Step B P l Q n f i listed a w) : Left B P l Q n (f + 1) listed a w := fun inv => by
  simp only [Bool.and_eq_true, List.all_eq_true, decide_eq_true_eq] at hne
  refine ⟨(by rw [hr]; intro h0; rw [h0] at hne; simp at hne), fun j hj => ?_⟩
  have hjr : j ∈ rs := hr ▸ hj
  refine ⟨hne.1.2 j hjr, ?_⟩
  have hjl := hne.2 j hjr
  have hoa : l.toArray[j]? = Option.some l[j] := by simp
  have h0 := h j hjr l[j] (List.getElem?_eq_getElem hjl) (fun a' w' => Below B w w' ∧ Left B P l Q n f (listed.setIfInBounds j true) a' w') (fun _ _ h1 h2 => ⟨h1, h2⟩)
  have hinv := inv.set hj (hne.1.2 j hjr)
  have fin : ∀ a' w', Below B w w' ∧ Left B P l Q n f (listed.setIfInBounds j true) a' w' → Below B w w' ∧ AnyE P .any l.toArray Q n _ (Below B w) f (listed.setIfInBounds j true) a' w' :=
    fun a' w' hk => ⟨hk.1, AnyE.weaken (fun u hu => hk.1.trans hu) _ _ _ _ (hk.2 hinv)⟩
  unfold wpOp
  simp only [hoa]
  split
  · rename_i hw; rw [if_pos hw] at h0; exact .inl (Oper.wp_mono fin h0)
  · rename_i hw; rw [if_neg hw] at h0; exact fin _ _ h0
theorem Left.one {l : List Oper} {n f i : Nat} {listed : Array Bool} {a : Act} {w : World} (hr : Region.ready .any l.toArray listed = [i]) (hne : (decide (i < n) && decide (i < l.length)) = true)
    (h : Step B P l Q n f i listed a w) : Left B P l Q n (f + 1) listed a w :=
  Left.some hr (by simpa using hne) (fun j hj => by obtain rfl : j = i := by simpa using hj
                                                    exact h)
theorem Left.two {l : List Oper} {n f i j : Nat} {listed : Array Bool} {a : Act} {w : World} (hr : Region.ready .any l.toArray listed = [i, j]) (hne : (decide (i < n) && decide (i < l.length) && decide (j < n) && decide (j < l.length)) = true)
    (h1 : Step B P l Q n f i listed a w) (h2 : Step B P l Q n f j listed a w) : Left B P l Q n (f + 1) listed a w :=
  Left.some hr (by simp only [Bool.and_eq_true, decide_eq_true_eq] at hne; simp; omega) (fun k hk => by
    simp only [List.mem_cons, List.not_mem_nil, or_false] at hk
    rcases hk with rfl | rfl
    · exact h1
    · exact h2)
def walkE (B : Nat) (P : Program) (ops : Array Oper) (Q : Exit → Act → World → Prop) (E : Act → World → Prop) : List (Bool × Oper) → Act → World → Prop
  | [], a, w => E a w
  | (true, o) :: rest, a, w => if Region.wanted o (yielded ops a.tmps) = true then o.wp P a w (fun a' w' => Below B w w' ∧ walkE B P ops Q E rest a' w') Q else walkE B P ops Q E rest (a.put o.dst undef) w
  | (false, o) :: rest, a, w => ∃ v, YieldsIf P ops (Below B w) o v a ∧ walkE B P ops Q E rest (a.put o.dst v) w
theorem walkE_nil {E : Act → World → Prop} {a : Act} {w : World} (h : E a w) : walkE B P ops Q E [] a w := h
theorem walkE_t {E : Act → World → Prop} {rest : List (Bool × Oper)} {o : Oper} {a : Act} {w : World} (v : Value) (hy : YieldsIf P ops (Below B w) o v a) (h : walkE B P ops Q E rest (a.put o.dst v) w) :
    walkE B P ops Q E ((false, o) :: rest) a w := ⟨v, hy, h⟩
theorem walkE_sound {l : List Oper} {n g : Nat} (hsel : Region.noSelect l.toArray = true) (hs : Region.sinkB .any l.toArray n = true) (hc : Region.chainB .any l.toArray n = true) (hn : n < l.toArray.size)
    (hQ : ∀ d v c a w, Q (.panic c) (Act.put a d v) w → Q (.panic c) a w) :
    ∀ (ord : List (Bool × Nat)) (listed : Array Bool) (a : Act) (w : World), checkTo .any l.toArray n ord listed = true →
      walkE B P l.toArray Q (Left B P l Q n g (lists ord listed)) (pick l ord) a w → Left B P l Q n (ord.length + g) listed a w
  | [], listed, a, w, _, h => by rw [List.length_nil, Nat.zero_add]; exact h
  | (c, i) :: rest, listed, a, w, hB, h => fun inv => by
    simp only [checkTo, Bool.and_eq_true, decide_eq_true_eq] at hB
    obtain ⟨⟨hin, hr⟩, hB'⟩ := hB
    have hil : i < l.length := by have : l.toArray.size = l.length := by simp
                                  omega
    have ho : l[i]? = Option.some l[i] := List.getElem?_eq_getElem hil
    have hoa : l.toArray[i]? = Option.some l[i] := by simp
    have hlen : ((c, i) :: rest).length + g = (rest.length + g) + 1 := by simp; omega
    rw [hlen]
    simp only [pick, ho] at h
    cases c with
    | true =>
      simp only [decide_eq_true_eq] at hr
      refine ⟨(by rw [hr]; simp), fun j hj => ?_⟩
      rw [hr] at hj
      obtain rfl : j = i := by simpa using hj
      refine ⟨hin, ?_⟩
      have hrm : j ∈ Region.ready .any l.toArray listed := by rw [hr]; simp
      unfold walkE at h
      unfold wpOp
      simp only [hoa]
      split
      · rename_i hw
        rw [if_pos hw] at h
        exact .inl (Oper.wp_mono (fun a' w' hk => ⟨hk.1, AnyE.weaken (fun u hu => hk.1.trans hu) _ _ _ _ (walkE_sound hsel hs hc hn hQ rest _ a' w' hB' hk.2 (inv.set hrm hin))⟩) h)
      · rename_i hw
        rw [if_neg hw] at h
        exact ⟨Below.refl B w, walkE_sound hsel hs hc hn hQ rest _ _ w hB' h (inv.set hrm hin)⟩
    | false =>
      simp only [Bool.and_eq_true] at hr
      unfold walkE at h
      obtain ⟨v, hy, hK⟩ := h
      have hrm : i ∈ Region.ready .any l.toArray listed := by simpa using hr.1
      exact AnyE.first hoa (Region.noSelect_spec hsel) hs hc hn hin (fun c a w => hQ _ v c a w) (fun listed' a' w' hL => seqB_ready hL.1) (rest.length + g) listed a w inv (Region.free_spec hoa hr.2) hrm hy (Below.refl B w)
        (walkE_sound hsel hs hc hn hQ rest _ _ w hB' hK (inv.set hrm hin))
theorem regionE {id : Nat} {a : Act} {w : World} {l : List Oper} (n g : Nat) (ord : List (Bool × Nat)) (hm : P.follows .mixedOrders = true)
    (hB : (Region.noSelect l.toArray && decide (n < l.toArray.size) && Region.sinkB .any l.toArray n && Region.chainB .any l.toArray n && decide (ord.length + g = n) && checkTo .any l.toArray n ord (Array.replicate l.toArray.size false)) = true)
    (hQ : ∀ d v c a w, Q (.panic c) (Act.put a d v) w → Q (.panic c) a w)
    (h : walkE B P l.toArray Q (Left B P l Q n g (lists ord (Array.replicate l.toArray.size false))) (pick l ord) a w.drew) : (Code.region id l.toArray true).wp P Q a w := by
  simp only [Bool.and_eq_true, decide_eq_true_eq] at hB
  obtain ⟨⟨⟨⟨⟨hsel, hn⟩, hs⟩, hc⟩, hlen⟩, hck⟩ := hB
  have hdl : (l.drop n).length = l.toArray.size - n := by simp
  have inv0 : HeadInv .any l.toArray n (Array.replicate l.toArray.size false) :=
    ⟨by simp, fun j oj _ hl => (by rw [getD_replicate_false] at hl; cases hl), fun t _ ht => getD_in (by simpa using ht) (getD_replicate_false _ _)⟩
  have H := walkE_sound hsel hs hc hn hQ ord _ a w.drew hck h inv0
  refine wp_region_any hm ?_
  have := AnyE.any (Q := Q) (g := l.toArray.size - n) (fun listed a' w' hL => by
    have := wpAny_of_seq (md := .any) (Q' := Q) (l.drop n) n listed a' w' (fun j => by simp [List.getElem?_drop]) (by rw [hdl]; exact hL.1) hL.2
    rwa [hdl] at this) _ _ _ _ H
  rw [hlen, show n + (l.toArray.size - n) = l.toArray.size by omega] at this
  exact this
end
end GrL
end Go.Proofs.Ytnbhkbncllebmaa
