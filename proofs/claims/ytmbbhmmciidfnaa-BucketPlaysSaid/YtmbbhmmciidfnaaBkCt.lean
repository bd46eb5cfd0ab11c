/- Contacts, and rows of contacts somewhere in a block. -/
import Derived.Test.YtmbbhmmciidfnaaKeyAt
import Derived.Test.YtmbbhmmciidfnaaWide
import Derived.Laws.StructEq
import Derived.Deep.MidRow
namespace Go.Proofs.Ytmbbhmmciidfnaa
set_option maxRecDepth 20000
open Go.RowKit Go.Deep
set_option linter.unusedVariables false
/-- A contact: a peer and a key of twenty bytes. -/
structure Ct where
  p : Int
  k : List Nat
  h : k.length = 20
theorem Ct.ext {a b : Ct} (h1 : a.p = b.p) (h2 : a.k = b.k) : a = b := by
  obtain ⟨p, k, h⟩ := a
  obtain ⟨q, l, h'⟩ := b
  simp only at h1 h2
  subst h1; subst h2; rfl
/-- The zero contact. -/
def z21 : Ct := ⟨0, KY.zero, rfl⟩
/-- A contact of that peer, of no key. -/
def Ct.of (p : Int) : Ct := ⟨p, KY.zero, rfl⟩
def Ct.eqb (a b : Ct) : Bool := decide (a.p = b.p) && decide (a.k = b.k)
theorem Ct.eqb_iff {a b : Ct} : a.eqb b = true ↔ a = b := by
  unfold Ct.eqb
  simp only [Bool.and_eq_true, decide_eq_true_eq]
  exact ⟨fun h => Ct.ext h.1 h.2, fun h => by rw [h]; exact ⟨rfl, rfl⟩⟩
/-- The cells of a contact. -/
def CL (c : Ct) : List Value := .int .i64 c.p :: c.k.map fun x => Value.int .u8 (x : Nat)
/-- A contact as a value. -/
abbrev CV (c : Ct) : Value := .agg (CL c).toArray
theorem CL_length (c : Ct) : (CL c).length = 21 := by simp [CL, c.h]
theorem CL_one (c : Ct) : ∀ v ∈ CL c, v.oneCell' = true := by
  intro v hv
  rcases List.mem_cons.1 hv with rfl | hv
  · rfl
  · obtain ⟨x, _, rfl⟩ := List.mem_map.1 hv; rfl
theorem CL_all (c : Ct) : (CL c).toArray.all (·.oneCell') = true := all_oneCell_toArray (CL_one c)
theorem CL_zero (c : Ct) : (CL c)[0]? = some (.int .i64 c.p) := rfl
theorem CL_info (c : Ct) : (Try.prog.info? 28).map (·.size) = some (CL c).length := by rw [CL_length]; kernel_rfl
theorem CL_info2 (c : Ct) : (Try.prog.info? 28).map (·.size) = some (CL c).toArray.size := by rw [List.size_toArray, CL_length]; kernel_rfl
theorem CV_of (p : Int) : Value.agg #[.int .i64 p, .int .u8 0, .int .u8 0, .int .u8 0, .int .u8 0, .int .u8 0, .int .u8 0, .int .u8 0, .int .u8 0, .int .u8 0, .int .u8 0, .int .u8 0, .int .u8 0, .int .u8 0, .int .u8 0, .int .u8 0, .int .u8 0, .int .u8 0, .int .u8 0, .int .u8 0, .int .u8 0] = CV (Ct.of p) := by rfl
theorem CL_of (p : Int) : #[Value.int .i64 p, .int .u8 0, .int .u8 0, .int .u8 0, .int .u8 0, .int .u8 0, .int .u8 0, .int .u8 0, .int .u8 0, .int .u8 0, .int .u8 0, .int .u8 0, .int .u8 0, .int .u8 0, .int .u8 0, .int .u8 0, .int .u8 0, .int .u8 0, .int .u8 0, .int .u8 0, .int .u8 0] = (CL (Ct.of p)).toArray := by rfl
theorem run_key_eqd (d : Nat) {a b : List Nat} (ha : a.length = 20) (hb : b.length = 20) (w : World) : (Op.equalIn (d + 1 + 1) 26 (KV a) (KV b)).run Try.prog w = .ok (decide (a = b)) w := by
  obtain ⟨i, hi⟩ : ∃ i, Try.prog.info? 5 = some i := info_of_underlying Try.underlying5
  rw [run_equalIn_array w (d + 1) (KC a) (KC b) Try.underlying26 hi, show Try.prog.cellsOf 5 = 1 by kernel_rfl, run_key_items w d a b ha hb (List.range 20) (fun j hj => List.mem_range.1 hj)]
  congr 1
  rw [Bool.eq_iff_iff]
  simp only [List.all_eq_true, List.mem_range, beq_iff_eq, decide_eq_true_eq]
  exact ⟨fun h => KY.ext ha hb h, fun h i _ => by rw [h]⟩
theorem ct_peer (c : Ct) (w : World) : (part 3 (CL c).toArray 0).run Try.prog w = .ok (.int .i64 c.p) w := run_part_plain w (P := Try.prog) (e := 3) (by kernel_rfl) (by simp [CL])
theorem ct_key (c : Ct) (w : World) : (part 26 (CL c).toArray 1).run Try.prog w = .ok (KV c.k) w := by
  obtain ⟨i, hi⟩ : ∃ i, Try.prog.info? 26 = some i := info_of_underlying Try.underlying26
  have hsz : i.size = 20 := by
    have : (Try.prog.info? 26).map (·.size) = some 20 := by kernel_rfl
    rw [hi] at this; simpa using this
  have hx : (List.take 20 (CL c).tail).toArray = KC c.k := by
    unfold CL KC
    rw [List.tail_cons, List.take_of_length_le (by rw [List.length_map, c.h]; exact Nat.le_refl _)]
  simp [part, isAgg, run_underlying Try.underlying26, sizeOf, typeInfo, hi, hsz]
  exact hx
theorem ct_fields : ∃ f1 f2 : Field, f1.name ≠ "_" ∧ f2.name ≠ "_" ∧ f1.type = 3 ∧ f2.type = 26 ∧ f1.offset = 0 ∧ f2.offset = 1 ∧ (Try.prog.fieldsOf 28).toList = [f1, f2] := by
  unfold Program.fieldsOf
  rw [Try.underlying28]
  exact ⟨_, _, by decide, by decide, rfl, rfl, rfl, rfl, rfl⟩
theorem ct_struct : Try.prog.underlying 28 = some (.struct (Try.prog.fieldsOf 28)) := by
  unfold Program.fieldsOf
  rw [Try.underlying28]
theorem run_ct_items (d : Nat) (a b : Ct) (w : World) : (Op.eqFields (d + 1 + 1) (CL a).toArray (CL b).toArray (Try.prog.fieldsOf 28).toList).run Try.prog w = .ok (a.eqb b) w := by
  obtain ⟨f1, f2, hn1, hn2, e1, e2, e3, e4, hf⟩ := ct_fields
  obtain ⟨q, hq⟩ : ∃ q, decide (a.k = b.k) = q := ⟨_, rfl⟩
  obtain ⟨r, hr⟩ : ∃ r, decide (a.p = b.p) = r := ⟨_, rfl⟩
  have h3 := run_equalIn_int w (P := Try.prog) (d + 1) 3 .i64 .i64 a.p b.p Try.underlying3
  have h4 := run_key_eqd d a.h b.h w
  have e : (a.p == b.p) = r := by rw [← hr, Bool.eq_iff_iff, beq_iff_eq, decide_eq_true_eq]
  have hqr : a.eqb b = (r && q) := by unfold Ct.eqb; rw [hq, hr]
  have k1 := ct_key a w
  have k2 := ct_key b w
  have p1 := ct_peer a w
  have p2 := ct_peer b w
  rw [hf, hqr]
  rw [hq] at h4
  rw [e] at h3
  clear hq hr hqr e hf
  obtain ⟨n1, t1, o1, m1⟩ := f1
  obtain ⟨n2, t2, o2, m2⟩ := f2
  simp only at hn1 hn2 e1 e2 e3 e4
  subst e1; subst e2; subst e3; subst e4
  unfold Op.eqFields
  rw [if_pos hn1, Sem.run_bind, p1, Result.andThen_ok, Sem.run_bind, p2, Result.andThen_ok, Sem.run_bind, h3, Result.andThen_ok]
  cases r
  · rfl
  · show (Op.eqFields _ _ _ _).run _ w = _
    unfold Op.eqFields
    rw [if_pos hn2, Sem.run_bind, k1, Result.andThen_ok, Sem.run_bind, k2, Result.andThen_ok, Sem.run_bind, h4, Result.andThen_ok]
    cases q <;> rfl
theorem run_ct_eqd (d : Nat) (a b : Ct) (w : World) : (Op.equalIn (d + 1 + 1 + 1) 28 (CV a) (CV b)).run Try.prog w = .ok (a.eqb b) w :=
  (run_equalIn_struct w (d + 1 + 1) 28 (CL a).toArray (CL b).toArray ct_struct (by kernel_rfl)).trans (run_ct_items d a b w)
/-- Two contacts are held against each other. -/
theorem run_ct_eq (a b : Ct) (w : World) : (Op.equalIn 10000 28 (CV a) (CV b)).run Try.prog w = .ok (a.eqb b) w := run_ct_eqd 9997 a b w
theorem run_ct_neq {a b : Ct} {q : Bool} (hq : a.eqb b = q) {x y : Value} (hx : CV a = x) (hy : CV b = y) : ∀ w, (binOp .neq 28 x y).run Try.prog w = .ok (.bool (!q)) w := by
  intro w
  subst hx; subst hy
  rw [run_neq_struct, run_ct_eq, hq]; rfl
theorem ct_guard {a b : Ct} {x y : Value} (hx : CV a = x) (hy : CV b = y) : ∀ (o1 o2 : Operand) (w : World), (eqGuard .neq 28 o1 o2 x y).run Try.prog w = .ok () w := by
  intro o1 o2 w
  subst hx; subst hy
  have h : Try.prog.eqGuardType Try.prog.depth 28 = false := by kernel_rfl
  simp [eqGuard, h]
def flatC (l : List Ct) : List Value := l.flatMap CL
theorem flatC_nil : flatC [] = [] := rfl
theorem flatC_cons (c : Ct) (l : List Ct) : flatC (c :: l) = CL c ++ flatC l := rfl
theorem flatC_append (a b : List Ct) : flatC (a ++ b) = flatC a ++ flatC b := by simp [flatC]
theorem flatC_length : ∀ l : List Ct, (flatC l).length = l.length * 21
  | [] => rfl
  | c :: l => by rw [flatC_cons, List.length_append, flatC_length l, List.length_cons, CL_length]; omega
theorem flatC_one : ∀ (l : List Ct), ∀ v ∈ flatC l, v.oneCell' = true := by
  intro l v hv
  obtain ⟨c, _, hv⟩ := List.mem_flatMap.1 hv
  exact CL_one c v hv
theorem flatC_take (l : List Ct) (k : Nat) : (flatC l).take (k * 21) = flatC (l.take k) := by
  rcases Nat.le_total l.length k with h | h
  · rw [List.take_of_length_le (by rw [flatC_length]; omega), List.take_of_length_le h]
  · have e : flatC l = flatC (l.take k) ++ flatC (l.drop k) := by rw [← flatC_append, List.take_append_drop]
    rw [e, List.take_append_of_le_length (by rw [flatC_length, List.length_take]; omega), List.take_of_length_le (by rw [flatC_length, List.length_take]; omega)]
theorem flatC_drop (l : List Ct) (k : Nat) : (flatC l).drop (k * 21) = flatC (l.drop k) := by
  rcases Nat.le_total l.length k with h | h
  · rw [List.drop_eq_nil_of_le (by rw [flatC_length]; omega), List.drop_eq_nil_of_le h]; rfl
  · have e : flatC l = flatC (l.take k) ++ flatC (l.drop k) := by rw [← flatC_append, List.take_append_drop]
    have hk : (flatC (l.take k)).length = k * 21 := by rw [flatC_length, List.length_take]; omega
    rw [e, ← hk, List.drop_left]
theorem flatC_at : ∀ (l : List Ct) (k i : Nat), k < l.length → i < 21 → (flatC l)[k * 21 + i]? = (CL (l.getD k z21))[i]?
  | c :: l, 0, i, _, hi => by
    rw [flatC_cons, Nat.zero_mul, Nat.zero_add, List.getElem?_append_left (by rw [CL_length]; exact hi)]; rfl
  | c :: l, k + 1, i, hk, hi => by
    rw [flatC_cons, List.getElem?_append_right (by rw [CL_length]; omega), CL_length, show (k + 1) * 21 + i - 21 = k * 21 + i by omega, flatC_at l k i (by simpa using hk) hi]
    rfl
/-- In block g of type T the contacts l lie between pre and post. -/
def CAt (w : World) (g : Nat) (T : TypeId) (pre : List Value) (l : List Ct) (post : List Value) : Prop := w.heap[g]? = some (.cells (pre ++ flatC l ++ post).toArray T (0, 0))
theorem CAt.lt {w : World} {g : Nat} {T : TypeId} {pre post : List Value} {l : List Ct} (h : CAt w g T pre l post) : g < w.heap.size := (Array.getElem?_eq_some_iff.1 h).1
theorem CAt.kept {w w' : World} {g : Nat} {T : TypeId} {pre post : List Value} {l : List Ct} (h : CAt w g T pre l post) (hk : w'.heap[g]? = w.heap[g]?) : CAt w' g T pre l post := hk.trans h
theorem CAt.ext {w w' : World} {g : Nat} {T : TypeId} {pre post : List Value} {l : List Ct} (h : CAt w g T pre l post) (hx : w.Extends w') : CAt w' g T pre l post := h.kept (hx.block g h.lt)
theorem CAt.frozen {w : World} {g : Nat} {T : TypeId} {pre post : List Value} {l : List Ct} (h : CAt w g T pre l post) (o : Nat) : w.frozen? ⟨g, o, none⟩ = false := frozen_of_row _ _ _ _ _ h
theorem CAt.range {w : World} {g o k : Nat} {T : TypeId} {pre post : List Value} {l : List Ct} (h : CAt w g T pre l post) (ho : o = pre.length + k * 21) (hk : k < l.length) : w.rangeAt g o (CL (l.getD k z21)) := fun j v hv => by
  have hj : j < 21 := by rw [← CL_length (l.getD k z21)]; exact (List.getElem?_eq_some_iff.1 hv).1
  rw [cell_of_row _ _ _ _ _ _ h, List.getElem?_toArray, List.getElem?_append_left (by rw [List.length_append, flatC_length]; omega), List.getElem?_append_right (by omega), ho, show pre.length + k * 21 + j - pre.length = k * 21 + j by omega, flatC_at l k j hk hj]
  exact hv
theorem range_ext {w w' : World} {b off : Nat} {l : List Value} (h : w.rangeAt b off l) (hx : w.Extends w') : w'.rangeAt b off l := fun j v hv => hx.cell_of (h j v hv)
theorem range_peer {w : World} {g o : Nat} {c : Ct} (h : w.rangeAt g o (CL c)) : w.cell? ⟨g, o, none⟩ = some (.int .i64 c.p) := h 0 _ rfl
theorem CAt.box (w : World) (T : TypeId) (c : Ct) : CAt (w.alloc (.cells (CL c).toArray T)) w.heap.size T [] [c] [] := by
  unfold CAt
  rw [heap_alloc_new, flatC_cons, flatC_nil, List.append_nil, List.append_nil, List.nil_append]
/-- A contact is read whole. -/
theorem wpList_load_ct {ops : Array Oper} {rest : List Oper} {o : Oper} {a : Act} {w : World} {Q : Exit → Act → World → Prop} (hgd : o.guard = none) (x : Operand) (ho : o.op = .load 28 x)
    (g off : Nat) (c : Ct) (v : Value) (hv : CV c = v) (hx : a.eval x = .pointer (some ⟨g, off, none⟩)) (hr : w.rangeAt g off (CL c))
    (h : wpList Try.prog ops Q rest (a.put o.dst v) w) : wpList Try.prog ops Q (o :: rest) a w := by
  subst hv
  exact wpList_load_mid hgd 28 x ho g off hx (CL c) _ hr Try.underlying28 rfl (CL_info c) h
theorem ct_yields {w : World} {g off : Nat} {c : Ct} (hr : w.rangeAt g off (CL c)) {v : Value} (hv : CV c = v) {a : Act} {o : Oper} {x : Operand} (ho : o.op = .load 28 x) (hx : a.eval x = .pointer (some ⟨g, off, none⟩)) :
    (execOp a.eval o).run Try.prog w = .ok (.value v) w := by
  subst hv
  unfold execOp
  simp only [ho, hx, Instr.loadAt, Instr.sureAddr, Sem.run_bind, Sem.run_pure, Result.andThen_ok, run_loadVar_mid w g off 28 (CL c) _ hr Try.underlying28 rfl (CL_info c)]
/-- What a variable of a contact answers. -/
theorem run_ct_load {w : World} {g off : Nat} {c : Ct} (hr : w.rangeAt g off (CL c)) : (loadVar 28 ⟨g, off, none⟩).run Try.prog w = .ok (CV c) w := run_loadVar_mid w g off 28 (CL c) _ hr Try.underlying28 rfl (CL_info c)
theorem grown_setRow' (w : World) (g : Nat) (cs : Array Value) : w.grownBy (w.setRow g cs) (some g) := ⟨rfl, rfl, rfl, by simp [World.setRow], fun k _ hk => setRow_other w g k cs (fun e => hk (by rw [e]))⟩
theorem flatC_set (l : List Ct) (k : Nat) (c : Ct) (hk : k < l.length) : flatC (l.set k c) = (flatC l).take (k * 21) ++ CL c ++ (flatC l).drop (k * 21 + 21) := by
  rw [flatC_take, show k * 21 + 21 = (k + 1) * 21 by omega, flatC_drop, List.set_eq_take_append_cons_drop, if_pos hk, flatC_append, flatC_cons, List.append_assoc]
/-- A contact is stored whole. -/
theorem wpList_store_ct {ops : Array Oper} {rest : List Oper} {o : Oper} {a : Act} {w : World} {Q : Exit → Act → World → Prop} (hgd : o.guard = none) (x y : Operand) (ho : o.op = .store 28 x y)
    (g off k : Nat) (c : Ct) (T : TypeId) (pre post : List Value) (l : List Ct) (hx : a.eval x = .pointer (some ⟨g, off, none⟩)) (hy : a.eval y = CV c) (hA : CAt w g T pre l post) (hoff : off = pre.length + k * 21) (hk : k < l.length)
    (h : ∀ w', CAt w' g T pre (l.set k c) post → w.grownBy w' (some g) → wpList Try.prog ops Q rest (a.put o.dst undef) w') : wpList Try.prog ops Q (o :: rest) a w := by
  refine wpList_plain hgd fun K hK => ?_
  have hlen : (pre ++ flatC l ++ post).length = pre.length + l.length * 21 + post.length := by rw [List.length_append, List.length_append, flatC_length]
  have hst := run_storeCells_at Try.prog g off T (CL c) 0 (pre ++ flatC l ++ post).toArray w hA (by rw [CL_length, List.size_toArray, hlen]; omega) (CL_one c)
  simp only [Nat.add_zero, CL_length] at hst
  have hrun : (storeVar 28 ⟨g, off, none⟩ (CV c)).run Try.prog w = .ok () (w.setRow g ((pre ++ flatC l ++ post).take off ++ CL c ++ (pre ++ flatC l ++ post).drop (off + 21)).toArray) := by
    have hty := CL_info c
    cases hq : Try.prog.info? 28 with
    | none => simp [hq] at hty
    | some t =>
      have hs' : t.size = 21 := by simpa [hq, CL_length] using hty
      simp [storeVar, sizeOf, typeInfo, hq, Value.cells, CL_length, hs', hst]
  unfold Oper.wp execOp
  simp only [ho, hx, hy, Instr.storeAt, Instr.sureAddr, Sem.run_bind, Sem.run_pure, Result.andThen_ok, hrun]
  refine hK _ _ (h _ ?_ (grown_setRow' _ _ _))
  unfold CAt
  rw [setRow_heap w g _ _ _ _ hA]
  congr 3
  rw [flatC_set l k c hk, hoff]
  rw [List.append_assoc pre, List.take_append, List.take_of_length_le (by omega), show pre.length + k * 21 - pre.length = k * 21 by omega, List.take_append_of_le_length (by rw [flatC_length]; omega),
    List.drop_append, List.drop_eq_nil_of_le (by omega), show pre.length + k * 21 + 21 - pre.length = k * 21 + 21 by omega, List.nil_append, List.drop_append_of_le_length (by rw [flatC_length]; omega)]
  simp only [List.append_assoc]
theorem ctUnder : Try.prog.underlying 33 = some (.slice 28) := Try.underlying33
theorem ctInfo : ∃ i, Try.prog.info? 28 = some i := info_of_underlying Try.underlying28
theorem ctZero (w : World) : (zeroValue 28).run Try.prog w = .ok (CV z21) w := by
  have h : (Try.prog.info? 28).map (·.zero) = some (some (CV z21)) := by kernel_rfl
  obtain ⟨i, hi⟩ := ctInfo
  rw [hi] at h
  simp only [Option.map_some, Option.some.injEq] at h
  simp [zeroValue, typeInfo, hi, h]
/-- What is behind i is cleared. -/
theorem CAt.cleared {w : World} {g o : Nat} {T : TypeId} {pre post : List Value} {l : List Ct} (h : CAt w g T pre l post) {i n : Nat} (hn : l.length = n) (hi : i < n) (ho : o = pre.length + i * 21) (c : Nat) :
    ∃ w', (∀ ty, (Builtin.clear_ #[33] ty #[.slice (some ⟨g, o, none⟩) (n - i) c]).run Try.prog w = .ok (.tuple #[]) w') ∧ CAt w' g T pre (l.take i ++ List.replicate (n - i) z21) post ∧ w.grownBy w' (some g) := by
  have hz21 : (CV z21).cells.size = 21 := by kernel_rfl
  have hlen : (pre ++ flatC l ++ post).length = pre.length + l.length * 21 + post.length := by rw [List.length_append, List.length_append, flatC_length]
  refine ⟨_, fun ty => run_clear_wide w 33 28 ty (CV z21) ctUnder ctZero g o (n - i) c (pre ++ flatC l ++ post).toArray _ (by omega) h (by rw [hz21, List.size_toArray, hlen]; omega) (by
    intro v hv
    exact CL_one z21 v (by simpa [Value.cells] using hv)), ?_, grown_setRow' _ _ _⟩
  unfold CAt
  rw [setRow_heap w g _ _ _ _ h]
  congr 3
  have hzc : ∀ m, (Builtin.zeroCells (CV z21).cells m).toList = flatC (List.replicate m z21) := by
    intro m
    have hcs : (CV z21).cells = (CL z21).toArray := rfl
    apply List.ext_getElem?
    intro j
    unfold Builtin.zeroCells
    rcases Nat.lt_or_ge j (m * 21) with hj | hj
    · rw [Array.toList_map, Array.toList_range, List.getElem?_map, List.getElem?_range (by rw [hz21]; exact hj)]
      have e : j = j / 21 * 21 + j % 21 := by omega
      rw [e, flatC_at _ (j / 21) (j % 21) (by rw [List.length_replicate]; omega) (by omega), ← e]
      have hr : (List.replicate m z21).getD (j / 21) z21 = z21 := by
        rw [List.getD_eq_getElem?_getD, List.getElem?_replicate]; split <;> rfl
      rw [hr, hz21, hcs]
      have h2 : j % 21 < (CL z21).length := by rw [CL_length]; omega
      rw [List.getElem?_eq_getElem h2]
      simp [h2]
    · rw [List.getElem?_eq_none (by simp [hz21]; omega), List.getElem?_eq_none (by rw [flatC_length, List.length_replicate]; omega)]
  rw [hzc, hz21, List.toList_toArray, ho, flatC_append, ← flatC_take]
  rw [List.append_assoc pre, List.take_append, List.take_of_length_le (by omega), show pre.length + i * 21 - pre.length = i * 21 by omega, List.take_append_of_le_length (by rw [flatC_length]; omega),
    List.drop_append, List.drop_eq_nil_of_le (by omega), show pre.length + i * 21 + (n - i) * 21 - pre.length = n * 21 by omega, List.nil_append, List.drop_append, List.drop_eq_nil_of_le (by rw [flatC_length]; omega), flatC_length, show n * 21 - l.length * 21 = 0 by omega, List.drop_zero, List.nil_append]
  simp only [List.append_assoc]
end Go.Proofs.Ytmbbhmmciidfnaa
