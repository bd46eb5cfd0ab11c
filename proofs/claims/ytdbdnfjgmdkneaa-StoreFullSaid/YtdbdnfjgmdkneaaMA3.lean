/- In one text: StoRow, StoIdx, StoDel, StoRem. -/
import Derived.WalkKit
import Derived.IntWalk
import Derived.Test.YtdbdnfjgmdkneaaMA2
namespace Go.Proofs.Ytdbdnfjgmdkneaa
set_option maxRecDepth 20000
open Go.RowKit Go.Deep
set_option linter.unusedVariables false
/-- A record and the slice of its data. -/
abbrev Pr := Rc × Value
def zp : Pr := (Rc.zero, .slice none 0 0)
def flat (ps : List Pr) : List Value := ps.flatMap fun p => p.1.cells p.2
theorem flat_nil : flat [] = [] := rfl
theorem flat_cons (p : Pr) (ps : List Pr) : flat (p :: ps) = p.1.cells p.2 ++ flat ps := rfl
theorem flat_append (a b : List Pr) : flat (a ++ b) = flat a ++ flat b := by simp [flat]
theorem flat_length : ∀ ps : List Pr, (flat ps).length = ps.length * 10
  | [] => rfl
  | p :: ps => by rw [flat_cons, List.length_append, flat_length ps, List.length_cons]; show 10 + _ = _; omega
theorem flat_at : ∀ (ps : List Pr) (k i : Nat), k < ps.length → i < 10 → (flat ps)[k * 10 + i]? = ((ps.getD k zp).1.cells (ps.getD k zp).2)[i]?
  | p :: ps, 0, i, _, hi => by
    rw [flat_cons, Nat.zero_mul, Nat.zero_add, List.getElem?_append_left (by show i < 10; exact hi)]; rfl
  | p :: ps, k + 1, i, hk, hi => by
    rw [flat_cons, List.getElem?_append_right (by show 10 ≤ _; omega), show (k + 1) * 10 + i - (p.1.cells p.2).length = k * 10 + i by show (k + 1) * 10 + i - 10 = _; omega, flat_at ps k i (by simpa using hk) hi]
    rfl
/-- Its data is a slice of so many bytes. -/
def Slc (p : Pr) : Prop := ∃ a c, p.2 = .slice a p.1.d.length c
theorem Slc.one {p : Pr} (h : Slc p) : p.2.oneCell' = true := by
  obtain ⟨a, c, h⟩ := h
  rw [h]; rfl
theorem Slc.cells {p : Pr} (h : Slc p) : ∀ v ∈ p.1.cells p.2, v.oneCell' = true := by
  intro v hv
  have h1 := h.one
  simp only [Rc.cells, List.mem_cons, List.not_mem_nil, or_false] at hv
  rcases hv with h | h | h | h | h | h | h | h | h | h
  all_goals rw [h]
  all_goals first | exact h1 | rfl
theorem slc_flat {ps : List Pr} (h : ∀ p ∈ ps, Slc p) : ∀ v ∈ flat ps, v.oneCell' = true := by
  intro v hv
  obtain ⟨p, hp, hv⟩ := List.mem_flatMap.1 hv
  exact (h p hp).cells v hv
/-- v is a slice of a call's own of these records. -/
def OwnR (w : World) (v : Value) (ps : List Pr) : Prop := w.ownsRow 0 28 10 v ps.length (flat ps) ∧ ∀ p ∈ ps, Slc p
theorem OwnR.nil (w : World) : OwnR w (.slice none 0 0) [] := ⟨World.ownsRow_nil _ _ _ _, fun p hp => by cases hp⟩
theorem OwnR.kinds {w : World} {v : Value} {ps : List Pr} (h : OwnR w v ps) : (v = .slice none 0 0 ∧ ps = []) ∨ ∃ g cap, v = .slice (some ⟨g, 0, none⟩) ps.length cap := by
  rcases h.1.2 with ⟨rfl, h0⟩ | ⟨g, cap, cur, rfl, _⟩
  · exact .inl ⟨rfl, List.eq_nil_of_length_eq_zero h0⟩
  · exact .inr ⟨g, cap, rfl⟩
theorem OwnR.slice {w : World} {v : Value} {ps : List Pr} (h : OwnR w v ps) : ∃ a cap, v = .slice a ps.length cap := by
  rcases h.kinds with ⟨rfl, rfl⟩ | ⟨g, cap, rfl⟩
  · exact ⟨_, _, rfl⟩
  · exact ⟨_, _, rfl⟩
theorem OwnR.kept {w w' : World} {v : Value} {ps : List Pr} {row : Option Nat} (h : OwnR w v ps) (hg : w.grownBy w' row) (hne : v.ownBlock = none ∨ v.ownBlock ≠ row) : OwnR w' v ps := ⟨h.1.kept hg hne, h.2⟩
theorem OwnR.ext {w w' : World} {v : Value} {ps : List Pr} (h : OwnR w v ps) (hx : w.Extends w') : OwnR w' v ps := by
  have hg : w.grownBy w' none := ⟨hx.os, hx.tape, hx.output, hx.size, fun i hi _ => hx.block i hi⟩
  exact h.kept hg (by cases v.ownBlock <;> simp)
/-- Block g is an array of cap records, of which the first n are f's. -/
def Arr (w : World) (g cap n : Nat) (f : Nat → Pr) : Prop := ∃ cur : List Value, w.heap[g]? = some (.cells cur.toArray 28 (0, 0)) ∧ cur.length = cap * 10 ∧ n ≤ cap ∧ cap ≤ maxLen ∧ ∀ k, k < n → ∀ i, i < 10 → cur[k * 10 + i]? = ((f k).1.cells (f k).2)[i]?
theorem OwnR.arr {w : World} {g n cap : Nat} {ps : List Pr} (h : OwnR w (.slice (some ⟨g, 0, none⟩) n cap) ps) : Arr w g cap n (fun k => ps.getD k zp) ∧ n = ps.length := by
  rcases h.1.2 with ⟨e, _⟩ | ⟨g', cap', cur, e, _, hg, hnc, hcm, hcs, htake⟩
  · cases e
  · cases e
    refine ⟨⟨cur.toList, hg, by simpa using hcs, hnc, hcm, fun k hk i hi => ?_⟩, rfl⟩
    rw [← flat_at ps k i hk hi, ← htake, List.getElem?_take, if_pos (by omega)]
theorem Arr.lt {w : World} {g cap n : Nat} {f : Nat → Pr} (h : Arr w g cap n f) : g < w.heap.size := by
  obtain ⟨cur, h1, _⟩ := h
  exact (Array.getElem?_eq_some_iff.1 h1).1
theorem flat_of {cur : List Value} : ∀ (ps : List Pr), ps.length * 10 ≤ cur.length → (∀ k, k < ps.length → ∀ i, i < 10 → cur[k * 10 + i]? = ((ps.getD k zp).1.cells (ps.getD k zp).2)[i]?) → cur.take (ps.length * 10) = flat ps := fun ps hl h => by
  apply List.ext_getElem?
  intro j
  rcases Nat.lt_or_ge j (ps.length * 10) with hj | hj
  · have e : j = j / 10 * 10 + j % 10 := by omega
    rw [List.getElem?_take, if_pos hj, e, h (j / 10) (by omega) (j % 10) (by omega), flat_at ps (j / 10) (j % 10) (by omega) (by omega)]
  · rw [List.getElem?_eq_none (by rw [List.length_take]; omega), List.getElem?_eq_none (by rw [flat_length]; omega)]
theorem Arr.own {w : World} {g cap n m : Nat} {f : Nat → Pr} (h : Arr w g cap n f) (hm : m ≤ n) {ps : List Pr} (hl : ps.length = m) (hf : ∀ k, k < m → f k = ps.getD k zp) (hs : ∀ p ∈ ps, Slc p) : OwnR w (.slice (some ⟨g, 0, none⟩) m cap) ps := by
  obtain ⟨cur, h1, h2, h3, h4, h5⟩ := h
  subst hl
  refine ⟨⟨by rw [flat_length], .inr ⟨g, cap, cur.toArray, rfl, Nat.zero_le _, h1, by omega, h4, by simpa using h2, ?_⟩⟩, hs⟩
  rw [List.toList_toArray]
  refine flat_of ps (by omega) (fun k hk i hi => ?_)
  rw [← hf k hk]
  exact h5 k (by omega) i hi
theorem Arr.range {w : World} {g cap n : Nat} {f : Nat → Pr} (h : Arr w g cap n f) {k : Nat} (hk : k < n) : w.rangeAt g (k * 10) ((f k).1.cells (f k).2) := fun j v hv => by
  obtain ⟨cur, h1, h2, h3, h4, h5⟩ := h
  rw [cell_of_row _ _ _ _ _ _ h1, List.getElem?_toArray, h5 k hk j (Rc.cells_lt _ _ hv)]
  exact hv
theorem Arr.frozen {w : World} {g cap n : Nat} {f : Nat → Pr} (h : Arr w g cap n f) (o : Nat) : w.frozen? ⟨g, o, none⟩ = false := by
  obtain ⟨cur, h1, _⟩ := h
  exact frozen_of_row _ _ _ _ _ h1
theorem Arr.kept {w w' : World} {g cap n : Nat} {f : Nat → Pr} (h : Arr w g cap n f) (hg : w'.heap[g]? = w.heap[g]?) : Arr w' g cap n f := by
  obtain ⟨cur, h1, hr⟩ := h
  exact ⟨cur, hg.trans h1, hr⟩
theorem Arr.ext {w w' : World} {g cap n : Nat} {f : Nat → Pr} (h : Arr w g cap n f) (hx : w.Extends w') : Arr w' g cap n f := h.kept (hx.block g h.lt)
theorem Arr.congr {w : World} {g cap n : Nat} {f f' : Nat → Pr} (h : Arr w g cap n f) (hf : ∀ k, k < n → f k = f' k) : Arr w g cap n f' := by
  obtain ⟨cur, h1, h2, h3, h4, h5⟩ := h
  exact ⟨cur, h1, h2, h3, h4, fun k hk i hi => by rw [← hf k hk]; exact h5 k hk i hi⟩
/-- f with p at i. -/
def upd (f : Nat → Pr) (i : Nat) (p : Pr) : Nat → Pr := fun k => if k = i then p else f k
theorem grown_setRow (w : World) (g : Nat) (cs : Array Value) : w.grownBy (w.setRow g cs) (some g) := ⟨rfl, rfl, rfl, by simp [World.setRow], fun k _ hk => setRow_other w g k cs (fun e => hk (by rw [e]))⟩
theorem Arr.put {w : World} {g cap n i : Nat} {f : Nat → Pr} (h : Arr w g cap n f) (hi : i < n) (p : Pr) {cur : List Value} (hc : w.heap[g]? = some (.cells cur.toArray 28 (0, 0))) : Arr (w.setRow g (cur.take (i * 10) ++ p.1.cells p.2 ++ cur.drop (i * 10 + 10)).toArray) g cap n (upd f i p) := by
  obtain ⟨cur', h1, h2, h3, h4, h5⟩ := h
  rw [hc] at h1
  simp only [Option.some.injEq, Obj.cells.injEq, and_true] at h1
  have e : cur = cur' := by simpa using h1
  subst e
  have hp : (p.1.cells p.2).length = 10 := rfl
  refine ⟨_, setRow_heap w g _ _ _ _ hc, ?_, h3, h4, fun k hk j hj => ?_⟩
  · simp only [List.length_append, List.length_take, List.length_drop, hp]; omega
  · unfold upd
    rcases Nat.lt_trichotomy k i with hki | hki | hki
    · rw [if_neg (by omega), List.append_assoc, List.getElem?_append_left (by rw [List.length_take]; omega), List.getElem?_take, if_pos (by omega)]
      exact h5 k hk j hj
    · subst hki
      rw [if_pos rfl, List.append_assoc, List.getElem?_append_right (by rw [List.length_take]; omega), List.getElem?_append_left (by rw [List.length_take, hp]; omega), List.length_take]
      congr 1; omega
    · rw [if_neg (by omega), List.getElem?_append_right (by rw [List.length_append, List.length_take, hp]; omega), List.getElem?_drop]
      rw [← h5 k hk j hj]
      congr 1
      rw [List.length_append, List.length_take, hp]; omega
/-- The record stored at i of an array. -/
theorem wpList_store_rec {P : Program} {ops : Array Oper} {rest : List Oper} {o : Oper} {a : Act} {w : World} {Q : Exit → Act → World → Prop} (hgd : o.guard = none) (ty : TypeId) (hty : (P.info? ty).map (·.size) = some 10) (x y : Operand) (ho : o.op = .store ty x y)
    (g off i cap n : Nat) (f : Nat → Pr) (p : Pr) (hx : a.eval x = .pointer (some ⟨g, off, none⟩)) (hoff : off = i * 10) (hy : a.eval y = p.1.val p.2) (hA : Arr w g cap n f) (hi : i < n) (hs : Slc p)
    (h : ∀ w', Arr w' g cap n (upd f i p) → w.grownBy w' (some g) → wpList P ops Q rest (a.put o.dst undef) w') : wpList P ops Q (o :: rest) a w := by
  refine wpList_plain hgd fun K hK => ?_
  obtain ⟨cur, h1, h2, h3, h4, h5⟩ := id hA
  have hst := run_storeCells_at P g off 28 (p.1.cells p.2) 0 cur.toArray w h1 (by show off + 0 + 10 ≤ _; simp; omega) hs.cells
  have hp : (p.1.cells p.2).length = 10 := rfl
  simp only [Nat.add_zero, hp] at hst
  have hrun : (storeVar ty ⟨g, off, none⟩ (p.1.val p.2)).run P w = .ok () (w.setRow g (cur.take off ++ p.1.cells p.2 ++ cur.drop (off + 10)).toArray) := by
    cases hq : P.info? ty with
    | none => simp [hq] at hty
    | some t =>
      have hs' : t.size = 10 := by simpa [hq] using hty
      have hvc : (p.1.val p.2).cells = (p.1.cells p.2).toArray := rfl
      simp [storeVar, sizeOf, typeInfo, hq, hvc, hp, hs', hst]
  unfold Oper.wp execOp
  simp only [ho, hx, hy, Instr.storeAt, Instr.sureAddr, Sem.run_bind, Sem.run_pure, Result.andThen_ok, hrun]
  exact hK _ _ (h _ (by subst hoff; exact hA.put hi p h1) (grown_setRow _ _ _))
/-- Another Until at i. -/
theorem Arr.till {w w' : World} {g cap n i : Nat} {f : Nat → Pr} (h : Arr w g cap n f) (hi : i < n) (u : Int) (hw : w' = w.setCell ⟨g, i * 10 + 8, none⟩ (.int .i64 u)) : Arr w' g cap n (upd f i ({ (f i).1 with u := u }, (f i).2)) ∧ w.grownBy w' (some g) := by
  subst hw
  refine ⟨?_, grown_set _ _ _ _⟩
  obtain ⟨cur, h1, h2, h3, h4, h5⟩ := h
  refine ⟨cur.set (i * 10 + 8) (.int .i64 u), ?_, by rw [List.length_set]; exact h2, h3, h4, fun k hk j hj => ?_⟩
  · rw [heap_setCell_same _ _ _ _ _ _ h1]; simp
  · unfold upd
    rw [List.getElem?_set]
    by_cases hki : k = i
    · subst hki
      rw [if_pos rfl]
      by_cases hj8 : j = 8
      · subst hj8
        rw [if_pos rfl, if_pos (by omega)]; rfl
      · rw [if_neg (by omega), h5 k hk j hj]
        obtain rfl | rfl | rfl | rfl | rfl | rfl | rfl | rfl | rfl : j = 0 ∨ j = 1 ∨ j = 2 ∨ j = 3 ∨ j = 4 ∨ j = 5 ∨ j = 6 ∨ j = 7 ∨ j = 9 := by omega
        all_goals rfl
    · rw [if_neg hki, if_neg (by omega)]
      exact h5 k hk j hj
theorem recsize : (Try.prog.info? 28).map (·.size) = some 10 := by kernel_rfl
end Go.Proofs.Ytdbdnfjgmdkneaa
namespace Go.Proofs.Ytdbdnfjgmdkneaa
set_option maxRecDepth 20000
open Go.RowKit Go.Deep
set_option linter.unusedVariables false
/-- A call of F enters it: it has a body. -/
abbrev Enters (F : FuncId) : Prop := ∀ (args : Array Value) (w : World), (callFunc F args).run Try.prog w = .ok (.enter F args) w
theorem enters_of {F : FuncId} {fn : Func} (hf : Try.prog.funcs[F]? = some fn) (hname : (fn.name == "runtime.NumGoroutine") = false) (hb : fn.body.isNone = false) : Enters F := fun args w => by
  have h1 : fn.name ≠ "runtime.NumGoroutine" := by simpa using hname
  simp only [callFunc, Sem.run_bind, run_program, Result.andThen_ok, hf]
  simp [h1, hb]
/-- The closure F, whose one captured variable lies in block c, tells whether q holds of a record. -/
def Tells (F c : Nat) (q : Rc → Bool) (w : World) : Prop := ∀ (p : Pr) (w' : World), Slc p → w'.heap[c]? = w.heap[c]? → Calls Try.prog F #[p.1.val p.2, .pointer (some ⟨c, 0, none⟩)] w' fun e w2 => e = .returned (.bool (q p.1)) ∧ w'.Extends w2
theorem Tells.kept {F c : Nat} {q : Rc → Bool} {w w' : World} (h : Tells F c q w) (hc : w'.heap[c]? = w.heap[c]?) : Tells F c q w' := fun p w2 hs h2 => h p w2 hs (h2.trans hc)
/-- Where the first one stands of which q holds. -/
def fnd (q : Rc → Bool) : List Pr → Nat
  | [] => 0
  | p :: l => if q p.1 then 0 else fnd q l + 1
theorem fnd_uniq {q : Rc → Bool} : ∀ {l : List Pr} {k : Nat}, k ≤ l.length → (∀ m, m < k → q (l.getD m zp).1 = false) → (k < l.length → q (l.getD k zp).1 = true) → fnd q l = k
  | [], k, hk, _, _ => by simp at hk; rw [hk]; rfl
  | p :: l, 0, _, _, h2 => by
    have : q p.1 = true := h2 (by simp)
    unfold fnd; rw [if_pos this]
  | p :: l, k + 1, hk, h1, h2 => by
    have h0 : q p.1 = false := h1 0 (by omega)
    unfold fnd
    rw [if_neg (by rw [h0]; decide), fnd_uniq (k := k) (by simpa using hk) (fun m hm => h1 (m + 1) (by omega)) (fun hk' => h2 (by simpa using hk'))]
theorem getD_mem {ps : List Pr} {k : Nat} (h : k < ps.length) : ps.getD k zp ∈ ps := by
  rw [List.getD_eq_getElem?_getD, List.getElem?_eq_getElem h]; exact List.getElem_mem h
def idxOf (q : Rc → Bool) (ps : List Pr) : Int := if fnd q ps < ps.length then (fnd q ps : Int) else -1
theorem idxf_any (F c : Nat) (hen : Enters F) (q : Rc → Bool) (v : Value) (ps : List Pr) (w : World) (hv : OwnR w v ps) (hl : ps.length ≤ 1000) (hF : Tells F c q w) (hc : c < w.heap.size) :
    Calls Try.prog 94 #[v, .func (.func F) #[] #[.pointer (some ⟨c, 0, none⟩)]] w fun e w' => e = .returned (.int .i64 (idxOf q ps)) ∧ w.Extends w' := by
  have HF := Lib.hid hF
  have HSL : Hid (∀ k, k < ps.length → Slc (ps.getD k zp)) := fun k hk => hv.2 _ (getD_mem hk)
  have HAT : Hid (∀ k, k < ps.length → ∃ g, (∃ cap, v = .slice (some ⟨g, 0, none⟩) ps.length cap) ∧ w.rangeAt g (k * 10) ((ps.getD k zp).1.cells (ps.getD k zp).2)) := fun k hk => by
    rcases hv.kinds with ⟨rfl, rfl⟩ | ⟨g, cap, rfl⟩
    · simp at hk
    · exact ⟨g, ⟨cap, rfl⟩, hv.arr.1.range hk⟩
  have HQ : Hid (∀ k, k < ps.length → (∀ m, m < k → q (ps.getD m zp).1 = false) → q (ps.getD k zp).1 = true → idxOf q ps = (k : Int)) := fun k hk h1 h2 => by
    have := fnd_uniq (q := q) (l := ps) (k := k) (by omega) h1 (fun _ => h2)
    unfold idxOf; rw [this, if_pos hk]
  have HQN : Hid ((∀ m, m < ps.length → q (ps.getD m zp).1 = false) → idxOf q ps = -1) := fun h1 => by
    have := fnd_uniq (q := q) (l := ps) (k := ps.length) (by omega) h1 (fun h => absurd h (Nat.lt_irrefl _))
    unfold idxOf; rw [this, if_neg (Nat.lt_irrefl _)]
  obtain ⟨a, cap, rfl⟩ := hv.slice
  clear hv hF
  generalize ps.length = n at *
  generalize idxOf q ps = ix at *
  go_enter Try.func94, Try.ntmps94
  go_wp2_with fail
  go_loopw [8] (fun s8 wr => ∃ k : Nat, k ≤ n ∧ s8 = .int .i64 k ∧ Hid (w.Extends wr) ∧ Hid (∀ m, m < k → q (ps.getD m zp).1 = false)) (fun s8 _ => n - (intOf s8).toNat)
  case atStart => exact ⟨0, by omega, rfl, Gr.ext_refl _, fun m hm => absurd hm (Nat.not_lt_zero _)⟩
  case round =>
    obtain ⟨k, hk, rfl, HX, HN⟩ := hrel
    by_cases h1 : k < n
    · obtain ⟨g, ⟨cap', e⟩, hr⟩ := HAT.out k h1
      cases e
      have hr := rangeAt_ext hr HX.out
      obtain ⟨c0, c1, c2, c3, c4, c5, c6, c7, c8, c9⟩ := RCell.ten hr
      have HSK := Lib.hid (HSL.out k h1)
      have HCL := Lib.hid (HF.out (ps.getD k zp) wr HSK.out (HX.out.block c hc))
      have HQK := Lib.hid (HQ.out k h1)
      have HNX : Hid (∀ b, q (ps.getD k zp).1 = b → b = false → ∀ m, m < k + 1 → q (ps.getD m zp).1 = false) := fun b e1 e2 m hm => by
        rcases Nat.lt_or_ge m k with h | h
        · exact HN.out m h
        · obtain rfl : m = k := by omega
          exact e1.trans e2
      have HQK2 := Lib.hid (HQK.out HN.out)
      clear HQK hr
      generalize hb : q (ps.getD k zp).1 = b at *
      have HB := Lib.hid hb
      clear hb
      generalize hp : ps.getD k zp = p at *
      clear hp
      obtain ⟨⟨xp, xn, xb, xs, xm, xk, xe, xg, xu, xd⟩, u⟩ := p
      obtain ⟨ua, uc, hu⟩ := HSK.out
      simp only at hu
      subst hu
      simp only at c0 c1 c2 c3 c4 c5 c6 c7 c8 c9
      go_wp2_with fail
      refine HCL.out.mono ?_
      rintro e w2 ⟨rfl, hx2⟩
      have HX2 := Lib.hid (Gr.ext_trans HX.out hx2)
      clear hx2 HCL c0 c1 c2 c3 c4 c5 c6 c7 c8 c9
      cases b with
      | true =>
        have HP := HQK2.out rfl
        go_wp2
        go_ret
        exact ⟨by rw [HP]; rfl, HX2.out⟩
      | false =>
        have HN2 := Lib.hid (HNX.out false rfl rfl)
        clear HNX HQK2
        go_wp2
        go_roundw
        case rel => exact ⟨k + 1, by omega, by go_num, HX2, HN2⟩
        case measure => simp [intOf]; omega
    · obtain rfl : k = n := by omega
      have HP := HQN.out HN.out
      go_wp2
      go_ret
      exact ⟨by rw [HP]; rfl, HX.out⟩
end Go.Proofs.Ytdbdnfjgmdkneaa
namespace Go.Proofs.Ytdbdnfjgmdkneaa
set_option maxRecDepth 20000
open Go.RowKit Go.Deep
set_option linter.unusedVariables false
/-- What is answered lies in v's array, and reads as qs. -/
def DelOut (w : World) (v : Value) (qs : List Pr) (e : Ending) (w' : World) : Prop := ∃ a c, e = .returned (.slice a qs.length c) ∧ OwnR w' (.slice a qs.length c) qs ∧ w.grownBy w' v.ownBlock ∧ (Value.slice a qs.length c).ownBlock = v.ownBlock
def fl (q : Rc → Bool) (ps : List Pr) (j : Nat) : List Pr := (ps.take j).filter (fun p => !q p.1)
theorem take_snocp (ps : List Pr) (j : Nat) (h : j < ps.length) : ps.take (j + 1) = ps.take j ++ [ps.getD j zp] := by
  rw [List.take_add_one, List.getElem?_eq_getElem h, List.getD_eq_getElem?_getD, List.getElem?_eq_getElem h]; rfl
theorem fl_yes {q : Rc → Bool} {ps : List Pr} {j : Nat} (h : j < ps.length) (hq : q (ps.getD j zp).1 = true) : fl q ps (j + 1) = fl q ps j := by
  unfold fl
  rw [take_snocp ps j h, List.filter_append]
  rw [List.filter_cons]
  simp only [hq]
  simp
theorem fl_no {q : Rc → Bool} {ps : List Pr} {j : Nat} (h : j < ps.length) (hq : q (ps.getD j zp).1 = false) : fl q ps (j + 1) = fl q ps j ++ [ps.getD j zp] := by
  unfold fl
  rw [take_snocp ps j h, List.filter_append]
  rw [List.filter_cons]
  simp only [hq]
  simp
theorem fl_le (q : Rc → Bool) (ps : List Pr) (j : Nat) : (fl q ps j).length ≤ j := by
  unfold fl
  refine Nat.le_trans (List.length_filter_le _ _) ?_
  rw [List.length_take]; omega
theorem fl_all (q : Rc → Bool) (ps : List Pr) : fl q ps ps.length = ps.filter (fun p => !q p.1) := by unfold fl; rw [List.take_length]
theorem fnd_le (q : Rc → Bool) : ∀ ps : List Pr, fnd q ps ≤ ps.length
  | [] => Nat.le_refl _
  | p :: l => by
    have := fnd_le q l
    unfold fnd
    split
    · exact Nat.zero_le _
    · rw [List.length_cons]; omega
theorem fnd_lt (q : Rc → Bool) : ∀ (ps : List Pr) (m : Nat), m < fnd q ps → q (ps.getD m zp).1 = false
  | [], m, h => by simp [fnd] at h
  | p :: l, m, h => by
    unfold fnd at h
    split at h
    · omega
    · rename_i hq
      cases m with
      | zero => exact Bool.eq_false_iff.2 hq
      | succ m => exact fnd_lt q l m (by omega)
theorem fnd_at (q : Rc → Bool) : ∀ (ps : List Pr), fnd q ps < ps.length → q (ps.getD (fnd q ps) zp).1 = true
  | [], h => by simp [fnd] at h
  | p :: l, h => by
    unfold fnd at h ⊢
    split
    · rename_i hq; exact hq
    · rename_i hq
      rw [if_neg hq, List.length_cons] at h
      exact fnd_at q l (by omega)
theorem fl_first {q : Rc → Bool} {ps : List Pr} : ∀ m, m ≤ fnd q ps → fl q ps m = ps.take m
  | 0, _ => by simp [fl]
  | m + 1, h => by
    have hl := fnd_le q ps
    rw [fl_no (by omega) (fnd_lt q ps m (by omega)), fl_first m (by omega), take_snocp ps m (by omega)]
theorem fl_start {q : Rc → Bool} {ps : List Pr} (h : fnd q ps < ps.length) : fl q ps (fnd q ps + 1) = ps.take (fnd q ps) := by
  rw [fl_yes h (fnd_at q ps h), fl_first _ (Nat.le_refl _)]
theorem fl_none {q : Rc → Bool} {ps : List Pr} (h : ¬ fnd q ps < ps.length) : ps.filter (fun p => !q p.1) = ps := by
  have hl := fnd_le q ps
  rw [← fl_all, fl_first _ (by omega), List.take_length]
theorem recUnder : Try.prog.underlying 47 = some (.slice 28) := Try.underlying47
theorem recZero (w : World) : (zeroValue 28).run Try.prog w = .ok (Rc.zero.val (.slice none 0 0)) w := by
  obtain ⟨i, hi, hz, _⟩ := info_parts recinfo
  simp [zeroValue, typeInfo, hi, hz]
/-- What is behind i is cleared. -/
theorem Arr.cleared {w : World} {g cap n i : Nat} {f : Nat → Pr} (h : Arr w g cap n f) (hi : i < n) (c : Nat) : ∃ w', (∀ ty, (Builtin.clear_ #[47] ty #[.slice (some ⟨g, i * 10, none⟩) (n - i) c]).run Try.prog w = .ok (.tuple #[]) w') ∧ Arr w' g cap i f ∧ w.grownBy w' (some g) := by
  obtain ⟨cur, h1, h2, h3, h4, h5⟩ := h
  have hz10 : (Rc.zero.val (.slice none 0 0)).cells.size = 10 := rfl
  refine ⟨_, fun ty => run_clear_wide w 47 28 ty (Rc.zero.val (.slice none 0 0)) recUnder recZero g (i * 10) (n - i) c cur.toArray _ (by omega) h1 (by rw [hz10]; simp; omega) (by decide), ?_, grown_setRow _ _ _⟩
  refine ⟨_, setRow_heap w g _ _ _ _ h1, ?_, by omega, h4, fun k hk j hj => ?_⟩
  · rw [hz10]
    simp only [List.length_append, List.length_take, List.length_drop, Array.length_toList, size_zeroCells, hz10]; omega
  · rw [List.toList_toArray, List.append_assoc, List.getElem?_append_left (by rw [List.length_take]; omega), List.getElem?_take, if_pos (by omega)]
    exact h5 k (by omega) j hj
theorem del_nil (F c : Nat) (hen : Enters F) (q : Rc → Bool) (w : World) (hF : Tells F c q w) (hc : c < w.heap.size) :
    Calls Try.prog 71 #[.slice none 0 0, .func (.func F) #[] #[.pointer (some ⟨c, 0, none⟩)]] w (DelOut w (.slice none 0 0) []) := by
  have HI := Lib.hid (idxf_any F c hen q (.slice none 0 0) [] w (OwnR.nil w) (by simp) hF hc)
  clear hF
  go_enter Try.func71, Try.ntmps71
  go_wp2_with fail
  refine HI.out.mono ?_
  rintro e w2 ⟨rfl, hx2⟩
  rw [show idxOf q [] = -1 from rfl]
  have HX := Lib.hid hx2
  clear hx2 HI
  go_wp2
  go_ret
  exact ⟨none, 0, rfl, OwnR.nil _, grown_below (Gr.below_of HX.out) (Nat.le_refl _), rfl⟩
theorem two_lt {c g : Nat} {w w' : World} (h : w.grownBy w' (some g)) (hc : c < w.heap.size) (hn : c ≠ g) : w'.heap[c]? = w.heap[c]? := h.block c hc (by simpa using hn)
set_option maxHeartbeats 4000000 in
theorem del_any (F c : Nat) (hen : Enters F) (q : Rc → Bool) (g cap n : Nat) (ps : List Pr) (w : World) (hv : OwnR w (.slice (some ⟨g, 0, none⟩) n cap) ps) (hl : ps.length ≤ 1000) (hF : Tells F c q w) (hc : c < w.heap.size) (hcg : c ≠ g) :
    Calls Try.prog 71 #[.slice (some ⟨g, 0, none⟩) n cap, .func (.func F) #[] #[.pointer (some ⟨c, 0, none⟩)]] w (DelOut w (.slice (some ⟨g, 0, none⟩) n cap) (ps.filter (fun p => !q p.1))) := by
  have HI := Lib.hid (idxf_any F c hen q _ ps w hv hl hF hc)
  obtain ⟨harr, hn⟩ := hv.arr
  have HS : Hid (∀ p ∈ ps, Slc p) := hv.2
  have HF := Lib.hid hF
  have HARR := Lib.hid harr
  have HN := Lib.hid hn
  have hnc : n ≤ cap ∧ cap ≤ 9223372036854775807 := by
    obtain ⟨cur, _, _, h3, h4, _⟩ := harr
    unfold maxLen at h4
    exact ⟨h3, by omega⟩
  have HOWN := Lib.hid hv
  rw [← hn] at hl
  clear hF harr hv hn
  go_enter Try.func71, Try.ntmps71
  go_wp2_with fail
  refine HI.out.mono ?_
  rintro e w2 ⟨rfl, hx2⟩
  clear HI
  by_cases hk : fnd q ps < ps.length
  · rw [show idxOf q ps = ((fnd q ps : Nat) : Int) from if_pos hk]
    have HST := Lib.hid (fl_start hk)
    have HYES : Hid (∀ j, j < n → q (ps.getD j zp).1 = true → fl q ps (j + 1) = fl q ps j) := fun j hj hq => fl_yes (HN.out ▸ hj) hq
    have HNO : Hid (∀ j, j < n → q (ps.getD j zp).1 = false → fl q ps (j + 1) = fl q ps j ++ [ps.getD j zp]) := fun j hj hq => fl_no (HN.out ▸ hj) hq
    have HLE := Lib.hid (fl_le q ps)
    have HALL : Hid (fl q ps n = ps.filter (fun p => !q p.1)) := by rw [HN.out]; exact fl_all q ps
    have HSL : Hid (∀ j, j < n → Slc (ps.getD j zp)) := fun j hj => HS.out _ (getD_mem (by have := HN.out; omega))
    have HTK : Hid (∀ k, (ps.take k).length = min k n) := fun k => by rw [List.length_take, ← HN.out]
    have HTG : Hid (∀ k m, m < k → (ps.take k).getD m zp = ps.getD m zp) := fun k m hm => by rw [List.getD_eq_getElem?_getD, List.getElem?_take, if_pos hm, ← List.getD_eq_getElem?_getD]
    rw [← HN.out] at hk
    have HX2 := Lib.hid hx2
    clear hx2
    generalize fnd q ps = k0 at *
    have hk1 : (((k0 : Nat) : Int) == -1) = false := by simp
    go_wp2_with fail
    go_loopw [5, 6] (fun s5 s6 wr => ∃ (i j : Nat) (f : Nat → Pr), i < j ∧ j ≤ n ∧ s5 = .int .i64 i ∧ s6 = .int .i64 j ∧ Hid (Arr wr g cap n f) ∧ Hid (i = (fl q ps j).length) ∧ Hid (∀ m, m < i → f m = (fl q ps j).getD m zp) ∧ Hid (∀ m, j ≤ m → m < n → f m = ps.getD m zp) ∧ Hid (w.grownBy wr (some g))) (fun _ s6 _ => n - (intOf s6).toNat)
    case atStart =>
      refine ⟨k0, k0 + 1, _, by omega, by omega, rfl, by go_num, HARR.out.ext HX2.out, ?_, ?_, fun m _ _ => rfl, grown_below (Gr.below_of HX2.out) (Nat.le_refl _)⟩
      · show k0 = _
        rw [HST.out, HTK.out]; omega
      · intro m hm
        rw [HST.out, HTG.out k0 m hm]
    case round =>
      obtain ⟨i, j, f, hij, hj, rfl, rfl, HA, HIL, HF1, HF2, HG⟩ := hrel
      by_cases h1 : j < n
      · have hr := HA.out.range h1
        rw [HF2.out j (Nat.le_refl _) h1] at hr
        obtain ⟨c0, c1, c2, c3, c4, c5, c6, c7, c8, c9⟩ := RCell.ten hr
        have HSJ := Lib.hid (HSL.out j h1)
        have HY := Lib.hid (HYES.out j h1)
        have HNN := Lib.hid (HNO.out j h1)
        have HCLF : Hid (∀ wb : World, wb.heap[c]? = w.heap[c]? → Calls Try.prog F #[(ps.getD j zp).1.val (ps.getD j zp).2, .pointer (some ⟨c, 0, none⟩)] wb fun e w2 => e = .returned (.bool (q (ps.getD j zp).1)) ∧ wb.Extends w2) := fun wb h => HF.out (ps.getD j zp) wb HSJ.out h
        clear hr
        generalize ps.getD j zp = p at *
        generalize hb : q p.1 = b at *
        have HB := Lib.hid hb
        clear hb
        obtain ⟨⟨xp, xn, xb, xs, xm, xk, xe, xg, xu, xd⟩, u⟩ := p
        obtain ⟨ua, uc, hu⟩ := id HSJ.out
        simp only at hu
        subst hu
        simp only at c0 c1 c2 c3 c4 c5 c6 c7 c8 c9
        have hgr : g < wr.heap.size := HA.out.lt
        go_wp2_with fail
        generalize hwb : World.alloc wr _ = wb
        have hxb : wr.Extends wb := by subst hwb; exact ext_alloc _ _
        have hbx : wb.rangeAt wr.heap.size 0 (Rc.cells ⟨xp, xn, xb, xs, xm, xk, xe, xg, xu, xd⟩ (.slice ua xd.length uc)) := by subst hwb; exact box_rec wr 28 ⟨xp, xn, xb, xs, xm, xk, xe, xg, xu, xd⟩ _
        have hblt : wr.heap.size < wb.heap.size := by subst hwb; simp
        obtain ⟨y, hy⟩ : ∃ y, y = wr.heap.size := ⟨_, rfl⟩
        rw [← hy] at hbx hblt ⊢
        clear hy hwb c0 c1 c2 c3 c4 c5 c6 c7 c8 c9
        obtain ⟨c0, c1, c2, c3, c4, c5, c6, c7, c8, c9⟩ := RCell.ten hbx
        simp only [Nat.zero_add] at c0 c1 c2 c3 c4 c5 c6 c7 c8 c9
        have hcb : wb.heap[c]? = w.heap[c]? := (hxb.block c (Nat.lt_of_lt_of_le hc HG.out.size)).trans (two_lt HG.out hc hcg)
        have HCL := Lib.hid (HCLF.out wb hcb)
        have HBX := Lib.hid hbx
        have HXB := Lib.hid hxb
        clear hbx hxb
        go_wp2_with fail
        refine HCL.out.mono ?_
        rintro e w3 ⟨rfl, hx3⟩
        have HX3 := Lib.hid (Gr.ext_trans HXB.out hx3)
        have hbx := rangeAt_ext HBX.out hx3
        clear hx3 HCL HCLF HBX HXB c0 c1 c2 c3 c4 c5 c6 c7 c8 c9 hcb
        cases b with
        | true =>
          have hfe := HY.out rfl
          have HR : Hid (Arr w3 g cap n f ∧ i = (fl q ps (j + 1)).length ∧ (∀ m, m < i → f m = (fl q ps (j + 1)).getD m zp) ∧ (∀ m, j + 1 ≤ m → m < n → f m = ps.getD m zp) ∧ w.grownBy w3 (some g)) :=
            ⟨HA.out.ext HX3.out, by rw [hfe]; exact HIL.out, by rw [hfe]; exact HF1.out, fun m h2 h3 => HF2.out m (by omega) h3, grown_trans HG.out (grown_below (Gr.below_of HX3.out) (Nat.le_refl _))⟩
          clear hfe hbx
          go_wp2
          go_roundw
          case rel => exact ⟨i, j + 1, f, by omega, by omega, rfl, by go_num, HR.out.1, HR.out.2.1, HR.out.2.2.1, HR.out.2.2.2.1, HR.out.2.2.2.2⟩
          case measure => simp [intOf]; omega
        | false =>
          have hfe := HNN.out rfl
          obtain ⟨c0, c1, c2, c3, c4, c5, c6, c7, c8, c9⟩ := RCell.ten hbx
          simp only [Nat.zero_add] at c0 c1 c2 c3 c4 c5 c6 c7 c8 c9
          have HA3 := Lib.hid (HA.out.ext HX3.out)
          have HS3 : Hid (Slc ((⟨xp, xn, xb, xs, xm, xk, xe, xg, xu, xd⟩, .slice ua xd.length uc) : Pr)) := HSJ.out
          have HFE := Lib.hid hfe
          clear hfe hbx
          go_wp2_with (refine wpList_store_rec rfl 28 recsize _ _ rfl g (i * 10) i cap n f (⟨xp, xn, xb, xs, xm, xk, xe, xg, xu, xd⟩, .slice ua xd.length uc) rfl rfl rfl HA3.out (by omega) HS3.out ?_)
          intro w4 ha4 hg4
          have HR : Hid (Arr w4 g cap n (upd f i (⟨xp, xn, xb, xs, xm, xk, xe, xg, xu, xd⟩, .slice ua xd.length uc)) ∧ i + 1 = (fl q ps (j + 1)).length ∧ (∀ m, m < i + 1 → upd f i (⟨xp, xn, xb, xs, xm, xk, xe, xg, xu, xd⟩, .slice ua xd.length uc) m = (fl q ps (j + 1)).getD m zp) ∧
              (∀ m, j + 1 ≤ m → m < n → upd f i (⟨xp, xn, xb, xs, xm, xk, xe, xg, xu, xd⟩, .slice ua xd.length uc) m = ps.getD m zp) ∧ w.grownBy w4 (some g)) := by
            refine ⟨ha4, by rw [HFE.out, List.length_append, ← HIL.out]; rfl, fun m hm => ?_, fun m h2 h3 => ?_, grown_trans (grown_trans HG.out (grown_below (Gr.below_of HX3.out) (Nat.le_refl _))) hg4⟩
            · unfold upd
              rw [HFE.out, List.getD_eq_getElem?_getD]
              have hil := HIL.out
              split
              · rename_i e; subst e
                rw [List.getElem?_append_right (by omega), hil]; simp
              · rw [List.getElem?_append_left (by omega), ← List.getD_eq_getElem?_getD]
                exact HF1.out m (by omega)
            · unfold upd
              rw [if_neg (by omega)]
              exact HF2.out m (by omega) h3
          clear ha4 hg4 c0 c1 c2 c3 c4 c5 c6 c7 c8 c9
          go_wp2
          go_roundw
          case rel => exact ⟨i + 1, j + 1, _, by omega, by omega, by go_num, by go_num, HR.out.1, HR.out.2.1, HR.out.2.2.1, HR.out.2.2.2.1, HR.out.2.2.2.2⟩
          case measure => simp [intOf]; omega
      · obtain rfl : j = n := by omega
        have hb1 : ¬ cap = i := by omega
        have hb2 : ¬ cap = 0 := by omega
        obtain ⟨w5, hcl, ha5, hg5⟩ := HA.out.cleared hij (cap - i)
        have hcl0 := hcl 0
        have HP : Hid (DelOut w (.slice (some ⟨g, 0, none⟩) j cap) (ps.filter (fun p => !q p.1)) (.returned (.slice (some ⟨g, 0, none⟩) i cap)) w5) := by
          have hil := HIL.out
          rw [HALL.out] at hil
          rw [hil]
          refine ⟨_, _, rfl, ?_, grown_trans HG.out hg5, rfl⟩
          rw [← hil]
          exact ha5.own (Nat.le_refl _) hil.symm (fun k hk => by rw [HF1.out k hk, HALL.out]) (fun p hp => HS.out p (List.mem_filter.1 hp).1)
        clear hcl ha5 hg5
        go_wp2
        go_ret
        exact HP.out
  · rw [show idxOf q ps = -1 from if_neg hk]
    have HP : Hid (DelOut w (.slice (some ⟨g, 0, none⟩) n cap) (ps.filter (fun p => !q p.1)) (.returned (.slice (some ⟨g, 0, none⟩) n cap)) w2) := by
      rw [fl_none hk, HN.out]
      refine ⟨_, _, rfl, ?_, grown_below (Gr.below_of hx2) (Nat.le_refl _), rfl⟩
      have := HOWN.out.ext hx2
      rw [HN.out] at this
      exact this
    clear hx2
    go_wp2
    go_ret
    exact HP.out
end Go.Proofs.Ytdbdnfjgmdkneaa
namespace Go.Proofs.Ytdbdnfjgmdkneaa
set_option maxRecDepth 20000
open Go.RowKit Go.Deep
set_option linter.unusedVariables false
theorem recInfo10 : ∃ i, Try.prog.info? 28 = some i ∧ i.zero = some (Rc.zero.val (.slice none 0 0)) ∧ i.size = 10 ∧ i.bytes = 96 := by
  obtain ⟨i, h1, h2, h3, h4⟩ := info_parts recinfo
  exact ⟨i, h1, h2, h3, h4⟩
/-- The cells of f's records from a on, k of them. -/
def seg (f : Nat → Pr) (a k : Nat) : List Pr := (List.range k).map fun j => f (a + j)
theorem seg_length (f : Nat → Pr) (a k : Nat) : (seg f a k).length = k := by simp [seg]
theorem seg_at (f : Nat → Pr) (a k j : Nat) (h : j < k) : (seg f a k).getD j zp = f (a + j) := by simp [seg, h]
theorem Arr.src {w : World} {g cap n : Nat} {f : Nat → Pr} (h : Arr w g cap n f) (hs : ∀ k, k < n → Slc (f k)) (a k c : Nat) (ha : a + k ≤ n) : Src Try.prog 10 47 (.slice (some ⟨g, a * 10, none⟩) k c) k (flat (seg f a k)) w := by
  refine Src.ofSlice w recUnder ⟨g, a * 10, none⟩ k c (flat (seg f a k)) (by rw [flat_length, seg_length]) (fun j v hv => ?_) (fun v hv => ?_)
  · rw [Addr.add_mid]
    have hj : j < k * 10 := by
      have := (List.getElem?_eq_some_iff.1 hv).1
      rwa [flat_length, seg_length] at this
    have e : j = j / 10 * 10 + j % 10 := by omega
    rw [e, flat_at _ _ _ (by rw [seg_length]; omega) (by omega), seg_at _ _ _ _ (by omega)] at hv
    have := h.range (k := a + j / 10) (by omega) (j % 10) v hv
    rw [show a * 10 + j = (a + j / 10) * 10 + j % 10 by omega]
    exact this
  · refine slc_flat (fun p hp => ?_) v hv
    obtain ⟨j, hj, rfl⟩ := List.mem_map.1 hp
    rw [List.mem_range] at hj
    exact hs _ (by omega)
/-- Records laid over an array from a on. -/
theorem Arr.over {w : World} {g cap n a : Nat} {f : Nat → Pr} (h : Arr w g cap n f) (ps : List Pr) (n' : Nat) (h1 : a + ps.length ≤ cap) (h2 : n' ≤ cap) (h3 : ∀ k, k < n' → k < n ∨ (a ≤ k ∧ k < a + ps.length)) {cur : List Value} (hc : w.heap[g]? = some (.cells cur.toArray 28 (0, 0))) :
    Arr (w.setRow g (cur.take (a * 10) ++ flat ps ++ cur.drop (a * 10 + (flat ps).length)).toArray) g cap n' (fun k => if a ≤ k ∧ k < a + ps.length then ps.getD (k - a) zp else f k) := by
  obtain ⟨cur', hc', h5, h6, h7, h8⟩ := h
  rw [hc] at hc'
  simp only [Option.some.injEq, Obj.cells.injEq, and_true] at hc'
  have e : cur = cur' := by simpa using hc'
  subst e
  have hfl := flat_length ps
  refine ⟨_, setRow_heap w g _ _ _ _ hc, ?_, h2, h7, fun k hk j hj => ?_⟩
  · simp only [List.length_append, List.length_take, List.length_drop, hfl]; omega
  · dsimp only
    by_cases hin : a ≤ k ∧ k < a + ps.length
    · rw [if_pos hin, List.append_assoc, List.getElem?_append_right (by rw [List.length_take]; omega), List.getElem?_append_left (by rw [List.length_take, hfl]; omega), List.length_take, ← flat_at ps (k - a) j (by omega) hj]
      congr 1; omega
    · rw [if_neg hin, ← h8 k (by have := h3 k hk; omega) j hj]
      rcases Nat.lt_or_ge k a with hka | hka
      · rw [List.append_assoc, List.getElem?_append_left (by rw [List.length_take]; omega), List.getElem?_take, if_pos (by omega)]
      · rw [List.getElem?_append_right (by rw [List.length_append, List.length_take, hfl]; omega), List.getElem?_drop]
        congr 1
        rw [List.length_append, List.length_take, hfl]; omega
/-- The row without its i-th record: what append(s[:i], s[i+1:]...) does. -/
theorem Arr.erased {w : World} {g cap m i : Nat} {f : Nat → Pr} (h : Arr w g cap (m + 1) f) (hs : ∀ k, k < m + 1 → Slc (f k)) (hi : i ≤ m) (src : Value) (hsrc : (∃ c, src = .slice (some ⟨g, (i + 1) * 10, none⟩) (m - i) c) ∨ (m = i ∧ ∃ a c, src = .slice a 0 c)) :
    ∃ w', (∀ ty, (Builtin.append_ #[47, 47] ty #[.slice (some ⟨g, 0, none⟩) i cap, src]).run Try.prog w = .ok (.slice (some ⟨g, 0, none⟩) m cap) w') ∧ Arr w' g cap (m + 1) (fun k => if i ≤ k ∧ k < m then f (k + 1) else f k) ∧ w.grownBy w' (some g) := by
  obtain ⟨ti, hti, _, hsz, _⟩ := recInfo10
  obtain ⟨cur, h1, h2, h3, h4, h5⟩ := id h
  have hS : Src Try.prog ti.size 47 src (m - i) (flat (seg f (i + 1) (m - i))) w := by
    rw [hsz]
    rcases hsrc with ⟨c, rfl⟩ | ⟨rfl, a, c, rfl⟩
    · exact h.src hs (i + 1) (m - i) c (by omega)
    · rw [Nat.sub_self]
      cases a with
      | none => exact Src.ofNil w recUnder c
      | some a => exact Src.ofSlice w recUnder a 0 c [] rfl (by simp) (by simp)
  have hfl : (flat (seg f (i + 1) (m - i))).length = (m - i) * 10 := by rw [flat_length, seg_length]
  refine ⟨w.setRow g (cur.take (i * 10) ++ flat (seg f (i + 1) (m - i)) ++ cur.drop (i * 10 + (flat (seg f (i + 1) (m - i))).length)).toArray, fun ty => ?_, ?_, grown_setRow _ _ _⟩
  rotate_left
  · have ho := h.over (a := i) (seg f (i + 1) (m - i)) (m + 1) (by rw [seg_length]; omega) h3 (fun k hk => .inl hk) h1
    refine ho.congr fun k hk => ?_
    rw [seg_length]
    by_cases hin : i ≤ k ∧ k < m
    · rw [if_pos (by omega), if_pos hin, seg_at _ _ _ _ (by omega)]
      congr 1; omega
    · rw [if_neg (by omega), if_neg hin]
  · have := run_append_room (P := Try.prog) w 47 47 ty 28 ti recUnder hti g i cap cur.toArray _ h1 src (m - i) _ hS (by omega) (by rw [hsz, hfl]; simp; omega)
    rw [hsz, List.toList_toArray, show i + (m - i) = m by omega] at this
    exact this

theorem elemRec : Try.prog.underlying 47 = some (.slice (Try.prog.elem 47)) := by kernel_rfl
theorem sizeRec (w : World) : (sizeOf (Try.prog.elem 47)).run Try.prog w = .ok 10 w := by
  obtain ⟨i, hi, _, hs, _⟩ := info_parts recinfo
  have e : Try.prog.elem 47 = 28 := by kernel_rfl
  rw [e]
  simp [sizeOf, typeInfo, hi, hs]
/-- x[:h] and x[l:] of an array's slice. -/
theorem cutr_to (g len cap h : Nat) (hh : h ≤ cap) (w' : World) : (Instr.slice 47 (.slice (some ⟨g, 0, none⟩) len cap) none (some (.int .i64 (h : Nat))) none).run Try.prog w' = .ok (.slice (some ⟨g, 0, none⟩) h cap) w' := by
  rw [run_slice_h (P := Try.prog) w' 47 _ len cap elemRec .i64 ((h : Nat) : Int) (by omega) (by omega), sizeRec]
  simp only [Result.andThen_ok, Int.toNat_natCast, sliced, Nat.sub_zero, Nat.zero_mul]
  split <;> simp [Addr.add_mid]
theorem cutr_from (g len cap l : Nat) (hl : l ≤ len) (hc : len ≤ cap) : ∃ o, (∀ w' : World, (Instr.slice 47 (.slice (some ⟨g, 0, none⟩) len cap) (some (.int .i64 (l : Nat))) none none).run Try.prog w' = .ok (.slice (some ⟨g, o, none⟩) (len - l) (cap - l)) w') ∧ (o = l * 10 ∨ l = len) := by
  by_cases h : cap = l
  · refine ⟨0, fun w' => ?_, .inr (by omega)⟩
    rw [run_slice_l (P := Try.prog) w' 47 _ len cap elemRec .i64 ((l : Nat) : Int) (by omega) (by omega), sizeRec]
    simp only [Result.andThen_ok, Int.toNat_natCast, sliced, if_pos h]
  · refine ⟨l * 10, fun w' => ?_, .inl rfl⟩
    rw [run_slice_l (P := Try.prog) w' 47 _ len cap elemRec .i64 ((l : Nat) : Int) (by omega) (by omega), sizeRec]
    simp [Result.andThen_ok, sliced, if_neg h, Addr.add_mid]
set_option maxHeartbeats 1000000 in
theorem rem_any (g cap m i : Nat) (ps : List Pr) (w : World) (hv : OwnR w (.slice (some ⟨g, 0, none⟩) (m + 1) cap) ps) (hl : m < 1000) (hi : i ≤ m) :
    Calls Try.prog 111 #[.slice (some ⟨g, 0, none⟩) (m + 1) cap, .int .i64 i, .int .i64 ((i : Int) + 1)] w (DelOut w (.slice (some ⟨g, 0, none⟩) (m + 1) cap) (ps.eraseIdx i)) := by
  obtain ⟨harr, hn⟩ := hv.arr
  have HS : Hid (∀ p ∈ ps, Slc p) := hv.2
  have HSF : Hid (∀ k, k < m + 1 → Slc (ps.getD k zp)) := fun k hk => hv.2 _ (getD_mem (by omega))
  have HARR := Lib.hid (harr.ext (Gr.ext_drew (Gr.ext_refl w)))
  have HEL : Hid ((ps.eraseIdx i).length = m) := by show _ = _; rw [List.length_eraseIdx, if_pos (by omega)]; omega
  have HEG : Hid (∀ k, k < m → (if i ≤ k ∧ k < m then ps.getD (k + 1) zp else ps.getD k zp) = (ps.eraseIdx i).getD k zp) := fun k hk => by
    rw [List.getD_eq_getElem?_getD (l := ps.eraseIdx i), List.getElem?_eraseIdx]
    by_cases h : k < i
    · rw [if_neg (by omega), if_pos h, List.getD_eq_getElem?_getD]
    · rw [if_pos (by omega), if_neg h, List.getD_eq_getElem?_getD]
  have hnc : m + 1 ≤ cap ∧ cap ≤ 9223372036854775807 := by
    obtain ⟨cur, _, _, h3, h4, _⟩ := harr
    unfold maxLen at h4
    exact ⟨h3, by omega⟩
  clear harr hn hv
  have hb0 : ¬ cap = 0 := by omega
  have hb1 : ¬ cap = i := by omega
  have hb2 : ¬ ((i : Nat) : Int) = (i : Int) + 1 := by omega
  have hw2 : IntKind.i64.wrap ((i : Int) + 1) = (i : Int) + 1 := by rw [IntKind.wrap_i64]; omega
  have hb5 : (0 : Int) ≤ (i : Int) + 1 := by omega
  have hmm : ¬ m + 1 = i := by omega
  have hb4 : ¬ cap = m := by omega
  obtain ⟨o, hcf, ho⟩ := cutr_from g (m + 1) cap (i + 1) (by omega) hnc.1
  rw [show m + 1 - (i + 1) = m - i by omega, show ((i + 1 : Nat) : Int) = (i : Int) + 1 by omega] at hcf
  obtain ⟨w1, hap, ha1, hg1⟩ := HARR.out.erased HSF.out hi (.slice (some ⟨g, o, none⟩) (m - i) (cap - (i + 1))) (by
    rcases ho with rfl | h
    · exact .inl ⟨_, rfl⟩
    · have e : m = i := by omega
      exact .inr ⟨e, _, _, by rw [e, Nat.sub_self]⟩)
  obtain ⟨w2, hcl, ha2, hg2⟩ := ha1.cleared (Nat.lt_succ_self m) (cap - m)
  have hcl0 := hcl 0
  rw [Nat.add_sub_cancel_left] at hcl0
  have HAP := Lib.hid hap
  have HCF := Lib.hid hcf
  have HCT := Lib.hid (cutr_to g (m + 1) cap i (by omega))
  have HP : Hid (DelOut w (.slice (some ⟨g, 0, none⟩) (m + 1) cap) (ps.eraseIdx i) (.returned (.slice (some ⟨g, 0, none⟩) m cap)) w2) := by
    have e := HEL.out
    refine ⟨some ⟨g, 0, none⟩, cap, by rw [e], ?_, grown_trans (grown_trans (grown_drew (grown_refl _ _)) hg1) hg2, rfl⟩
    rw [e]
    refine ha2.own (Nat.le_refl _) e (fun k hk => ?_) (fun p hp => HS.out p (List.mem_of_mem_eraseIdx hp))
    exact HEG.out k hk
  clear hap ha1 hg1 hcl ha2 hg2 HARR HEL HEG HS HSF hcf ho
  go_enter Try.func111, Try.ntmps111
  go_wp2_with fail
  refine Gr.region 6 [(false,0),(false,1),(false,2),(false,3),(false,4),(false,5)] (by kernel_rfl) (by kernel_rfl) (fun d _ _ _ _ h => by cases d <;> exact h) ?_
  simp only [Gr.pick, List.getElem?_cons_zero, List.getElem?_cons_succ, List.drop_succ_cons, List.drop_zero]
  generalize w.drew = wd at *
  iterate 2
    refine Gr.walk_t ?_ (Or.inl ⟨by rfl, ?_⟩) ?_
    rotate_left
    · intro w' hw'
      clear hw'
      go_simp
      try with_reducible rfl
    simp only [Act.put, List.setIfInBounds_toArray, List.set_cons_zero, List.set_cons_succ]
  refine Gr.walk_t ?_ (Or.inl ⟨by rfl, ?_⟩) ?_
  rotate_left
  · intro w' hw'
    have hs1 := HCT.out w'
    clear hw'
    go_simp
    try with_reducible rfl
  simp only [Act.put, List.setIfInBounds_toArray, List.set_cons_zero, List.set_cons_succ]
  iterate 2
    refine Gr.walk_t ?_ (Or.inl ⟨by rfl, ?_⟩) ?_
    rotate_left
    · intro w' hw'
      clear hw'
      go_simp
      try with_reducible rfl
    simp only [Act.put, List.setIfInBounds_toArray, List.set_cons_zero, List.set_cons_succ]
  refine Gr.walk_t ?_ (Or.inl ⟨by rfl, ?_⟩) ?_
  rotate_left
  · intro w' hw'
    have hs2 := HCF.out w'
    clear hw'
    go_simp
    try with_reducible rfl
  simp only [Act.put, List.setIfInBounds_toArray, List.set_cons_zero, List.set_cons_succ]
  refine Gr.walk_nil ?_
  go_wp2_with (at_builtin; refine wpList_append_run1 _ rfl _ _ 47 47 rfl _ _ rfl rfl _ _ (HAP.out _) ?_)
  go_ret
  exact HP.out
end Go.Proofs.Ytdbdnfjgmdkneaa
