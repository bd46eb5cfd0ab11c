/- In one text: Append3, OwnI3, Fr, LetMem, StoRow, LetRows, MntAt, SplKK. -/
import Derived.Laws.CopyRow
import Derived.Laws.IdiomCopy
import Derived.Laws.Append
import Derived.Laws.AppendOwn
import Derived.WalkKit
import Derived.Test.YtpfmmfapdcbnkaaGreatDoorMB1
import Derived.Test.YtpfmmfapdcbnkaaGreatDoorMB2
import Derived.Test.YtpfmmfapdcbnkaaGreatDoorMB3
import Derived.Test.YtpfmmfapdcbnkaaGreatDoorMB12
import Derived.Test.YtpfmmfapdcbnkaaGreatDoorMB13
namespace Go.Proofs.YtpfmmfapdcbnkaaGreatDoor
set_option maxRecDepth 20000
open Go.RowKit Go.Deep
set_option linter.unusedVariables false
/-- All cells of the array are C. -/
def CleanBlk (C : Value → Prop) (w : World) (v : Value) : Prop := ∀ (g : Nat) (cs : Array Value) (T : TypeId) (f : Nat × Nat), v.ownBlock = some g → w.heap[g]? = some (.cells cs T f) → ∀ y ∈ cs.toList, C y
theorem CleanBlk.nil (C : Value → Prop) (w : World) : CleanBlk C w (.slice none 0 0) := fun g cs T f hg => by cases hg
theorem CleanBlk.kept {C : Value → Prop} {w w' : World} {v : Value} (h : CleanBlk C w v) (hb : ∀ g, v.ownBlock = some g → w'.heap[g]? = w.heap[g]?) : CleanBlk C w' v := fun g cs T f hg hc => h g cs T f hg (by rw [← hb g hg]; exact hc)
theorem zero_mem {zc : Array Value} {k : Nat} {y : Value} (h : y ∈ (Builtin.zeroCells zc k).toList) : y ∈ zc.toList := by
  unfold Builtin.zeroCells at h
  simp only [Array.toList_map, Array.toList_range, List.mem_map, List.mem_range] at h
  obtain ⟨i, hi, rfl⟩ := h
  have hz : 0 < zc.size := by
    rcases Nat.eq_zero_or_pos zc.size with h0 | h0
    · rw [h0, Nat.mul_zero] at hi; omega
    · exact h0
  have hm := Nat.mod_lt i hz
  rw [getElem!_pos zc (i % zc.size) hm]
  exact Array.getElem_mem_toList hm
section
variable {P : Program} (w : World)
theorem run_append_own_src3 (base : Nat) (t tx ty e : TypeId) (i : TypeInfo) (z : Value) (size bytes : Nat) (ht : P.underlying t = some (.slice e)) (hi : P.info? e = some i) (hz : i.zero = some z)
    (hsize : i.size = size) (hby : i.bytes = bytes) (hzs : z.cells.size = size)
    (v : Value) (n : Nat) (xs : List Value) (hown : w.ownsRow base e size v n xs) (x : Value) (m : Nat) (news : List Value) (hs : Src P size tx x m news w)
    (h63 : n + m ≤ maxLen) (hbytes : (n + m) * bytes ≤ 140737488355328) (hbase : base ≤ w.heap.size) (C : Value → Prop) (hC : CleanBlk C w v) (hCn : ∀ y ∈ news, C y) (hCz : ∀ y ∈ z.cells.toList, C y) :
    ∃ v' w', (Builtin.append_ #[t, tx] ty #[v, x]).run P w = .ok v' w' ∧ w'.ownsRow base e size v' (n + m) (xs ++ news) ∧ w.grownBy w' v.ownBlock ∧
      (v'.ownBlock = v.ownBlock ∨ ∃ g, v'.ownBlock = some g ∧ w.heap.size ≤ g) ∧ CleanBlk C w' v' := by
  subst hsize
  subst hby
  have hsmall : n + m ≤ 9223372036854775807 := by simp only [maxLen] at h63; omega
  have hl := hs.newsLen
  have hlen : (xs ++ news).length = (n + m) * i.size := by rw [List.length_append, hown.1, hl, Nat.add_mul]
  have hCx : ∀ y ∈ xs, C y := fun y hy => by
    rcases hown.2 with ⟨rfl, rfl⟩ | ⟨g, cap, cur, rfl, hbg, hg, hnc, hcm, hcs, htake⟩
    · obtain rfl : xs = [] := List.eq_nil_of_length_eq_zero (by simpa using hown.1)
      cases hy
    · rw [← htake] at hy
      exact hC g cur _ _ rfl hg y (List.mem_of_mem_take hy)
  have fresh : ∀ (k cap' : Nat) (n' : Nat), CleanBlk C (w.drew.alloc (.cells ((xs ++ news).toArray ++ Builtin.zeroCells z.cells k) e)) (.slice (some ⟨w.heap.size, 0, none⟩) n' cap') := fun k cap' n' g cs T f hg hc y hy => by
    simp only [Value.ownBlock, Option.some.injEq] at hg
    subst hg
    rw [show w.heap.size = w.drew.heap.size from rfl, heap_alloc_new] at hc
    simp only [Option.some.injEq, Obj.cells.injEq] at hc
    rw [← hc.1, Array.toList_append, List.mem_append] at hy
    rcases hy with hy | hy
    · rcases List.mem_append.1 (by simpa using hy) with hy | hy
      · exact hCx y hy
      · exact hCn y hy
    · exact hCz y (zero_mem hy)
  have grown : ∀ (old : Nat), old < n + m → ∀ (row : Option Nat),
      (w.drew.alloc (.cells ((xs ++ news).toArray ++ Builtin.zeroCells z.cells (grownCap w (n + m) old e - (n + m))) e)).ownsRow base e i.size
        (.slice (some ⟨w.heap.size, 0, none⟩) (n + m) (grownCap w (n + m) old e)) (n + m) (xs ++ news) ∧
      w.grownBy (w.drew.alloc (.cells ((xs ++ news).toArray ++ Builtin.zeroCells z.cells (grownCap w (n + m) old e - (n + m))) e)) row := by
    intro old ho row
    have hge := grownCap_ge w (n + m) old e
    have hcm : grownCap w (n + m) old e ≤ maxLen := grownCap_le_maxLen w (n + m) old e h63
    refine ⟨⟨hlen, .inr ⟨w.heap.size, _, _, rfl, hbase, heap_alloc_new w.drew _, hge, hcm, ?_, ?_⟩⟩, ⟨rfl, rfl, rfl, by simp, fun k hk _ => Below.heap_alloc w.drew _ k hk⟩⟩
    · simp only [Array.size_append, List.size_toArray, size_zeroCells, hzs, hlen, ← Nat.add_mul]
      congr 1
      omega
    · simp only [Array.toList_append]
      rw [← hlen]
      exact List.take_left
  rcases hown.2 with ⟨rfl, rfl⟩ | ⟨g, cap, cur, rfl, hbg, hg, hnc, hcm, hcs, htake⟩
  · have hx : xs = [] := List.eq_nil_of_length_eq_zero (by simpa using hown.1)
    subst hx
    by_cases hm : m = 0
    · subst hm
      have hn : news = [] := List.eq_nil_of_length_eq_zero (by simpa using hl)
      subst hn
      refine ⟨.slice none 0 0, w, ?_, World.ownsRow_nil w base e i.size, ⟨rfl, rfl, rfl, Nat.le_refl _, fun _ _ _ => rfl⟩, .inl rfl, fun g cs T f hg => by cases hg⟩
      rcases hs.kind with ⟨e', hk⟩ | hk <;> simp [Builtin.append_, run_underlying ht, run_underlying hk, sizeOf, typeInfo, hi, hs.len, hs.cells]
    · have hr := run_append_grow_src (P := P) w t tx ty e i z ht hi hz none 0 0 [] (by simp [Builtin.firstCells]) x m news hs (by omega) (by omega) (growslice_fits (by omega) (by have hb := hbytes; simp only [Nat.zero_add] at hb ⊢; exact hb))
      have hgr := grown 0 (by omega) (Value.ownBlock (.slice none 0 0))
      simp only [Nat.zero_add, List.nil_append] at hgr hr ⊢
      refine ⟨_, _, hr, hgr.1, hgr.2, .inr ⟨_, rfl, Nat.le_refl _⟩, ?_⟩
      first | exact fresh _ _ _ | (have := fresh; simpa using fresh _ _ _)
  · by_cases hroom : n + m ≤ cap
    · have hfit : n * i.size + news.length ≤ cur.size := by rw [hl, hcs, ← Nat.add_mul]; exact Nat.mul_le_mul_right _ hroom
      have hst := run_storeCells_at P g (n * i.size) e news 0 cur w hg (by simpa using hfit) hs.one
      simp only [Nat.add_zero] at hst
      have hr : (Builtin.append_ #[t, tx] ty #[.slice (some ⟨g, 0, none⟩) n cap, x]).run P w =
          .ok (.slice (some ⟨g, 0, none⟩) (n + m) cap) (w.setRow g (cur.toList.take (n * i.size) ++ news ++ cur.toList.drop (n * i.size + news.length)).toArray) := by
        rcases hs.kind with ⟨e', hk⟩ | hk <;> simp [Builtin.append_, run_underlying ht, run_underlying hk, sizeOf, typeInfo, hi, hs.len, hroom, hs.cells, Addr.add_lit, hst]
      refine ⟨_, _, hr, ⟨hlen, .inr ⟨g, cap, _, rfl, hbg, setRow_heap w g cur _ e _ hg, hroom, hcm, ?_, ?_⟩⟩, ⟨rfl, rfl, rfl, by simp, fun k _ hk => setRow_other w g k _ (fun e => hk (by simp [Value.ownBlock, e]))⟩, .inl rfl, fun g' cs T f hg' hc y hy => ?_⟩
      · simp only [List.size_toArray, List.length_append, List.length_take, List.length_drop, Array.length_toList]
        omega
      · rw [htake, ← hlen]
        exact List.take_left
      · simp only [Value.ownBlock, Option.some.injEq] at hg'
        subst hg'
        rw [setRow_heap w g cur _ e _ hg] at hc
        simp only [Option.some.injEq, Obj.cells.injEq] at hc
        rw [← hc.1] at hy
        rcases List.mem_append.1 hy with hy | hy
        · rcases List.mem_append.1 hy with hy | hy
          · exact hC g cur _ _ rfl hg y (List.mem_of_mem_take hy)
          · exact hCn y hy
        · exact hC g cur _ _ rfl hg y (List.mem_of_mem_drop hy)
    · have holds : ∀ j u, xs[j]? = some u → w.cell? ((⟨g, 0, none⟩ : Addr).add j) = some u := hown.cells (g := g) rfl
      have hold := run_firstCells_some (P := P) w.drew i.size n ⟨g, 0, none⟩ n cap xs hown.1 (by simpa using holds)
      have hr := run_append_grow_src (P := P) w t tx ty e i z ht hi hz (some ⟨g, 0, none⟩) n cap xs hold x m news hs (by omega) (by omega) (growslice_fits (by omega) hbytes)
      have hgr := grown cap (by omega) (Value.ownBlock (.slice (some ⟨g, 0, none⟩) n cap))
      refine ⟨_, _, hr, hgr.1, hgr.2, .inr ⟨_, rfl, Nat.le_refl _⟩, ?_⟩
      first | exact fresh _ _ _ | (have := fresh; simpa using fresh _ _ _)
theorem wp_append_own_src3 {o : Oper} {a : Act} {K : Act → World → Prop} {Q : Exit → Act → World → Prop} (s x : Operand) (t tx : TypeId)
    (ho : o.op = .call { callee := .builtin .append, args := #[s, x], argTypes := #[t, tx] })
    (base : Nat) (e : TypeId) (i : TypeInfo) (z : Value) (size bytes : Nat) (ht : P.underlying t = some (.slice e)) (hi : P.info? e = some i) (hz : i.zero = some z)
    (hsize : i.size = size) (hby : i.bytes = bytes) (hzs : z.cells.size = size)
    (v : Value) (n : Nat) (xs : List Value) (hs : a.eval s = v) (hown : w.ownsRow base e size v n xs) (y : Value) (m : Nat) (news : List Value) (hx : a.eval x = y) (hsrc : Src P size tx y m news w)
    (h63 : n + m ≤ maxLen) (hbytes : (n + m) * bytes ≤ 140737488355328) (hbase : base ≤ w.heap.size) (C : Value → Prop) (hC : CleanBlk C w v) (hCn : ∀ y ∈ news, C y) (hCz : ∀ y ∈ z.cells.toList, C y)
    (h : ∀ v' w', w'.ownsRow base e size v' (n + m) (xs ++ news) → w.grownBy w' v.ownBlock → (v'.ownBlock = v.ownBlock ∨ ∃ g, v'.ownBlock = some g ∧ w.heap.size ≤ g) → CleanBlk C w' v' → K (a.put o.dst v') w') : o.wp P a w K Q := by
  obtain ⟨v', w', hr, h2, h3, h4, h5⟩ := run_append_own_src3 (P := P) w base t tx o.type e i z size bytes ht hi hz hsize hby hzs v n xs hown y m news hsrc h63 hbytes hbase C hC hCn hCz
  unfold Oper.wp execOp
  simp only [ho, resolve, invoke, builtin, Sem.run_bind, Sem.run_pure, Result.andThen_ok, List.map_toArray, List.map_cons, List.map_nil, hs, hx, hr]
  exact h v' w' h2 h3 h4 h5
theorem wpList_append_own_src3 {ops : Array Oper} {rest : List Oper} {o : Oper} {a : Act} {Q : Exit → Act → World → Prop} (hgd : o.guard = none) (s x : Operand) (t tx : TypeId)
    (ho : o.op = .call { callee := .builtin .append, args := #[s, x], argTypes := #[t, tx] })
    (base : Nat) (e : TypeId) (i : TypeInfo) (z : Value) (size bytes : Nat) (ht : P.underlying t = some (.slice e)) (hi : P.info? e = some i) (hz : i.zero = some z)
    (hsize : i.size = size) (hby : i.bytes = bytes) (hzs : z.cells.size = size)
    (v : Value) (n : Nat) (xs : List Value) (hs : a.eval s = v) (hown : w.ownsRow base e size v n xs) (y : Value) (m : Nat) (news : List Value) (hx : a.eval x = y) (hsrc : Src P size tx y m news w)
    (h63 : n + m ≤ maxLen) (hbytes : (n + m) * bytes ≤ 140737488355328) (hbase : base ≤ w.heap.size) (C : Value → Prop) (hC : CleanBlk C w v) (hCn : ∀ y ∈ news, C y) (hCz : ∀ y ∈ z.cells.toList, C y)
    (h : ∀ v' w', w'.ownsRow base e size v' (n + m) (xs ++ news) → w.grownBy w' v.ownBlock → (v'.ownBlock = v.ownBlock ∨ ∃ g, v'.ownBlock = some g ∧ w.heap.size ≤ g) → CleanBlk C w' v' → wpList P ops Q rest (a.put o.dst v') w') : wpList P ops Q (o :: rest) a w :=
  wpList_plain hgd fun _ hK => wp_append_own_src3 w s x t tx ho base e i z size bytes ht hi hz hsize hby hzs v n xs hs hown y m news hx hsrc h63 hbytes hbase C hC hCn hCz fun v' w' h2 h3 h4 h5 => hK _ _ (h v' w' h2 h3 h4 h5)
end
end Go.Proofs.YtpfmmfapdcbnkaaGreatDoor
namespace Go.Proofs.YtpfmmfapdcbnkaaGreatDoor
set_option maxRecDepth 20000
open Go.RowKit Go.Deep
set_option linter.unusedVariables false
/-- Ints as a source of append. -/
theorem Ints.src {w : World} {a : Option Addr} {n c : Nat} {l : List Int} (h : Ints w (.slice a n c) l) : Src Tryz.prog 1 42 (.slice a n c) n (i64vs l) w := by
  obtain ⟨hn, hc⟩ := h.cell
  rcases Nat.eq_zero_or_pos n with h0 | h0
  · subst h0
    have : l = [] := List.eq_nil_of_length_eq_zero hn.symm
    subst this
    cases a with
    | none => exact Src.ofNil w Tryz.underlying42 c
    | some p => exact Src.ofSlice w Tryz.underlying42 p 0 c [] rfl (by simp) (by simp)
  · obtain ⟨b, off, rfl, hb, hcell⟩ := hc h0
    exact ints_src hn.symm hcell
end Go.Proofs.YtpfmmfapdcbnkaaGreatDoor
namespace Go.Proofs.YtpfmmfapdcbnkaaGreatDoor
set_option maxRecDepth 20000
open Go.RowKit
set_option linter.unusedVariables false
/-- Nothing is written but blocks of D, and new ones. -/
structure Fr (D : Nat → Prop) (w w' : World) : Prop where
  os : w'.os = w.os
  tape : w'.tape = w.tape
  output : w'.output = w.output
  size : w.heap.size ≤ w'.heap.size
  away : ∀ i, i < w.heap.size → ¬ D i → w'.heap[i]? = w.heap[i]?
theorem Fr.refl (D : Nat → Prop) (w : World) : Fr D w w := ⟨rfl, rfl, rfl, Nat.le_refl _, fun _ _ _ => rfl⟩
theorem Fr.ext {D : Nat → Prop} {w w' : World} (h : w.Extends w') : Fr D w w' := ⟨h.os, h.tape, h.output, h.size, fun i hi _ => h.block i hi⟩
theorem Fr.grown {D : Nat → Prop} {w w' : World} {r : Option Nat} (h : w.grownBy w' r) (hr : ∀ g, r = some g → D g) : Fr D w w' := ⟨h.os, h.tape, h.output, h.size, fun i hi hD => h.block i hi (fun e => hD (hr i e.symm))⟩
theorem Fr.mono {D D' : Nat → Prop} {w w' : World} (h : Fr D w w') (hD : ∀ i, D i → D' i) : Fr D' w w' := ⟨h.os, h.tape, h.output, h.size, fun i hi hn => h.away i hi (fun e => hn (hD i e))⟩
/-- D, and the blocks made since. -/
def Nx (D : Nat → Prop) (w w' : World) : Nat → Prop := fun i => D i ∨ (w.heap.size ≤ i ∧ i < w'.heap.size)
theorem Fr.trans {D D' : Nat → Prop} {a b c : World} (h : Fr D a b) (k : Fr D' b c) (hD : ∀ i, i < a.heap.size → D' i → D i) : Fr D a c :=
  ⟨k.os.trans h.os, k.tape.trans h.tape, k.output.trans h.output, Nat.le_trans h.size k.size, fun i hi hn => (k.away i (Nat.lt_of_lt_of_le hi h.size) (fun hd => hn (hD i hi hd))).trans (h.away i hi hn)⟩
theorem Fr.next {D : Nat → Prop} {a b c : World} (h : Fr D a b) (k : Fr (Nx D a b) b c) : Fr D a c := h.trans k fun i hi hd => by
  rcases hd with hd | hd
  · exact hd
  · omega
theorem Nx.next {D : Nat → Prop} {a b c : World} (h : a.heap.size ≤ b.heap.size) (k : b.heap.size ≤ c.heap.size) {i : Nat} (hd : Nx (Nx D a b) b c i) : Nx D a c i := by
  rcases hd with (hd | hd) | hd
  · exact .inl hd
  · exact .inr (by omega)
  · exact .inr (by omega)
theorem Fr.below {D : Nat → Prop} {w w' : World} {B : Nat} (h : Fr D w w') (hs : B ≤ w.heap.size) (hD : ∀ i, D i → B ≤ i) : Below B w w' :=
  ⟨h.os, h.tape, h.output, h.size, fun k hk => h.away k (by omega) (fun hd => by have := hD k hd; omega)⟩
/-- All blocks of type T stay. -/
def Still (T : TypeId) (w w' : World) : Prop := ∀ (i : Nat) (cs : Array Value) (f : Nat × Nat), w.heap[i]? = some (.cells cs T f) → w'.heap[i]? = w.heap[i]?
theorem Still.refl (T : TypeId) (w : World) : Still T w w := fun _ _ _ _ => rfl
theorem Still.ext {T : TypeId} {w w' : World} (h : w.Extends w') : Still T w w' := fun i cs f hi => h.block i (Array.getElem?_eq_some_iff.1 hi).1
theorem Still.trans {T : TypeId} {a b c : World} (h : Still T a b) (k : Still T b c) : Still T a c := fun i cs f hi => (k i cs f ((h i cs f hi).trans hi)).trans (h i cs f hi)
theorem Still.grown {T T' : TypeId} {w w' : World} {g : Nat} {cs : Array Value} {f : Nat × Nat} (h : w.grownBy w' (some g)) (hg : w.heap[g]? = some (.cells cs T' f)) (hT : T' ≠ T) : Still T w w' := fun i ci fi hi => h.block i (Array.getElem?_eq_some_iff.1 hi).1 (fun e => by
  have e' := Option.some.inj e
  subst e'
  rw [hi] at hg
  simp only [Option.some.injEq, Obj.cells.injEq] at hg
  exact hT hg.2.1.symm)
theorem Still.map {T : TypeId} {w w' : World} {g : Nat} {es : Array MapEntry} {c : Nat} (h : w.grownBy w' (some g)) (hg : w.heap[g]? = some (.map es c)) : Still T w w' := fun i ci fi hi => h.block i (Array.getElem?_eq_some_iff.1 hi).1 (fun e => by
  have e' := Option.some.inj e
  subst e'
  rw [hi] at hg
  cases hg)
end Go.Proofs.YtpfmmfapdcbnkaaGreatDoor
namespace Go.Proofs.YtpfmmfapdcbnkaaGreatDoor
set_option maxRecDepth 20000
open Go.RowKit Go.Deep
set_option linter.unusedVariables false
/-- A letter's value, of these slices. -/
def Lt.val (l : Lt) (vp vr : Value) : Value := .agg #[.int .i64 l.k, .int .i64 l.f, .int .i64 l.t, .int .i64 l.g, .int .i64 l.p, .int .i64 l.n, vp, vr]
/-- The slices read as the letter's peers and records. -/
def LetV (w : World) (vp vr : Value) (l : Lt) : Prop := Ints w vp l.ps ∧ Recs w vr l.rs
theorem LetV.ext {w w' : World} {vp vr : Value} {l : Lt} (h : LetV w vp vr l) (hx : w.Extends w') : LetV w' vp vr l := ⟨h.1.ext hx, h.2.ext hx⟩
theorem LetV.parts {w : World} {vp vr : Value} {l : Lt} (h : LetV w vp vr l) : ∃ a c a' c', vp = .slice a l.ps.length c ∧ vr = .slice a' l.rs.length c' := by
  obtain ⟨a, c, h1, _⟩ := h.1.slice
  obtain ⟨a', c', h2⟩ := h.2.slice
  exact ⟨a, c, a', c', h1, h2⟩
end Go.Proofs.YtpfmmfapdcbnkaaGreatDoor
namespace Go.Proofs.YtpfmmfapdcbnkaaGreatDoor
set_option maxRecDepth 20000
open Go.RowKit Go.Deep
set_option linter.unusedVariables false
/-- A record and the slice of its data. -/
abbrev Pr := Rc × Value
def zp : Pr := (Rc.zero, .slice none 0 0)
def flat (ps : List Pr) : List Value := ps.flatMap fun p => p.1.cells p.2
theorem flat_nil : flat [] = [] := rfl
theorem flat_cons (p : Pr) (ps : List Pr) : flat (p :: ps) = p.1.cells p.2 ++ flat ps := rfl
theorem flat_append (a b : List Pr) : flat (a ++ b) = flat a ++ flat b := by simp [flat]
theorem flat_length : ∀ ps : List Pr, (flat ps).length = ps.length * 10
  | [] => rfl
  | p :: ps => by rw [flat_cons, List.length_append, flat_length ps, List.length_cons]; show 10 + _ = _; omega
theorem flat_at : ∀ (ps : List Pr) (k i : Nat), k < ps.length → i < 10 → (flat ps)[k * 10 + i]? = ((ps.getD k zp).1.cells (ps.getD k zp).2)[i]?
  | p :: ps, 0, i, _, hi => by
    rw [flat_cons, Nat.zero_mul, Nat.zero_add, List.getElem?_append_left (by show i < 10; exact hi)]; rfl
  | p :: ps, k + 1, i, hk, hi => by
    rw [flat_cons, List.getElem?_append_right (by show 10 ≤ _; omega), show (k + 1) * 10 + i - (p.1.cells p.2).length = k * 10 + i by show (k + 1) * 10 + i - 10 = _; omega, flat_at ps k i (by simpa using hk) hi]
    rfl
/-- Its data is a slice of so many bytes. -/
def Slc (p : Pr) : Prop := ∃ a c, p.2 = .slice a p.1.d.length c
theorem Slc.one {p : Pr} (h : Slc p) : p.2.oneCell' = true := by
  obtain ⟨a, c, h⟩ := h
  rw [h]; rfl
theorem Slc.cells {p : Pr} (h : Slc p) : ∀ v ∈ p.1.cells p.2, v.oneCell' = true := by
  intro v hv
  have h1 := h.one
  simp only [Rc.cells, List.mem_cons, List.not_mem_nil, or_false] at hv
  rcases hv with h | h | h | h | h | h | h | h | h | h
  all_goals rw [h]
  all_goals first | exact h1 | rfl
/-- v is a slice of a call's own of these records. -/
def OwnR (w : World) (v : Value) (ps : List Pr) : Prop := w.ownsRow 0 32 10 v ps.length (flat ps) ∧ ∀ p ∈ ps, Slc p
theorem OwnR.nil (w : World) : OwnR w (.slice none 0 0) [] := ⟨World.ownsRow_nil _ _ _ _, fun p hp => by cases hp⟩
theorem OwnR.kinds {w : World} {v : Value} {ps : List Pr} (h : OwnR w v ps) : (v = .slice none 0 0 ∧ ps = []) ∨ ∃ g cap, v = .slice (some ⟨g, 0, none⟩) ps.length cap := by
  rcases h.1.2 with ⟨rfl, h0⟩ | ⟨g, cap, cur, rfl, _⟩
  · exact .inl ⟨rfl, List.eq_nil_of_length_eq_zero h0⟩
  · exact .inr ⟨g, cap, rfl⟩
theorem OwnR.slice {w : World} {v : Value} {ps : List Pr} (h : OwnR w v ps) : ∃ a cap, v = .slice a ps.length cap := by
  rcases h.kinds with ⟨rfl, rfl⟩ | ⟨g, cap, rfl⟩
  · exact ⟨_, _, rfl⟩
  · exact ⟨_, _, rfl⟩
theorem OwnR.kept {w w' : World} {v : Value} {ps : List Pr} {row : Option Nat} (h : OwnR w v ps) (hg : w.grownBy w' row) (hne : v.ownBlock = none ∨ v.ownBlock ≠ row) : OwnR w' v ps := ⟨h.1.kept hg hne, h.2⟩
theorem OwnR.ext {w w' : World} {v : Value} {ps : List Pr} (h : OwnR w v ps) (hx : w.Extends w') : OwnR w' v ps := by
  have hg : w.grownBy w' none := ⟨hx.os, hx.tape, hx.output, hx.size, fun i hi _ => hx.block i hi⟩
  exact h.kept hg (by cases v.ownBlock <;> simp)
/-- Block g is an array of cap records, of which the first n are f's. -/
def Arr (w : World) (g cap n : Nat) (f : Nat → Pr) : Prop := ∃ cur : List Value, w.heap[g]? = some (.cells cur.toArray 32 (0, 0)) ∧ cur.length = cap * 10 ∧ n ≤ cap ∧ cap ≤ maxLen ∧ ∀ k, k < n → ∀ i, i < 10 → cur[k * 10 + i]? = ((f k).1.cells (f k).2)[i]?
theorem OwnR.arr {w : World} {g n cap : Nat} {ps : List Pr} (h : OwnR w (.slice (some ⟨g, 0, none⟩) n cap) ps) : Arr w g cap n (fun k => ps.getD k zp) ∧ n = ps.length := by
  rcases h.1.2 with ⟨e, _⟩ | ⟨g', cap', cur, e, _, hg, hnc, hcm, hcs, htake⟩
  · cases e
  · cases e
    refine ⟨⟨cur.toList, hg, by simpa using hcs, hnc, hcm, fun k hk i hi => ?_⟩, rfl⟩
    rw [← flat_at ps k i hk hi, ← htake, List.getElem?_take, if_pos (by omega)]
theorem Arr.lt {w : World} {g cap n : Nat} {f : Nat → Pr} (h : Arr w g cap n f) : g < w.heap.size := by
  obtain ⟨cur, h1, _⟩ := h
  exact (Array.getElem?_eq_some_iff.1 h1).1
theorem flat_of {cur : List Value} : ∀ (ps : List Pr), ps.length * 10 ≤ cur.length → (∀ k, k < ps.length → ∀ i, i < 10 → cur[k * 10 + i]? = ((ps.getD k zp).1.cells (ps.getD k zp).2)[i]?) → cur.take (ps.length * 10) = flat ps := fun ps hl h => by
  apply List.ext_getElem?
  intro j
  rcases Nat.lt_or_ge j (ps.length * 10) with hj | hj
  · have e : j = j / 10 * 10 + j % 10 := by omega
    rw [List.getElem?_take, if_pos hj, e, h (j / 10) (by omega) (j % 10) (by omega), flat_at ps (j / 10) (j % 10) (by omega) (by omega)]
  · rw [List.getElem?_eq_none (by rw [List.length_take]; omega), List.getElem?_eq_none (by rw [flat_length]; omega)]
theorem Arr.own {w : World} {g cap n m : Nat} {f : Nat → Pr} (h : Arr w g cap n f) (hm : m ≤ n) {ps : List Pr} (hl : ps.length = m) (hf : ∀ k, k < m → f k = ps.getD k zp) (hs : ∀ p ∈ ps, Slc p) : OwnR w (.slice (some ⟨g, 0, none⟩) m cap) ps := by
  obtain ⟨cur, h1, h2, h3, h4, h5⟩ := h
  subst hl
  refine ⟨⟨by rw [flat_length], .inr ⟨g, cap, cur.toArray, rfl, Nat.zero_le _, h1, by omega, h4, by simpa using h2, ?_⟩⟩, hs⟩
  rw [List.toList_toArray]
  refine flat_of ps (by omega) (fun k hk i hi => ?_)
  rw [← hf k hk]
  exact h5 k (by omega) i hi
theorem Arr.range {w : World} {g cap n : Nat} {f : Nat → Pr} (h : Arr w g cap n f) {k : Nat} (hk : k < n) : w.rangeAt g (k * 10) ((f k).1.cells (f k).2) := fun j v hv => by
  obtain ⟨cur, h1, h2, h3, h4, h5⟩ := h
  rw [cell_of_row _ _ _ _ _ _ h1, List.getElem?_toArray, h5 k hk j (Rc.cells_lt _ _ hv)]
  exact hv
theorem Arr.frozen {w : World} {g cap n : Nat} {f : Nat → Pr} (h : Arr w g cap n f) (o : Nat) : w.frozen? ⟨g, o, none⟩ = false := by
  obtain ⟨cur, h1, _⟩ := h
  exact frozen_of_row _ _ _ _ _ h1
theorem Arr.kept {w w' : World} {g cap n : Nat} {f : Nat → Pr} (h : Arr w g cap n f) (hg : w'.heap[g]? = w.heap[g]?) : Arr w' g cap n f := by
  obtain ⟨cur, h1, hr⟩ := h
  exact ⟨cur, hg.trans h1, hr⟩
theorem Arr.ext {w w' : World} {g cap n : Nat} {f : Nat → Pr} (h : Arr w g cap n f) (hx : w.Extends w') : Arr w' g cap n f := h.kept (hx.block g h.lt)
theorem Arr.congr {w : World} {g cap n : Nat} {f f' : Nat → Pr} (h : Arr w g cap n f) (hf : ∀ k, k < n → f k = f' k) : Arr w g cap n f' := by
  obtain ⟨cur, h1, h2, h3, h4, h5⟩ := h
  exact ⟨cur, h1, h2, h3, h4, fun k hk i hi => by rw [← hf k hk]; exact h5 k hk i hi⟩
/-- f with p at i. -/
def upd (f : Nat → Pr) (i : Nat) (p : Pr) : Nat → Pr := fun k => if k = i then p else f k
theorem Arr.put {w : World} {g cap n i : Nat} {f : Nat → Pr} (h : Arr w g cap n f) (hi : i < n) (p : Pr) {cur : List Value} (hc : w.heap[g]? = some (.cells cur.toArray 32 (0, 0))) : Arr (w.setRow g (cur.take (i * 10) ++ p.1.cells p.2 ++ cur.drop (i * 10 + 10)).toArray) g cap n (upd f i p) := by
  obtain ⟨cur', h1, h2, h3, h4, h5⟩ := h
  rw [hc] at h1
  simp only [Option.some.injEq, Obj.cells.injEq, and_true] at h1
  have e : cur = cur' := by simpa using h1
  subst e
  have hp : (p.1.cells p.2).length = 10 := rfl
  refine ⟨_, setRow_heap w g _ _ _ _ hc, ?_, h3, h4, fun k hk j hj => ?_⟩
  · simp only [List.length_append, List.length_take, List.length_drop, hp]; omega
  · unfold upd
    rcases Nat.lt_trichotomy k i with hki | hki | hki
    · rw [if_neg (by omega), List.append_assoc, List.getElem?_append_left (by rw [List.length_take]; omega), List.getElem?_take, if_pos (by omega)]
      exact h5 k hk j hj
    · subst hki
      rw [if_pos rfl, List.append_assoc, List.getElem?_append_right (by rw [List.length_take]; omega), List.getElem?_append_left (by rw [List.length_take, hp]; omega), List.length_take]
      congr 1; omega
    · rw [if_neg (by omega), List.getElem?_append_right (by rw [List.length_append, List.length_take, hp]; omega), List.getElem?_drop]
      rw [← h5 k hk j hj]
      congr 1
      rw [List.length_append, List.length_take, hp]; omega
end Go.Proofs.YtpfmmfapdcbnkaaGreatDoor
namespace Go.Proofs.YtpfmmfapdcbnkaaGreatDoor
set_option maxRecDepth 20000
open Go.RowKit Go.Deep
set_option linter.unusedVariables false
def NoU8 (y : Value) : Prop := ∀ n, y ≠ .int .u8 n
theorem CleanBlk.any {C : Value → Prop} {w w' : World} {v : Value} (h : CleanBlk C w v) (hb : ∀ g, v.ownBlock = some g → w'.heap[g]? = w.heap[g]?) : CleanBlk C w' v := h.kept hb
/-- A slice of bytes stays, as such a row is written. -/
theorem U8s.row {w w' : World} {B s n : Nat} {T : TypeId} {u v : Value} {ys : List Value} {xs : List Nat} (h : U8s w v xs) (ho : w.ownsRow B T s u n ys) (hc : CleanBlk NoU8 w u) (hg : w.grownBy w' u.ownBlock) : U8s w' v xs := by
  rcases ho.2 with ⟨rfl, _⟩ | ⟨g, cap, cur, rfl, hbg, hgc, _⟩
  · exact h.ext (ext_below (B := w.heap.size) ⟨hg.os, hg.tape, hg.output, hg.size, fun i hi => hg.block i hi (by simp [Value.ownBlock])⟩ rfl)
  · exact h.beside hgc (hc g cur T _ rfl hgc) hg
theorem CurAt.row {w w' : World} {B s n t : Nat} {T T' : TypeId} {u : Value} {ys : List Value} {st : List Nat × Bool} (h : CurAt T' w t st) (ho : w.ownsRow B T s u n ys) (hc : CleanBlk NoU8 w u) (hg : w.grownBy w' u.ownBlock) (ht : t < B) : CurAt T' w' t st := by
  have hl := h.lt
  obtain ⟨a, c, h1, h2⟩ := h
  refine ⟨a, c, ?_, h2.row ho hc hg⟩
  rw [hg.block t hl (fun e => ?_)]
  · exact h1
  · have := (ho.lt t e.symm).1
    omega
/-- Ints. -/
structure OI (w : World) (B : Nat) (v : Value) (xs : List Int) : Prop where
  own : OwnI w B v xs
  clean : CleanBlk NoU8 w v
theorem OI.nil (w : World) (B : Nat) : OI w B (.slice none 0 0) [] := ⟨OwnI.nil _ _, CleanBlk.nil _ _⟩
theorem OI.kept {w w' : World} {B : Nat} {v : Value} {xs : List Int} {r : Option Nat} (h : OI w B v xs) (hg : w.grownBy w' r) (hne : v.ownBlock = none ∨ v.ownBlock ≠ r) : OI w' B v xs :=
  ⟨h.own.kept hg hne, h.clean.kept fun g e => hg.block g (h.own.lt g e).2 (fun e2 => by rcases hne with h1 | h1; rw [h1] at e; cases e; exact h1 (e.trans e2))⟩
theorem OI.ext {w w' : World} {B : Nat} {v : Value} {xs : List Int} (h : OI w B v xs) (hx : w.Extends w') : OI w' B v xs :=
  h.kept (r := none) ⟨hx.os, hx.tape, hx.output, hx.size, fun i hi _ => hx.block i hi⟩ (by cases v.ownBlock <;> simp)
theorem OI.lo {w w' : World} {B x : Nat} {v : Value} {xs : List Int} (h : OI w B v xs) (hg : w.grownBy w' (some x)) (hx : x < B) : OI w' B v xs :=
  h.kept hg (.inr fun e => by have := (h.own.lt x e).1; omega)
theorem OI.slice {w : World} {B : Nat} {v : Value} {xs : List Int} (h : OI w B v xs) : ∃ a cap, v = .slice a xs.length cap := h.own.slice
theorem wp_app_oi {o : Oper} {a : Act} {K : Act → World → Prop} {Q : Exit → Act → World → Prop} {w : World} (s x : Operand)
    (ho : o.op = .call { callee := .builtin .append, args := #[s, x], argTypes := #[42, 42] })
    (B : Nat) (v : Value) (l : List Int) (hs : a.eval s = v) (hown : OI w B v l) (y : Value) (m : Nat) (r : List Int) (hx : a.eval x = y) (hm : r.length = m) (hsrc : Src Tryz.prog 1 42 y m (i64vs r) w)
    (h63 : l.length + r.length ≤ 10000) (hB : B ≤ w.heap.size) (h : ∀ v' w', OI w' B v' (l ++ r) → w.grownBy w' v.ownBlock → K (a.put o.dst v') w') : o.wp Tryz.prog a w K Q := by
  subst hm
  obtain ⟨i, hi, hz0, hz1, hz2⟩ := info_parts owniinfo
  refine wp_append_own_src3 w s x 42 42 ho B 3 i (.int .i64 0) 1 8 Tryz.underlying42 hi hz0 hz1 hz2 rfl v l.length (i64vs l) hs hown.own y r.length (i64vs r) hx hsrc (by unfold maxLen; omega) (by omega) hB NoU8 hown.clean (fun z hz n e => ?_) (fun z hz n e => ?_) ?_
  · subst e
    unfold i64vs at hz
    obtain ⟨q, _, hq⟩ := List.mem_map.1 hz
    cases hq
  · subst e
    simp [Value.cells] at hz
  · intro v' w' ho' hg' _ hc'
    refine h v' w' ⟨?_, hc'⟩ hg'
    unfold OwnI
    rw [List.length_append, i64vs_app]
    exact ho'
theorem wpList_app_oi {ops : Array Oper} {rest : List Oper} {o : Oper} {a : Act} {Q : Exit → Act → World → Prop} {w : World} (hgd : o.guard = none) (s x : Operand)
    (ho : o.op = .call { callee := .builtin .append, args := #[s, x], argTypes := #[42, 42] })
    (B : Nat) (v : Value) (l : List Int) (hs : a.eval s = v) (hown : OI w B v l) (y : Value) (m : Nat) (r : List Int) (hx : a.eval x = y) (hm : r.length = m) (hsrc : Src Tryz.prog 1 42 y m (i64vs r) w)
    (h63 : l.length + r.length ≤ 10000) (hB : B ≤ w.heap.size) (h : ∀ v' w', OI w' B v' (l ++ r) → w.grownBy w' v.ownBlock → wpList Tryz.prog ops Q rest (a.put o.dst v') w') : wpList Tryz.prog ops Q (o :: rest) a w :=
  wpList_plain hgd fun _ hK => wp_app_oi s x ho B v l hs hown y m r hx hm hsrc h63 hB fun v' w' h1 h2 => hK _ _ (h v' w' h1 h2)
/-- Records. -/
structure RS (w : World) (B : Nat) (v : Value) (ps : List Pr) : Prop where
  own : w.ownsRow B 32 10 v ps.length (flat ps)
  slc : ∀ p ∈ ps, Slc p
  clean : CleanBlk NoU8 w v
  data : ∀ p ∈ ps, U8s w p.2 p.1.d
theorem RS.nil (w : World) (B : Nat) : RS w B (.slice none 0 0) [] := ⟨World.ownsRow_nil _ _ _ _, (fun p hp => by cases hp), CleanBlk.nil _ _, (fun p hp => by cases hp)⟩
theorem RS.slice {w : World} {B : Nat} {v : Value} {ps : List Pr} (h : RS w B v ps) : ∃ a cap, v = .slice a ps.length cap := by
  rcases h.own.2 with ⟨rfl, h0⟩ | ⟨g, cap, cur, rfl, _⟩
  · exact ⟨none, 0, by rw [h0]⟩
  · exact ⟨_, _, rfl⟩
theorem RS.kept {w w' : World} {B : Nat} {v : Value} {ps : List Pr} {r : Option Nat} (h : RS w B v ps) (hg : w.grownBy w' r) (hne : v.ownBlock = none ∨ v.ownBlock ≠ r) (hd : ∀ (u : Value) (xs : List Nat), U8s w u xs → U8s w' u xs) : RS w' B v ps :=
  ⟨h.own.kept hg hne, h.slc, h.clean.kept fun g e => hg.block g (h.own.lt g e).2 (fun e2 => by rcases hne with h1 | h1; rw [h1] at e; cases e; exact h1 (e.trans e2)), fun p hp => hd _ _ (h.data p hp)⟩
theorem RS.ext {w w' : World} {B : Nat} {v : Value} {ps : List Pr} (h : RS w B v ps) (hx : w.Extends w') : RS w' B v ps :=
  h.kept (r := none) ⟨hx.os, hx.tape, hx.output, hx.size, fun i hi _ => hx.block i hi⟩ (by cases v.ownBlock <;> simp) fun _ _ hu => hu.ext hx
/-- Eight cells or a cursor are written. -/
theorem RS.lo {w w' : World} {B x : Nat} {v : Value} {ps : List Pr} {cs : Array Value} {T : TypeId} {f : Nat × Nat} (h : RS w B v ps) (hg : w.grownBy w' (some x)) (hx : x < B) (hb : w.heap[x]? = some (.cells cs T f)) (hl : ∀ y ∈ cs.toList, ∀ n, y ≠ .int .u8 n) : RS w' B v ps :=
  h.kept hg (.inr fun e => by have := (h.own.lt x e).1; omega) fun _ _ hu => hu.beside hb hl hg
theorem RS.recs {w : World} {B : Nat} {v : Value} {ps : List Pr} (h : RS w B v ps) : Recs w v (ps.map Prod.fst) := by
  rcases h.own.2 with ⟨rfl, h0⟩ | ⟨g, cap, cur, rfl, hbg, hg, hnc, hcm, hcs, htake⟩
  · have : ps = [] := List.eq_nil_of_length_eq_zero h0
    subst this
    exact .inl ⟨rfl, none, 0, rfl⟩
  · refine .inr ⟨g, 0, cap, by rw [List.length_map], by rw [List.length_map]; exact hnc, by rw [List.length_map]; exact Nat.le_trans hnc hcm, (Array.getElem?_eq_some_iff.1 hg).1, fun k hk => ?_⟩
    rw [List.length_map] at hk
    have hm : ps.getD k zp ∈ ps := by rw [List.getD_eq_getElem?_getD, List.getElem?_eq_getElem hk]; exact List.getElem_mem hk
    obtain ⟨a, c, hs⟩ := h.slc _ hm
    have hd := h.data _ hm
    have e : (ps.map Prod.fst).getD k Rc.zero = (ps.getD k zp).1 := by simp [hk]
    rw [e]
    refine ⟨a, c, fun i v hv => ?_, by rw [← hs]; exact hd⟩
    have e2 := h.own.cells (g := g) rfl (k * 10 + i) v (by rw [flat_at ps k i hk (Rc.cells_lt _ _ hv), hs]; exact hv)
    rw [Addr.add_mid] at e2
    rw [Nat.add_assoc]; exact e2
theorem wpList_app_rs {ops : Array Oper} {rest : List Oper} {o : Oper} {a : Act} {Q : Exit → Act → World → Prop} {w : World} (hgd : o.guard = none) (s x : Operand)
    (ho : o.op = .call { callee := .builtin .append, args := #[s, x], argTypes := #[26, 26] })
    (B : Nat) (v : Value) (ps : List Pr) (hs : a.eval s = v) (hown : RS w B v ps) (y : Value) (p : Pr) (hx : a.eval x = y) (hsrc : Src Tryz.prog 10 26 y 1 (p.1.cells p.2) w) (hp : Slc p) (hd : U8s w p.2 p.1.d)
    (h63 : ps.length ≤ 10000) (hB : B ≤ w.heap.size) (h : ∀ v' w', RS w' B v' (ps ++ [p]) → w.grownBy w' v.ownBlock → wpList Tryz.prog ops Q rest (a.put o.dst v') w') : wpList Tryz.prog ops Q (o :: rest) a w := by
  obtain ⟨i, hi, hz0, hz1, hz2⟩ := info_parts recinfo
  refine wpList_append_own_src3 w hgd s x 26 26 ho B 32 i (Rc.zero.val (.slice none 0 0)) 10 96 Tryz.underlying26 hi hz0 hz1 hz2 rfl v ps.length (flat ps) hs hown.own y 1 (p.1.cells p.2) hx hsrc (by unfold maxLen; omega) (by omega) hB NoU8 hown.clean (fun z hz n e => ?_) (fun z hz n e => ?_) ?_
  · subst e
    obtain ⟨a, c, e⟩ := hp
    rw [e] at hz
    simp [Rc.cells] at hz
  · subst e
    simp [Rc.val, Value.cells] at hz
  · intro v' w' ho' hg' _ hc'
    refine h v' w' ⟨?_, fun q hq => ?_, hc', fun q hq => ?_⟩ hg'
    · rw [flat_append, List.length_append]
      have e : flat [p] = p.1.cells p.2 := by rw [flat_cons, flat_nil, List.append_nil]
      rw [e]
      exact ho'
    · rcases List.mem_append.1 hq with hq | hq
      · exact hown.slc q hq
      · obtain rfl : q = p := by simpa using hq
        exact hp
    · rcases List.mem_append.1 hq with hq | hq
      · exact (hown.data q hq).row hown.own hown.clean hg'
      · obtain rfl : q = p := by simpa using hq
        exact hd.row hown.own hown.clean hg'
end Go.Proofs.YtpfmmfapdcbnkaaGreatDoor
namespace Go.Proofs.YtpfmmfapdcbnkaaGreatDoor
set_option maxRecDepth 20000
open Go.RowKit Go.Deep
set_option linter.unusedVariables false
/-- Block g holds the record p, with its data at u. -/
def RB (w : World) (g : Nat) (p : Rc) (u : Value) : Prop := w.heap[g]? = some (.cells (p.cells u).toArray 32 (0, 0))
theorem RB.lt {w : World} {g : Nat} {p : Rc} {u : Value} (h : RB w g p u) : g < w.heap.size := (Array.getElem?_eq_some_iff.1 h).1
theorem RB.ext {w w' : World} {g : Nat} {p : Rc} {u : Value} (h : RB w g p u) (hx : w.Extends w') : RB w' g p u := (hx.block g h.lt).trans h
theorem RB.range {w : World} {g : Nat} {p : Rc} {u : Value} (h : RB w g p u) : w.rangeAt g 0 (p.cells u) := fun j v hv => by rw [Nat.zero_add, cell_of_row _ _ _ _ _ _ h, List.getElem?_toArray]; exact hv
/-- A record is stored in its variable. -/
theorem wpList_store_rb {ops : Array Oper} {rest : List Oper} {o : Oper} {a : Act} {w : World} {Q : Exit → Act → World → Prop} (hgd : o.guard = none) (x y : Operand) (ho : o.op = .store 32 x y)
    (g : Nat) (q p : Rc) (z u : Value) (hx : a.eval x = .pointer (some ⟨g, 0, none⟩)) (hy : a.eval y = p.val u) (hA : RB w g q z) (hs : Slc (p, u))
    (h : ∀ w', RB w' g p u → w.grownBy w' (some g) → wpList Tryz.prog ops Q rest (a.put o.dst undef) w') : wpList Tryz.prog ops Q (o :: rest) a w := by
  refine wpList_plain hgd fun K hK => ?_
  have hst := run_storeCells_at Tryz.prog g 0 32 (p.cells u) 0 (q.cells z).toArray w hA (by show 0 + 0 + 10 ≤ _; simp [Rc.cells]) hs.cells
  have hp : (p.cells u).length = 10 := rfl
  simp only [Nat.add_zero, Nat.zero_add, hp] at hst
  have hty : (Tryz.prog.info? 32).map (·.size) = some 10 := by kernel_rfl
  have hrun : (storeVar 32 ⟨g, 0, none⟩ (p.val u)).run Tryz.prog w = .ok () (w.setRow g (p.cells u).toArray) := by
    cases hq : Tryz.prog.info? 32 with
    | none => simp [hq] at hty
    | some t =>
      have hs' : t.size = 10 := by simpa [hq] using hty
      have hvc : (p.val u).cells = (p.cells u).toArray := rfl
      have hd : (q.cells z).drop 10 = [] := rfl
      simp [storeVar, sizeOf, typeInfo, hq, hvc, hp, hs', hst, hd]
  unfold Oper.wp execOp
  simp only [ho, hx, hy, Instr.storeAt, Instr.sureAddr, Sem.run_bind, Sem.run_pure, Result.andThen_ok, hrun]
  exact hK _ _ (h _ (by unfold RB; rw [setRow_heap w g _ _ _ _ hA]) ⟨rfl, rfl, rfl, by simp [World.setRow], fun k _ hk => setRow_other w g k _ (fun e => hk (by rw [e]))⟩)
/-- A record that reads so, and a number: 0, or why it is none. -/
def FreshOut (w : World) (r : Rc) (er : Int) (e : Ending) (w' : World) : Prop := ∃ a c, e = .returned (.tuple #[r.val (.slice a r.d.length c), .int .i64 er]) ∧ w.Extends w' ∧ U8s w' (.slice a r.d.length c) r.d
/-- An object is answered, or why there is none. -/
def ObjOr (w : World) (e2 : Int) (OK : World → Nat → Prop) (e : Ending) (w' : World) : Prop := w.Extends w' ∧ ((e2 ≠ 0 ∧ e = .returned (.tuple #[.pointer none, .int .i64 e2])) ∨ (e2 = 0 ∧ ∃ o, e = .returned (.tuple #[.pointer (some ⟨o, 0, none⟩), .int .i64 0]) ∧ OK w' o))
/-- Of the first k records those of one object. -/
def mineTo (p n : Int) (l : List Rc) (k : Nat) : List Rc := (l.take k).filter fun r => decide (r.p = p ∧ r.n = n)
def mineOf (p n : Int) (l : List Rc) : List Rc := l.filter fun r => decide (r.p = p ∧ r.n = n)
theorem mineTo_zero (p n : Int) (l : List Rc) : mineTo p n l 0 = [] := by unfold mineTo; simp
theorem mineTo_full (p n : Int) (l : List Rc) : mineTo p n l l.length = mineOf p n l := by unfold mineTo mineOf; rw [List.take_length]
theorem mineTo_step (p n : Int) (l : List Rc) (k : Nat) (hk : k < l.length) : mineTo p n l (k + 1) = if (l.getD k Rc.zero).p = p ∧ (l.getD k Rc.zero).n = n then mineTo p n l k ++ [l.getD k Rc.zero] else mineTo p n l k := by
  unfold mineTo
  have e : l.getD k Rc.zero = l[k] := by simp [hk]
  rw [List.take_succ_eq_append_getElem hk, List.filter_append, e]
  by_cases c : l[k].p = p ∧ l[k].n = n
  · rw [if_pos c, List.filter_cons_of_pos (by rw [decide_eq_true_eq]; exact c)]; rfl
  · rw [if_neg c, List.filter_cons_of_neg (by rw [decide_eq_true_eq]; exact c), List.filter_nil, List.append_nil]
/-- What making a symbol comes to: what decoding tells (e1), what making the object tells (e2), what its symbol tells (e3). -/
def freshErr (e1 : Nat) (e2 e3 : Int) : Int := if e1 = 0 then if e2 = 0 then e3 else e2 else e1
def freshRec (p n b s m blk esi un : Int) (d : List Nat) (er : Int) : Rc := if er = 0 then ⟨p, n, b, s, m, blk, esi, false, un, d⟩ else Rc.zero
end Go.Proofs.YtpfmmfapdcbnkaaGreatDoor
namespace Go.Proofs.YtpfmmfapdcbnkaaGreatDoor
set_option maxRecDepth 20000
open Go.RowKit
set_option linter.unusedVariables false
theorem k_neg (b s m i : Int) (w : World) (hi : i < 0) :
    Calls Tryz.prog 41 #[PV b s m, .int .i64 i] w fun e w' => e = .returned (.int .i64 (0 : Nat)) ∧ w.Extends w' := by
  go_enter Tryz.func41, Tryz.ntmps41
  go_upto_region 1 with fail
  generalize hw1 : World.alloc w _ = w1
  have hx1 : w.Extends w1 := by subst hw1; exact prm_ext_alloc _ _
  have hp : PAt w1 w.heap.size b s m := by subst hw1; exact PAt.new w 25 b s m
  generalize w.heap.size = g at hp ⊢
  clear hw1
  have HX1 := Lib.hid hx1
  have HP1 := Lib.hid hp
  have hb1 := hp.lt
  obtain ⟨p0, p1, p2⟩ := hp
  clear hx1
  go_wp2
  go_ret
  exact ⟨by rfl, HX1.out⟩
theorem k_wrong (b s m i : Int) (w : World) (h : ¬ CM.Right b s m) (hi : 0 ≤ i) :
    Calls Tryz.prog 41 #[PV b s m, .int .i64 i] w fun e w' => e = .returned (.int .i64 (0 : Nat)) ∧ w.Extends w' := by
  have hi1 : decide (i < 0) = false := by simp; omega
  go_enter Tryz.func41, Tryz.ntmps41
  go_upto_region 1 with fail
  generalize hw1 : World.alloc w _ = w1
  have hx1 : w.Extends w1 := by subst hw1; exact prm_ext_alloc _ _
  have hp : PAt w1 w.heap.size b s m := by subst hw1; exact PAt.new w 25 b s m
  generalize w.heap.size = g at hp ⊢
  clear hw1
  have HX1 := Lib.hid hx1
  have HP1 := Lib.hid hp
  have hb1 := hp.lt
  obtain ⟨p0, p1, p2⟩ := hp
  clear hx1
  go_wp2_with fail
  refine (blocks_no b s m w1 h).mono ?_
  rintro e w2 ⟨rfl, hx⟩
  have HX2 := Lib.hid (Gr.ext_trans HX1.out hx)
  have HP2 := Lib.hid (HP1.out.ext hx)
  have hb2 := HP2.out.lt
  clear p0 p1 p2 hx
  obtain ⟨p0, p1, p2⟩ := HP2.out
  go_wp2
  go_ret
  exact ⟨by rfl, HX2.out⟩
theorem k_over (b s m : Nat) (i : Int) (w : World) (h : CM.Right b s m) (hi : (CM.bl b s m : Nat) ≤ i) :
    Calls Tryz.prog 41 #[PV b s m, .int .i64 i] w fun e w' => e = .returned (.int .i64 (0 : Nat)) ∧ w.Extends w' := by
  have hi1 : decide (i < 0) = false := by simp; omega
  have HB := Lib.hid (fun w => blocks_yes b s m w h)
  generalize CM.bl b s m = n at *
  clear h
  go_enter Tryz.func41, Tryz.ntmps41
  go_upto_region 1 with fail
  generalize hw1 : World.alloc w _ = w1
  have hx1 : w.Extends w1 := by subst hw1; exact prm_ext_alloc _ _
  have hp : PAt w1 w.heap.size b s m := by subst hw1; exact PAt.new w 25 b s m
  generalize w.heap.size = g at hp ⊢
  clear hw1
  have HX1 := Lib.hid hx1
  have HP1 := Lib.hid hp
  have hb1 := hp.lt
  obtain ⟨p0, p1, p2⟩ := hp
  clear hx1
  go_wp2_with fail
  refine (HB.out w1).mono ?_
  rintro e w2 ⟨rfl, hx⟩
  have HX2 := Lib.hid (Gr.ext_trans HX1.out hx)
  have HP2 := Lib.hid (HP1.out.ext hx)
  have hb2 := HP2.out.lt
  clear p0 p1 p2 hx
  obtain ⟨p0, p1, p2⟩ := HP2.out
  go_wp2
  go_ret
  exact ⟨by rfl, HX2.out⟩
theorem k_in (b s m i : Nat) (w : World) (h : CM.Right b s m) (hi : i < CM.bl b s m) :
    Calls Tryz.prog 41 #[PV b s m, .int .i64 i] w fun e w' => e = .returned (.int .i64 (CM.kk b s m i : Nat)) ∧ w.Extends w' := by
  obtain ⟨h1, h2, h3, h4, h5, h6⟩ := CM.right_of h
  rw [CM.kk_in b s m i hi]
  have HB := Lib.hid (fun w => blocks_yes b s m w h)
  have HY := Lib.hid (fun w => sym_yes b s m w h)
  have hyl := CM.sy_le b s h1
  have hyp := CM.sy_pos b s
  have hnp := CM.bl_pos b s m
  generalize CM.bl b s m = n at *
  generalize CM.sy b s = y at *
  have HD : Hid (∀ r, r = y % n → CM.deal y n i = y / n + (if i < r then 1 else 0)) := fun r hr => by rw [hr]; rfl
  generalize CM.deal y n i = d at *
  have hq : (y : Int) / n = (y / n : Nat) := by rw [Int.natCast_ediv]
  have hr : (y : Int) % n = (y % n : Nat) := by rw [Int.natCast_emod]
  have hql := Nat.div_le_self y n
  obtain ⟨r, hr0⟩ : ∃ r, r = y % n := ⟨_, rfl⟩
  have HD1 := Lib.hid (HD.out r hr0)
  rw [← hr0] at hr
  generalize y / n = q at *
  have HQ := Lib.hid hq
  have HRM := Lib.hid hr
  clear hq hr h HD hr0
  have hi1 : decide ((i : Int) < 0) = false := by simp
  have hdv : ((n : Int) == 0) = false := by simp; omega
  by_cases hir : i < r
  all_goals
    have hd := HD1.out
    simp only [hir, if_true, if_false] at hd
    have HDD := Lib.hid hd
    clear hd HD1
    go_enter Tryz.func41, Tryz.ntmps41
    go_upto_region 1 with fail
    generalize hw1 : World.alloc w _ = w1
    have hx1 : w.Extends w1 := by subst hw1; exact prm_ext_alloc _ _
    have hp : PAt w1 w.heap.size b s m := by subst hw1; exact PAt.new w 25 b s m
    generalize w.heap.size = g at hp ⊢
    clear hw1
    have HX1 := Lib.hid hx1
    have HP1 := Lib.hid hp
    have hb1 := hp.lt
    obtain ⟨p0, p1, p2⟩ := hp
    clear hx1
    go_wp2_with fail
    refine (HB.out w1).mono ?_
    rintro e w2 ⟨rfl, hx⟩
    have HX2 := Lib.hid (Gr.ext_trans HX1.out hx)
    have HP2 := Lib.hid (HP1.out.ext hx)
    have hb2 := HP2.out.lt
    clear p0 p1 p2 hx
    obtain ⟨p0, p1, p2⟩ := HP2.out
    clear hi1
    have HC : Hid (∀ w', w2.drew.Extends w' → w'.cell? ⟨g, 0, none⟩ = some (.int .i64 b) ∧ w'.cell? ⟨g, 1, none⟩ = some (.int .i64 s) ∧ w'.cell? ⟨g, 2, none⟩ = some (.int .i64 m)) := fun w' hw' => HP2.out.ext (Gr.of_drew hw')
    go_upto_region 3 with fail
    clear p0 p1 p2
    refine Gr.region 4 [(false,0),(false,2),(true,1),(true,3)] (by kernel_rfl) (by kernel_rfl) (fun d _ _ _ _ h => by cases d <;> exact h) ?_
    simp only [Gr.pick, List.getElem?_cons_zero, List.getElem?_cons_succ, List.drop_succ_cons, List.drop_zero]
    have HX3 := Lib.hid (Gr.ext_drew HX2.out)
    have HY3 : Hid (w2.drew.Extends w2.drew) := Gr.ext_refl _
    generalize w2.drew = w3 at *
    iterate 2
      refine Gr.walk_t ?_ (Or.inl ⟨by rfl, ?_⟩) ?_
      rotate_left
      · intro w' hw'
        obtain ⟨c0, c1, c2⟩ := HC.out w' hw'
        clear hw'
        go_simp
        try with_reducible rfl
      simp only [Act.put, List.setIfInBounds_toArray, List.set_cons_zero, List.set_cons_succ]
    refine Gr.walk_c (fun K hK => ?_)
    go_simp
    refine (HY.out w3).mono ?_
    rintro e w4 ⟨rfl, hx⟩
    have HX4 := Lib.hid (Gr.ext_trans HX3.out hx)
    try go_simp
    refine hK.out _ _ (hx) ?_
    clear hK K
    refine Gr.walk_c (fun K hK => ?_)
    go_simp
    refine (HB.out w4).mono ?_
    rintro e w5 ⟨rfl, hx⟩
    have HX5 := Lib.hid (Gr.ext_trans HX4.out hx)
    try go_simp
    refine hK.out _ _ (hx) ?_
    clear hK K
    refine Gr.walk_nil ?_
    have hq := HQ.out
    have hr := HRM.out
    go_wp2
    go_ret
    exact ⟨pret64 (by have := HDD.out; first | (rw [IntWalk.wrap64_in _ ⟨by omega, by omega⟩]; omega) | omega), HX5.out⟩
theorem rk_neg (b s m i : Int) (w : World) (hi : i < 0) :
    Calls Tryz.prog 20 #[PV b s m, .int .i64 i] w fun e w' => e = .returned (.int .i64 (0 : Nat)) ∧ w.Extends w' := by
  go_enter Tryz.func20, Tryz.ntmps20
  go_upto_region 1 with fail
  generalize hw1 : World.alloc w _ = w1
  have hx1 : w.Extends w1 := by subst hw1; exact prm_ext_alloc _ _
  have hp : PAt w1 w.heap.size b s m := by subst hw1; exact PAt.new w 25 b s m
  generalize w.heap.size = g at hp ⊢
  clear hw1
  have HX1 := Lib.hid hx1
  have HP1 := Lib.hid hp
  have hb1 := hp.lt
  obtain ⟨p0, p1, p2⟩ := hp
  clear hx1
  go_wp2
  go_ret
  exact ⟨by rfl, HX1.out⟩
theorem rk_wrong (b s m i : Int) (w : World) (h : ¬ CM.Right b s m) (hi : 0 ≤ i) :
    Calls Tryz.prog 20 #[PV b s m, .int .i64 i] w fun e w' => e = .returned (.int .i64 (0 : Nat)) ∧ w.Extends w' := by
  have hi1 : decide (i < 0) = false := by simp; omega
  go_enter Tryz.func20, Tryz.ntmps20
  go_upto_region 1 with fail
  generalize hw1 : World.alloc w _ = w1
  have hx1 : w.Extends w1 := by subst hw1; exact prm_ext_alloc _ _
  have hp : PAt w1 w.heap.size b s m := by subst hw1; exact PAt.new w 25 b s m
  generalize w.heap.size = g at hp ⊢
  clear hw1
  have HX1 := Lib.hid hx1
  have HP1 := Lib.hid hp
  have hb1 := hp.lt
  obtain ⟨p0, p1, p2⟩ := hp
  clear hx1
  go_wp2_with fail
  refine (rblocks_no b s m w1 h).mono ?_
  rintro e w2 ⟨rfl, hx⟩
  have HX2 := Lib.hid (Gr.ext_trans HX1.out hx)
  have HP2 := Lib.hid (HP1.out.ext hx)
  have hb2 := HP2.out.lt
  clear p0 p1 p2 hx
  obtain ⟨p0, p1, p2⟩ := HP2.out
  go_wp2
  go_ret
  exact ⟨by rfl, HX2.out⟩
theorem rk_over (b s m : Nat) (i : Int) (w : World) (h : CM.Right b s m) (hi : (CM.bl b s m : Nat) ≤ i) :
    Calls Tryz.prog 20 #[PV b s m, .int .i64 i] w fun e w' => e = .returned (.int .i64 (0 : Nat)) ∧ w.Extends w' := by
  have hi1 : decide (i < 0) = false := by simp; omega
  have HB := Lib.hid (fun w => rblocks_yes b s m w h)
  generalize CM.bl b s m = n at *
  clear h
  go_enter Tryz.func20, Tryz.ntmps20
  go_upto_region 1 with fail
  generalize hw1 : World.alloc w _ = w1
  have hx1 : w.Extends w1 := by subst hw1; exact prm_ext_alloc _ _
  have hp : PAt w1 w.heap.size b s m := by subst hw1; exact PAt.new w 25 b s m
  generalize w.heap.size = g at hp ⊢
  clear hw1
  have HX1 := Lib.hid hx1
  have HP1 := Lib.hid hp
  have hb1 := hp.lt
  obtain ⟨p0, p1, p2⟩ := hp
  clear hx1
  go_wp2_with fail
  refine (HB.out w1).mono ?_
  rintro e w2 ⟨rfl, hx⟩
  have HX2 := Lib.hid (Gr.ext_trans HX1.out hx)
  have HP2 := Lib.hid (HP1.out.ext hx)
  have hb2 := HP2.out.lt
  clear p0 p1 p2 hx
  obtain ⟨p0, p1, p2⟩ := HP2.out
  go_wp2
  go_ret
  exact ⟨by rfl, HX2.out⟩
theorem rk_in (b s m i : Nat) (w : World) (h : CM.Right b s m) (hi : i < CM.bl b s m) :
    Calls Tryz.prog 20 #[PV b s m, .int .i64 i] w fun e w' => e = .returned (.int .i64 (CM.kk b s m i : Nat)) ∧ w.Extends w' := by
  obtain ⟨h1, h2, h3, h4, h5, h6⟩ := CM.right_of h
  rw [CM.kk_in b s m i hi]
  have HB := Lib.hid (fun w => rblocks_yes b s m w h)
  have HY := Lib.hid (fun w => rsym_yes b s m w h)
  have hyl := CM.sy_le b s h1
  have hyp := CM.sy_pos b s
  have hnp := CM.bl_pos b s m
  generalize CM.bl b s m = n at *
  generalize CM.sy b s = y at *
  have HD : Hid (∀ r, r = y % n → CM.deal y n i = y / n + (if i < r then 1 else 0)) := fun r hr => by rw [hr]; rfl
  generalize CM.deal y n i = d at *
  have hq : (y : Int) / n = (y / n : Nat) := by rw [Int.natCast_ediv]
  have hr : (y : Int) % n = (y % n : Nat) := by rw [Int.natCast_emod]
  have hql := Nat.div_le_self y n
  obtain ⟨r, hr0⟩ : ∃ r, r = y % n := ⟨_, rfl⟩
  have HD1 := Lib.hid (HD.out r hr0)
  rw [← hr0] at hr
  generalize y / n = q at *
  have HQ := Lib.hid hq
  have HRM := Lib.hid hr
  clear hq hr h HD hr0
  have hi1 : decide ((i : Int) < 0) = false := by simp
  have hdv : ((n : Int) == 0) = false := by simp; omega
  by_cases hir : i < r
  all_goals
    have hd := HD1.out
    simp only [hir, if_true, if_false] at hd
    have HDD := Lib.hid hd
    clear hd HD1
    go_enter Tryz.func20, Tryz.ntmps20
    go_upto_region 1 with fail
    generalize hw1 : World.alloc w _ = w1
    have hx1 : w.Extends w1 := by subst hw1; exact prm_ext_alloc _ _
    have hp : PAt w1 w.heap.size b s m := by subst hw1; exact PAt.new w 25 b s m
    generalize w.heap.size = g at hp ⊢
    clear hw1
    have HX1 := Lib.hid hx1
    have HP1 := Lib.hid hp
    have hb1 := hp.lt
    obtain ⟨p0, p1, p2⟩ := hp
    clear hx1
    go_wp2_with fail
    refine (HB.out w1).mono ?_
    rintro e w2 ⟨rfl, hx⟩
    have HX2 := Lib.hid (Gr.ext_trans HX1.out hx)
    have HP2 := Lib.hid (HP1.out.ext hx)
    have hb2 := HP2.out.lt
    clear p0 p1 p2 hx
    obtain ⟨p0, p1, p2⟩ := HP2.out
    clear hi1
    have HC : Hid (∀ w', w2.drew.Extends w' → w'.cell? ⟨g, 0, none⟩ = some (.int .i64 b) ∧ w'.cell? ⟨g, 1, none⟩ = some (.int .i64 s) ∧ w'.cell? ⟨g, 2, none⟩ = some (.int .i64 m)) := fun w' hw' => HP2.out.ext (Gr.of_drew hw')
    go_upto_region 3 with fail
    clear p0 p1 p2
    refine Gr.region 4 [(false,0),(false,2),(true,1),(true,3)] (by kernel_rfl) (by kernel_rfl) (fun d _ _ _ _ h => by cases d <;> exact h) ?_
    simp only [Gr.pick, List.getElem?_cons_zero, List.getElem?_cons_succ, List.drop_succ_cons, List.drop_zero]
    have HX3 := Lib.hid (Gr.ext_drew HX2.out)
    have HP3 := Lib.hid (HP2.out.ext (Gr.ext_drew (Gr.ext_refl w2)))
    generalize w2.drew = w3 at *
    iterate 2
      refine Gr.walk_t ?_ (Or.inl ⟨by rfl, ?_⟩) ?_
      rotate_left
      · intro w' hw'
        obtain ⟨c0, c1, c2⟩ := HC.out w' hw'
        clear hw'
        go_simp
        try with_reducible rfl
      simp only [Act.put, List.setIfInBounds_toArray, List.set_cons_zero, List.set_cons_succ]
    refine Gr.walk_c (fun K hK => ?_)
    go_simp
    refine (HY.out w3).mono ?_
    rintro e w4 ⟨rfl, hx⟩
    have HX4 := Lib.hid (Gr.ext_trans HX3.out hx)
    have HP4 := Lib.hid (HP3.out.ext hx)
    try go_simp
    refine hK.out _ _ (hx) ?_
    clear hK K
    refine Gr.walk_c (fun K hK => ?_)
    go_simp
    refine (HB.out w4).mono ?_
    rintro e w5 ⟨rfl, hx⟩
    have HX5 := Lib.hid (Gr.ext_trans HX4.out hx)
    have HP5 := Lib.hid (HP4.out.ext hx)
    try go_simp
    refine hK.out _ _ (hx) ?_
    clear hK K
    clear HC
    refine Gr.walk_nil ?_
    have hq := HQ.out
    go_upto_region 4 with fail
    have HC : Hid (∀ w', w5.drew.Extends w' → w'.cell? ⟨g, 0, none⟩ = some (.int .i64 b) ∧ w'.cell? ⟨g, 1, none⟩ = some (.int .i64 s) ∧ w'.cell? ⟨g, 2, none⟩ = some (.int .i64 m)) := fun w' hw' => HP5.out.ext (Gr.of_drew hw')
    refine Gr.region 6 [(false,0),(false,1),(false,3),(true,2),(true,4),(false,5)] (by kernel_rfl) (by kernel_rfl) (fun d _ _ _ _ h => by cases d <;> exact h) ?_
    simp only [Gr.pick, List.getElem?_cons_zero, List.getElem?_cons_succ, List.drop_succ_cons, List.drop_zero]
    have HX6 := Lib.hid (Gr.ext_drew HX5.out)
    generalize w5.drew = w6 at *
    iterate 3
      refine Gr.walk_t ?_ (Or.inl ⟨by rfl, ?_⟩) ?_
      rotate_left
      · intro w' hw'
        obtain ⟨c0, c1, c2⟩ := HC.out w' hw'
        clear hw'
        go_simp
        try with_reducible rfl
      simp only [Act.put, List.setIfInBounds_toArray, List.set_cons_zero, List.set_cons_succ]
    refine Gr.walk_c (fun K hK => ?_)
    go_simp
    refine (HY.out w6).mono ?_
    rintro e w7 ⟨rfl, hx⟩
    have HX7 := Lib.hid (Gr.ext_trans HX6.out hx)
    try go_simp
    refine hK.out _ _ (hx) ?_
    clear hK K
    refine Gr.walk_c (fun K hK => ?_)
    go_simp
    refine (HB.out w7).mono ?_
    rintro e w8 ⟨rfl, hx⟩
    have HX8 := Lib.hid (Gr.ext_trans HX7.out hx)
    try go_simp
    refine hK.out _ _ (hx) ?_
    clear hK K
    have hr := HRM.out
    refine Gr.walk_t ?_ (Or.inl ⟨by rfl, ?_⟩) ?_
    rotate_left
    · intro w' hw'
      have hnz : ¬ n = 0 := by omega
      have htm : (y : Int).tmod n = r := by rw [Int.tmod_eq_emod_of_nonneg (by omega)]; exact HRM.out
      clear hw'
      go_simp
      try with_reducible rfl
    simp only [Act.put, List.setIfInBounds_toArray, List.set_cons_zero, List.set_cons_succ]
    refine Gr.walk_nil ?_
    go_wp2
    go_ret
    exact ⟨pret64 (by have := HDD.out; first | (rw [IntWalk.wrap64_in _ ⟨by omega, by omega⟩]; omega) | omega), HX8.out⟩
end Go.Proofs.YtpfmmfapdcbnkaaGreatDoor
