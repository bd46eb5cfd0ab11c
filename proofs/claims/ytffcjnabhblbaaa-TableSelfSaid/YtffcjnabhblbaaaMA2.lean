/- In one text: Append, Ints, OpenI, Rec, OpenR, ActsT, Append3, Wide, BkCt, BkIdx. -/
import Derived.Laws.AppendOwn
import Derived.Deep.AppendSrc
import Derived.Deep.OwnRows
import Derived.Laws.MakeOwn
import Derived.Lib.Hide
import Derived.Handy
import Derived.OpenShut
import Derived.Deep.Matrix
import Derived.SizedLaws
import Derived.Test.YtffcjnabhblbaaaRows
import Derived.Deep.MidRow
import Derived.Lib.SmallJoins
import Derived.Laws.CopyRow
import Derived.Laws.IdiomCopy
import Derived.Laws.Append
import Derived.WalkKit
import Derived.Laws.StructEq
import Derived.IntWalk
import Derived.Test.YtffcjnabhblbaaaMA1
namespace Go.Proofs.Ytffcjnabhblbaaa
set_option maxRecDepth 20000
open Go.RowKit Go.Deep
section
variable {P : Program} (w : World)
theorem run_append_own_src (base : Nat) (t tx ty e : TypeId) (i : TypeInfo) (z : Value) (size bytes : Nat) (ht : P.underlying t = some (.slice e)) (hi : P.info? e = some i) (hz : i.zero = some z)
    (hsize : i.size = size) (hby : i.bytes = bytes) (hzs : z.cells.size = size)
    (v : Value) (n : Nat) (xs : List Value) (hown : w.ownsRow base e size v n xs) (x : Value) (m : Nat) (news : List Value) (hs : Src P size tx x m news w)
    (h63 : n + m ≤ maxLen) (hbytes : (n + m) * bytes ≤ 140737488355328) (hbase : base ≤ w.heap.size) :
    ∃ v' w', (Builtin.append_ #[t, tx] ty #[v, x]).run P w = .ok v' w' ∧ w'.ownsRow base e size v' (n + m) (xs ++ news) ∧ w.grownBy w' v.ownBlock ∧
      (v' = .slice none 0 0 ↔ v = .slice none 0 0 ∧ m = 0) := by
  subst hsize
  subst hby
  have hsmall : n + m ≤ 9223372036854775807 := by simp only [maxLen] at h63; omega
  have hl := hs.newsLen
  have hlen : (xs ++ news).length = (n + m) * i.size := by rw [List.length_append, hown.1, hl, Nat.add_mul]
  have grown : ∀ (old : Nat), old < n + m → ∀ (row : Option Nat),
      (w.drew.alloc (.cells ((xs ++ news).toArray ++ Builtin.zeroCells z.cells (grownCap w (n + m) old e - (n + m))) e)).ownsRow base e i.size
        (.slice (some ⟨w.heap.size, 0, none⟩) (n + m) (grownCap w (n + m) old e)) (n + m) (xs ++ news) ∧
      w.grownBy (w.drew.alloc (.cells ((xs ++ news).toArray ++ Builtin.zeroCells z.cells (grownCap w (n + m) old e - (n + m))) e)) row := by
    intro old ho row
    have hge := grownCap_ge w (n + m) old e
    have hcm : grownCap w (n + m) old e ≤ maxLen := grownCap_le_maxLen w (n + m) old e h63
    refine ⟨⟨hlen, .inr ⟨w.heap.size, _, _, rfl, hbase, heap_alloc_new w.drew _, hge, hcm, ?_, ?_⟩⟩, ⟨rfl, rfl, rfl, by simp, fun k hk _ => Below.heap_alloc w.drew _ k hk⟩⟩
    · simp only [Array.size_append, List.size_toArray, size_zeroCells, hzs, hlen, ← Nat.add_mul]
      congr 1
      omega
    · simp only [Array.toList_append]
      rw [← hlen]
      exact List.take_left
  rcases hown.2 with ⟨rfl, rfl⟩ | ⟨g, cap, cur, rfl, hbg, hg, hnc, hcm, hcs, htake⟩
  · have hx : xs = [] := List.eq_nil_of_length_eq_zero (by simpa using hown.1)
    subst hx
    by_cases hm : m = 0
    · subst hm
      have hn : news = [] := List.eq_nil_of_length_eq_zero (by simpa using hl)
      subst hn
      refine ⟨.slice none 0 0, w, ?_, World.ownsRow_nil w base e i.size, ⟨rfl, rfl, rfl, Nat.le_refl _, fun _ _ _ => rfl⟩, by simp⟩
      rcases hs.kind with ⟨e', hk⟩ | hk <;> simp [Builtin.append_, run_underlying ht, run_underlying hk, sizeOf, typeInfo, hi, hs.len, hs.cells]
    · have hr := run_append_grow_src (P := P) w t tx ty e i z ht hi hz none 0 0 [] (by simp [Builtin.firstCells]) x m news hs (by omega) (by omega) (growslice_fits (by omega) (by have hb := hbytes; simp only [Nat.zero_add] at hb ⊢; exact hb))
      have hgr := grown 0 (by omega) (Value.ownBlock (.slice none 0 0))
      simp only [Nat.zero_add, List.nil_append] at hgr hr ⊢
      exact ⟨_, _, hr, hgr.1, hgr.2, by simp [hm]⟩
  · by_cases hroom : n + m ≤ cap
    · have hfit : n * i.size + news.length ≤ cur.size := by rw [hl, hcs, ← Nat.add_mul]; exact Nat.mul_le_mul_right _ hroom
      have hst := run_storeCells_at P g (n * i.size) e news 0 cur w hg (by simpa using hfit) hs.one
      simp only [Nat.add_zero] at hst
      have hr : (Builtin.append_ #[t, tx] ty #[.slice (some ⟨g, 0, none⟩) n cap, x]).run P w =
          .ok (.slice (some ⟨g, 0, none⟩) (n + m) cap) (w.setRow g (cur.toList.take (n * i.size) ++ news ++ cur.toList.drop (n * i.size + news.length)).toArray) := by
        rcases hs.kind with ⟨e', hk⟩ | hk <;> simp [Builtin.append_, run_underlying ht, run_underlying hk, sizeOf, typeInfo, hi, hs.len, hroom, hs.cells, Addr.add_lit, hst]
      refine ⟨_, _, hr, ⟨hlen, .inr ⟨g, cap, _, rfl, hbg, setRow_heap w g cur _ e _ hg, hroom, hcm, ?_, ?_⟩⟩, ⟨rfl, rfl, rfl, by simp, fun k _ hk => setRow_other w g k _ (fun e => hk (by simp [Value.ownBlock, e]))⟩, by simp⟩
      · simp only [List.size_toArray, List.length_append, List.length_take, List.length_drop, Array.length_toList]
        omega
      · rw [htake, ← hlen]
        exact List.take_left
    · have holds : ∀ j u, xs[j]? = some u → w.cell? ((⟨g, 0, none⟩ : Addr).add j) = some u := hown.cells (g := g) rfl
      have hold := run_firstCells_some (P := P) w.drew i.size n ⟨g, 0, none⟩ n cap xs hown.1 (by simpa using holds)
      have hr := run_append_grow_src (P := P) w t tx ty e i z ht hi hz (some ⟨g, 0, none⟩) n cap xs hold x m news hs (by omega) (by omega) (growslice_fits (by omega) hbytes)
      have hgr := grown cap (by omega) (Value.ownBlock (.slice (some ⟨g, 0, none⟩) n cap))
      exact ⟨_, _, hr, hgr.1, hgr.2, by simp⟩
theorem wp_append_own_src {o : Oper} {a : Act} {K : Act → World → Prop} {Q : Exit → Act → World → Prop} (s x : Operand) (t tx : TypeId)
    (ho : o.op = .call { callee := .builtin .append, args := #[s, x], argTypes := #[t, tx] })
    (base : Nat) (e : TypeId) (i : TypeInfo) (z : Value) (size bytes : Nat) (ht : P.underlying t = some (.slice e)) (hi : P.info? e = some i) (hz : i.zero = some z)
    (hsize : i.size = size) (hby : i.bytes = bytes) (hzs : z.cells.size = size)
    (v : Value) (n : Nat) (xs : List Value) (hs : a.eval s = v) (hown : w.ownsRow base e size v n xs) (y : Value) (m : Nat) (news : List Value) (hx : a.eval x = y) (hsrc : Src P size tx y m news w)
    (h63 : n + m ≤ maxLen) (hbytes : (n + m) * bytes ≤ 140737488355328) (hbase : base ≤ w.heap.size)
    (h : ∀ v' w', w'.ownsRow base e size v' (n + m) (xs ++ news) → w.grownBy w' v.ownBlock → (v' = .slice none 0 0 ↔ v = .slice none 0 0 ∧ m = 0) → K (a.put o.dst v') w') : o.wp P a w K Q := by
  obtain ⟨v', w', hr, h2, h3, h4⟩ := run_append_own_src (P := P) w base t tx o.type e i z size bytes ht hi hz hsize hby hzs v n xs hown y m news hsrc h63 hbytes hbase
  unfold Oper.wp execOp
  simp only [ho, resolve, invoke, builtin, Sem.run_bind, Sem.run_pure, Result.andThen_ok, List.map_toArray, List.map_cons, List.map_nil, hs, hx, hr]
  exact h v' w' h2 h3 h4
theorem wpList_append_own_src {ops : Array Oper} {rest : List Oper} {o : Oper} {a : Act} {Q : Exit → Act → World → Prop} (hgd : o.guard = none) (s x : Operand) (t tx : TypeId)
    (ho : o.op = .call { callee := .builtin .append, args := #[s, x], argTypes := #[t, tx] })
    (base : Nat) (e : TypeId) (i : TypeInfo) (z : Value) (size bytes : Nat) (ht : P.underlying t = some (.slice e)) (hi : P.info? e = some i) (hz : i.zero = some z)
    (hsize : i.size = size) (hby : i.bytes = bytes) (hzs : z.cells.size = size)
    (v : Value) (n : Nat) (xs : List Value) (hs : a.eval s = v) (hown : w.ownsRow base e size v n xs) (y : Value) (m : Nat) (news : List Value) (hx : a.eval x = y) (hsrc : Src P size tx y m news w)
    (h63 : n + m ≤ maxLen) (hbytes : (n + m) * bytes ≤ 140737488355328) (hbase : base ≤ w.heap.size)
    (h : ∀ v' w', w'.ownsRow base e size v' (n + m) (xs ++ news) → w.grownBy w' v.ownBlock → (v' = .slice none 0 0 ↔ v = .slice none 0 0 ∧ m = 0) → wpList P ops Q rest (a.put o.dst v') w') : wpList P ops Q (o :: rest) a w :=
  wpList_plain hgd fun _ hK => wp_append_own_src w s x t tx ho base e i z size bytes ht hi hz hsize hby hzs v n xs hs hown y m news hx hsrc h63 hbytes hbase fun v' w' h2 h3 h4 => hK _ _ (h v' w' h2 h3 h4)
end
/-- Bytes as values. -/
def u8vs (xs : List Nat) : List Value := xs.map fun (x : Nat) => Value.int .u8 (x : Int)
theorem u8vs_length (xs : List Nat) : (u8vs xs).length = xs.length := by simp [u8vs]
theorem u8vs_at (xs : List Nat) (j : Nat) (u : Value) (h : (u8vs xs)[j]? = some u) : j < xs.length ∧ u = .int .u8 (xs.getD j 0 : Nat) := by
  have hj : j < xs.length := by
    rcases Nat.lt_or_ge j xs.length with h' | h'
    · exact h'
    · rw [List.getElem?_eq_none (by rw [u8vs_length]; exact h')] at h; cases h
  refine ⟨hj, ?_⟩
  simp [u8vs, hj] at h
  simp [hj, ← h]
/-- A slice of bytes as a source of append. -/
theorem U8s.src {P : Program} {w : World} {v : Value} {xs : List Nat} (h : U8s w v xs) {tx e' : TypeId} (hk : P.underlying tx = some (.slice e')) : Src P 1 tx v xs.length (u8vs xs) w := by
  obtain ⟨a, cap, rfl, _, _⟩ := h.slice
  by_cases h0 : xs.length = 0
  · have : xs = [] := List.eq_nil_of_length_eq_zero h0
    subst this
    cases a with
    | none => exact Src.ofNil w hk cap
    | some a => exact Src.ofSlice w hk a 0 cap [] rfl (by simp) (by simp)
  · obtain ⟨b, off, rfl, _, hc⟩ := h.cell.2 (by omega)
    refine Src.ofSlice w hk ⟨b, off, none⟩ xs.length cap (u8vs xs) (by rw [u8vs_length, Nat.mul_one]) (fun j u hu => ?_) (fun u hu => ?_)
    · obtain ⟨hj, rfl⟩ := u8vs_at xs j u hu
      rw [Addr.add_mid]; exact hc j hj
    · obtain ⟨x, _, rfl⟩ := List.mem_map.1 hu; rfl
/-- The literal of one value that append(s, u) makes. -/
theorem src_one {P : Program} {W : World} {T tx e' : TypeId} {u : Value} (hk : P.underlying tx = some (.slice e')) (s c : Nat) (hs : s = W.heap.size) (h1 : u.oneCell' = true) :
    Src P 1 tx (.slice (some ⟨s, 0, none⟩) 1 c) 1 [u] (W.alloc (.cells #[u] T)) := by
  subst hs
  refine Src.ofSlice _ hk ⟨W.heap.size, 0, none⟩ 1 c [u] rfl (fun j u' hu => ?_) (fun u' hu => ?_)
  · have hj : j = 0 := by
      rcases Nat.eq_zero_or_pos j with h | h
      · exact h
      · rw [List.getElem?_eq_none (by simp; omega)] at hu; cases hu
    subst hj
    simp at hu
    subst hu
    rw [Addr.add_mid]
    simp
  · simp at hu; subst hu; exact h1
end Go.Proofs.Ytffcjnabhblbaaa
namespace Go.Proofs.Ytffcjnabhblbaaa
set_option maxRecDepth 20000
open Go.RowKit
/-- Ints as values. -/
def i64vs (xs : List Int) : List Value := xs.map fun (x : Int) => Value.int .i64 x
theorem i64vs_length (xs : List Int) : (i64vs xs).length = xs.length := by simp [i64vs]
theorem i64vs_snoc (xs : List Int) (x : Int) : i64vs (xs ++ [x]) = i64vs xs ++ [.int .i64 x] := by simp [i64vs]
/-- v is a slice of the ints xs in w: empty; or its cells hold them. -/
def Ints (w : World) (v : Value) (xs : List Int) : Prop :=
  (xs = [] ∧ ∃ a cap, v = .slice a 0 cap ∧ cap ≤ maxLen) ∨
  ∃ b off cap, v = .slice (some ⟨b, off, none⟩) xs.length cap ∧ xs.length ≤ cap ∧ cap ≤ maxLen ∧ b < w.heap.size ∧ ∀ k, k < xs.length → w.cell? ⟨b, off + k, none⟩ = some (.int .i64 (xs.getD k 0))
theorem Ints.ext {w w' : World} {v : Value} {xs : List Int} (h : Ints w v xs) (hb : w.Extends w') : Ints w' v xs := by
  rcases h with h | ⟨b, off, cap, h1, h2, h2', h3, h4⟩
  · exact .inl h
  · exact .inr ⟨b, off, cap, h1, h2, h2', Nat.lt_of_lt_of_le h3 hb.size, fun k hk => (hb.cell ⟨b, off + k, none⟩ h3).trans (h4 k hk)⟩
theorem Ints.slice {w : World} {v : Value} {xs : List Int} (h : Ints w v xs) : ∃ a cap, v = .slice a xs.length cap ∧ xs.length ≤ cap ∧ cap ≤ maxLen := by
  rcases h with ⟨rfl, a, cap, rfl, hm⟩ | ⟨b, off, cap, rfl, h1, h2, _⟩
  · exact ⟨a, cap, rfl, Nat.zero_le _, hm⟩
  · exact ⟨_, cap, rfl, h1, h2⟩
theorem Ints.len {w : World} {v : Value} {xs : List Int} (h : Ints w v xs) : xs.length ≤ maxLen := by
  obtain ⟨_, _, _, h1, h2⟩ := h.slice; exact Nat.le_trans h1 h2
theorem Ints.cell {w : World} {a : Option Addr} {n cap : Nat} {xs : List Int} (h : Ints w (.slice a n cap) xs) : n = xs.length ∧ (0 < n → ∃ b off, a = some ⟨b, off, none⟩ ∧ b < w.heap.size ∧ ∀ k, k < n → w.cell? ⟨b, off + k, none⟩ = some (.int .i64 (xs.getD k 0))) := by
  rcases h with ⟨rfl, a', cap', hv, _⟩ | ⟨b, off, cap', hv, h2, h2', h3, h4⟩
  · cases hv; exact ⟨rfl, fun h => absurd h (Nat.lt_irrefl _)⟩
  · cases hv; exact ⟨rfl, fun _ => ⟨b, off, rfl, h3, h4⟩⟩
theorem nil_ints (w : World) (a : Option Addr) (cap : Nat) (h : cap ≤ maxLen := by decide) : Ints w (.slice a 0 cap) [] := .inl ⟨rfl, a, cap, rfl, h⟩
/-- A slice of ints that the call has appended together. -/
theorem owns_ints {w : World} {base : Nat} {T : TypeId} {v : Value} {n : Nat} {xs : List Int} (h : w.ownsRow base T 1 v n (i64vs xs)) : Ints w v xs := by
  have hn : xs.length = n := by have := h.1; rw [i64vs_length, Nat.mul_one] at this; exact this
  rcases h.2 with ⟨rfl, rfl⟩ | ⟨g, cap, cur, rfl, hbg, hg, hnc, hcm, hcs, htake⟩
  · exact .inl ⟨List.eq_nil_of_length_eq_zero hn, none, 0, rfl, Nat.zero_le _⟩
  · refine .inr ⟨g, 0, cap, by rw [hn], by omega, hcm, ?_, fun k hk => ?_⟩
    · exact (Array.getElem?_eq_some_iff.1 hg).1
    · have := h.cells (g := g) rfl k (.int .i64 (xs.getD k 0)) (by simp [i64vs, hk])
      rw [Addr.add_mid] at this
      exact this
theorem owns_ext {w w' : World} {B : Nat} {e : TypeId} {s : Nat} {v : Value} {n : Nat} {xs : List Value} (h : w.ownsRow B e s v n xs) (hx : w.Extends w') : w'.ownsRow B e s v n xs :=
  h.kept (row := none) ⟨hx.os, hx.tape, hx.output, hx.size, fun i hi _ => hx.block i hi⟩ (by cases v.ownBlock <;> simp)
theorem owns_base {w : World} {B B' : Nat} {e : TypeId} {s : Nat} {v : Value} {n : Nat} {xs : List Value} (h : w.ownsRow B e s v n xs) (hb : B' ≤ B) : w.ownsRow B' e s v n xs :=
  by
  rcases h.2 with h' | ⟨g, cap, cur, h1, h2, h3⟩
  · exact ⟨h.1, .inl h'⟩
  · exact ⟨h.1, .inr ⟨g, cap, cur, h1, Nat.le_trans hb h2, h3⟩⟩
end Go.Proofs.Ytffcjnabhblbaaa
namespace Go.Proofs.Ytffcjnabhblbaaa
set_option maxRecDepth 20000
open Go.RowKit Go.Deep Go.ChangeShapes Go.WideShapes
theorem i64wf {z : Int} (h : (Lit.int .i64 z).wf = true) : -9223372036854775808 ≤ z ∧ z ≤ 9223372036854775807 := by simpa [Lit.wf, IntKind.min, IntKind.max, IntKind.bits, IntKind.signed] using h
theorem ints_row {w : World} {x : Addr} {len cap : Nat} {zs : List Int} (hl : len ≤ cap) (hm : cap ≤ maxLen) (hz : zs.length = cap) (hc : ∀ i, i < zs.length → w.cell? (x.add i) = some (.int .i64 (zs.getD i 0))) : Ints w (.slice (some x) len cap) (zs.take len) := by
  by_cases h0 : len = 0
  · subst h0; exact .inl ⟨rfl, some x, cap, rfl, hm⟩
  · have hlen : (zs.take len).length = len := by simp; omega
    refine .inr ?_
    obtain ⟨b, off, rfl, hc'⟩ := ints_at hc (by omega)
    refine ⟨b, off, cap, by rw [hlen], by omega, hm, ?_, fun k hk => ?_⟩
    · exact World.block_lt_of_cell? w _ (hc' 0 (by omega))
    · rw [hlen] at hk
      rw [hc' k (by omega)]
      simp [List.getD_eq_getElem?_getD, hk]
section
variable {H : Type} {enc : TypeId × Value → H} {P : Program} {w : World} {base : Nat} {held : Bool}
theorem open_i64s {t e : TypeId} {fuel : Nat} {v : Value} {x : DataW H × List MemPlace} (ht : P.underlying t = some (.slice e)) (he : P.underlying e = some (.int .i64)) (hc : P.cellsOf e = 1)
    (hv : ∃ a len cap, v = .slice a len cap) (h : DataW.trod enc P w base (fun _ => true) held fuel t v.cells.toList = some x) : ∃ xs, Ints w v xs ∧ ∀ y ∈ xs, -9223372036854775808 ≤ y ∧ y ≤ 9223372036854775807 := by
  obtain ⟨a, len, cap, rfl⟩ := hv
  rcases open_ints ht he hc h with ⟨hcs, _⟩ | ⟨a', len', cap', zs, hcs, _, hl, hm, hz, _, hcell, hwz⟩
  · simp [Value.cells] at hcs
    obtain ⟨rfl, rfl, rfl⟩ := hcs
    exact ⟨[], .inl ⟨rfl, none, 0, rfl, Nat.zero_le _⟩, fun y hy => by cases hy⟩
  · simp [Value.cells] at hcs
    obtain ⟨rfl, rfl, rfl⟩ := hcs
    simp only [if_true] at hz
    exact ⟨zs.take len, ints_row hl hm hz hcell, fun y hy => i64wf (hwz y (List.mem_of_mem_take hy))⟩
end
end Go.Proofs.Ytffcjnabhblbaaa
namespace Go.Proofs.Ytffcjnabhblbaaa
set_option maxRecDepth 20000
open Go.RowKit Go.Deep
set_option linter.unusedVariables false
/-- A record: id, shape, block, number, gone, until, data. -/
structure Rc where
  p : Int
  n : Int
  b : Int
  s : Int
  m : Int
  k : Int
  e : Int
  g : Bool
  u : Int
  d : List Nat
def Rc.zero : Rc := ⟨0, 0, 0, 0, 0, 0, 0, false, 0, []⟩
/-- Its cells, and the record as a value; v: its data. -/
def Rc.cells (r : Rc) (v : Value) : List Value := [.int .i64 r.p, .int .i64 r.n, .int .i64 r.b, .int .i64 r.s, .int .i64 r.m, .int .i64 r.k, .int .i64 r.e, .bool r.g, .int .i64 r.u, v]
def Rc.val (r : Rc) (v : Value) : Value := .agg #[.int .i64 r.p, .int .i64 r.n, .int .i64 r.b, .int .i64 r.s, .int .i64 r.m, .int .i64 r.k, .int .i64 r.e, .bool r.g, .int .i64 r.u, v]
/-- The record whose cells begin at b, off. -/
def RCell (w : World) (b off : Nat) (r : Rc) : Prop := ∃ a c, w.rangeAt b off (r.cells (.slice a r.d.length c)) ∧ U8s w (.slice a r.d.length c) r.d
theorem rangeAt_ext {w w' : World} {b off : Nat} {l : List Value} (h : w.rangeAt b off l) (hx : w.Extends w') : w'.rangeAt b off l := fun j v hv => hx.cell_of (h j v hv)
theorem RCell.ext {w w' : World} {b off : Nat} {r : Rc} (h : RCell w b off r) (hx : w.Extends w') : RCell w' b off r := by
  obtain ⟨a, c, h1, h2⟩ := h
  exact ⟨a, c, rangeAt_ext h1 hx, h2.ext hx⟩
end Go.Proofs.Ytffcjnabhblbaaa
namespace Go.Proofs.Ytffcjnabhblbaaa
set_option maxRecDepth 20000
open Go.RowKit Go.Deep Go.ChangeShapes Go.WideShapes
set_option linter.unusedVariables false
instance : Inhabited Rc := ⟨Rc.zero⟩
section
variable {H : Type} {enc : TypeId × Value → H} {P : Program} {w : World} {base : Nat} {held : Bool}
/-- Fields at these offsets, of so many cells. -/
def layB (P : Program) (fs : Array Field) (l : List (Nat × Nat)) : Bool := fs.size == l.length && (List.range l.length).all fun i => match fs[i]?, l[i]? with
  | some f, some p => f.offset == p.1 && P.cellsOf f.type == p.2
  | _, _ => false
theorem lay_of {fs : Array Field} {l : List (Nat × Nat)} (h : layB P fs l = true) {i : Nat} {f : Field} {p : Nat × Nat} (hf : fs[i]? = some f) (hp : l[i]? = some p) : f.offset = p.1 ∧ P.cellsOf f.type = p.2 := by
  unfold layB at h
  rw [Bool.and_eq_true] at h
  have hlt : i < l.length := (List.getElem?_eq_some_iff.1 hp).1
  have := List.all_eq_true.1 h.2 i (List.mem_range.2 hlt)
  simp only [hf, hp, Bool.and_eq_true, beq_iff_eq] at this
  exact this
theorem lay_at {fs : Array Field} {l : List (Nat × Nat)} (h : layB P fs l = true) (i : Nat) (f : Field) (o n : Nat) (hf : fs[i]? = some f) (hp : l[i]? = some (o, n)) : f.offset = o ∧ P.cellsOf f.type = n := lay_of h hf hp
end
end Go.Proofs.Ytffcjnabhblbaaa
namespace Go.Proofs.Ytffcjnabhblbaaa
set_option maxRecDepth 20000
open Go.RowKit Go.Deep Go.ChangeShapes Go.WideShapes
set_option linter.unusedVariables false
/-- A bool and an int. -/
structure AcT where
  d : Bool
  p : Int
def AcT.zero : AcT := ⟨false, 0⟩
instance : Inhabited AcT := ⟨AcT.zero⟩
/-- Such a struct, whose cells begin at b, off. -/
def ACellT (w : World) (b off : Nat) (r : AcT) : Prop := w.cell? ⟨b, off, none⟩ = some (.bool r.d) ∧ w.cell? ⟨b, off + 1, none⟩ = some (.int .i64 r.p)
/-- v is a slice of these structs in w. -/
def ActsT (w : World) (v : Value) (l : List AcT) : Prop :=
  (l = [] ∧ ∃ a cap, v = .slice a 0 cap) ∨
  ∃ b off cap, v = .slice (some ⟨b, off, none⟩) l.length cap ∧ l.length ≤ cap ∧ l.length ≤ maxLen ∧ b < w.heap.size ∧ ∀ k, k < l.length → ACellT w b (off + k * 2) (l.getD k AcT.zero)
theorem ActsT.slice {w : World} {v : Value} {l : List AcT} (h : ActsT w v l) : ∃ a cap, v = .slice a l.length cap := by
  rcases h with ⟨rfl, a, cap, rfl⟩ | ⟨b, off, cap, rfl, _⟩
  · exact ⟨a, cap, rfl⟩
  · exact ⟨_, cap, rfl⟩
theorem ActsT.at {w : World} {a : Option Addr} {n cap : Nat} {l : List AcT} (h : ActsT w (.slice a n cap) l) : n = l.length ∧ (0 < n → ∃ b off, a = some ⟨b, off, none⟩ ∧ b < w.heap.size ∧ ∀ k, k < n → ACellT w b (off + k * 2) (l.getD k AcT.zero)) := by
  rcases h with ⟨rfl, a', cap', hv⟩ | ⟨b, off, cap', hv, h2, h3, h4, h5⟩
  · cases hv; exact ⟨rfl, fun h => absurd h (Nat.lt_irrefl _)⟩
  · cases hv; exact ⟨rfl, fun _ => ⟨b, off, rfl, h4, h5⟩⟩
theorem list2t {α : Type} {l : List α} (h : l.length = 2) : ∃ c0 c1, l = [c0, c1] := by
  match l, h with
  | [c0, c1], _ => exact ⟨c0, c1, rfl⟩
section
variable {H : Type} {enc : TypeId × Value → H} {P : Program} {w : World} {base : Nat} {held : Bool}
theorem open_actst {t e : TypeId} {f0 f1 : Field} {fuel : Nat} {v : Value} {x : DataW H × List MemPlace} (ht : P.underlying t = some (.slice e)) (he : P.underlying e = some (.struct #[f0, f1])) (hC : P.cellsOf e = 2)
    (hl : layB P #[f0, f1] [(0, 1), (1, 1)] = true) (k0 : P.underlying f0.type = some .bool) (k1 : P.underlying f1.type = some (.int .i64))
    (hv : ∃ a len cap, v = .slice a len cap) (h : DataW.trod enc P w base (fun _ => true) held fuel t v.cells.toList = some x) : ∃ l, ActsT w v l := by
  obtain ⟨a, len, cap, rfl⟩ := hv
  rcases open_slice ht h with ⟨hcs, _⟩ | ⟨a', len', cap', m, n, D, Pl, hcs, _, hlc, hm, hmm, _, hx⟩
  · simp [Value.cells] at hcs
    obtain ⟨rfl, rfl, rfl⟩ := hcs
    exact ⟨[], .inl ⟨rfl, none, 0, rfl⟩⟩
  · simp [Value.cells] at hcs
    obtain ⟨rfl, rfl, rfl⟩ := hcs
    simp only [if_true] at hmm
    subst hmm
    rw [hC] at hx
    by_cases h0 : len = 0
    · subst h0; exact ⟨[], .inl ⟨rfl, _, _, rfl⟩⟩
    obtain ⟨b, off, spot⟩ := a'
    have hspot : spot = none := by
      obtain ⟨cs', hc, _⟩ := hx 0 (by omega)
      obtain ⟨_, hcl, hat⟩ := World.cells?_some hc
      have h1 := hat 0 (by omega)
      rw [List.getElem?_eq_getElem (by omega)] at h1
      simpa [Addr.add] using World.cell?_spot h1
    subst hspot
    have each : ∀ i, i < len → ∃ r : AcT, ACellT w b (off + i * 2) r := fun i hi => by
      obtain ⟨cs', hc, hd⟩ := hx i (by omega)
      obtain ⟨_, hcl, hat⟩ := World.cells?_some hc
      obtain ⟨c0, c1, rfl⟩ := list2t hcl
      obtain ⟨xs, n', _, _, _, hxl, hf⟩ := DataW.trod_struct he hd
      obtain ⟨y0, y1, rfl⟩ := list2t hxl
      have g0 := hf 0 f0 rfl
      have g1 := hf 1 f1 rfl
      rw [(lay_at hl 0 f0 0 1 rfl rfl).1, (lay_at hl 0 f0 0 1 rfl rfl).2] at g0
      rw [(lay_at hl 1 f1 1 1 rfl rfl).1, (lay_at hl 1 f1 1 1 rfl rfl).2] at g1
      obtain ⟨p0, e0, _⟩ := DataW.trod_bool k0 (show DataW.trod enc P w base (fun _ => true) held n' f0.type [c0] = some y0 from g0)
      obtain ⟨p1, e1, _, _⟩ := DataW.trod_int k1 (show DataW.trod enc P w base (fun _ => true) held n' f1.type [c1] = some y1 from g1)
      simp only [List.cons.injEq, and_true] at e0 e1
      subst e0; subst e1
      have hc0 := hat 0 (by omega)
      have hc1 := hat 1 (by omega)
      rw [Addr.add_mid, Addr.add_mid] at hc0 hc1
      exact ⟨⟨p0, p1⟩, hc0, hc1⟩
    obtain ⟨f, hf⟩ := choose_lt each
    have hat : ∀ k, k < len → ((List.range len).map f).getD k AcT.zero = f k := fun k hk => by simp [List.getD_eq_getElem?_getD, hk]
    refine ⟨(List.range len).map f, .inr ⟨b, off, m, by simp, by simpa using hlc, by simp; omega, ?_, fun k hk => ?_⟩⟩
    · obtain ⟨r, h1, _⟩ := each 0 (by omega)
      exact World.block_lt_of_cell? w _ h1
    · have hk' : k < len := by simpa using hk
      rw [hat k hk']
      exact hf k hk'
end
end Go.Proofs.Ytffcjnabhblbaaa
namespace Go.Proofs.Ytffcjnabhblbaaa
set_option maxRecDepth 20000
open Go.RowKit Go.Deep
set_option linter.unusedVariables false
/-- All cells of the array are C. -/
def CleanBlk (C : Value → Prop) (w : World) (v : Value) : Prop := ∀ (g : Nat) (cs : Array Value) (T : TypeId) (f : Nat × Nat), v.ownBlock = some g → w.heap[g]? = some (.cells cs T f) → ∀ y ∈ cs.toList, C y
theorem CleanBlk.nil (C : Value → Prop) (w : World) : CleanBlk C w (.slice none 0 0) := fun g cs T f hg => by cases hg
theorem CleanBlk.kept {C : Value → Prop} {w w' : World} {v : Value} (h : CleanBlk C w v) (hb : ∀ g, v.ownBlock = some g → w'.heap[g]? = w.heap[g]?) : CleanBlk C w' v := fun g cs T f hg hc => h g cs T f hg (by rw [← hb g hg]; exact hc)
theorem zero_mem {zc : Array Value} {k : Nat} {y : Value} (h : y ∈ (Builtin.zeroCells zc k).toList) : y ∈ zc.toList := by
  unfold Builtin.zeroCells at h
  simp only [Array.toList_map, Array.toList_range, List.mem_map, List.mem_range] at h
  obtain ⟨i, hi, rfl⟩ := h
  have hz : 0 < zc.size := by
    rcases Nat.eq_zero_or_pos zc.size with h0 | h0
    · rw [h0, Nat.mul_zero] at hi; omega
    · exact h0
  have hm := Nat.mod_lt i hz
  rw [getElem!_pos zc (i % zc.size) hm]
  exact Array.getElem_mem_toList hm
section
variable {P : Program} (w : World)
theorem run_append_own_src3 (base : Nat) (t tx ty e : TypeId) (i : TypeInfo) (z : Value) (size bytes : Nat) (ht : P.underlying t = some (.slice e)) (hi : P.info? e = some i) (hz : i.zero = some z)
    (hsize : i.size = size) (hby : i.bytes = bytes) (hzs : z.cells.size = size)
    (v : Value) (n : Nat) (xs : List Value) (hown : w.ownsRow base e size v n xs) (x : Value) (m : Nat) (news : List Value) (hs : Src P size tx x m news w)
    (h63 : n + m ≤ maxLen) (hbytes : (n + m) * bytes ≤ 140737488355328) (hbase : base ≤ w.heap.size) (C : Value → Prop) (hC : CleanBlk C w v) (hCn : ∀ y ∈ news, C y) (hCz : ∀ y ∈ z.cells.toList, C y) :
    ∃ v' w', (Builtin.append_ #[t, tx] ty #[v, x]).run P w = .ok v' w' ∧ w'.ownsRow base e size v' (n + m) (xs ++ news) ∧ w.grownBy w' v.ownBlock ∧
      (v'.ownBlock = v.ownBlock ∨ ∃ g, v'.ownBlock = some g ∧ w.heap.size ≤ g) ∧ CleanBlk C w' v' := by
  subst hsize
  subst hby
  have hsmall : n + m ≤ 9223372036854775807 := by simp only [maxLen] at h63; omega
  have hl := hs.newsLen
  have hlen : (xs ++ news).length = (n + m) * i.size := by rw [List.length_append, hown.1, hl, Nat.add_mul]
  have hCx : ∀ y ∈ xs, C y := fun y hy => by
    rcases hown.2 with ⟨rfl, rfl⟩ | ⟨g, cap, cur, rfl, hbg, hg, hnc, hcm, hcs, htake⟩
    · obtain rfl : xs = [] := List.eq_nil_of_length_eq_zero (by simpa using hown.1)
      cases hy
    · rw [← htake] at hy
      exact hC g cur _ _ rfl hg y (List.mem_of_mem_take hy)
  have fresh : ∀ (k cap' : Nat) (n' : Nat), CleanBlk C (w.drew.alloc (.cells ((xs ++ news).toArray ++ Builtin.zeroCells z.cells k) e)) (.slice (some ⟨w.heap.size, 0, none⟩) n' cap') := fun k cap' n' g cs T f hg hc y hy => by
    simp only [Value.ownBlock, Option.some.injEq] at hg
    subst hg
    rw [show w.heap.size = w.drew.heap.size from rfl, heap_alloc_new] at hc
    simp only [Option.some.injEq, Obj.cells.injEq] at hc
    rw [← hc.1, Array.toList_append, List.mem_append] at hy
    rcases hy with hy | hy
    · rcases List.mem_append.1 (by simpa using hy) with hy | hy
      · exact hCx y hy
      · exact hCn y hy
    · exact hCz y (zero_mem hy)
  have grown : ∀ (old : Nat), old < n + m → ∀ (row : Option Nat),
      (w.drew.alloc (.cells ((xs ++ news).toArray ++ Builtin.zeroCells z.cells (grownCap w (n + m) old e - (n + m))) e)).ownsRow base e i.size
        (.slice (some ⟨w.heap.size, 0, none⟩) (n + m) (grownCap w (n + m) old e)) (n + m) (xs ++ news) ∧
      w.grownBy (w.drew.alloc (.cells ((xs ++ news).toArray ++ Builtin.zeroCells z.cells (grownCap w (n + m) old e - (n + m))) e)) row := by
    intro old ho row
    have hge := grownCap_ge w (n + m) old e
    have hcm : grownCap w (n + m) old e ≤ maxLen := grownCap_le_maxLen w (n + m) old e h63
    refine ⟨⟨hlen, .inr ⟨w.heap.size, _, _, rfl, hbase, heap_alloc_new w.drew _, hge, hcm, ?_, ?_⟩⟩, ⟨rfl, rfl, rfl, by simp, fun k hk _ => Below.heap_alloc w.drew _ k hk⟩⟩
    · simp only [Array.size_append, List.size_toArray, size_zeroCells, hzs, hlen, ← Nat.add_mul]
      congr 1
      omega
    · simp only [Array.toList_append]
      rw [← hlen]
      exact List.take_left
  rcases hown.2 with ⟨rfl, rfl⟩ | ⟨g, cap, cur, rfl, hbg, hg, hnc, hcm, hcs, htake⟩
  · have hx : xs = [] := List.eq_nil_of_length_eq_zero (by simpa using hown.1)
    subst hx
    by_cases hm : m = 0
    · subst hm
      have hn : news = [] := List.eq_nil_of_length_eq_zero (by simpa using hl)
      subst hn
      refine ⟨.slice none 0 0, w, ?_, World.ownsRow_nil w base e i.size, ⟨rfl, rfl, rfl, Nat.le_refl _, fun _ _ _ => rfl⟩, .inl rfl, fun g cs T f hg => by cases hg⟩
      rcases hs.kind with ⟨e', hk⟩ | hk <;> simp [Builtin.append_, run_underlying ht, run_underlying hk, sizeOf, typeInfo, hi, hs.len, hs.cells]
    · have hr := run_append_grow_src (P := P) w t tx ty e i z ht hi hz none 0 0 [] (by simp [Builtin.firstCells]) x m news hs (by omega) (by omega) (growslice_fits (by omega) (by have hb := hbytes; simp only [Nat.zero_add] at hb ⊢; exact hb))
      have hgr := grown 0 (by omega) (Value.ownBlock (.slice none 0 0))
      simp only [Nat.zero_add, List.nil_append] at hgr hr ⊢
      refine ⟨_, _, hr, hgr.1, hgr.2, .inr ⟨_, rfl, Nat.le_refl _⟩, ?_⟩
      first | exact fresh _ _ _ | (have := fresh; simpa using fresh _ _ _)
  · by_cases hroom : n + m ≤ cap
    · have hfit : n * i.size + news.length ≤ cur.size := by rw [hl, hcs, ← Nat.add_mul]; exact Nat.mul_le_mul_right _ hroom
      have hst := run_storeCells_at P g (n * i.size) e news 0 cur w hg (by simpa using hfit) hs.one
      simp only [Nat.add_zero] at hst
      have hr : (Builtin.append_ #[t, tx] ty #[.slice (some ⟨g, 0, none⟩) n cap, x]).run P w =
          .ok (.slice (some ⟨g, 0, none⟩) (n + m) cap) (w.setRow g (cur.toList.take (n * i.size) ++ news ++ cur.toList.drop (n * i.size + news.length)).toArray) := by
        rcases hs.kind with ⟨e', hk⟩ | hk <;> simp [Builtin.append_, run_underlying ht, run_underlying hk, sizeOf, typeInfo, hi, hs.len, hroom, hs.cells, Addr.add_lit, hst]
      refine ⟨_, _, hr, ⟨hlen, .inr ⟨g, cap, _, rfl, hbg, setRow_heap w g cur _ e _ hg, hroom, hcm, ?_, ?_⟩⟩, ⟨rfl, rfl, rfl, by simp, fun k _ hk => setRow_other w g k _ (fun e => hk (by simp [Value.ownBlock, e]))⟩, .inl rfl, fun g' cs T f hg' hc y hy => ?_⟩
      · simp only [List.size_toArray, List.length_append, List.length_take, List.length_drop, Array.length_toList]
        omega
      · rw [htake, ← hlen]
        exact List.take_left
      · simp only [Value.ownBlock, Option.some.injEq] at hg'
        subst hg'
        rw [setRow_heap w g cur _ e _ hg] at hc
        simp only [Option.some.injEq, Obj.cells.injEq] at hc
        rw [← hc.1] at hy
        rcases List.mem_append.1 hy with hy | hy
        · rcases List.mem_append.1 hy with hy | hy
          · exact hC g cur _ _ rfl hg y (List.mem_of_mem_take hy)
          · exact hCn y hy
        · exact hC g cur _ _ rfl hg y (List.mem_of_mem_drop hy)
    · have holds : ∀ j u, xs[j]? = some u → w.cell? ((⟨g, 0, none⟩ : Addr).add j) = some u := hown.cells (g := g) rfl
      have hold := run_firstCells_some (P := P) w.drew i.size n ⟨g, 0, none⟩ n cap xs hown.1 (by simpa using holds)
      have hr := run_append_grow_src (P := P) w t tx ty e i z ht hi hz (some ⟨g, 0, none⟩) n cap xs hold x m news hs (by omega) (by omega) (growslice_fits (by omega) hbytes)
      have hgr := grown cap (by omega) (Value.ownBlock (.slice (some ⟨g, 0, none⟩) n cap))
      refine ⟨_, _, hr, hgr.1, hgr.2, .inr ⟨_, rfl, Nat.le_refl _⟩, ?_⟩
      first | exact fresh _ _ _ | (have := fresh; simpa using fresh _ _ _)
theorem wp_append_own_src3 {o : Oper} {a : Act} {K : Act → World → Prop} {Q : Exit → Act → World → Prop} (s x : Operand) (t tx : TypeId)
    (ho : o.op = .call { callee := .builtin .append, args := #[s, x], argTypes := #[t, tx] })
    (base : Nat) (e : TypeId) (i : TypeInfo) (z : Value) (size bytes : Nat) (ht : P.underlying t = some (.slice e)) (hi : P.info? e = some i) (hz : i.zero = some z)
    (hsize : i.size = size) (hby : i.bytes = bytes) (hzs : z.cells.size = size)
    (v : Value) (n : Nat) (xs : List Value) (hs : a.eval s = v) (hown : w.ownsRow base e size v n xs) (y : Value) (m : Nat) (news : List Value) (hx : a.eval x = y) (hsrc : Src P size tx y m news w)
    (h63 : n + m ≤ maxLen) (hbytes : (n + m) * bytes ≤ 140737488355328) (hbase : base ≤ w.heap.size) (C : Value → Prop) (hC : CleanBlk C w v) (hCn : ∀ y ∈ news, C y) (hCz : ∀ y ∈ z.cells.toList, C y)
    (h : ∀ v' w', w'.ownsRow base e size v' (n + m) (xs ++ news) → w.grownBy w' v.ownBlock → (v'.ownBlock = v.ownBlock ∨ ∃ g, v'.ownBlock = some g ∧ w.heap.size ≤ g) → CleanBlk C w' v' → K (a.put o.dst v') w') : o.wp P a w K Q := by
  obtain ⟨v', w', hr, h2, h3, h4, h5⟩ := run_append_own_src3 (P := P) w base t tx o.type e i z size bytes ht hi hz hsize hby hzs v n xs hown y m news hsrc h63 hbytes hbase C hC hCn hCz
  unfold Oper.wp execOp
  simp only [ho, resolve, invoke, builtin, Sem.run_bind, Sem.run_pure, Result.andThen_ok, List.map_toArray, List.map_cons, List.map_nil, hs, hx, hr]
  exact h v' w' h2 h3 h4 h5
end
end Go.Proofs.Ytffcjnabhblbaaa
namespace Go.Proofs.Ytffcjnabhblbaaa
set_option maxRecDepth 20000
open Go.RowKit Go.Deep
set_option linter.unusedVariables false
section
variable {P : Program}
theorem run_clear_wide (w : World) (t e ty : TypeId) (z : Value) (ht : P.underlying t = some (.slice e)) (hv : ∀ w, (zeroValue e).run P w = .ok z w) (g o n c : Nat) (cur : Array Value) (T : TypeId) (hn : 0 < n)
    (hg : w.heap[g]? = some (.cells cur T (0, 0))) (hfit : o + n * z.cells.size ≤ cur.size) (h1 : ∀ v ∈ z.cells.toList, v.oneCell' = true) :
    (Builtin.clear_ #[t] ty #[.slice (some ⟨g, o, none⟩) n c]).run P w = .ok (.tuple #[]) (w.setRow g (cur.toList.take o ++ (Builtin.zeroCells z.cells n).toList ++ cur.toList.drop (o + n * z.cells.size)).toArray) := by
  have hzl : (Builtin.zeroCells z.cells n).toList.length = n * z.cells.size := by rw [Array.length_toList, size_zeroCells]
  have hst := run_storeCells_at P g o T (Builtin.zeroCells z.cells n).toList 0 cur w hg (by rw [hzl]; simpa using hfit) (fun v hv => h1 v (zero_mem hv))
  simp only [Nat.add_zero, hzl] at hst
  obtain ⟨m, rfl⟩ : ∃ m, n = m + 1 := ⟨n - 1, by omega⟩
  simp [Builtin.clear_, run_underlying ht, hv, hst]
end
end Go.Proofs.Ytffcjnabhblbaaa
namespace Go.Proofs.Ytffcjnabhblbaaa
set_option maxRecDepth 20000
open Go.RowKit Go.Deep
set_option linter.unusedVariables false
/-- A contact: a peer and a key of twenty bytes. -/
structure Ct where
  p : Int
  k : List Nat
  h : k.length = 20
theorem Ct.ext {a b : Ct} (h1 : a.p = b.p) (h2 : a.k = b.k) : a = b := by
  obtain ⟨p, k, h⟩ := a
  obtain ⟨q, l, h'⟩ := b
  simp only at h1 h2
  subst h1; subst h2; rfl
/-- The zero contact. -/
def z21 : Ct := ⟨0, KY.zero, rfl⟩
/-- A contact of that peer, of no key. -/
def Ct.of (p : Int) : Ct := ⟨p, KY.zero, rfl⟩
/-- The cells of a contact. -/
def CL (c : Ct) : List Value := .int .i64 c.p :: c.k.map fun x => Value.int .u8 (x : Nat)
/-- A contact as a value. -/
abbrev CV (c : Ct) : Value := .agg (CL c).toArray
theorem CL_length (c : Ct) : (CL c).length = 21 := by simp [CL, c.h]
theorem CL_one (c : Ct) : ∀ v ∈ CL c, v.oneCell' = true := by
  intro v hv
  rcases List.mem_cons.1 hv with rfl | hv
  · rfl
  · obtain ⟨x, _, rfl⟩ := List.mem_map.1 hv; rfl
theorem CL_info (c : Ct) : (Try.prog.info? 47).map (·.size) = some (CL c).length := by rw [CL_length]; kernel_rfl
theorem ct_struct : Try.prog.underlying 47 = some (.struct (Try.prog.fieldsOf 47)) := by
  unfold Program.fieldsOf
  rw [Try.underlying47]
def flatC (l : List Ct) : List Value := l.flatMap CL
theorem flatC_nil : flatC [] = [] := rfl
theorem flatC_cons (c : Ct) (l : List Ct) : flatC (c :: l) = CL c ++ flatC l := rfl
theorem flatC_append (a b : List Ct) : flatC (a ++ b) = flatC a ++ flatC b := by simp [flatC]
theorem flatC_length : ∀ l : List Ct, (flatC l).length = l.length * 21
  | [] => rfl
  | c :: l => by rw [flatC_cons, List.length_append, flatC_length l, List.length_cons, CL_length]; omega
theorem flatC_one : ∀ (l : List Ct), ∀ v ∈ flatC l, v.oneCell' = true := by
  intro l v hv
  obtain ⟨c, _, hv⟩ := List.mem_flatMap.1 hv
  exact CL_one c v hv
theorem flatC_take (l : List Ct) (k : Nat) : (flatC l).take (k * 21) = flatC (l.take k) := by
  rcases Nat.le_total l.length k with h | h
  · rw [List.take_of_length_le (by rw [flatC_length]; omega), List.take_of_length_le h]
  · have e : flatC l = flatC (l.take k) ++ flatC (l.drop k) := by rw [← flatC_append, List.take_append_drop]
    rw [e, List.take_append_of_le_length (by rw [flatC_length, List.length_take]; omega), List.take_of_length_le (by rw [flatC_length, List.length_take]; omega)]
theorem flatC_drop (l : List Ct) (k : Nat) : (flatC l).drop (k * 21) = flatC (l.drop k) := by
  rcases Nat.le_total l.length k with h | h
  · rw [List.drop_eq_nil_of_le (by rw [flatC_length]; omega), List.drop_eq_nil_of_le h]; rfl
  · have e : flatC l = flatC (l.take k) ++ flatC (l.drop k) := by rw [← flatC_append, List.take_append_drop]
    have hk : (flatC (l.take k)).length = k * 21 := by rw [flatC_length, List.length_take]; omega
    rw [e, ← hk, List.drop_left]
theorem flatC_at : ∀ (l : List Ct) (k i : Nat), k < l.length → i < 21 → (flatC l)[k * 21 + i]? = (CL (l.getD k z21))[i]?
  | c :: l, 0, i, _, hi => by
    rw [flatC_cons, Nat.zero_mul, Nat.zero_add, List.getElem?_append_left (by rw [CL_length]; exact hi)]; rfl
  | c :: l, k + 1, i, hk, hi => by
    rw [flatC_cons, List.getElem?_append_right (by rw [CL_length]; omega), CL_length, show (k + 1) * 21 + i - 21 = k * 21 + i by omega, flatC_at l k i (by simpa using hk) hi]
    rfl
/-- In block g of type T the contacts l lie between pre and post. -/
def CAt (w : World) (g : Nat) (T : TypeId) (pre : List Value) (l : List Ct) (post : List Value) : Prop := w.heap[g]? = some (.cells (pre ++ flatC l ++ post).toArray T (0, 0))
theorem CAt.lt {w : World} {g : Nat} {T : TypeId} {pre post : List Value} {l : List Ct} (h : CAt w g T pre l post) : g < w.heap.size := (Array.getElem?_eq_some_iff.1 h).1
theorem CAt.kept {w w' : World} {g : Nat} {T : TypeId} {pre post : List Value} {l : List Ct} (h : CAt w g T pre l post) (hk : w'.heap[g]? = w.heap[g]?) : CAt w' g T pre l post := hk.trans h
theorem CAt.ext {w w' : World} {g : Nat} {T : TypeId} {pre post : List Value} {l : List Ct} (h : CAt w g T pre l post) (hx : w.Extends w') : CAt w' g T pre l post := h.kept (hx.block g h.lt)
theorem CAt.frozen {w : World} {g : Nat} {T : TypeId} {pre post : List Value} {l : List Ct} (h : CAt w g T pre l post) (o : Nat) : w.frozen? ⟨g, o, none⟩ = false := frozen_of_row _ _ _ _ _ h
theorem CAt.range {w : World} {g o k : Nat} {T : TypeId} {pre post : List Value} {l : List Ct} (h : CAt w g T pre l post) (ho : o = pre.length + k * 21) (hk : k < l.length) : w.rangeAt g o (CL (l.getD k z21)) := fun j v hv => by
  have hj : j < 21 := by rw [← CL_length (l.getD k z21)]; exact (List.getElem?_eq_some_iff.1 hv).1
  rw [cell_of_row _ _ _ _ _ _ h, List.getElem?_toArray, List.getElem?_append_left (by rw [List.length_append, flatC_length]; omega), List.getElem?_append_right (by omega), ho, show pre.length + k * 21 + j - pre.length = k * 21 + j by omega, flatC_at l k j hk hj]
  exact hv
theorem range_ext {w w' : World} {b off : Nat} {l : List Value} (h : w.rangeAt b off l) (hx : w.Extends w') : w'.rangeAt b off l := fun j v hv => hx.cell_of (h j v hv)
theorem range_peer {w : World} {g o : Nat} {c : Ct} (h : w.rangeAt g o (CL c)) : w.cell? ⟨g, o, none⟩ = some (.int .i64 c.p) := h 0 _ rfl
theorem CAt.box (w : World) (T : TypeId) (c : Ct) : CAt (w.alloc (.cells (CL c).toArray T)) w.heap.size T [] [c] [] := by
  unfold CAt
  rw [heap_alloc_new, flatC_cons, flatC_nil, List.append_nil, List.append_nil, List.nil_append]
/-- A contact is read whole. -/
theorem wpList_load_ct {ops : Array Oper} {rest : List Oper} {o : Oper} {a : Act} {w : World} {Q : Exit → Act → World → Prop} (hgd : o.guard = none) (x : Operand) (ho : o.op = .load 47 x)
    (g off : Nat) (c : Ct) (v : Value) (hv : CV c = v) (hx : a.eval x = .pointer (some ⟨g, off, none⟩)) (hr : w.rangeAt g off (CL c))
    (h : wpList Try.prog ops Q rest (a.put o.dst v) w) : wpList Try.prog ops Q (o :: rest) a w := by
  subst hv
  exact wpList_load_mid hgd 47 x ho g off hx (CL c) _ hr Try.underlying47 rfl (CL_info c) h
theorem ct_yields {w : World} {g off : Nat} {c : Ct} (hr : w.rangeAt g off (CL c)) {v : Value} (hv : CV c = v) {a : Act} {o : Oper} {x : Operand} (ho : o.op = .load 47 x) (hx : a.eval x = .pointer (some ⟨g, off, none⟩)) :
    (execOp a.eval o).run Try.prog w = .ok (.value v) w := by
  subst hv
  unfold execOp
  simp only [ho, hx, Instr.loadAt, Instr.sureAddr, Sem.run_bind, Sem.run_pure, Result.andThen_ok, run_loadVar_mid w g off 47 (CL c) _ hr Try.underlying47 rfl (CL_info c)]
/-- What a variable of a contact answers. -/
theorem run_ct_load {w : World} {g off : Nat} {c : Ct} (hr : w.rangeAt g off (CL c)) : (loadVar 47 ⟨g, off, none⟩).run Try.prog w = .ok (CV c) w := run_loadVar_mid w g off 47 (CL c) _ hr Try.underlying47 rfl (CL_info c)
theorem grown_setRow' (w : World) (g : Nat) (cs : Array Value) : w.grownBy (w.setRow g cs) (some g) := ⟨rfl, rfl, rfl, by simp [World.setRow], fun k _ hk => setRow_other w g k cs (fun e => hk (by rw [e]))⟩
theorem flatC_set (l : List Ct) (k : Nat) (c : Ct) (hk : k < l.length) : flatC (l.set k c) = (flatC l).take (k * 21) ++ CL c ++ (flatC l).drop (k * 21 + 21) := by
  rw [flatC_take, show k * 21 + 21 = (k + 1) * 21 by omega, flatC_drop, List.set_eq_take_append_cons_drop, if_pos hk, flatC_append, flatC_cons, List.append_assoc]
/-- A contact is stored whole. -/
theorem wpList_store_ct {ops : Array Oper} {rest : List Oper} {o : Oper} {a : Act} {w : World} {Q : Exit → Act → World → Prop} (hgd : o.guard = none) (x y : Operand) (ho : o.op = .store 47 x y)
    (g off k : Nat) (c : Ct) (T : TypeId) (pre post : List Value) (l : List Ct) (hx : a.eval x = .pointer (some ⟨g, off, none⟩)) (hy : a.eval y = CV c) (hA : CAt w g T pre l post) (hoff : off = pre.length + k * 21) (hk : k < l.length)
    (h : ∀ w', CAt w' g T pre (l.set k c) post → w.grownBy w' (some g) → wpList Try.prog ops Q rest (a.put o.dst undef) w') : wpList Try.prog ops Q (o :: rest) a w := by
  refine wpList_plain hgd fun K hK => ?_
  have hlen : (pre ++ flatC l ++ post).length = pre.length + l.length * 21 + post.length := by rw [List.length_append, List.length_append, flatC_length]
  have hst := run_storeCells_at Try.prog g off T (CL c) 0 (pre ++ flatC l ++ post).toArray w hA (by rw [CL_length, List.size_toArray, hlen]; omega) (CL_one c)
  simp only [Nat.add_zero, CL_length] at hst
  have hrun : (storeVar 47 ⟨g, off, none⟩ (CV c)).run Try.prog w = .ok () (w.setRow g ((pre ++ flatC l ++ post).take off ++ CL c ++ (pre ++ flatC l ++ post).drop (off + 21)).toArray) := by
    have hty := CL_info c
    cases hq : Try.prog.info? 47 with
    | none => simp [hq] at hty
    | some t =>
      have hs' : t.size = 21 := by simpa [hq, CL_length] using hty
      simp [storeVar, sizeOf, typeInfo, hq, Value.cells, CL_length, hs', hst]
  unfold Oper.wp execOp
  simp only [ho, hx, hy, Instr.storeAt, Instr.sureAddr, Sem.run_bind, Sem.run_pure, Result.andThen_ok, hrun]
  refine hK _ _ (h _ ?_ (grown_setRow' _ _ _))
  unfold CAt
  rw [setRow_heap w g _ _ _ _ hA]
  congr 3
  rw [flatC_set l k c hk, hoff]
  rw [List.append_assoc pre, List.take_append, List.take_of_length_le (by omega), show pre.length + k * 21 - pre.length = k * 21 by omega, List.take_append_of_le_length (by rw [flatC_length]; omega),
    List.drop_append, List.drop_eq_nil_of_le (by omega), show pre.length + k * 21 + 21 - pre.length = k * 21 + 21 by omega, List.nil_append, List.drop_append_of_le_length (by rw [flatC_length]; omega)]
  simp only [List.append_assoc]
theorem ctUnder : Try.prog.underlying 56 = some (.slice 47) := Try.underlying56
theorem ctInfo : ∃ i, Try.prog.info? 47 = some i := info_of_underlying Try.underlying47
theorem ctZero (w : World) : (zeroValue 47).run Try.prog w = .ok (CV z21) w := by
  have h : (Try.prog.info? 47).map (·.zero) = some (some (CV z21)) := by kernel_rfl
  obtain ⟨i, hi⟩ := ctInfo
  rw [hi] at h
  simp only [Option.map_some, Option.some.injEq] at h
  simp [zeroValue, typeInfo, hi, h]
/-- What is behind i is cleared. -/
theorem CAt.cleared {w : World} {g o : Nat} {T : TypeId} {pre post : List Value} {l : List Ct} (h : CAt w g T pre l post) {i n : Nat} (hn : l.length = n) (hi : i < n) (ho : o = pre.length + i * 21) (c : Nat) :
    ∃ w', (∀ ty, (Builtin.clear_ #[56] ty #[.slice (some ⟨g, o, none⟩) (n - i) c]).run Try.prog w = .ok (.tuple #[]) w') ∧ CAt w' g T pre (l.take i ++ List.replicate (n - i) z21) post ∧ w.grownBy w' (some g) := by
  have hz21 : (CV z21).cells.size = 21 := by kernel_rfl
  have hlen : (pre ++ flatC l ++ post).length = pre.length + l.length * 21 + post.length := by rw [List.length_append, List.length_append, flatC_length]
  refine ⟨_, fun ty => run_clear_wide w 56 47 ty (CV z21) ctUnder ctZero g o (n - i) c (pre ++ flatC l ++ post).toArray _ (by omega) h (by rw [hz21, List.size_toArray, hlen]; omega) (by
    intro v hv
    exact CL_one z21 v (by simpa [Value.cells] using hv)), ?_, grown_setRow' _ _ _⟩
  unfold CAt
  rw [setRow_heap w g _ _ _ _ h]
  congr 3
  have hzc : ∀ m, (Builtin.zeroCells (CV z21).cells m).toList = flatC (List.replicate m z21) := by
    intro m
    have hcs : (CV z21).cells = (CL z21).toArray := rfl
    apply List.ext_getElem?
    intro j
    unfold Builtin.zeroCells
    rcases Nat.lt_or_ge j (m * 21) with hj | hj
    · rw [Array.toList_map, Array.toList_range, List.getElem?_map, List.getElem?_range (by rw [hz21]; exact hj)]
      have e : j = j / 21 * 21 + j % 21 := by omega
      rw [e, flatC_at _ (j / 21) (j % 21) (by rw [List.length_replicate]; omega) (by omega), ← e]
      have hr : (List.replicate m z21).getD (j / 21) z21 = z21 := by
        rw [List.getD_eq_getElem?_getD, List.getElem?_replicate]; split <;> rfl
      rw [hr, hz21, hcs]
      have h2 : j % 21 < (CL z21).length := by rw [CL_length]; omega
      rw [List.getElem?_eq_getElem h2]
      simp [h2]
    · rw [List.getElem?_eq_none (by simp [hz21]; omega), List.getElem?_eq_none (by rw [flatC_length, List.length_replicate]; omega)]
  rw [hzc, hz21, List.toList_toArray, ho, flatC_append, ← flatC_take]
  rw [List.append_assoc pre, List.take_append, List.take_of_length_le (by omega), show pre.length + i * 21 - pre.length = i * 21 by omega, List.take_append_of_le_length (by rw [flatC_length]; omega),
    List.drop_append, List.drop_eq_nil_of_le (by omega), show pre.length + i * 21 + (n - i) * 21 - pre.length = n * 21 by omega, List.nil_append, List.drop_append, List.drop_eq_nil_of_le (by rw [flatC_length]; omega), flatC_length, show n * 21 - l.length * 21 = 0 by omega, List.drop_zero, List.nil_append]
  simp only [List.append_assoc]
end Go.Proofs.Ytffcjnabhblbaaa
namespace Go.Proofs.Ytffcjnabhblbaaa
set_option maxRecDepth 20000
open Go.RowKit Go.Deep
set_option linter.unusedVariables false
/-- The closure F, whose one captured variable lies in block c, tells whether q holds of a contact. -/
def CTells (F c : Nat) (q : Ct → Bool) (w : World) : Prop := ∀ (x : Ct) (w' : World), w'.heap[c]? = w.heap[c]? → Calls Try.prog F #[CV x, .pointer (some ⟨c, 0, none⟩)] w' fun e w2 => e = .returned (.bool (q x)) ∧ w'.Extends w2
abbrev CEnters (F : FuncId) : Prop := ∀ (args : Array Value) (w : World), (callFunc F args).run Try.prog w = .ok (.enter F args) w
theorem center_of {F : FuncId} {fn : Func} (hf : Try.prog.funcs[F]? = some fn) (hname : (fn.name == "runtime.NumGoroutine") = false) (hb : fn.body.isNone = false) : CEnters F := fun args w => by
  have h1 : fn.name ≠ "runtime.NumGoroutine" := by simpa using hname
  simp only [callFunc, Sem.run_bind, run_program, Result.andThen_ok, hf]
  simp [h1, hb]
/-- Where the first one stands of which q holds. -/
def cfnd (q : Ct → Bool) : List Ct → Nat
  | [] => 0
  | c :: l => if q c then 0 else cfnd q l + 1
theorem cfnd_uniq {q : Ct → Bool} : ∀ {l : List Ct} {k : Nat}, k ≤ l.length → (∀ m, m < k → q (l.getD m z21) = false) → (k < l.length → q (l.getD k z21) = true) → cfnd q l = k
  | [], k, hk, _, _ => by simp at hk; rw [hk]; rfl
  | p :: l, 0, _, _, h2 => by
    have : q p = true := h2 (by simp)
    unfold cfnd; rw [if_pos this]
  | p :: l, k + 1, hk, h1, h2 => by
    have h0 : q p = false := h1 0 (by omega)
    unfold cfnd
    rw [if_neg (by rw [h0]; decide), cfnd_uniq (k := k) (by simpa using hk) (fun m hm => h1 (m + 1) (by omega)) (fun hk' => h2 (by simpa using hk'))]
theorem cfnd_le (q : Ct → Bool) : ∀ l : List Ct, cfnd q l ≤ l.length
  | [] => Nat.le_refl _
  | p :: l => by
    have := cfnd_le q l
    unfold cfnd
    split
    · exact Nat.zero_le _
    · rw [List.length_cons]; omega
theorem cfnd_lt (q : Ct → Bool) : ∀ (l : List Ct) (m : Nat), m < cfnd q l → q (l.getD m z21) = false
  | [], m, h => by simp [cfnd] at h
  | p :: l, m, h => by
    unfold cfnd at h
    split at h
    · omega
    · rename_i hq
      cases m with
      | zero => exact Bool.eq_false_iff.2 hq
      | succ m => exact cfnd_lt q l m (by omega)
theorem cfnd_at (q : Ct → Bool) : ∀ (l : List Ct), cfnd q l < l.length → q (l.getD (cfnd q l) z21) = true
  | [], h => by simp [cfnd] at h
  | p :: l, h => by
    unfold cfnd at h ⊢
    split
    · rename_i hq; exact hq
    · rename_i hq
      rw [if_neg hq, List.length_cons] at h
      exact cfnd_at q l (by omega)
def cidx (q : Ct → Bool) (l : List Ct) : Int := if cfnd q l < l.length then (cfnd q l : Int) else -1
theorem cidx_any (F c : Nat) (hen : CEnters F) (q : Ct → Bool) (g o cap n : Nat) (l : List Ct) (w : World) (hn : l.length = n) (hl : n ≤ 1000000) (hr : ∀ k, k < n → w.rangeAt g (o + k * 21) (CL (l.getD k z21))) (hg : g < w.heap.size) (hF : CTells F c q w) (hc : c < w.heap.size) :
    Calls Try.prog 55 #[.slice (some ⟨g, o, none⟩) n cap, .func (.func F) #[] #[.pointer (some ⟨c, 0, none⟩)]] w fun e w' => e = .returned (.int .i64 (cidx q l)) ∧ w.Extends w' := by
  have HF := Lib.hid hF
  have HAT := Lib.hid hr
  have HQ : Hid (∀ k, k < n → (∀ m, m < k → q (l.getD m z21) = false) → q (l.getD k z21) = true → cidx q l = (k : Int)) := fun k hk h1 h2 => by
    have := cfnd_uniq (q := q) (l := l) (k := k) (by omega) h1 (fun _ => h2)
    unfold cidx; rw [this, if_pos (by omega)]
  have HQN : Hid ((∀ m, m < n → q (l.getD m z21) = false) → cidx q l = -1) := fun h1 => by
    have := cfnd_uniq (q := q) (l := l) (k := l.length) (by omega) (by rw [hn]; exact h1) (fun h => absurd h (Nat.lt_irrefl _))
    unfold cidx; rw [this, if_neg (Nat.lt_irrefl _)]
  clear hr hF hn
  generalize cidx q l = ix at *
  go_enter Try.func55, Try.ntmps55
  go_wp2_with fail
  go_loopw [8] (fun s8 wr => ∃ k : Nat, k ≤ n ∧ s8 = .int .i64 k ∧ Hid (w.Extends wr) ∧ Hid (∀ m, m < k → q (l.getD m z21) = false)) (fun s8 _ => n - (intOf s8).toNat)
  case atStart => exact ⟨0, by omega, rfl, Gr.ext_refl _, fun m hm => absurd hm (Nat.not_lt_zero _)⟩
  case round =>
    obtain ⟨k, hk, rfl, HX, HN⟩ := hrel
    by_cases h1 : k < n
    · have hr := range_ext (HAT.out k h1) HX.out
      have HCL := Lib.hid (HF.out (l.getD k z21) wr (HX.out.block c hc))
      have HQK := Lib.hid (HQ.out k h1)
      have HNX : Hid (∀ b, q (l.getD k z21) = b → b = false → ∀ m, m < k + 1 → q (l.getD m z21) = false) := fun b e1 e2 m hm => by
        rcases Nat.lt_or_ge m k with h | h
        · exact HN.out m h
        · obtain rfl : m = k := by omega
          exact e1.trans e2
      have HQK2 := Lib.hid (HQK.out HN.out)
      clear HQK
      generalize hb : q (l.getD k z21) = b at *
      have HB := Lib.hid hb
      clear hb
      obtain ⟨x, hx⟩ : ∃ x, CV (l.getD k z21) = x := ⟨_, rfl⟩
      have HXV := Lib.hid hx
      rw [hx] at HCL
      clear hx
      go_wp2_with (refine wpList_load_ct rfl (.tmp 14) rfl g (o + k * 21) (l.getD k z21) x HXV.out rfl hr ?_)
      refine HCL.out.mono ?_
      rintro e w2 ⟨rfl, hx2⟩
      have HX2 := Lib.hid (Gr.ext_trans HX.out hx2)
      clear hx2 HCL hr
      cases b with
      | true =>
        have HP := HQK2.out rfl
        go_wp2
        go_ret
        exact ⟨by rw [HP]; rfl, HX2.out⟩
      | false =>
        have HN2 := Lib.hid (HNX.out false rfl rfl)
        clear HNX HQK2
        go_wp2
        go_roundw
        case rel => exact ⟨k + 1, by omega, by go_num, HX2, HN2⟩
        case measure => simp [intOf]; omega
    · obtain rfl : k = n := by omega
      have HP := HQN.out HN.out
      go_wp2
      go_ret
      exact ⟨by rw [HP]; rfl, HX.out⟩
end Go.Proofs.Ytffcjnabhblbaaa
