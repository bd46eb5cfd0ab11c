/- In one text: RecLaw, LetMath, OwnI, Append3, OwnI3, Mats, FldMath, FldBits, FldAdd, RowMath. -/
import Derived.Laws.BytesArg
import Derived.Laws.StructEq
import Derived.Handy
import Derived.Deep.DeepCutAuto
import Derived.Lib.Hide
import Derived.Test.YtpfmmfapdcbnkaaDoorRows
import Derived.WalkKit
import Derived.IntWalk
import Derived.Laws.Rows
import Derived.Laws.Tables
import Derived.ChangeKeysEq
import Derived.Deep.OwnRows
import Derived.Lib.SliceRun
import Derived.Laws.OwnMore
import Derived.Laws.BitsAllLaws
import Derived.Test.YtpfmmfapdcbnkaaDoorMA1
import Derived.Test.YtpfmmfapdcbnkaaDoorMA2
namespace Go.Proofs.YtpfmmfapdcbnkaaDoor
set_option maxRecDepth 20000
open Go.RowKit Go.Deep
set_option linter.unusedVariables false
theorem rec_len {r : Rc} (h : KM.Right r) : (KM.bytes r).length ≤ 88 := by
  obtain ⟨_, _, _, h4, h5⟩ := h
  unfold KM.bytes
  by_cases hg : r.g = true
  · rw [if_pos hg, KM.head_length]; omega
  · rw [if_neg hg, List.length_append, List.length_append, KM.head_length, KM.body_length]
    have := h5 (by simpa using hg)
    obtain ⟨⟨hs, _⟩, _, hl⟩ := this
    obtain ⟨_, _, _, h64, _⟩ := hs
    omega
end Go.Proofs.YtpfmmfapdcbnkaaDoor
namespace Go.Proofs.YtpfmmfapdcbnkaaDoor
set_option maxRecDepth 20000
open Go.RowKit Go.Deep
set_option linter.unusedVariables false
/-- A letter: kind, from, to, tag, the id's two numbers, peers, records. -/
structure Lt where
  k : Int
  f : Int
  t : Int
  g : Int
  p : Int
  n : Int
  ps : List Int
  rs : List Rc
namespace LQ
def N31 (x : Int) : Prop := 0 ≤ x ∧ x ≤ 2147483647
def zero : Lt := ⟨0, 0, 0, 0, 0, 0, [], []⟩
/-- A letter that may be. -/
def Right (l : Lt) : Prop := (1 ≤ l.k ∧ l.k ≤ 3) ∧ (N31 l.f ∧ N31 l.t ∧ N31 l.g ∧ N31 l.p ∧ N31 l.n) ∧ (l.ps.length ≤ 255 ∧ ∀ x ∈ l.ps, N31 x) ∧ l.rs.length ≤ 255 ∧ ∀ r ∈ l.rs, KM.Right r
def pb (ps : List Int) : List Nat := (ps.map fun x => KM.nb 4 x.toNat).flatten
def rb1 (r : Rc) : List Nat := KM.nb 2 (KM.bytes r).length ++ KM.bytes r
def rb (rs : List Rc) : List Nat := (rs.map rb1).flatten
def head (l : Lt) (ys : List Nat) : List Nat := KM.nb 1 l.k.toNat ++ (KM.nb 4 l.f.toNat ++ (KM.nb 4 l.t.toNat ++ (KM.nb 4 l.g.toNat ++ (KM.nb 4 l.p.toNat ++ (KM.nb 4 l.n.toNat ++ ys)))))
/-- Its bytes. -/
def bytes (l : Lt) : List Nat := head l (KM.nb 1 l.ps.length ++ (pb l.ps ++ (KM.nb 1 l.rs.length ++ rb l.rs)))
theorem rb_cons (r : Rc) (rs : List Rc) : rb (r :: rs) = rb1 r ++ rb rs := rfl
theorem head_length (l : Lt) (ys : List Nat) : (head l ys).length = 21 + ys.length := by
  simp only [head, List.length_append, KM.nb_length]; omega
theorem rec_two {r : Rc} (h : KM.Right r) : (KM.bytes r).length < 256 ^ 2 := by have := rec_len h; omega
/-- So many numbers of four bytes, taken one behind the other. -/
def tkp : Nat → List Nat × Bool → List Int × (List Nat × Bool)
  | 0, s => ([], s)
  | q + 1, s => ((tkp q s).1 ++ [((KM.gn 4 (tkp q s).2 : Nat) : Int)], KM.gs 4 (tkp q s).2)
theorem take_snoc {α : Type} (l : List α) (q : Nat) (d : α) (h : q < l.length) : l.take (q + 1) = l.take q ++ [l.getD q d] := by
  rw [List.take_succ_eq_append_getElem h]
  simp [h]
/-- So many records, taken one behind the other: these, and what is left. -/
def RT : Nat → List Nat × Bool → List Rc → List Nat × Bool → Prop
  | 0, s, rs, s' => rs = [] ∧ s' = s
  | q + 1, s, rs, s' => ∃ rs0 s0 r, RT q s rs0 s0 ∧ rs = rs0 ++ [r] ∧ KM.Right r ∧ KM.bytes r = KM.pc (KM.gn 2 s0) (KM.gs 2 s0) ∧ s' = KM.gs (KM.gn 2 s0) (KM.gs 2 s0)
theorem RT.len {s : List Nat × Bool} : ∀ {q : Nat} {rs : List Rc} {s' : List Nat × Bool}, RT q s rs s' → rs.length = q
  | 0, _, _, h => by rw [h.1]; rfl
  | q + 1, _, _, ⟨rs0, s0, r, h1, h2, _⟩ => by rw [h2, List.length_append, RT.len h1]; rfl
theorem RT.right {s : List Nat × Bool} : ∀ {q : Nat} {rs : List Rc} {s' : List Nat × Bool}, RT q s rs s' → ∀ r ∈ rs, KM.Right r
  | 0, _, _, h => by rw [h.1]; intro r hr; cases hr
  | q + 1, _, _, ⟨rs0, s0, r, h1, h2, h3, _⟩ => by
    rw [h2]
    intro x hx
    rcases List.mem_append.1 hx with hx | hx
    · exact RT.right h1 x hx
    · obtain rfl : x = r := by simpa using hx
      exact h3
theorem RT.lt {s : List Nat × Bool} (h : ∀ x ∈ s.1, x < 256) : ∀ {q : Nat} {rs : List Rc} {s' : List Nat × Bool}, RT q s rs s' → ∀ x ∈ s'.1, x < 256
  | 0, _, _, h1 => by rw [h1.2]; exact h
  | q + 1, _, _, ⟨rs0, s0, r, h1, _, _, _, h5⟩ => by
    rw [h5]
    exact KM.gs_lt (KM.gs_lt (RT.lt h h1))
theorem pc_some (xs ys : List Nat) : KM.pc xs.length (xs ++ ys, false) = xs ∧ KM.gs xs.length (xs ++ ys, false) = (ys, false) := by
  have c : ¬ ((xs ++ ys, false).2 = true ∨ (xs ++ ys, false).1.length < xs.length) := by simp
  unfold KM.pc KM.gs
  rw [if_neg c, if_neg c]
  simp
/-- The next record of a letter's. -/
theorem rb_step {rs : List Rc} (hrs : ∀ r ∈ rs, KM.Right r) (ys : List Nat) {q : Nat} (hq : q < rs.length) : ∃ r, KM.Right r ∧ rs.drop q = r :: rs.drop (q + 1) ∧ rs.take (q + 1) = rs.take q ++ [r] ∧
    KM.gn 2 (rb (rs.drop q) ++ ys, false) = (KM.bytes r).length ∧ KM.gs 2 (rb (rs.drop q) ++ ys, false) = (KM.bytes r ++ (rb (rs.drop (q + 1)) ++ ys), false) ∧
    KM.pc (KM.bytes r).length (KM.bytes r ++ (rb (rs.drop (q + 1)) ++ ys), false) = KM.bytes r ∧ KM.gs (KM.bytes r).length (KM.bytes r ++ (rb (rs.drop (q + 1)) ++ ys), false) = (rb (rs.drop (q + 1)) ++ ys, false) := by
  refine ⟨rs[q], hrs _ (List.getElem_mem _), List.drop_eq_getElem_cons hq, List.take_succ_eq_append_getElem hq, ?_, ?_, (pc_some _ _).1, (pc_some _ _).2⟩
  · rw [List.drop_eq_getElem_cons hq, rb_cons, rb1, List.append_assoc, List.append_assoc]
    exact (KM.gs_some (rec_two (hrs _ (List.getElem_mem _)))).1
  · rw [List.drop_eq_getElem_cons hq, rb_cons, rb1, List.append_assoc, List.append_assoc]
    exact (KM.gs_some (rec_two (hrs _ (List.getElem_mem _)))).2
theorem RT.some {rs0 : List Rc} (hrs : ∀ r ∈ rs0, KM.Right r) (ys : List Nat) : ∀ {q : Nat} {rs : List Rc} {s' : List Nat × Bool}, RT q (rb rs0 ++ ys, false) rs s' → q ≤ rs0.length → rs = rs0.take q ∧ s' = (rb (rs0.drop q) ++ ys, false)
  | 0, _, _, h, _ => ⟨h.1, h.2⟩
  | q + 1, _, _, ⟨rs1, s1, r, h1, h2, h3, h4, h5⟩, hq => by
    obtain ⟨rfl, rfl⟩ := RT.some hrs ys h1 (by omega)
    obtain ⟨r', a1, a2, a3, a4, a5, a6, a7⟩ := rb_step hrs ys (q := q) (by omega)
    rw [a4, a5, a6] at h4
    rw [a4, a5, a7] at h5
    have e : r = r' := by rw [← KM.rk_right h3 rfl, ← KM.rk_right a1 rfl, h4]
    subst e
    exact ⟨by rw [h2, a3], h5⟩
/-- How far a letter's first numbers are taken. -/
structure Hd where
  k : Nat
  f : Nat
  t : Nat
  g : Nat
  p : Nat
  n : Nat
  c : Nat
  s : List Nat × Bool
def hd (xs : List Nat) : Hd :=
  let s0 : List Nat × Bool := (xs, false)
  let s1 := KM.gs 1 s0
  let s2 := KM.gs 4 s1
  let s3 := KM.gs 4 s2
  let s4 := KM.gs 4 s3
  let s5 := KM.gs 4 s4
  let s6 := KM.gs 4 s5
  ⟨KM.gn 1 s0, KM.gn 4 s1, KM.gn 4 s2, KM.gn 4 s3, KM.gn 4 s4, KM.gn 4 s5, KM.gn 1 s6, KM.gs 1 s6⟩
/-- The letter that so far was taken: q peers, and these records. -/
def far (xs : List Nat) (q : Nat) (rs : List Rc) : Lt := ⟨(hd xs).k, (hd xs).f, (hd xs).t, (hd xs).g, (hd xs).p, (hd xs).n, (tkp q (hd xs).s).1, rs⟩
def sm (xs : List Nat) : List Nat × Bool := KM.gs 1 (tkp (hd xs).c (hd xs).s).2
end LQ
end Go.Proofs.YtpfmmfapdcbnkaaDoor
namespace Go.Proofs.YtpfmmfapdcbnkaaDoor
set_option maxRecDepth 20000
open Go.RowKit Go.Deep
set_option linter.unusedVariables false
/-- v is a slice of the call's own, in memory from B on, of the ints xs. -/
def OwnI (w : World) (B : Nat) (v : Value) (xs : List Int) : Prop := w.ownsRow B 3 1 v xs.length (i64vs xs)
theorem OwnI.nil (w : World) (B : Nat) : OwnI w B (.slice none 0 0) [] := World.ownsRow_nil _ _ _ _
theorem OwnI.ext {w w' : World} {B : Nat} {v : Value} {xs : List Int} (h : OwnI w B v xs) (hx : w.Extends w') : OwnI w' B v xs := owns_ext h hx
theorem OwnI.mono {w : World} {B B' : Nat} {v : Value} {xs : List Int} (h : OwnI w B v xs) (hB : B' ≤ B) : OwnI w B' v xs := owns_base h hB
theorem OwnI.lt {w : World} {B : Nat} {v : Value} {xs : List Int} (h : OwnI w B v xs) : ∀ g, v.ownBlock = some g → B ≤ g ∧ g < w.heap.size := fun g hg => World.ownsRow.lt h g hg
theorem OwnI.below {w w' : World} {B C : Nat} {v : Value} {xs : List Int} (h : OwnI w B v xs) (hv : ∀ g, v.ownBlock = some g → g < C) (hb : Below C w w') : OwnI w' B v xs := by
  refine ⟨h.1, ?_⟩
  rcases h.2 with hn | ⟨g, cap, cur, rfl, hbg, hg, rest⟩
  · exact .inl hn
  · exact .inr ⟨g, cap, cur, rfl, hbg, (hb.block g (hv g rfl)).trans hg, rest⟩
theorem OwnI.kinds {w : World} {B : Nat} {v : Value} {xs : List Int} (h : OwnI w B v xs) : (v = .slice none 0 0 ∧ xs = []) ∨ ∃ g cap, v = .slice (some ⟨g, 0, none⟩) xs.length cap ∧ xs.length ≤ cap := by
  rcases h.2 with ⟨rfl, h0⟩ | ⟨g, cap, cur, rfl, _, _, hc, _⟩
  · exact .inl ⟨rfl, List.eq_nil_of_length_eq_zero h0⟩
  · exact .inr ⟨g, cap, rfl, hc⟩
theorem OwnI.slice {w : World} {B : Nat} {v : Value} {xs : List Int} (h : OwnI w B v xs) : ∃ a cap, v = .slice a xs.length cap := by
  rcases h.kinds with ⟨rfl, rfl⟩ | ⟨g, cap, rfl, _⟩
  · exact ⟨_, _, rfl⟩
  · exact ⟨_, _, rfl⟩
theorem i64vs_one (xs : List Int) : ∀ u ∈ i64vs xs, u.oneCell' = true := fun u hu => by
  obtain ⟨x, _, rfl⟩ := List.mem_map.1 hu; rfl
theorem ints_src {w : World} {g o n c : Nat} {l : List Int} (hn : l.length = n) (h : ∀ k, k < n → w.cell? ⟨g, o + k, none⟩ = some (.int .i64 (l.getD k 0))) : Src Tryd.prog 1 83 (.slice (some ⟨g, o, none⟩) n c) n (i64vs l) w := by
  refine Src.ofSlice w Tryd.underlying83 ⟨g, o, none⟩ n c (i64vs l) (by rw [i64vs_length, hn, Nat.mul_one]) (fun j u hu => ?_) (i64vs_one l)
  have hj : j < l.length := by have := (List.getElem?_eq_some_iff.1 hu).1; rwa [i64vs_length] at this
  rw [Addr.add_mid, h j (by omega)]
  simp only [i64vs, List.getElem?_map, List.getElem?_eq_getElem hj, Option.map_some, Option.some.injEq] at hu
  rw [← hu]
  simp [hj]
theorem Ints.cut {w : World} {a : Option Addr} {len cap m : Nat} {l : List Int} (h : Ints w (.slice a len cap) l) (hm : m ≤ len) : Ints w (.slice a m cap) (l.take m) := by
  obtain ⟨hn, hc⟩ := h.cell
  obtain ⟨a', cap', hv, h1, h2⟩ := h.slice
  cases hv
  by_cases h0 : m = 0
  · subst h0; exact .inl ⟨rfl, a, cap, rfl, h2⟩
  · obtain ⟨b, off, rfl, hb, hcell⟩ := hc (by omega)
    refine .inr ⟨b, off, cap, by rw [List.length_take]; congr 1; omega, by rw [List.length_take]; omega, h2, hb, fun k hk => ?_⟩
    rw [List.length_take] at hk
    rw [hcell k (by omega)]
    simp [show k < m by omega]
end Go.Proofs.YtpfmmfapdcbnkaaDoor
namespace Go.Proofs.YtpfmmfapdcbnkaaDoor
set_option maxRecDepth 20000
open Go.RowKit Go.Deep
set_option linter.unusedVariables false
/-- All cells of the array are C. -/
def CleanBlk (C : Value → Prop) (w : World) (v : Value) : Prop := ∀ (g : Nat) (cs : Array Value) (T : TypeId) (f : Nat × Nat), v.ownBlock = some g → w.heap[g]? = some (.cells cs T f) → ∀ y ∈ cs.toList, C y
theorem CleanBlk.nil (C : Value → Prop) (w : World) : CleanBlk C w (.slice none 0 0) := fun g cs T f hg => by cases hg
theorem CleanBlk.kept {C : Value → Prop} {w w' : World} {v : Value} (h : CleanBlk C w v) (hb : ∀ g, v.ownBlock = some g → w'.heap[g]? = w.heap[g]?) : CleanBlk C w' v := fun g cs T f hg hc => h g cs T f hg (by rw [← hb g hg]; exact hc)
theorem zero_mem {zc : Array Value} {k : Nat} {y : Value} (h : y ∈ (Builtin.zeroCells zc k).toList) : y ∈ zc.toList := by
  unfold Builtin.zeroCells at h
  simp only [Array.toList_map, Array.toList_range, List.mem_map, List.mem_range] at h
  obtain ⟨i, hi, rfl⟩ := h
  have hz : 0 < zc.size := by
    rcases Nat.eq_zero_or_pos zc.size with h0 | h0
    · rw [h0, Nat.mul_zero] at hi; omega
    · exact h0
  have hm := Nat.mod_lt i hz
  rw [getElem!_pos zc (i % zc.size) hm]
  exact Array.getElem_mem_toList hm
section
variable {P : Program} (w : World)
theorem run_append_own_src3 (base : Nat) (t tx ty e : TypeId) (i : TypeInfo) (z : Value) (size bytes : Nat) (ht : P.underlying t = some (.slice e)) (hi : P.info? e = some i) (hz : i.zero = some z)
    (hsize : i.size = size) (hby : i.bytes = bytes) (hzs : z.cells.size = size)
    (v : Value) (n : Nat) (xs : List Value) (hown : w.ownsRow base e size v n xs) (x : Value) (m : Nat) (news : List Value) (hs : Src P size tx x m news w)
    (h63 : n + m ≤ maxLen) (hbytes : (n + m) * bytes ≤ 140737488355328) (hbase : base ≤ w.heap.size) (C : Value → Prop) (hC : CleanBlk C w v) (hCn : ∀ y ∈ news, C y) (hCz : ∀ y ∈ z.cells.toList, C y) :
    ∃ v' w', (Builtin.append_ #[t, tx] ty #[v, x]).run P w = .ok v' w' ∧ w'.ownsRow base e size v' (n + m) (xs ++ news) ∧ w.grownBy w' v.ownBlock ∧
      (v'.ownBlock = v.ownBlock ∨ ∃ g, v'.ownBlock = some g ∧ w.heap.size ≤ g) ∧ CleanBlk C w' v' := by
  subst hsize
  subst hby
  have hsmall : n + m ≤ 9223372036854775807 := by simp only [maxLen] at h63; omega
  have hl := hs.newsLen
  have hlen : (xs ++ news).length = (n + m) * i.size := by rw [List.length_append, hown.1, hl, Nat.add_mul]
  have hCx : ∀ y ∈ xs, C y := fun y hy => by
    rcases hown.2 with ⟨rfl, rfl⟩ | ⟨g, cap, cur, rfl, hbg, hg, hnc, hcm, hcs, htake⟩
    · obtain rfl : xs = [] := List.eq_nil_of_length_eq_zero (by simpa using hown.1)
      cases hy
    · rw [← htake] at hy
      exact hC g cur _ _ rfl hg y (List.mem_of_mem_take hy)
  have fresh : ∀ (k cap' : Nat) (n' : Nat), CleanBlk C (w.drew.alloc (.cells ((xs ++ news).toArray ++ Builtin.zeroCells z.cells k) e)) (.slice (some ⟨w.heap.size, 0, none⟩) n' cap') := fun k cap' n' g cs T f hg hc y hy => by
    simp only [Value.ownBlock, Option.some.injEq] at hg
    subst hg
    rw [show w.heap.size = w.drew.heap.size from rfl, heap_alloc_new] at hc
    simp only [Option.some.injEq, Obj.cells.injEq] at hc
    rw [← hc.1, Array.toList_append, List.mem_append] at hy
    rcases hy with hy | hy
    · rcases List.mem_append.1 (by simpa using hy) with hy | hy
      · exact hCx y hy
      · exact hCn y hy
    · exact hCz y (zero_mem hy)
  have grown : ∀ (old : Nat), old < n + m → ∀ (row : Option Nat),
      (w.drew.alloc (.cells ((xs ++ news).toArray ++ Builtin.zeroCells z.cells (grownCap w (n + m) old e - (n + m))) e)).ownsRow base e i.size
        (.slice (some ⟨w.heap.size, 0, none⟩) (n + m) (grownCap w (n + m) old e)) (n + m) (xs ++ news) ∧
      w.grownBy (w.drew.alloc (.cells ((xs ++ news).toArray ++ Builtin.zeroCells z.cells (grownCap w (n + m) old e - (n + m))) e)) row := by
    intro old ho row
    have hge := grownCap_ge w (n + m) old e
    have hcm : grownCap w (n + m) old e ≤ maxLen := grownCap_le_maxLen w (n + m) old e h63
    refine ⟨⟨hlen, .inr ⟨w.heap.size, _, _, rfl, hbase, heap_alloc_new w.drew _, hge, hcm, ?_, ?_⟩⟩, ⟨rfl, rfl, rfl, by simp, fun k hk _ => Below.heap_alloc w.drew _ k hk⟩⟩
    · simp only [Array.size_append, List.size_toArray, size_zeroCells, hzs, hlen, ← Nat.add_mul]
      congr 1
      omega
    · simp only [Array.toList_append]
      rw [← hlen]
      exact List.take_left
  rcases hown.2 with ⟨rfl, rfl⟩ | ⟨g, cap, cur, rfl, hbg, hg, hnc, hcm, hcs, htake⟩
  · have hx : xs = [] := List.eq_nil_of_length_eq_zero (by simpa using hown.1)
    subst hx
    by_cases hm : m = 0
    · subst hm
      have hn : news = [] := List.eq_nil_of_length_eq_zero (by simpa using hl)
      subst hn
      refine ⟨.slice none 0 0, w, ?_, World.ownsRow_nil w base e i.size, ⟨rfl, rfl, rfl, Nat.le_refl _, fun _ _ _ => rfl⟩, .inl rfl, fun g cs T f hg => by cases hg⟩
      rcases hs.kind with ⟨e', hk⟩ | hk <;> simp [Builtin.append_, run_underlying ht, run_underlying hk, sizeOf, typeInfo, hi, hs.len, hs.cells]
    · have hr := run_append_grow_src (P := P) w t tx ty e i z ht hi hz none 0 0 [] (by simp [Builtin.firstCells]) x m news hs (by omega) (by omega) (growslice_fits (by omega) (by have hb := hbytes; simp only [Nat.zero_add] at hb ⊢; exact hb))
      have hgr := grown 0 (by omega) (Value.ownBlock (.slice none 0 0))
      simp only [Nat.zero_add, List.nil_append] at hgr hr ⊢
      refine ⟨_, _, hr, hgr.1, hgr.2, .inr ⟨_, rfl, Nat.le_refl _⟩, ?_⟩
      first | exact fresh _ _ _ | (have := fresh; simpa using fresh _ _ _)
  · by_cases hroom : n + m ≤ cap
    · have hfit : n * i.size + news.length ≤ cur.size := by rw [hl, hcs, ← Nat.add_mul]; exact Nat.mul_le_mul_right _ hroom
      have hst := run_storeCells_at P g (n * i.size) e news 0 cur w hg (by simpa using hfit) hs.one
      simp only [Nat.add_zero] at hst
      have hr : (Builtin.append_ #[t, tx] ty #[.slice (some ⟨g, 0, none⟩) n cap, x]).run P w =
          .ok (.slice (some ⟨g, 0, none⟩) (n + m) cap) (w.setRow g (cur.toList.take (n * i.size) ++ news ++ cur.toList.drop (n * i.size + news.length)).toArray) := by
        rcases hs.kind with ⟨e', hk⟩ | hk <;> simp [Builtin.append_, run_underlying ht, run_underlying hk, sizeOf, typeInfo, hi, hs.len, hroom, hs.cells, Addr.add_lit, hst]
      refine ⟨_, _, hr, ⟨hlen, .inr ⟨g, cap, _, rfl, hbg, setRow_heap w g cur _ e _ hg, hroom, hcm, ?_, ?_⟩⟩, ⟨rfl, rfl, rfl, by simp, fun k _ hk => setRow_other w g k _ (fun e => hk (by simp [Value.ownBlock, e]))⟩, .inl rfl, fun g' cs T f hg' hc y hy => ?_⟩
      · simp only [List.size_toArray, List.length_append, List.length_take, List.length_drop, Array.length_toList]
        omega
      · rw [htake, ← hlen]
        exact List.take_left
      · simp only [Value.ownBlock, Option.some.injEq] at hg'
        subst hg'
        rw [setRow_heap w g cur _ e _ hg] at hc
        simp only [Option.some.injEq, Obj.cells.injEq] at hc
        rw [← hc.1] at hy
        rcases List.mem_append.1 hy with hy | hy
        · rcases List.mem_append.1 hy with hy | hy
          · exact hC g cur _ _ rfl hg y (List.mem_of_mem_take hy)
          · exact hCn y hy
        · exact hC g cur _ _ rfl hg y (List.mem_of_mem_drop hy)
    · have holds : ∀ j u, xs[j]? = some u → w.cell? ((⟨g, 0, none⟩ : Addr).add j) = some u := hown.cells (g := g) rfl
      have hold := run_firstCells_some (P := P) w.drew i.size n ⟨g, 0, none⟩ n cap xs hown.1 (by simpa using holds)
      have hr := run_append_grow_src (P := P) w t tx ty e i z ht hi hz (some ⟨g, 0, none⟩) n cap xs hold x m news hs (by omega) (by omega) (growslice_fits (by omega) hbytes)
      have hgr := grown cap (by omega) (Value.ownBlock (.slice (some ⟨g, 0, none⟩) n cap))
      refine ⟨_, _, hr, hgr.1, hgr.2, .inr ⟨_, rfl, Nat.le_refl _⟩, ?_⟩
      first | exact fresh _ _ _ | (have := fresh; simpa using fresh _ _ _)
theorem wp_append_own_src3 {o : Oper} {a : Act} {K : Act → World → Prop} {Q : Exit → Act → World → Prop} (s x : Operand) (t tx : TypeId)
    (ho : o.op = .call { callee := .builtin .append, args := #[s, x], argTypes := #[t, tx] })
    (base : Nat) (e : TypeId) (i : TypeInfo) (z : Value) (size bytes : Nat) (ht : P.underlying t = some (.slice e)) (hi : P.info? e = some i) (hz : i.zero = some z)
    (hsize : i.size = size) (hby : i.bytes = bytes) (hzs : z.cells.size = size)
    (v : Value) (n : Nat) (xs : List Value) (hs : a.eval s = v) (hown : w.ownsRow base e size v n xs) (y : Value) (m : Nat) (news : List Value) (hx : a.eval x = y) (hsrc : Src P size tx y m news w)
    (h63 : n + m ≤ maxLen) (hbytes : (n + m) * bytes ≤ 140737488355328) (hbase : base ≤ w.heap.size) (C : Value → Prop) (hC : CleanBlk C w v) (hCn : ∀ y ∈ news, C y) (hCz : ∀ y ∈ z.cells.toList, C y)
    (h : ∀ v' w', w'.ownsRow base e size v' (n + m) (xs ++ news) → w.grownBy w' v.ownBlock → (v'.ownBlock = v.ownBlock ∨ ∃ g, v'.ownBlock = some g ∧ w.heap.size ≤ g) → CleanBlk C w' v' → K (a.put o.dst v') w') : o.wp P a w K Q := by
  obtain ⟨v', w', hr, h2, h3, h4, h5⟩ := run_append_own_src3 (P := P) w base t tx o.type e i z size bytes ht hi hz hsize hby hzs v n xs hown y m news hsrc h63 hbytes hbase C hC hCn hCz
  unfold Oper.wp execOp
  simp only [ho, resolve, invoke, builtin, Sem.run_bind, Sem.run_pure, Result.andThen_ok, List.map_toArray, List.map_cons, List.map_nil, hs, hx, hr]
  exact h v' w' h2 h3 h4 h5
theorem wpList_append_own_src3 {ops : Array Oper} {rest : List Oper} {o : Oper} {a : Act} {Q : Exit → Act → World → Prop} (hgd : o.guard = none) (s x : Operand) (t tx : TypeId)
    (ho : o.op = .call { callee := .builtin .append, args := #[s, x], argTypes := #[t, tx] })
    (base : Nat) (e : TypeId) (i : TypeInfo) (z : Value) (size bytes : Nat) (ht : P.underlying t = some (.slice e)) (hi : P.info? e = some i) (hz : i.zero = some z)
    (hsize : i.size = size) (hby : i.bytes = bytes) (hzs : z.cells.size = size)
    (v : Value) (n : Nat) (xs : List Value) (hs : a.eval s = v) (hown : w.ownsRow base e size v n xs) (y : Value) (m : Nat) (news : List Value) (hx : a.eval x = y) (hsrc : Src P size tx y m news w)
    (h63 : n + m ≤ maxLen) (hbytes : (n + m) * bytes ≤ 140737488355328) (hbase : base ≤ w.heap.size) (C : Value → Prop) (hC : CleanBlk C w v) (hCn : ∀ y ∈ news, C y) (hCz : ∀ y ∈ z.cells.toList, C y)
    (h : ∀ v' w', w'.ownsRow base e size v' (n + m) (xs ++ news) → w.grownBy w' v.ownBlock → (v'.ownBlock = v.ownBlock ∨ ∃ g, v'.ownBlock = some g ∧ w.heap.size ≤ g) → CleanBlk C w' v' → wpList P ops Q rest (a.put o.dst v') w') : wpList P ops Q (o :: rest) a w :=
  wpList_plain hgd fun _ hK => wp_append_own_src3 w s x t tx ho base e i z size bytes ht hi hz hsize hby hzs v n xs hs hown y m news hx hsrc h63 hbytes hbase C hC hCn hCz fun v' w' h2 h3 h4 h5 => hK _ _ (h v' w' h2 h3 h4 h5)
end
end Go.Proofs.YtpfmmfapdcbnkaaDoor
namespace Go.Proofs.YtpfmmfapdcbnkaaDoor
set_option maxRecDepth 20000
open Go.RowKit Go.Deep
set_option linter.unusedVariables false
/-- Ints as a source of append. -/
theorem Ints.src {w : World} {a : Option Addr} {n c : Nat} {l : List Int} (h : Ints w (.slice a n c) l) : Src Tryd.prog 1 83 (.slice a n c) n (i64vs l) w := by
  obtain ⟨hn, hc⟩ := h.cell
  rcases Nat.eq_zero_or_pos n with h0 | h0
  · subst h0
    have : l = [] := List.eq_nil_of_length_eq_zero hn.symm
    subst this
    cases a with
    | none => exact Src.ofNil w Tryd.underlying83 c
    | some p => exact Src.ofSlice w Tryd.underlying83 p 0 c [] rfl (by simp) (by simp)
  · obtain ⟨b, off, rfl, hb, hcell⟩ := hc h0
    exact ints_src hn.symm hcell
end Go.Proofs.YtpfmmfapdcbnkaaDoor
namespace Go.Proofs.YtpfmmfapdcbnkaaDoor
set_option maxRecDepth 20000
open Go.RowKit Go.Deep
set_option linter.unusedVariables false
/-- u reads as xs, and lies in memory from before B, or in a row of bytes. -/
def RowOk (w : World) (B : Nat) (u : Value) (xs : List Nat) : Prop := U8s w u xs ∧ (xs = [] ∨ ∀ g, u.ownBlock = some g → g < w.heap.size ∧ (g < B ∨ ∃ cs, w.heap[g]? = some (.cells cs 5 (0, 0))))
theorem rowinfo : (Tryd.prog.info? 67).map (fun i => (i.zero, i.size, i.bytes)) = some (some (.slice none 0 0), 1, 24) := by kernel_rfl
theorem RowOk.old {w : World} {u : Value} {xs : List Nat} (h : U8s w u xs) {B : Nat} (hB : w.heap.size ≤ B) : RowOk w B u xs := by
  refine ⟨h, ?_⟩
  rcases h with h | ⟨b, off, cap, rfl, h1, h2, h3, h4, h5⟩
  · exact .inl h.1
  · refine .inr fun g hg => ?_
    simp only [Value.ownBlock, Option.some.injEq] at hg
    subst hg
    exact ⟨h3, .inl (by omega)⟩
theorem RowOk.own {w : World} {b n c : Nat} {xs : List Nat} (h : Own w b 5 xs) (B : Nat) (hn : n = xs.length) (hc : c = xs.length) : RowOk w B (.slice (some ⟨b, 0, none⟩) n c) xs := by
  subst hn; subst hc
  refine ⟨h.u8s, .inr fun g hg => ?_⟩
  simp only [Value.ownBlock, Option.some.injEq] at hg
  subst hg
  obtain ⟨cs, hcs, _⟩ := h.1
  exact ⟨h.lt, .inr ⟨cs, hcs⟩⟩
theorem RowOk.apart {w : World} {B B' : Nat} {u v : Value} {xs : List Nat} {n : Nat} {vs : List Value} {T : TypeId} (h : RowOk w B u xs) (ho : w.ownsRow B T 1 v n vs) (hT : T ≠ 5) (hne : v.ownBlock ≠ none) : xs = [] ∨ u.ownBlock ≠ v.ownBlock := by
  rcases h.2 with h0 | h0
  · exact .inl h0
  · refine .inr fun e => ?_
    cases hv : v.ownBlock with
    | none => exact hne hv
    | some g =>
      rw [hv] at e
      obtain ⟨_, h1⟩ := h0 g e
      have hb := (ho.lt g hv).1
      rcases h1 with h1 | ⟨cs, hcs⟩
      · omega
      · rcases ho.2 with ⟨rfl, _⟩ | ⟨g', cap, cur, rfl, hbg, hg, _⟩
        · cases hv
        · simp only [Value.ownBlock, Option.some.injEq] at hv
          subst hv
          rw [hg] at hcs
          simp only [Option.some.injEq, Obj.cells.injEq] at hcs
          exact hT hcs.2.1
theorem RowOk.grown {w w' : World} {B : Nat} {u : Value} {xs : List Nat} {r : Option Nat} (h : RowOk w B u xs) (hg : w.grownBy w' r) (hr : xs = [] ∨ u.ownBlock ≠ r) : RowOk w' B u xs := by
  refine ⟨h.1.grown hg hr, ?_⟩
  rcases h.2 with h0 | h0
  · exact .inl h0
  · rcases hr with hr | hr
    · exact .inl hr
    · refine .inr fun g hgu => ?_
      obtain ⟨h1, h2⟩ := h0 g hgu
      have he : w'.heap[g]? = w.heap[g]? := hg.block g h1 (by rw [← hgu]; exact hr)
      exact ⟨Nat.lt_of_lt_of_le h1 hg.size, (by rcases h2 with h2 | ⟨cs, hcs⟩; exact .inl h2; exact .inr ⟨cs, he.trans hcs⟩)⟩
theorem RowOk.ext {w w' : World} {B : Nat} {u : Value} {xs : List Nat} (h : RowOk w B u xs) (hx : w.Extends w') : RowOk w' B u xs := by
  refine ⟨h.1.ext hx, ?_⟩
  rcases h.2 with h0 | h0
  · exact .inl h0
  refine .inr fun g hgu => ?_
  obtain ⟨h1, h2⟩ := h0 g hgu
  refine ⟨Nat.lt_of_lt_of_le h1 hx.size, ?_⟩
  rcases h2 with h2 | ⟨cs, hcs⟩
  · exact .inl h2
  · exact .inr ⟨cs, (hx.block g h1).trans hcs⟩
theorem list_of {n : Nat} {R : Nat → Value → Prop} (h : ∀ k, k < n → ∃ u, R k u) : ∃ vs : List Value, vs.length = n ∧ ∀ k, k < n → ∃ u, vs[k]? = some u ∧ R k u := by
  induction n with
  | zero => exact ⟨[], rfl, fun k hk => absurd hk (Nat.not_lt_zero _)⟩
  | succ n ih =>
    obtain ⟨vs, hl, hv⟩ := ih fun k hk => h k (by omega)
    obtain ⟨u, hu⟩ := h n (by omega)
    refine ⟨vs ++ [u], by simp [hl], fun k hk => ?_⟩
    by_cases hkn : k < n
    · obtain ⟨u', h1, h2⟩ := hv k hkn
      exact ⟨u', by rw [List.getElem?_append_left (by omega)]; exact h1, h2⟩
    · obtain rfl : k = n := by omega
      exact ⟨u, by rw [List.getElem?_append_right (by omega), hl]; simp, hu⟩
theorem u8s_one {w : World} {v : Value} {xs : List Nat} (h : U8s w v xs) : v.oneCell' = true := by
  obtain ⟨a, c, rfl, _⟩ := h.slice; rfl
/-- A slice of rows as a source of append. -/
theorem Rws.srcs {P : Program} {w : World} {v : Value} {l : List (List Nat)} (h : Rws w v l) {tx e' : TypeId} (hk : P.underlying tx = some (.slice e')) :
    ∃ vs, Src P 1 tx v l.length vs w ∧ ∀ j, j < l.length → ∃ u, vs[j]? = some u ∧ U8s w u (l.getD j []) := by
  rcases h with ⟨rfl, a, cap, rfl⟩ | ⟨b, off, cap, rfl, h1, h2, h3, h4⟩
  · refine ⟨[], ?_, fun j hj => absurd hj (Nat.not_lt_zero _)⟩
    cases a with
    | none => exact Src.ofNil w hk cap
    | some a => exact Src.ofSlice w hk a 0 cap [] rfl (by simp) (by simp)
  · obtain ⟨vs, hl, hv⟩ := list_of h4
    refine ⟨vs, Src.ofSlice w hk ⟨b, off, none⟩ l.length cap vs (by rw [hl, Nat.mul_one]) (fun j u hu => ?_) (fun u hu => ?_), fun j hj => ?_⟩
    · have hj : j < l.length := by
        rcases Nat.lt_or_ge j l.length with h | h
        · exact h
        · rw [List.getElem?_eq_none (by omega)] at hu; cases hu
      obtain ⟨u', h5, h6, _⟩ := hv j hj
      rw [hu] at h5; cases h5
      rw [Addr.add_mid]; exact h6
    · obtain ⟨j, hj, rfl⟩ := List.mem_iff_getElem.1 hu
      obtain ⟨u', h5, _, h7⟩ := hv j (by omega)
      rw [List.getElem?_eq_getElem hj] at h5
      rw [Option.some.inj h5]; exact u8s_one h7
    · obtain ⟨u, h5, _, h7⟩ := hv j hj
      exact ⟨u, h5, h7⟩
theorem RowOk.mono {w : World} {B B' : Nat} {u : Value} {xs : List Nat} (h : RowOk w B u xs) (hB : B ≤ B') : RowOk w B' u xs := by
  refine ⟨h.1, ?_⟩
  rcases h.2 with h0 | h0
  · exact .inl h0
  · exact .inr fun g hg => ⟨(h0 g hg).1, (h0 g hg).2.imp (fun h => Nat.lt_of_lt_of_le h hB) id⟩
/-- v is the call's own slice (of elements of type T, in memory from B on) of values that read as the first k of l, and lie in memory from before R or in blocks of bytes. -/
def Mats (w : World) (B R : Nat) (T : TypeId) (v : Value) (k : Nat) (l : List (List Nat)) : Prop := ∃ vs, w.ownsRow B T 1 v k vs ∧ ∀ j, j < k → ∃ u, vs[j]? = some u ∧ RowOk w R u (l.getD j [])
theorem Mats.nil (w : World) (B R : Nat) (T : TypeId) (l : List (List Nat)) : Mats w B R T (.slice none 0 0) 0 l := ⟨[], World.ownsRow_nil _ _ _ _, fun j hj => absurd hj (Nat.not_lt_zero _)⟩
theorem Mats.rws {w : World} {B R : Nat} {T : TypeId} {v : Value} {k : Nat} {l : List (List Nat)} (h : Mats w B R T v k l) (hk : k = l.length) : Rws w v l := by
  subst hk
  obtain ⟨vs, hown, hrow⟩ := h
  rcases hown.2 with ⟨rfl, h0⟩ | ⟨g, cap, cur, rfl, hbg, hg, hnc, hcm, hcs, htake⟩
  · exact .inl ⟨List.eq_nil_of_length_eq_zero h0, none, 0, rfl⟩
  · refine .inr ⟨g, 0, cap, rfl, hnc, hcm, (Array.getElem?_eq_some_iff.1 hg).1, fun j hj => ?_⟩
    obtain ⟨u, hu, ho⟩ := hrow j hj
    refine ⟨u, ?_, ho.1⟩
    have := hown.cells (g := g) rfl j u hu
    rw [Addr.add_mid] at this
    exact this
theorem Mats.grow {w w' : World} {B R : Nat} {T : TypeId} {v v' : Value} {k m : Nat} {l r : List (List Nat)} {vs us : List Value} (hR : R ≤ B) (hT : T ≠ 5) (hk : k = l.length) (hm : m = r.length) (hown : w.ownsRow B T 1 v k vs) (hr : ∀ j, j < k → ∃ u, vs[j]? = some u ∧ RowOk w R u (l.getD j [])) (hu : ∀ j, j < m → ∃ u, us[j]? = some u ∧ RowOk w R u (r.getD j []))
    (hg : w.grownBy w' v.ownBlock) (ho : w'.ownsRow B T 1 v' (k + m) (vs ++ us)) : Mats w' B R T v' (k + m) (l ++ r) := by
  have hl : vs.length = k := by have := hown.1; omega
  have keep : ∀ {x : Value} {xs : List Nat}, RowOk w R x xs → RowOk w' R x xs := fun {x xs} h => by
    by_cases hn : v.ownBlock = none
    · rw [hn] at hg
      exact h.ext (ext_below ⟨hg.os, hg.tape, hg.output, hg.size, fun i hi => hg.block i hi (by simp)⟩ rfl)
    · exact h.grown hg ((h.mono hR).apart (B' := B) hown hT hn)
  refine ⟨vs ++ us, ho, fun j hj => ?_⟩
  by_cases hjk : j < k
  · obtain ⟨u', hu', ho'⟩ := hr j hjk
    refine ⟨u', by rw [List.getElem?_append_left (by omega)]; exact hu', ?_⟩
    rw [show (l ++ r).getD j [] = l.getD j [] by simp [List.getD_eq_getElem?_getD, List.getElem?_append_left (show j < l.length by omega)]]
    exact keep ho'
  · obtain ⟨u', hu', ho'⟩ := hu (j - k) (by omega)
    refine ⟨u', by rw [List.getElem?_append_right (by omega), hl]; exact hu', ?_⟩
    rw [show (l ++ r).getD j [] = r.getD (j - k) [] by simp [List.getD_eq_getElem?_getD, List.getElem?_append_right (show l.length ≤ j by omega), hk]]
    exact keep ho'
theorem Mats.snoc {w w' : World} {B R : Nat} {T : TypeId} {v v' u : Value} {k : Nat} {l : List (List Nat)} {vs : List Value} {r : List Nat} (hR : R ≤ B) (hT : T ≠ 5) (hk : k = l.length) (hown : w.ownsRow B T 1 v k vs) (hr : ∀ j, j < k → ∃ u, vs[j]? = some u ∧ RowOk w R u (l.getD j [])) (hu : RowOk w R u r)
    (hg : w.grownBy w' v.ownBlock) (ho : w'.ownsRow B T 1 v' (k + 1) (vs ++ [u])) : Mats w' B R T v' (k + 1) (l ++ [r]) :=
  Mats.grow hR hT hk rfl hown hr (fun j hj => by
    obtain rfl : j = 0 := by omega
    exact ⟨u, rfl, hu⟩) hg ho
theorem Mats.ext {w w' : World} {B R : Nat} {T : TypeId} {v : Value} {k : Nat} {l : List (List Nat)} (h : Mats w B R T v k l) (hx : w.Extends w') : Mats w' B R T v k l := by
  obtain ⟨vs, ho, hr⟩ := h
  have hg : w.grownBy w' none := ⟨hx.os, hx.tape, hx.output, hx.size, fun i hi _ => hx.block i hi⟩
  refine ⟨vs, ho.kept hg (by cases v.ownBlock <;> simp), fun j hj => ?_⟩
  obtain ⟨u, h1, h2⟩ := hr j hj
  exact ⟨u, h1, h2.ext hx⟩
/-- Such a slice as a source of append. -/
theorem Mats.srcs {P : Program} {w : World} {B R : Nat} {T : TypeId} {v : Value} {k : Nat} {l : List (List Nat)} (h : Mats w B R T v k l) {tx e' : TypeId} (hk : P.underlying tx = some (.slice e')) :
    ∃ vs, Src P 1 tx v k vs w ∧ ∀ j, j < k → ∃ u, vs[j]? = some u ∧ RowOk w R u (l.getD j []) := by
  obtain ⟨vs, hown, hrow⟩ := h
  have hl : vs.length = k := by have := hown.1; omega
  refine ⟨vs, ?_, hrow⟩
  have hone : ∀ u ∈ vs, u.oneCell' = true := fun u hu => by
    obtain ⟨j, hj, rfl⟩ := List.mem_iff_getElem.1 hu
    obtain ⟨u', h5, h6⟩ := hrow j (by omega)
    rw [List.getElem?_eq_getElem hj] at h5
    rw [Option.some.inj h5]; exact u8s_one h6.1
  rcases id hown.2 with ⟨rfl, rfl⟩ | ⟨g, cap, cur, rfl, _⟩
  · obtain rfl : vs = [] := List.eq_nil_of_length_eq_zero hl
    exact Src.ofNil w hk 0
  · exact Src.ofSlice w hk ⟨g, 0, none⟩ k cap vs (by rw [hl, Nat.mul_one]) (fun j u hu => hown.cells (g := g) rfl j u hu) hone
theorem Mats.base {w : World} {B B' R : Nat} {T : TypeId} {v : Value} {k : Nat} {l : List (List Nat)} (h : Mats w B R T v k l) (hB : B' ≤ B) : Mats w B' R T v k l := by
  obtain ⟨vs, ho, hr⟩ := h
  refine ⟨vs, ⟨ho.1, ?_⟩, hr⟩
  rcases ho.2 with h' | ⟨g, cap, cur, h1, h2, h3⟩
  · exact .inl h'
  · exact .inr ⟨g, cap, cur, h1, Nat.le_trans hB h2, h3⟩
theorem Mats.slice {w : World} {B R : Nat} {T : TypeId} {v : Value} {k : Nat} {l : List (List Nat)} (h : Mats w B R T v k l) : ∃ a cap, v = .slice a k cap := by
  obtain ⟨vs, ho, hr⟩ := h
  rcases ho.2 with ⟨rfl, rfl⟩ | ⟨g, cap, cur, rfl, _⟩
  · exact ⟨_, _, rfl⟩
  · exact ⟨_, _, rfl⟩
end Go.Proofs.YtpfmmfapdcbnkaaDoor
namespace Go.Proofs.YtpfmmfapdcbnkaaDoor
set_option maxRecDepth 20000
namespace FM
def dbl (a : Nat) : Nat := if a < 128 then a * 2 else (a * 2 % 256) ^^^ 29
def tloop : Nat → Nat → Nat → Nat → Nat
  | 0, p, _, _ => p
  | f+1, p, a, b => tloop f (if b % 2 = 1 then p ^^^ a else p) (dbl a) (b / 2)
def tm (a b : Nat) : Nat := tloop 8 0 a b
theorem xor_lt {a b : Nat} (ha : a < 256) (hb : b < 256) : a ^^^ b < 256 := Nat.xor_lt_two_pow (n := 8) ha hb
theorem dbl_lt (a : Nat) (h : a < 256) : dbl a < 256 := by
  unfold dbl; split
  · omega
  · exact xor_lt (by omega) (by omega)
theorem tloop_zero (f p a : Nat) : tloop f p a 0 = p := by
  induction f generalizing p a with
  | zero => rfl
  | succ f ih => simp [tloop, ih]
theorem tloop_lt (f p a b : Nat) (hp : p < 256) (ha : a < 256) : tloop f p a b < 256 := by
  induction f generalizing p a b with
  | zero => exact hp
  | succ f ih =>
    rw [tloop]; refine ih _ _ _ ?_ (dbl_lt a ha)
    split
    · exact xor_lt hp ha
    · exact hp
theorem tm_lt (a b : Nat) (ha : a < 256) : tm a b < 256 := tloop_lt _ _ _ _ (by omega) ha

/-! ### what is linear -/
def Lin (f : Nat → Nat) : Prop := ∀ x y, x < 256 → y < 256 → f (x ^^^ y) = f x ^^^ f y

theorem Lin.zero {f : Nat → Nat} (h : Lin f) : f 0 = 0 := by
  have := h 0 0 (by omega) (by omega)
  rw [Nat.xor_self] at this
  rw [this, Nat.xor_self]

theorem split_bit : ∀ n, n < 8 → ∀ x, x < 256 → 2 ^ n ≤ x → x < 2 ^ (n + 1) → x = 2 ^ n ^^^ (x - 2 ^ n) := by decide +kernel

theorem Lin.ext {f g : Nat → Nat} (hf : Lin f) (hg : Lin g) (h : ∀ i, i < 8 → f (2 ^ i) = g (2 ^ i)) : ∀ x, x < 256 → f x = g x := by
  have key : ∀ n, n ≤ 8 → ∀ x, x < 2 ^ n → f x = g x := by
    intro n
    induction n with
    | zero =>
      intro _ x hx
      obtain rfl : x = 0 := by simpa using hx
      rw [hf.zero, hg.zero]
    | succ n ih =>
      intro hn x hx
      by_cases hlt : x < 2 ^ n
      · exact ih (by omega) x hlt
      · have h8 : 2 ^ (n + 1) ≤ 2 ^ 8 := Nat.pow_le_pow_right (by omega) hn
        have hp : 2 ^ (n + 1) = 2 ^ n * 2 := Nat.pow_succ 2 n
        have h1 : 2 ^ n < 256 := by omega
        have e := split_bit n (by omega) x (by omega) (by omega) hx
        rw [e, hf _ _ h1 (by omega), hg _ _ h1 (by omega), h n (by omega), ih (by omega) _ (by omega)]
  exact fun x hx => key 8 (by omega) x hx

theorem xor_four (a b c d : Nat) : (a ^^^ b) ^^^ (c ^^^ d) = (a ^^^ c) ^^^ (b ^^^ d) := by
  rw [Nat.xor_assoc, Nat.xor_assoc, ← Nat.xor_assoc b c d, Nat.xor_comm b c, Nat.xor_assoc c b d]

theorem div_pow_xor (x y i : Nat) : (x ^^^ y) / 2 ^ i = (x / 2 ^ i) ^^^ (y / 2 ^ i) := by
  apply Nat.eq_of_testBit_eq; intro j
  simp [Nat.testBit_xor, Nat.testBit_div_two_pow]
theorem mul_pow_xor (x y i : Nat) : (x ^^^ y) * 2 ^ i = (x * 2 ^ i) ^^^ (y * 2 ^ i) := by
  rw [← Nat.shiftLeft_eq, ← Nat.shiftLeft_eq, ← Nat.shiftLeft_eq]; exact Nat.shiftLeft_xor_distrib ..
theorem mod_pow_xor (x y i : Nat) : (x ^^^ y) % 2 ^ i = (x % 2 ^ i) ^^^ (y % 2 ^ i) := by
  apply Nat.eq_of_testBit_eq; intro j
  simp only [Nat.testBit_xor, Nat.testBit_mod_two_pow]
  by_cases h : j < i <;> simp [h]
theorem odd_xor (x y : Nat) : (x ^^^ y) % 2 = ((x % 2) ^^^ (y % 2)) := mod_pow_xor x y 1
theorem odd_cases (x y : Nat) : (x ^^^ y) % 2 = (x % 2 + y % 2) % 2 := by
  rw [odd_xor]
  rcases Nat.mod_two_eq_zero_or_one x with h | h <;> rcases Nat.mod_two_eq_zero_or_one y with k | k <;> rw [h, k] <;> rfl

/-- c where the bit is set -/
def sel (x c : Nat) : Nat := if x % 2 = 1 then c else 0
theorem sel_xor (x y c : Nat) : sel (x ^^^ y) c = sel x c ^^^ sel y c := by
  unfold sel
  rw [odd_cases]
  rcases Nat.mod_two_eq_zero_or_one x with h | h <;> rcases Nat.mod_two_eq_zero_or_one y with k | k <;> simp [h, k]
theorem sel_xor_right (x c d : Nat) : sel x (c ^^^ d) = sel x c ^^^ sel x d := by
  unfold sel; split <;> simp
theorem ite_sel (x p c : Nat) : (if x % 2 = 1 then p ^^^ c else p) = p ^^^ sel x c := by
  unfold sel; split <;> simp

theorem dbl_eq : ∀ a, a < 256 → dbl a = (a * 2 ^ 1) ^^^ sel (a / 2 ^ 7) 285 := by decide +kernel
theorem dbl_lin : Lin dbl := by
  intro x y hx hy
  rw [dbl_eq x hx, dbl_eq y hy, dbl_eq _ (xor_lt hx hy), div_pow_xor, mul_pow_xor, sel_xor]
  exact xor_four ..

theorem tloop_acc (f p q a b : Nat) : tloop f (p ^^^ q) a b = p ^^^ tloop f q a b := by
  induction f generalizing p q a b with
  | zero => rfl
  | succ f ih => rw [tloop, tloop, ite_sel, ite_sel, Nat.xor_assoc, ih]
theorem tloop_pull (f p a b : Nat) : tloop f p a b = p ^^^ tloop f 0 a b := by
  have := tloop_acc f p 0 a b; rwa [Nat.xor_zero] at this
theorem tloop_succ (f a b : Nat) : tloop (f+1) 0 a b = sel b a ^^^ tloop f 0 (dbl a) (b / 2) := by
  rw [tloop, ite_sel, Nat.zero_xor, tloop_pull]
theorem tloop_left (f b x y : Nat) (hx : x < 256) (hy : y < 256) : tloop f 0 (x ^^^ y) b = tloop f 0 x b ^^^ tloop f 0 y b := by
  induction f generalizing b x y with
  | zero => simp [tloop]
  | succ f ih =>
    rw [tloop_succ, tloop_succ, tloop_succ, dbl_lin x y hx hy, ih _ _ _ (dbl_lt x hx) (dbl_lt y hy), sel_xor_right]
    exact xor_four ..
theorem tloop_right (f a x y : Nat) : tloop f 0 a (x ^^^ y) = tloop f 0 a x ^^^ tloop f 0 a y := by
  induction f generalizing a x y with
  | zero => simp [tloop]
  | succ f ih =>
    have h2 : (x ^^^ y) / 2 = (x / 2) ^^^ (y / 2) := div_pow_xor x y 1
    rw [tloop_succ, tloop_succ, tloop_succ, h2, ih, sel_xor]
    exact xor_four ..
theorem tm_left (b : Nat) : Lin (fun a => tm a b) := fun x y hx hy => tloop_left 8 b x y hx hy
theorem tm_right (a : Nat) : Lin (fun b => tm a b) := fun x y _ _ => tloop_right 8 a x y
theorem tm_xor_right (a x y : Nat) : tm a (x ^^^ y) = tm a x ^^^ tm a y := tloop_right 8 a x y
theorem tm_xor_left (x y b : Nat) (hx : x < 256) (hy : y < 256) : tm (x ^^^ y) b = tm x b ^^^ tm y b := tloop_left 8 b x y hx hy
theorem tm_zero_right (a : Nat) : tm a 0 = 0 := tloop_zero _ _ _
theorem tm_zero_left (b : Nat) : tm 0 b = 0 := (tm_left b).zero

theorem Lin.comp {f g : Nat → Nat} (hf : Lin f) (hg : Lin g) (hlt : ∀ x, x < 256 → g x < 256) : Lin (fun x => f (g x)) := by
  intro x y hx hy
  show f (g (x ^^^ y)) = _
  rw [hg x y hx hy, hf _ _ (hlt x hx) (hlt y hy)]

theorem pow_lt8 {i : Nat} (h : i < 8) : 2 ^ i < 256 := Nat.pow_lt_pow_right (m := i) (n := 8) (by omega) h
theorem tm_comm (a b : Nat) (ha : a < 256) (hb : b < 256) : tm a b = tm b a := by
  refine Lin.ext (f := fun x => tm x b) (g := fun x => tm b x) (tm_left b) (tm_right b) (fun i hi => ?_) a ha
  refine Lin.ext (f := fun y => tm (2 ^ i) y) (g := fun y => tm y (2 ^ i)) (tm_right _) (tm_left _) (fun j hj => ?_) b hb
  have : ∀ i, i < 8 → ∀ j, j < 8 → tm (2 ^ i) (2 ^ j) = tm (2 ^ j) (2 ^ i) := by decide +kernel
  exact this i hi j hj
theorem tm_assoc (a b c : Nat) (ha : a < 256) (hb : b < 256) (hc : c < 256) : tm (tm a b) c = tm a (tm b c) := by
  refine Lin.ext (f := fun x => tm (tm x b) c) (g := fun x => tm x (tm b c)) ((tm_left c).comp (tm_left b) (fun x hx => tm_lt x b hx)) (tm_left _) (fun i hi => ?_) a ha
  have h2 := pow_lt8 hi
  refine Lin.ext (f := fun x => tm (tm (2 ^ i) x) c) (g := fun x => tm (2 ^ i) (tm x c)) ((tm_left c).comp (tm_right _) (fun x _ => tm_lt _ x h2)) ((tm_right _).comp (tm_left c) (fun x hx => tm_lt x c hx)) (fun j hj => ?_) b hb
  refine Lin.ext (f := fun x => tm (tm (2 ^ i) (2 ^ j)) x) (g := fun x => tm (2 ^ i) (tm (2 ^ j) x)) (tm_right _) ((tm_right _).comp (tm_right _) (fun x _ => tm_lt _ x (pow_lt8 hj))) (fun k hk => ?_) c hc
  have : ∀ i, i < 8 → ∀ j, j < 8 → ∀ k, k < 8 → tm (tm (2 ^ i) (2 ^ j)) (2 ^ k) = tm (2 ^ i) (tm (2 ^ j) (2 ^ k)) := by decide +kernel
  exact this i hi j hj k hk
theorem tm_one_right (a : Nat) (ha : a < 256) : tm a 1 = a := by
  refine Lin.ext (f := fun x => tm x 1) (g := fun x => x) (tm_left 1) (fun _ _ _ _ => rfl) (fun i hi => ?_) a ha
  have : ∀ i, i < 8 → tm (2 ^ i) 1 = 2 ^ i := by decide +kernel
  exact this i hi
theorem tm_one_left (a : Nat) (ha : a < 256) : tm 1 a = a := by rw [tm_comm 1 a (by omega) ha, tm_one_right a ha]

/-! ### the document's own way: all bits first, then the remainder -/
/-! ### powers -/
def pw (a : Nat) : Nat → Nat
  | 0 => 1
  | n+1 => tm (pw a n) a
theorem pw_lt (a n : Nat) (_ha : a < 256) : pw a n < 256 := by
  induction n with
  | zero => show 1 < 256; omega
  | succ n ih => exact tm_lt _ _ ih
theorem pw_add (a m n : Nat) (ha : a < 256) : pw a (m + n) = tm (pw a m) (pw a n) := by
  induction n with
  | zero => exact (tm_one_right _ (pw_lt a m ha)).symm
  | succ n ih => rw [← Nat.add_assoc, pw, pw, ih, tm_assoc _ _ _ (pw_lt a m ha) (pw_lt a n ha) ha]
theorem pw_one (a : Nat) (ha : a < 256) : pw a 1 = a := tm_one_left a ha
theorem pw_sq (a n : Nat) (ha : a < 256) : pw (tm a a) n = pw a (2 * n) := by
  induction n with
  | zero => rfl
  | succ n ih =>
    rw [pw, ih, show 2 * (n + 1) = 2 * n + 2 from by omega, pw_add a (2 * n) 2 ha]
    show _ = tm _ (tm (tm 1 a) a)
    rw [tm_one_left a ha]
/-- raise's own loop -/
def rloop : Nat → Nat → Nat → Nat → Nat
  | 0, p, _, _ => p
  | f+1, p, a, n => rloop f (if n % 2 = 1 then tm p a else p) (tm a a) (n / 2)
theorem rloop_zero (f p a : Nat) : rloop f p a 0 = p := by
  induction f generalizing p a with
  | zero => rfl
  | succ f ih => simp [rloop, ih]
theorem rloop_eq (f p a n : Nat) (hp : p < 256) (ha : a < 256) (hn : n < 2 ^ f) : rloop f p a n = tm p (pw a n) := by
  induction f generalizing p a n with
  | zero => obtain rfl : n = 0 := by simpa using hn
            exact (tm_one_right p hp).symm
  | succ f ih =>
    rw [Nat.pow_succ] at hn
    rw [rloop, ih _ _ _ (by split; exact tm_lt _ _ hp; exact hp) (tm_lt a a ha) (by omega), pw_sq a _ ha]
    split
    · rw [tm_assoc p a _ hp ha (pw_lt a _ ha)]
      conv => rhs; rw [show n = 1 + 2 * (n / 2) from by omega, pw_add a _ _ ha, pw_one a ha]
    · conv => rhs; rw [show n = 2 * (n / 2) from by omega]
def inv (a : Nat) : Nat := pw a 254
theorem inv_lt (a : Nat) (ha : a < 256) : inv a < 256 := pw_lt a _ ha
theorem inv_eq (a : Nat) (ha : a < 256) : rloop 8 1 a 254 = inv a := by
  rw [rloop_eq 8 1 a 254 (by omega) ha (by omega), tm_one_left _ (pw_lt a _ ha)]; rfl
theorem inv_tab : ∀ a, a < 256 → a ≠ 0 → tm a (rloop 8 1 a 254) = 1 := by decide +kernel
theorem tm_inv (a : Nat) (ha : a < 256) (h0 : a ≠ 0) : tm a (inv a) = 1 := by rw [← inv_eq a ha]; exact inv_tab a ha h0
/-- 2 to the n -/
def ex (n : Nat) : Nat := pw 2 n
theorem ex_lt (n : Nat) : ex n < 256 := pw_lt 2 n (by omega)
/-- how many of the first powers are a -/
def cnt (a : Nat) : Nat → Nat
  | 0 => 0
  | n+1 => cnt a n + if ex n = a then 1 else 0
end FM
end Go.Proofs.YtpfmmfapdcbnkaaDoor
namespace Go.Proofs.YtpfmmfapdcbnkaaDoor
set_option maxRecDepth 20000
open Go.RowKit
theorem i64_in' (n : Int) (h₀ : 0 ≤ n) (h₁ : n < 9223372036854775808) : IntKind.i64.wrap n = n := by rw [IntKind.wrap_i64]; omega
theorem ofInt_63 (a : Nat) (ha : a < 9223372036854775808) : (BitVec.ofInt 64 (a : Int)).toNat = a := by
  rw [BitVec.ofInt_natCast, BitVec.toNat_ofNat]; exact Nat.mod_eq_of_lt (by omega)
theorem i64_and_nat (a b : Nat) (ha : a < 9223372036854775808) (hb : b < 9223372036854775808) : bits .and .i64 (a : Int) (b : Int) = ((a &&& b : Nat) : Int) := by
  have hx : a &&& b < 2 ^ 63 := Nat.and_lt_two_pow _ (by omega)
  show IntKind.i64.wrap ((BitVec.ofInt 64 (a : Int) &&& BitVec.ofInt 64 (b : Int)).toNat : Int) = _
  rw [BitVec.toNat_and, ofInt_63 a ha, ofInt_63 b hb, i64_in' _ (by omega) (by omega)]
theorem i64_and1 (a : Nat) (h : a < 9223372036854775808) : bits .and .i64 (a : Int) 1 = ((a % 2 : Nat) : Int) := by
  have := i64_and_nat a 1 h (by omega)
  rw [show ((1 : Nat) : Int) = 1 from rfl] at this
  rw [this, Nat.and_one_is_mod]
theorem u8_and1 (a : Nat) (h : a < 256) : bits BinOp.and IntKind.u8 (↑a) 1 = ((a % 2 : Nat) : Int) := by
  have := u8_and_nat a 1 (by omega) (by omega)
  rw [show ((1 : Nat) : Int) = 1 from rfl] at this
  rw [this, Nat.and_one_is_mod]
theorem and128_lt (a : Nat) (h : a < 128) : (bits BinOp.and IntKind.u8 (↑a) 128 != 0) = false := by
  have := u8_and_nat a 128 (by omega) (by omega)
  rw [show ((128 : Nat) : Int) = 128 from rfl] at this
  rw [this]
  have h2 : a &&& 128 = 0 := by
    have : ∀ a, a < 128 → a &&& 128 = 0 := by decide +kernel
    exact this a h
  simp [h2]
theorem and128_ge (a : Nat) (h : ¬ a < 128) (h2 : a < 256) : (bits BinOp.and IntKind.u8 (↑a) 128 != 0) = true := by
  have := u8_and_nat a 128 (by omega) (by omega)
  rw [show ((128 : Nat) : Int) = 128 from rfl] at this
  rw [this]
  have h2 : a &&& 128 = 128 := by
    have : ∀ a, a < 256 → 128 ≤ a → a &&& 128 = 128 := by decide +kernel
    exact this a h2 (by omega)
  simp [h2]
theorem retu8 {a b : Int} (h : a = b) : Ending.returned (.int .u8 a) = .returned (.int .u8 b) := by rw [h]
end Go.Proofs.YtpfmmfapdcbnkaaDoor
namespace Go.Proofs.YtpfmmfapdcbnkaaDoor
set_option maxRecDepth 20000
open Go.RowKit
/-- the sum of all -/
def FM.sum (xs : List Nat) : Nat := xs.foldl (fun s x => s ^^^ x) 0
def FM.prod (xs : List Nat) : Nat := xs.foldl FM.tm 1
theorem FM.sum_snoc (xs : List Nat) (k : Nat) (h : k < xs.length) : FM.sum (xs.take (k + 1)) = FM.sum (xs.take k) ^^^ xs.getD k 0 := by
  rw [List.take_succ_eq_append_getElem h, FM.sum, List.foldl_append]; simp [FM.sum, h]
theorem FM.prod_snoc (xs : List Nat) (k : Nat) (h : k < xs.length) : FM.prod (xs.take (k + 1)) = FM.tm (FM.prod (xs.take k)) (xs.getD k 0) := by
  rw [List.take_succ_eq_append_getElem h, FM.prod, List.foldl_append]; simp [FM.prod, h]
theorem FM.sum_lt (xs : List Nat) (h : ∀ x ∈ xs, x < 256) : FM.sum xs < 256 := by
  have : ∀ (xs : List Nat) (s : Nat), s < 256 → (∀ x ∈ xs, x < 256) → xs.foldl (fun s x => s ^^^ x) s < 256 := by
    intro xs
    induction xs with
    | nil => intro s hs _; exact hs
    | cons x xs ih => intro s hs h; exact ih _ (FM.xor_lt hs (h x (by simp))) (fun y hy => h y (by simp [hy]))
  exact this xs 0 (by omega) h
theorem FM.prod_lt (xs : List Nat) : FM.prod xs < 256 := by
  have : ∀ (xs : List Nat) (s : Nat), s < 256 → xs.foldl FM.tm s < 256 := by
    intro xs
    induction xs with
    | nil => intro s hs; exact hs
    | cons x xs ih => intro s hs; exact ih _ (FM.tm_lt _ _ hs)
  exact this xs 1 (by omega)
set_option maxHeartbeats 400000 in
theorem add_any (v : Value) (xs : List Nat) (w : World) (hv : U8s w v xs) :
    Calls Tryd.prog 72 #[v] w fun e w' => e = .returned (.int .u8 (FM.sum xs : Nat)) ∧ w = w' := by
  rcases hv with ⟨rfl, a, cap, rfl, _⟩ | ⟨b, off, cap, rfl, hm1, hm2, hb, hx, hl⟩
  · go_enter Tryd.func72, Tryd.ntmps72
    go_wp2
    refine wp_loop_rounds 1 ?_; rw [rounds_succ]
    go_wp2
    go_ret
    exact ⟨rfl, rfl⟩
  · have hm := Nat.le_trans hm1 hm2; unfold maxLen at hm; clear hm1 hm2
    go_enter Tryd.func72, Tryd.ntmps72
    go_wp2
    generalize hn : xs.length = n at *
    have HN := Lib.hid hn; clear hn
    have HX := Lib.hid hx; clear hx
    have HL := Lib.hid hl; clear hl
    go_loop [3, 8] (fun s i => ∃ k : Nat, k ≤ n ∧ i = .int .i64 k ∧ s = .int .u8 (FM.sum (xs.take k) : Nat)) (fun _ i => (n - intOf i).toNat)
    case atStart => exact ⟨0, by omega, rfl, rfl⟩
    case round =>
      obtain ⟨k, hk, rfl, rfl⟩ := hrel
      by_cases h0 : k < n
      · have hc := HX.out k h0
        have hs := Lib.hid (FM.sum_snoc xs k (by rw [HN.out]; exact h0))
        have he := Lib.hid (u8_xor_nat (FM.sum (xs.take k)) (xs.getD k 0) (FM.sum_lt _ (take_lt xs HL.out k)) (getD_lt xs HL.out k))
        go_wp2
        go_round
        case rel => exact ⟨k + 1, by omega, by go_num, by rw [hs.out, ← he.out]; simp⟩
        case measure => simp [intOf]; omega
      · obtain rfl : k = n := by omega
        go_wp2
        go_ret
        exact ⟨retu8 (by rw [← HN.out, List.take_length]), rfl⟩
end Go.Proofs.YtpfmmfapdcbnkaaDoor
namespace Go.Proofs.YtpfmmfapdcbnkaaDoor
set_option maxRecDepth 20000
namespace RM
def cut (n : Int) : Nat := min n.toNat 1000
/-- s plus r, as far as s goes. -/
def xr (s r : List Nat) : List Nat := (List.range s.length).map fun i => s.getD i 0 ^^^ r.getD i 0
/-- The first k places of s summed with those of r. -/
def xrTo (k : Nat) (s r : List Nat) : List Nat := (List.range s.length).map fun i => if i < k then s.getD i 0 ^^^ r.getD i 0 else s.getD i 0
theorem xr_length (s r : List Nat) : (xr s r).length = s.length := by simp [xr]
theorem xrTo_length (k : Nat) (s r : List Nat) : (xrTo k s r).length = s.length := by simp [xrTo]
theorem map_getD {f : Nat → Nat} {n i : Nat} (h : i < n) : ((List.range n).map f).getD i 0 = f i := by
  simp [List.getD_eq_getElem?_getD, h]
theorem list_ext {xs ys : List Nat} (hl : xs.length = ys.length) (h : ∀ i, i < xs.length → xs.getD i 0 = ys.getD i 0) : xs = ys := by
  apply List.ext_getElem hl
  intro i h1 h2
  have := h i h1
  simpa [List.getD_eq_getElem?_getD, h1, h2] using this
theorem getD_far (xs : List Nat) (i : Nat) (h : xs.length ≤ i) : xs.getD i 0 = 0 := by
  simp [List.getD_eq_getElem?_getD, List.getElem?_eq_none h]
theorem xrTo_zero (s r : List Nat) : xrTo 0 s r = s := list_ext (xrTo_length _ _ _) fun i hi => by
  rw [xrTo_length] at hi
  rw [xrTo, map_getD hi]; simp
theorem xrTo_all (k : Nat) (s r : List Nat) (h : min s.length r.length ≤ k) : xrTo k s r = xr s r := list_ext (by rw [xrTo_length, xr_length]) fun i hi => by
  rw [xrTo_length] at hi
  rw [xrTo, map_getD hi, xr, map_getD hi]
  split
  · rfl
  · rw [getD_far r i (by omega)]; simp
theorem xrTo_succ (k : Nat) (s r : List Nat) (h : k < s.length) : (xrTo k s r).set k (s.getD k 0 ^^^ r.getD k 0) = xrTo (k + 1) s r := list_ext (by simp [xrTo_length]) fun i hi => by
  rw [List.length_set, xrTo_length] at hi
  by_cases hk : i = k
  · subst hk
    rw [xrTo, xrTo, map_getD hi, if_pos (by omega)]
    simp [List.getD_eq_getElem?_getD, hi]
  · rw [xrTo, xrTo, map_getD hi]
    have : ∀ (l : List Nat) (v : Nat), (l.set k v).getD i 0 = l.getD i 0 := fun l v => by simp [List.getD_eq_getElem?_getD, Ne.symm hk]
    rw [this, map_getD hi]
    by_cases h1 : i < k
    · rw [if_pos h1, if_pos (by omega)]
    · rw [if_neg h1, if_neg (by omega)]
theorem xrTo_at (k : Nat) (s r : List Nat) (h : k < s.length) : (xrTo k s r).getD k 0 = s.getD k 0 := by
  rw [xrTo, map_getD h]; simp
theorem xr_lt (s r : List Nat) (hs : ∀ x ∈ s, x < 256) (hr : ∀ x ∈ r, x < 256) : ∀ x ∈ xr s r, x < 256 := fun x hx => by
  obtain ⟨i, _, rfl⟩ := List.mem_map.1 hx
  exact FM.xor_lt (getD_lt _ hs _) (getD_lt _ hr _)
theorem xr_take (s r : List Nat) (n : Nat) (h : s.length ≤ n) : xr s (r.take n) = xr s r := list_ext (by simp [xr_length]) fun i hi => by
  rw [xr_length] at hi
  rw [xr, xr, map_getD hi, map_getD hi]
  congr 1
  simp [List.getD_eq_getElem?_getD, show i < n by omega]
def zeros (n : Nat) : List Nat := List.replicate n 0
/-- The sum of rows, of n places. -/
def sum (n : Nat) (l : List (List Nat)) : List Nat := l.foldl xr (zeros n)
theorem fold_length (f : List Nat → List Nat) (l : List (List Nat)) (s : List Nat) : (l.foldl (fun s r => xr s (f r)) s).length = s.length := by
  induction l generalizing s with
  | nil => rfl
  | cons r l ih => rw [List.foldl_cons, ih, xr_length]
theorem sum_length (n : Nat) (l : List (List Nat)) : (sum n l).length = n := by
  have := fold_length id l (zeros n)
  simpa [sum, zeros] using this
theorem sum_snoc (n : Nat) (l : List (List Nat)) (k : Nat) (h : k < l.length) : sum n (l.take (k + 1)) = xr (sum n (l.take k)) (l.getD k []) := by
  rw [List.take_succ_eq_append_getElem h, sum, List.foldl_append]
  simp [sum, h]
def scale (c : Nat) (r : List Nat) : List Nat := r.map (FM.tm c)
theorem scale_length (c : Nat) (r : List Nat) : (scale c r).length = r.length := by simp [scale]
theorem scale_getD (c : Nat) (r : List Nat) (i : Nat) : (scale c r).getD i 0 = FM.tm c (r.getD i 0) := by
  by_cases h : i < r.length
  · simp [scale, List.getD_eq_getElem?_getD, h]
  · rw [getD_far _ i (by rw [scale_length]; omega), getD_far r i (by omega), FM.tm_zero_right]
theorem scale_lt (c : Nat) (r : List Nat) (hc : c < 256) : ∀ x ∈ scale c r, x < 256 := fun x hx => by
  obtain ⟨y, _, rfl⟩ := List.mem_map.1 hx
  exact FM.tm_lt c y hc
/-- The mixture of the first k rows. -/
def mixTo (n k : Nat) (c : List Nat) (l : List (List Nat)) : List Nat := (List.range k).foldl (fun s i => xr s (scale (c.getD i 0) (l.getD i []))) (zeros n)
def mix (n : Nat) (c : List Nat) (l : List (List Nat)) : List Nat := mixTo n (min c.length l.length) c l
theorem mixTo_succ (n k : Nat) (c : List Nat) (l : List (List Nat)) : mixTo n (k + 1) c l = xr (mixTo n k c l) (scale (c.getD k 0) (l.getD k [])) := by
  simp [mixTo, List.range_succ]
theorem mixTo_length (n k : Nat) (c : List Nat) (l : List (List Nat)) : (mixTo n k c l).length = n := by
  induction k with
  | zero => simp [mixTo, zeros]
  | succ k ih => rw [mixTo_succ, xr_length, ih]
theorem scale_take (c : Nat) (r : List Nat) (n : Nat) : scale c (r.take n) = (scale c r).take n := by simp [scale, List.map_take]
theorem zeros_length (n : Nat) : (zeros n).length = n := by simp [zeros]
theorem zeros_getD (n i : Nat) : (zeros n).getD i 0 = 0 := by
  by_cases h : i < n
  · simp [zeros, List.getD_eq_getElem?_getD, h]
  · exact getD_far _ i (by rw [zeros_length]; omega)
theorem xr_zeros (r : List Nat) : xr (zeros r.length) r = r := list_ext (by rw [xr_length, zeros_length]) fun i hi => by
  rw [xr_length] at hi
  rw [xr, map_getD hi, zeros_getD]; simp
theorem xr_at (s r : List Nat) (i : Nat) (h : i < s.length) : (xr s r).getD i 0 = s.getD i 0 ^^^ r.getD i 0 := by rw [xr, map_getD h]
theorem fold_at (l : List (List Nat)) (s : List Nat) (i : Nat) (h : i < s.length) : (l.foldl xr s).getD i 0 = l.foldl (fun x r => x ^^^ r.getD i 0) (s.getD i 0) := by
  induction l generalizing s with
  | nil => rfl
  | cons r l ih => rw [List.foldl_cons, List.foldl_cons, ih _ (by rw [xr_length]; exact h), xr_at s r i h]
theorem sum_at (n : Nat) (l : List (List Nat)) (i : Nat) (h : i < n) : (sum n l).getD i 0 = l.foldl (fun x r => x ^^^ r.getD i 0) 0 := by
  rw [sum, fold_at l _ i (by rw [zeros_length]; exact h), zeros_getD]
end RM
end Go.Proofs.YtpfmmfapdcbnkaaDoor
