/- In one text: RecMath, Append, Ints, Marks, RecCur, RecReader, GrowR, RecTaken, Prm, PrmAt, SplNum, SplK, RecRight, RecWire, RecBytes, RecRead, GrowB, RecRefRead, RecIs. -/
import Derived.Laws.AppendOwn
import Derived.Deep.AppendSrc
import Derived.Deep.OwnRows
import Derived.Laws.MakeOwn
import Derived.Lib.Hide
import Derived.Handy
import Derived.Test.YtpfmmfapdcbnkaaDoorRows
import Derived.WalkKit
import Derived.IntWalk
import Derived.Laws.BitsLemmas
import Derived.Maps.Range
import Derived.Maps.AppendAt
import Derived.Deep.DeepCutAuto
import Derived.Laws.BytesArg
import Derived.Laws.StructEq
import Derived.Test.YtpfmmfapdcbnkaaDoorMA1
namespace Go.Proofs.YtpfmmfapdcbnkaaDoor
set_option maxRecDepth 20000
set_option linter.unusedVariables false
namespace KM
/-- A number as so many bytes, the highest first. -/
def nb : Nat → Nat → List Nat
  | 0, _ => []
  | W + 1, n => n / 256 ^ W % 256 :: nb W n
theorem nb_length : ∀ (W n : Nat), (nb W n).length = W
  | 0, _ => rfl
  | W + 1, n => by simp [nb, nb_length W n]
/-- The number that bytes tell. -/
def num (xs : List Nat) : Nat := xs.foldl (fun n x => n * 256 + x) 0
theorem num_from (xs : List Nat) : ∀ (a : Nat), xs.foldl (fun n x => n * 256 + x) a = a * 256 ^ xs.length + num xs := by
  induction xs with
  | nil => intro a; simp [num]
  | cons x xs ih =>
    intro a
    have h1 := ih (a * 256 + x)
    have h2 := ih (0 * 256 + x)
    show xs.foldl _ (a * 256 + x) = a * 256 ^ (xs.length + 1) + xs.foldl _ (0 * 256 + x)
    rw [h1, h2, Nat.pow_succ, Nat.zero_mul, Nat.zero_add, Nat.add_mul, Nat.mul_assoc, Nat.mul_comm 256 (256 ^ xs.length), Nat.add_assoc]
theorem num_cons (x : Nat) (xs : List Nat) : num (x :: xs) = x * 256 ^ xs.length + num xs := by
  have := num_from xs (0 * 256 + x)
  rw [Nat.zero_mul, Nat.zero_add] at this
  show xs.foldl _ (0 * 256 + x) = _
  rw [Nat.zero_mul, Nat.zero_add]; exact this
theorem num_lt : ∀ (xs : List Nat), (∀ x ∈ xs, x < 256) → num xs < 256 ^ xs.length
  | [], _ => by decide
  | x :: xs, h => by
    have h1 := num_lt xs fun y hy => h y (List.mem_cons_of_mem _ hy)
    have h2 := h x List.mem_cons_self
    rw [num_cons, List.length_cons, Nat.pow_succ]
    have h3 : (x + 1) * 256 ^ xs.length ≤ 256 * 256 ^ xs.length := Nat.mul_le_mul_right _ h2
    rw [Nat.add_mul, Nat.one_mul] at h3
    rw [Nat.mul_comm (256 ^ xs.length) 256]
    omega
theorem num_nb_mod : ∀ (W n : Nat), num (nb W n) = n % 256 ^ W
  | 0, n => by simp [nb, num, Nat.mod_one]
  | W + 1, n => by
    rw [show nb (W + 1) n = n / 256 ^ W % 256 :: nb W n from rfl, num_cons, nb_length, num_nb_mod W n, Nat.mod_pow_succ, Nat.mul_comm (256 ^ W)]
    omega
theorem num_nb (W n : Nat) (h : n < 256 ^ W) : num (nb W n) = n := by rw [num_nb_mod, Nat.mod_eq_of_lt h]
/-- Taking a number of so many bytes: what it is, what is left, and whether there was too little. -/
def gn (W : Nat) (s : List Nat × Bool) : Nat := if s.2 = true ∨ s.1.length < W then 0 else num (s.1.take W)
def gs (W : Nat) (s : List Nat × Bool) : List Nat × Bool := if s.2 = true ∨ s.1.length < W then (s.1, true) else (s.1.drop W, false)
theorem gs_lt {W : Nat} {s : List Nat × Bool} (h : ∀ x ∈ s.1, x < 256) : ∀ x ∈ (gs W s).1, x < 256 := by
  unfold gs
  split
  · exact h
  · exact fun x hx => h x (List.mem_of_mem_drop hx)
theorem gs_some {W n : Nat} {ys : List Nat} (h : n < 256 ^ W) : gn W (nb W n ++ ys, false) = n ∧ gs W (nb W n ++ ys, false) = (ys, false) := by
  have hl := nb_length W n
  have c : ¬ ((nb W n ++ ys, false).2 = true ∨ (nb W n ++ ys, false).1.length < W) := by simp [hl]
  unfold gn gs
  rw [if_neg c, if_neg c]
  simp only
  rw [List.take_append_of_le_length (by omega), List.take_of_length_le (by omega), num_nb W n h, List.drop_append_of_le_length (by omega), List.drop_of_length_le (by omega)]
  exact ⟨rfl, rfl⟩
/-- A record that may be. -/
def Right (r : Rc) : Prop := (0 ≤ r.p ∧ r.p ≤ 2147483647) ∧ (1 ≤ r.n ∧ r.n ≤ 2147483647) ∧ (0 ≤ r.u ∧ r.u ≤ 2147483647) ∧
  (r.g = true → ((r.b = 0 ∧ r.s = 0 ∧ r.m = 0) ∧ r.k = 0) ∧ r.e = 0 ∧ r.d = []) ∧
  (r.g = false → (CM.Right r.b r.s r.m ∧ 0 ≤ r.k ∧ r.k < CM.bl r.b.toNat r.s.toNat r.m.toNat) ∧ (0 ≤ r.e ∧ r.e ≤ 16777215) ∧ (r.d.length : Int) = r.s)
/-- Its bytes. -/
def head (r : Rc) : List Nat := nb 1 (if r.g then 1 else 0) ++ (nb 4 r.p.toNat ++ (nb 4 r.n.toNat ++ nb 4 r.u.toNat))
def body (r : Rc) : List Nat := nb 2 r.b.toNat ++ (nb 2 r.s.toNat ++ (nb 2 r.m.toNat ++ (nb 2 r.k.toNat ++ nb 3 r.e.toNat)))
def bytes (r : Rc) : List Nat := if r.g then head r else head r ++ (body r ++ r.d)
theorem head_length (r : Rc) : (head r).length = 13 := by simp [head, nb_length]
theorem body_length (r : Rc) : (body r).length = 11 := by simp [body, nb_length]
/-- What bytes spell out: the record, its first byte, whether there was too little. -/
def tk (xs : List Nat) : Rc × Nat × Bool :=
  let s0 : List Nat × Bool := (xs, false)
  let s1 := gs 1 s0
  let s2 := gs 4 s1
  let s3 := gs 4 s2
  let s4 := gs 4 s3
  if gn 1 s0 = 1 then (⟨gn 4 s1, gn 4 s2, 0, 0, 0, 0, 0, true, gn 4 s3, s4.1⟩, 1, s4.2)
  else
    let s5 := gs 2 s4
    let s6 := gs 2 s5
    let s7 := gs 2 s6
    let s8 := gs 2 s7
    let s9 := gs 3 s8
    (⟨gn 4 s1, gn 4 s2, gn 2 s4, gn 2 s5, gn 2 s6, gn 2 s7, gn 3 s8, false, gn 4 s3, s9.1⟩, gn 1 s0, s9.2)
theorem right_bounds {r : Rc} (h : Right r) : r.p.toNat < 256 ^ 4 ∧ r.n.toNat < 256 ^ 4 ∧ r.u.toNat < 256 ^ 4 ∧ (r.g = false → r.b.toNat < 256 ^ 2 ∧ r.s.toNat < 256 ^ 2 ∧ r.m.toNat < 256 ^ 2 ∧ r.k.toNat < 256 ^ 2 ∧ r.e.toNat < 256 ^ 3) := by
  obtain ⟨h1, h2, h3, h4, h5⟩ := h
  refine ⟨by omega, by omega, by omega, fun hg => ?_⟩
  obtain ⟨⟨hr, h6, h7⟩, h8, h9⟩ := h5 hg
  obtain ⟨b1, b2, b3, b4, b5, b6⟩ := hr
  have h10 := CM.bl_le r.b.toNat r.s.toNat r.m.toNat
  have h11 := CM.sy_le r.b.toNat r.s.toNat (by omega)
  refine ⟨by omega, by omega, by omega, by omega, by omega⟩
/-- The bytes of a right record, and what stands behind, are taken apart. -/
theorem tk_bytes {r : Rc} (h : Right r) : tk (bytes r) = (r, (if r.g then 1 else 0), false) := by
  obtain ⟨hp, hn, hu, hrest⟩ := right_bounds h
  obtain ⟨h1, h2, h3, h4, h5⟩ := h
  obtain ⟨p, n, b, s, m, k, e, g, u, d⟩ := r
  cases g with
  | true =>
    have e1 : ∀ ys, gn 1 (nb 1 1 ++ ys, false) = 1 ∧ gs 1 (nb 1 1 ++ ys, false) = (ys, false) := fun ys => gs_some (by decide)
    obtain ⟨⟨⟨c1, c2, c3⟩, c4⟩, c5, c6⟩ := h4 rfl
    simp only at *
    subst c1; subst c2; subst c3; subst c4; subst c5; subst c6
    have hb : bytes ⟨p, n, 0, 0, 0, 0, 0, true, u, []⟩ = nb 1 1 ++ (nb 4 p.toNat ++ (nb 4 n.toNat ++ (nb 4 u.toNat ++ []))) := by simp [bytes, head]
    rw [hb]
    unfold tk
    simp only [(e1 _).1, (e1 _).2, (gs_some hp).1, (gs_some hp).2, (gs_some hn).1, (gs_some hn).2, (gs_some hu).1, (gs_some hu).2, if_true]
    simp only [Prod.mk.injEq, Rc.mk.injEq, and_true, true_and]
    omega
  | false =>
    have e1 : ∀ ys, gn 1 (nb 1 0 ++ ys, false) = 0 ∧ gs 1 (nb 1 0 ++ ys, false) = (ys, false) := fun ys => gs_some (by decide)
    obtain ⟨kb, ks, km, kk, ke⟩ := hrest rfl
    obtain ⟨⟨hr, h6, h7⟩, h8, h9⟩ := h5 rfl
    obtain ⟨b1, b2, b3, b4, b5, b6⟩ := hr
    simp only at *
    have hb : bytes ⟨p, n, b, s, m, k, e, false, u, d⟩ = nb 1 0 ++ (nb 4 p.toNat ++ (nb 4 n.toNat ++ (nb 4 u.toNat ++ (nb 2 b.toNat ++ (nb 2 s.toNat ++ (nb 2 m.toNat ++ (nb 2 k.toNat ++ (nb 3 e.toNat ++ d)))))))) := by simp [bytes, head, body]
    rw [hb]
    unfold tk
    simp only [(e1 _).1, (e1 _).2, (gs_some hp).1, (gs_some hp).2, (gs_some hn).1, (gs_some hn).2, (gs_some hu).1, (gs_some hu).2, (gs_some kb).1, (gs_some kb).2, (gs_some ks).1, (gs_some ks).2, (gs_some km).1, (gs_some km).2, (gs_some kk).1, (gs_some kk).2, (gs_some ke).1, (gs_some ke).2, Nat.zero_ne_one, if_false, Bool.false_eq_true]
    simp only [Prod.mk.injEq, Rc.mk.injEq, and_true, true_and]
    omega
end KM
end Go.Proofs.YtpfmmfapdcbnkaaDoor
namespace Go.Proofs.YtpfmmfapdcbnkaaDoor
set_option maxRecDepth 20000
open Go.RowKit Go.Deep
section
variable {P : Program} (w : World)
theorem run_append_own_src (base : Nat) (t tx ty e : TypeId) (i : TypeInfo) (z : Value) (size bytes : Nat) (ht : P.underlying t = some (.slice e)) (hi : P.info? e = some i) (hz : i.zero = some z)
    (hsize : i.size = size) (hby : i.bytes = bytes) (hzs : z.cells.size = size)
    (v : Value) (n : Nat) (xs : List Value) (hown : w.ownsRow base e size v n xs) (x : Value) (m : Nat) (news : List Value) (hs : Src P size tx x m news w)
    (h63 : n + m ≤ maxLen) (hbytes : (n + m) * bytes ≤ 140737488355328) (hbase : base ≤ w.heap.size) :
    ∃ v' w', (Builtin.append_ #[t, tx] ty #[v, x]).run P w = .ok v' w' ∧ w'.ownsRow base e size v' (n + m) (xs ++ news) ∧ w.grownBy w' v.ownBlock ∧
      (v' = .slice none 0 0 ↔ v = .slice none 0 0 ∧ m = 0) := by
  subst hsize
  subst hby
  have hsmall : n + m ≤ 9223372036854775807 := by simp only [maxLen] at h63; omega
  have hl := hs.newsLen
  have hlen : (xs ++ news).length = (n + m) * i.size := by rw [List.length_append, hown.1, hl, Nat.add_mul]
  have grown : ∀ (old : Nat), old < n + m → ∀ (row : Option Nat),
      (w.drew.alloc (.cells ((xs ++ news).toArray ++ Builtin.zeroCells z.cells (grownCap w (n + m) old e - (n + m))) e)).ownsRow base e i.size
        (.slice (some ⟨w.heap.size, 0, none⟩) (n + m) (grownCap w (n + m) old e)) (n + m) (xs ++ news) ∧
      w.grownBy (w.drew.alloc (.cells ((xs ++ news).toArray ++ Builtin.zeroCells z.cells (grownCap w (n + m) old e - (n + m))) e)) row := by
    intro old ho row
    have hge := grownCap_ge w (n + m) old e
    have hcm : grownCap w (n + m) old e ≤ maxLen := grownCap_le_maxLen w (n + m) old e h63
    refine ⟨⟨hlen, .inr ⟨w.heap.size, _, _, rfl, hbase, heap_alloc_new w.drew _, hge, hcm, ?_, ?_⟩⟩, ⟨rfl, rfl, rfl, by simp, fun k hk _ => Below.heap_alloc w.drew _ k hk⟩⟩
    · simp only [Array.size_append, List.size_toArray, size_zeroCells, hzs, hlen, ← Nat.add_mul]
      congr 1
      omega
    · simp only [Array.toList_append]
      rw [← hlen]
      exact List.take_left
  rcases hown.2 with ⟨rfl, rfl⟩ | ⟨g, cap, cur, rfl, hbg, hg, hnc, hcm, hcs, htake⟩
  · have hx : xs = [] := List.eq_nil_of_length_eq_zero (by simpa using hown.1)
    subst hx
    by_cases hm : m = 0
    · subst hm
      have hn : news = [] := List.eq_nil_of_length_eq_zero (by simpa using hl)
      subst hn
      refine ⟨.slice none 0 0, w, ?_, World.ownsRow_nil w base e i.size, ⟨rfl, rfl, rfl, Nat.le_refl _, fun _ _ _ => rfl⟩, by simp⟩
      rcases hs.kind with ⟨e', hk⟩ | hk <;> simp [Builtin.append_, run_underlying ht, run_underlying hk, sizeOf, typeInfo, hi, hs.len, hs.cells]
    · have hr := run_append_grow_src (P := P) w t tx ty e i z ht hi hz none 0 0 [] (by simp [Builtin.firstCells]) x m news hs (by omega) (by omega) (growslice_fits (by omega) (by have hb := hbytes; simp only [Nat.zero_add] at hb ⊢; exact hb))
      have hgr := grown 0 (by omega) (Value.ownBlock (.slice none 0 0))
      simp only [Nat.zero_add, List.nil_append] at hgr hr ⊢
      exact ⟨_, _, hr, hgr.1, hgr.2, by simp [hm]⟩
  · by_cases hroom : n + m ≤ cap
    · have hfit : n * i.size + news.length ≤ cur.size := by rw [hl, hcs, ← Nat.add_mul]; exact Nat.mul_le_mul_right _ hroom
      have hst := run_storeCells_at P g (n * i.size) e news 0 cur w hg (by simpa using hfit) hs.one
      simp only [Nat.add_zero] at hst
      have hr : (Builtin.append_ #[t, tx] ty #[.slice (some ⟨g, 0, none⟩) n cap, x]).run P w =
          .ok (.slice (some ⟨g, 0, none⟩) (n + m) cap) (w.setRow g (cur.toList.take (n * i.size) ++ news ++ cur.toList.drop (n * i.size + news.length)).toArray) := by
        rcases hs.kind with ⟨e', hk⟩ | hk <;> simp [Builtin.append_, run_underlying ht, run_underlying hk, sizeOf, typeInfo, hi, hs.len, hroom, hs.cells, Addr.add_lit, hst]
      refine ⟨_, _, hr, ⟨hlen, .inr ⟨g, cap, _, rfl, hbg, setRow_heap w g cur _ e _ hg, hroom, hcm, ?_, ?_⟩⟩, ⟨rfl, rfl, rfl, by simp, fun k _ hk => setRow_other w g k _ (fun e => hk (by simp [Value.ownBlock, e]))⟩, by simp⟩
      · simp only [List.size_toArray, List.length_append, List.length_take, List.length_drop, Array.length_toList]
        omega
      · rw [htake, ← hlen]
        exact List.take_left
    · have holds : ∀ j u, xs[j]? = some u → w.cell? ((⟨g, 0, none⟩ : Addr).add j) = some u := hown.cells (g := g) rfl
      have hold := run_firstCells_some (P := P) w.drew i.size n ⟨g, 0, none⟩ n cap xs hown.1 (by simpa using holds)
      have hr := run_append_grow_src (P := P) w t tx ty e i z ht hi hz (some ⟨g, 0, none⟩) n cap xs hold x m news hs (by omega) (by omega) (growslice_fits (by omega) hbytes)
      have hgr := grown cap (by omega) (Value.ownBlock (.slice (some ⟨g, 0, none⟩) n cap))
      exact ⟨_, _, hr, hgr.1, hgr.2, by simp⟩
theorem wp_append_own_src {o : Oper} {a : Act} {K : Act → World → Prop} {Q : Exit → Act → World → Prop} (s x : Operand) (t tx : TypeId)
    (ho : o.op = .call { callee := .builtin .append, args := #[s, x], argTypes := #[t, tx] })
    (base : Nat) (e : TypeId) (i : TypeInfo) (z : Value) (size bytes : Nat) (ht : P.underlying t = some (.slice e)) (hi : P.info? e = some i) (hz : i.zero = some z)
    (hsize : i.size = size) (hby : i.bytes = bytes) (hzs : z.cells.size = size)
    (v : Value) (n : Nat) (xs : List Value) (hs : a.eval s = v) (hown : w.ownsRow base e size v n xs) (y : Value) (m : Nat) (news : List Value) (hx : a.eval x = y) (hsrc : Src P size tx y m news w)
    (h63 : n + m ≤ maxLen) (hbytes : (n + m) * bytes ≤ 140737488355328) (hbase : base ≤ w.heap.size)
    (h : ∀ v' w', w'.ownsRow base e size v' (n + m) (xs ++ news) → w.grownBy w' v.ownBlock → (v' = .slice none 0 0 ↔ v = .slice none 0 0 ∧ m = 0) → K (a.put o.dst v') w') : o.wp P a w K Q := by
  obtain ⟨v', w', hr, h2, h3, h4⟩ := run_append_own_src (P := P) w base t tx o.type e i z size bytes ht hi hz hsize hby hzs v n xs hown y m news hsrc h63 hbytes hbase
  unfold Oper.wp execOp
  simp only [ho, resolve, invoke, builtin, Sem.run_bind, Sem.run_pure, Result.andThen_ok, List.map_toArray, List.map_cons, List.map_nil, hs, hx, hr]
  exact h v' w' h2 h3 h4
theorem wpList_append_own_src {ops : Array Oper} {rest : List Oper} {o : Oper} {a : Act} {Q : Exit → Act → World → Prop} (hgd : o.guard = none) (s x : Operand) (t tx : TypeId)
    (ho : o.op = .call { callee := .builtin .append, args := #[s, x], argTypes := #[t, tx] })
    (base : Nat) (e : TypeId) (i : TypeInfo) (z : Value) (size bytes : Nat) (ht : P.underlying t = some (.slice e)) (hi : P.info? e = some i) (hz : i.zero = some z)
    (hsize : i.size = size) (hby : i.bytes = bytes) (hzs : z.cells.size = size)
    (v : Value) (n : Nat) (xs : List Value) (hs : a.eval s = v) (hown : w.ownsRow base e size v n xs) (y : Value) (m : Nat) (news : List Value) (hx : a.eval x = y) (hsrc : Src P size tx y m news w)
    (h63 : n + m ≤ maxLen) (hbytes : (n + m) * bytes ≤ 140737488355328) (hbase : base ≤ w.heap.size)
    (h : ∀ v' w', w'.ownsRow base e size v' (n + m) (xs ++ news) → w.grownBy w' v.ownBlock → (v' = .slice none 0 0 ↔ v = .slice none 0 0 ∧ m = 0) → wpList P ops Q rest (a.put o.dst v') w') : wpList P ops Q (o :: rest) a w :=
  wpList_plain hgd fun _ hK => wp_append_own_src w s x t tx ho base e i z size bytes ht hi hz hsize hby hzs v n xs hs hown y m news hx hsrc h63 hbytes hbase fun v' w' h2 h3 h4 => hK _ _ (h v' w' h2 h3 h4)
end
/-- Bytes as values. -/
def u8vs (xs : List Nat) : List Value := xs.map fun (x : Nat) => Value.int .u8 (x : Int)
theorem u8vs_length (xs : List Nat) : (u8vs xs).length = xs.length := by simp [u8vs]
theorem u8vs_at (xs : List Nat) (j : Nat) (u : Value) (h : (u8vs xs)[j]? = some u) : j < xs.length ∧ u = .int .u8 (xs.getD j 0 : Nat) := by
  have hj : j < xs.length := by
    rcases Nat.lt_or_ge j xs.length with h' | h'
    · exact h'
    · rw [List.getElem?_eq_none (by rw [u8vs_length]; exact h')] at h; cases h
  refine ⟨hj, ?_⟩
  simp [u8vs, hj] at h
  simp [hj, ← h]
/-- A slice of bytes as a source of append. -/
theorem U8s.src {P : Program} {w : World} {v : Value} {xs : List Nat} (h : U8s w v xs) {tx e' : TypeId} (hk : P.underlying tx = some (.slice e')) : Src P 1 tx v xs.length (u8vs xs) w := by
  obtain ⟨a, cap, rfl, _, _⟩ := h.slice
  by_cases h0 : xs.length = 0
  · have : xs = [] := List.eq_nil_of_length_eq_zero h0
    subst this
    cases a with
    | none => exact Src.ofNil w hk cap
    | some a => exact Src.ofSlice w hk a 0 cap [] rfl (by simp) (by simp)
  · obtain ⟨b, off, rfl, _, hc⟩ := h.cell.2 (by omega)
    refine Src.ofSlice w hk ⟨b, off, none⟩ xs.length cap (u8vs xs) (by rw [u8vs_length, Nat.mul_one]) (fun j u hu => ?_) (fun u hu => ?_)
    · obtain ⟨hj, rfl⟩ := u8vs_at xs j u hu
      rw [Addr.add_mid]; exact hc j hj
    · obtain ⟨x, _, rfl⟩ := List.mem_map.1 hu; rfl
/-- A slice of bytes that the call has appended together. -/
theorem owns_u8s {w : World} {base : Nat} {T : TypeId} {v : Value} {n : Nat} {xs : List Nat} (h : w.ownsRow base T 1 v n (u8vs xs)) (hlt : ∀ x ∈ xs, x < 256) : U8s w v xs := by
  have hn : xs.length = n := by have := h.1; rw [u8vs_length, Nat.mul_one] at this; exact this
  rcases h.2 with ⟨rfl, rfl⟩ | ⟨g, cap, cur, rfl, hbg, hg, hnc, hcm, hcs, htake⟩
  · exact .inl ⟨List.eq_nil_of_length_eq_zero hn, none, 0, rfl, Nat.zero_le _⟩
  · refine .inr ⟨g, 0, cap, by rw [hn], by omega, hcm, ?_, fun k hk => ?_, hlt⟩
    · exact (Array.getElem?_eq_some_iff.1 hg).1
    · have := h.cells (g := g) rfl k (.int .u8 (xs.getD k 0 : Nat)) (by simp [u8vs, hk])
      rw [Addr.add_mid] at this
      exact this
/-- The literal of one value that append(s, u) makes. -/
theorem src_one {P : Program} {W : World} {T tx e' : TypeId} {u : Value} (hk : P.underlying tx = some (.slice e')) (s c : Nat) (hs : s = W.heap.size) (h1 : u.oneCell' = true) :
    Src P 1 tx (.slice (some ⟨s, 0, none⟩) 1 c) 1 [u] (W.alloc (.cells #[u] T)) := by
  subst hs
  refine Src.ofSlice _ hk ⟨W.heap.size, 0, none⟩ 1 c [u] rfl (fun j u' hu => ?_) (fun u' hu => ?_)
  · have hj : j = 0 := by
      rcases Nat.eq_zero_or_pos j with h | h
      · exact h
      · rw [List.getElem?_eq_none (by simp; omega)] at hu; cases hu
    subst hj
    simp at hu
    subst hu
    rw [Addr.add_mid]
    simp
  · simp at hu; subst hu; exact h1
theorem owns_slice {w : World} {B : Nat} {e : TypeId} {s : Nat} {v : Value} {n : Nat} {xs : List Value} (h : w.ownsRow B e s v n xs) : ∃ a cap, v = .slice a n cap := by
  rcases h.2 with ⟨rfl, rfl⟩ | ⟨g, cap, cur, rfl, _⟩
  · exact ⟨none, 0, rfl⟩
  · exact ⟨_, cap, rfl⟩
end Go.Proofs.YtpfmmfapdcbnkaaDoor
namespace Go.Proofs.YtpfmmfapdcbnkaaDoor
set_option maxRecDepth 20000
open Go.RowKit
/-- Ints as values. -/
def i64vs (xs : List Int) : List Value := xs.map fun (x : Int) => Value.int .i64 x
theorem i64vs_length (xs : List Int) : (i64vs xs).length = xs.length := by simp [i64vs]
theorem i64vs_snoc (xs : List Int) (x : Int) : i64vs (xs ++ [x]) = i64vs xs ++ [.int .i64 x] := by simp [i64vs]
/-- v is a slice of the ints xs in w: empty; or its cells hold them. -/
def Ints (w : World) (v : Value) (xs : List Int) : Prop :=
  (xs = [] ∧ ∃ a cap, v = .slice a 0 cap ∧ cap ≤ maxLen) ∨
  ∃ b off cap, v = .slice (some ⟨b, off, none⟩) xs.length cap ∧ xs.length ≤ cap ∧ cap ≤ maxLen ∧ b < w.heap.size ∧ ∀ k, k < xs.length → w.cell? ⟨b, off + k, none⟩ = some (.int .i64 (xs.getD k 0))
theorem Ints.ext {w w' : World} {v : Value} {xs : List Int} (h : Ints w v xs) (hb : w.Extends w') : Ints w' v xs := by
  rcases h with h | ⟨b, off, cap, h1, h2, h2', h3, h4⟩
  · exact .inl h
  · exact .inr ⟨b, off, cap, h1, h2, h2', Nat.lt_of_lt_of_le h3 hb.size, fun k hk => (hb.cell ⟨b, off + k, none⟩ h3).trans (h4 k hk)⟩
theorem Ints.slice {w : World} {v : Value} {xs : List Int} (h : Ints w v xs) : ∃ a cap, v = .slice a xs.length cap ∧ xs.length ≤ cap ∧ cap ≤ maxLen := by
  rcases h with ⟨rfl, a, cap, rfl, hm⟩ | ⟨b, off, cap, rfl, h1, h2, _⟩
  · exact ⟨a, cap, rfl, Nat.zero_le _, hm⟩
  · exact ⟨_, cap, rfl, h1, h2⟩
theorem Ints.len {w : World} {v : Value} {xs : List Int} (h : Ints w v xs) : xs.length ≤ maxLen := by
  obtain ⟨_, _, _, h1, h2⟩ := h.slice; exact Nat.le_trans h1 h2
theorem Ints.cell {w : World} {a : Option Addr} {n cap : Nat} {xs : List Int} (h : Ints w (.slice a n cap) xs) : n = xs.length ∧ (0 < n → ∃ b off, a = some ⟨b, off, none⟩ ∧ b < w.heap.size ∧ ∀ k, k < n → w.cell? ⟨b, off + k, none⟩ = some (.int .i64 (xs.getD k 0))) := by
  rcases h with ⟨rfl, a', cap', hv, _⟩ | ⟨b, off, cap', hv, h2, h2', h3, h4⟩
  · cases hv; exact ⟨rfl, fun h => absurd h (Nat.lt_irrefl _)⟩
  · cases hv; exact ⟨rfl, fun _ => ⟨b, off, rfl, h3, h4⟩⟩
/-- A slice of ints that the call has appended together. -/
theorem owns_ints {w : World} {base : Nat} {T : TypeId} {v : Value} {n : Nat} {xs : List Int} (h : w.ownsRow base T 1 v n (i64vs xs)) : Ints w v xs := by
  have hn : xs.length = n := by have := h.1; rw [i64vs_length, Nat.mul_one] at this; exact this
  rcases h.2 with ⟨rfl, rfl⟩ | ⟨g, cap, cur, rfl, hbg, hg, hnc, hcm, hcs, htake⟩
  · exact .inl ⟨List.eq_nil_of_length_eq_zero hn, none, 0, rfl, Nat.zero_le _⟩
  · refine .inr ⟨g, 0, cap, by rw [hn], by omega, hcm, ?_, fun k hk => ?_⟩
    · exact (Array.getElem?_eq_some_iff.1 hg).1
    · have := h.cells (g := g) rfl k (.int .i64 (xs.getD k 0)) (by simp [i64vs, hk])
      rw [Addr.add_mid] at this
      exact this
theorem owns_ext {w w' : World} {B : Nat} {e : TypeId} {s : Nat} {v : Value} {n : Nat} {xs : List Value} (h : w.ownsRow B e s v n xs) (hx : w.Extends w') : w'.ownsRow B e s v n xs :=
  h.kept (row := none) ⟨hx.os, hx.tape, hx.output, hx.size, fun i hi _ => hx.block i hi⟩ (by cases v.ownBlock <;> simp)
theorem owns_base {w : World} {B B' : Nat} {e : TypeId} {s : Nat} {v : Value} {n : Nat} {xs : List Value} (h : w.ownsRow B e s v n xs) (hb : B' ≤ B) : w.ownsRow B' e s v n xs :=
  by
  rcases h.2 with h' | ⟨g, cap, cur, h1, h2, h3⟩
  · exact ⟨h.1, .inl h'⟩
  · exact ⟨h.1, .inr ⟨g, cap, cur, h1, Nat.le_trans hb h2, h3⟩⟩
end Go.Proofs.YtpfmmfapdcbnkaaDoor
namespace Go.Proofs.YtpfmmfapdcbnkaaDoor
set_option maxRecDepth 20000
open Go.RowKit
/-- The answer is a row of the call's own of these bytes. -/
def MadeRow (w : World) (xs : List Nat) (e : Ending) (w' : World) : Prop := ∃ g, e = .returned (.slice (some ⟨g, 0, none⟩) xs.length xs.length) ∧ w.Extends w' ∧ w.heap.size ≤ g ∧ Own w' g 5 xs
theorem byteinfo : (Tryd.prog.info? 5).map (fun i => (i.zero, i.size, i.bytes)) = some (some (.int .u8 0), 1, 1) := by kernel_rfl
theorem mkRow (k : Nat) (hk : k ≤ 281474976710656) (w : World) : (Instr.makeSlice 67 (.int .i64 (k : Int)) (.int .i64 (k : Int))).run Tryd.prog w = .ok (.slice (some ⟨w.heap.size, 0, none⟩) k k) (w.alloc (.cells (madeCells #[.int .u8 0] k) 5)) :=
  run_make_row' (P := Tryd.prog) 67 5 (.int .u8 0) 1 Tryd.underlying67 byteinfo rfl .i64 .i64 k (by omega) (by omega) w
theorem mkBytes (k : Nat) (hk : k ≤ 281474976710656) (w : World) : (Instr.makeSlice 29 (.int .i64 (k : Int)) (.int .i64 (k : Int))).run Tryd.prog w = .ok (.slice (some ⟨w.heap.size, 0, none⟩) k k) (w.alloc (.cells (madeCells #[.int .u8 0] k) 5)) :=
  run_make_row' (P := Tryd.prog) 29 5 (.int .u8 0) 1 Tryd.underlying29 byteinfo rfl .i64 .i64 k (by omega) (by omega) w
end Go.Proofs.YtpfmmfapdcbnkaaDoor
namespace Go.Proofs.YtpfmmfapdcbnkaaDoor
set_option maxRecDepth 20000
open Go.RowKit Go.Deep
set_option linter.unusedVariables false
/-- No number of a byte in a block's cells: a slice of bytes does not lie there. -/
theorem U8s.beside {w w' : World} {v : Value} {xs : List Nat} {t : Nat} {cs : Array Value} {T : TypeId} {f : Nat × Nat} (h : U8s w v xs) (ht : w.heap[t]? = some (.cells cs T f)) (hc : ∀ y ∈ cs.toList, ∀ n, y ≠ .int .u8 n) (hg : w.grownBy w' (some t)) : U8s w' v xs := by
  rcases h with h | ⟨b, off, cap, h1, h2, h2', h3, h4, h5⟩
  · exact .inl h
  · by_cases h0 : xs.length = 0
    · exact .inl ⟨List.eq_nil_of_length_eq_zero h0, _, _, by rw [h1, h0], h2'⟩
    · have hb : b ≠ t := fun e => by
        subst e
        have := h4 0 (by omega)
        rw [cell_of_row _ _ _ _ _ _ ht] at this
        obtain ⟨hlt, hv⟩ := Array.getElem?_eq_some_iff.1 this
        exact hc _ (Array.getElem_mem_toList hlt) _ hv
      have hblk := hg.block b h3 (by simpa using hb)
      refine .inr ⟨b, off, cap, h1, h2, h2', Nat.lt_of_lt_of_le h3 hg.size, fun k hk => ?_, h5⟩
      rw [World.cell?_of_block (w := w) (w' := w') (a := ⟨b, off + k, none⟩) hblk]
      exact h4 k hk
/-- A cursor of this state lies at block t. -/
def CurAt (T : TypeId) (w : World) (t : Nat) (s : List Nat × Bool) : Prop := ∃ a c, w.heap[t]? = some (.cells #[.slice a s.1.length c, .bool s.2] T) ∧ U8s w (.slice a s.1.length c) s.1
theorem CurAt.lt {T : TypeId} {w : World} {t : Nat} {s : List Nat × Bool} (h : CurAt T w t s) : t < w.heap.size := by
  obtain ⟨a, c, h1, _⟩ := h
  exact (Array.getElem?_eq_some_iff.1 h1).1
theorem CurAt.ext {T : TypeId} {w w' : World} {t : Nat} {s : List Nat × Bool} (h : CurAt T w t s) (hx : w.Extends w') : CurAt T w' t s := by
  have hl := h.lt
  obtain ⟨a, c, h1, h2⟩ := h
  exact ⟨a, c, by rw [hx.block t hl]; exact h1, h2.ext hx⟩
theorem CurAt.new {T : TypeId} {w : World} {a : Option Addr} {c : Nat} {xs : List Nat} (h : U8s w (.slice a xs.length c) xs) : CurAt T (w.alloc (.cells #[.slice a xs.length c, .bool false] T)) w.heap.size (xs, false) :=
  ⟨a, c, heap_alloc_new _ _, h.ext (ext_alloc _ _)⟩
theorem cur_cells (a : Option Addr) (n c : Nat) (b : Bool) : ∀ y ∈ (#[Value.slice a n c, .bool b] : Array Value).toList, ∀ n, y ≠ .int .u8 n := by
  intro y hy n e
  subst e
  simp at hy
theorem grown_set (w : World) (t i : Nat) (v : Value) : w.grownBy (w.setCell ⟨t, i, none⟩ v) (some t) :=
  ⟨rfl, rfl, rfl, by simp, fun k _ hk => heap_setCell_other w _ k v (by simpa using hk)⟩
theorem CurAt.cells {T : TypeId} {w : World} {t : Nat} {s : List Nat × Bool} (h : CurAt T w t s) : ∃ a c, w.cell? ⟨t, 0, none⟩ = some (.slice a s.1.length c) ∧ w.cell? ⟨t, 1, none⟩ = some (.bool s.2) ∧ w.frozen? ⟨t, 0, none⟩ = false ∧ w.frozen? ⟨t, 1, none⟩ = false ∧ U8s w (.slice a s.1.length c) s.1 ∧
    w.heap[t]? = some (.cells #[.slice a s.1.length c, .bool s.2] T) := by
  obtain ⟨a, c, h1, h2⟩ := h
  exact ⟨a, c, by rw [cell_of_row _ _ _ _ _ _ h1]; rfl, by rw [cell_of_row _ _ _ _ _ _ h1]; rfl, frozen_of_row _ _ _ _ _ h1, frozen_of_row _ _ _ _ _ h1, h2, h1⟩
/-- What is left was set. -/
theorem CurAt.left {T : TypeId} {w : World} {t : Nat} {a a' : Option Addr} {n c n' c' : Nat} {b : Bool} {ys : List Nat} (h1 : w.heap[t]? = some (.cells #[.slice a n c, .bool b] T)) (hn : n' = ys.length) (hu : U8s w (.slice a' n' c') ys) :
    CurAt T (w.setCell ⟨t, 0, none⟩ (.slice a' n' c')) t (ys, b) := by
  subst hn
  refine ⟨a', c', ?_, hu.beside h1 (cur_cells _ _ _ _) (grown_set _ _ _ _)⟩
  rw [heap_setCell_same _ _ _ _ _ _ h1]; rfl
namespace KM
end KM
end Go.Proofs.YtpfmmfapdcbnkaaDoor
namespace Go.Proofs.YtpfmmfapdcbnkaaDoor
set_option maxRecDepth 20000
open Go.RowKit Go.Deep
set_option linter.unusedVariables false
/-- Taking a piece of so many bytes. -/
def KM.pc (n : Nat) (s : List Nat × Bool) : List Nat := if s.2 = true ∨ s.1.length < n then [] else s.1.take n
end Go.Proofs.YtpfmmfapdcbnkaaDoor
namespace Go.Proofs.YtpfmmfapdcbnkaaDoor
set_option maxRecDepth 20000
open Go.RowKit
namespace GrR
open Gr (AnyE check growB pick)
section
variable {P : Program} {ops : Array Oper} {Q : Exit → Act → World → Prop} {md : Region.Mode} {S : World → Prop}
def walk (B : Option Nat) (P : Program) (ops : Array Oper) (Q : Exit → Act → World → Prop) (tail : List Oper) : List (Bool × Oper) → Act → World → Prop
  | [], a, w => wpList P ops Q tail a w
  | (true, o) :: rest, a, w => if Region.wanted o (yielded ops a.tmps) = true then o.wp P a w (fun a' w' => w.grownBy w' B ∧ walk B P ops Q tail rest a' w') Q else walk B P ops Q tail rest (a.put o.dst undef) w
  | (false, o) :: rest, a, w => ∃ v, YieldsIf P ops (fun w' => w.grownBy w' B) o v a ∧ walk B P ops Q tail rest (a.put o.dst v) w
theorem walk_nil {B : Option Nat} {tail : List Oper} {a : Act} {w : World} (h : wpList P ops Q tail a w) : walk B P ops Q tail [] a w := h
/-- An operation that is taken. -/
theorem walk_t {B : Option Nat} {tail : List Oper} {rest : List (Bool × Oper)} {o : Oper} {a : Act} {w : World} (v : Value) (hy : YieldsIf P ops (fun w' => w.grownBy w' B) o v a) (h : walk B P ops Q tail rest (a.put o.dst v) w) :
    walk B P ops Q tail ((false, o) :: rest) a w := ⟨v, hy, h⟩
/-- An operation that is carried out. -/
theorem walk_c {B : Option Nat} {tail : List Oper} {rest : List (Bool × Oper)} {o : Oper} {a : Act} {w : World}
    (h : ∀ K : Act → World → Prop, Shut (∀ a' w', w.grownBy w' B → walk B P ops Q tail rest a' w' → K a' w') → if Region.wanted o (yielded ops a.tmps) = true then o.wp P a w K Q else K (a.put o.dst undef) w) :
    walk B P ops Q tail ((true, o) :: rest) a w := by
  have h0 := h (fun a' w' => w.grownBy w' B ∧ walk B P ops Q tail rest a' w') (fun _ _ h1 h2 => ⟨h1, h2⟩)
  unfold walk
  split
  · rename_i hw; rw [if_pos hw] at h0; exact h0
  · rename_i hw; rw [if_neg hw] at h0; exact h0.2

theorem walk_sound (B : Option Nat) {l : List Oper} {n : Nat} (hsel : Region.noSelect l.toArray = true) (hs : Region.sinkB md l.toArray n = true) (hc : Region.chainB md l.toArray n = true) (hn : n < l.toArray.size)
    (hQ : ∀ d v c a w, Q (.panic c) (Act.put a d v) w → Q (.panic c) a w) :
    ∀ (ord : List (Bool × Nat)) (listed : Array Bool) (a : Act) (w : World), HeadInv md l.toArray n listed → check md l.toArray n (l.toArray.size - n) ord listed = true →
      walk B P l.toArray Q (l.drop n) (pick l ord) a w →
      AnyE P md l.toArray Q n (fun listed' a' w' => Region.seqB md l.toArray (l.toArray.size - n) n listed' = true ∧ wpList P l.toArray Q (l.drop n) a' w') (fun w' => w.grownBy w' B) ord.length listed a w
  | [], listed, a, w, _, hB, h => ⟨hB, h⟩
  | (c, i) :: rest, listed, a, w, inv, hB, h => by
    simp only [check, Bool.and_eq_true, decide_eq_true_eq] at hB
    obtain ⟨⟨hin, hr⟩, hB'⟩ := hB
    have hil : i < l.length := by have : l.toArray.size = l.length := by simp
                                  omega
    have ho : l[i]? = some l[i] := List.getElem?_eq_getElem hil
    have hoa : l.toArray[i]? = some l[i] := by simp
    simp only [pick, ho] at h
    cases c with
    | true =>
      simp only [decide_eq_true_eq] at hr
      refine ⟨(by rw [hr]; simp), fun j hj => ?_⟩
      rw [hr] at hj
      obtain rfl : j = i := by simpa using hj
      refine ⟨hin, ?_⟩
      have hrm : j ∈ Region.ready md l.toArray listed := by rw [hr]; simp
      unfold walk at h
      unfold wpOp
      simp only [hoa]
      split
      · rename_i hw
        rw [if_pos hw] at h
        exact .inl (Oper.wp_mono (fun a' w' hk => ⟨hk.1, AnyE.weaken (fun u hu => grown_trans hk.1 hu) _ _ _ _ (walk_sound B hsel hs hc hn hQ rest _ a' w' (inv.set hrm hin) hB' hk.2)⟩) h)
      · rename_i hw
        rw [if_neg hw] at h
        exact ⟨grown_refl w B, walk_sound B hsel hs hc hn hQ rest _ _ w (inv.set hrm hin) hB' h⟩
    | false =>
      simp only [Bool.and_eq_true] at hr
      unfold walk at h
      obtain ⟨v, hy, hK⟩ := h
      have hrm : i ∈ Region.ready md l.toArray listed := by simpa using hr.1
      exact AnyE.first hoa (Region.noSelect_spec hsel) hs hc hn hin (fun c a w => hQ _ v c a w) (fun listed' a' w' hL => seqB_ready hL.1) rest.length listed a w inv (Region.free_spec hoa hr.2) hrm hy (grown_refl w B)
        (walk_sound B hsel hs hc hn hQ rest _ _ w (inv.set hrm hin) hB' hK)

theorem region (B : Option Nat) {id : Nat} {a : Act} {w : World} {l : List Oper} (n : Nat) (ord : List (Bool × Nat)) (hm : P.follows .mixedOrders = true) (hB : growB .any l.toArray n ord = true)
    (hQ : ∀ d v c a w, Q (.panic c) (Act.put a d v) w → Q (.panic c) a w)
    (h : walk B P l.toArray Q (l.drop n) (pick l ord) a w.drew) : (Code.region id l.toArray true).wp P Q a w := by
  simp only [growB, Bool.and_eq_true, decide_eq_true_eq] at hB
  obtain ⟨⟨⟨⟨⟨hsel, hn⟩, hs⟩, hc⟩, hlen⟩, hck⟩ := hB
  have hdl : (l.drop n).length = l.toArray.size - n := by simp
  have inv0 : HeadInv .any l.toArray n (Array.replicate l.toArray.size false) :=
    ⟨by simp, fun j oj _ hl => (by rw [getD_replicate_false] at hl; cases hl), fun t _ ht => getD_in (by simpa using ht) (getD_replicate_false _ _)⟩
  have H := walk_sound B (md := .any) hsel hs hc hn hQ ord _ a w.drew inv0 hck h
  refine wp_region_any hm ?_
  have := AnyE.any (Q := Q) (g := l.toArray.size - n) (fun listed a' w' hL => by
    have := wpAny_of_seq (md := .any) (Q' := Q) (l.drop n) n listed a' w' (fun j => by simp [List.getElem?_drop]) (by rw [hdl]; exact hL.1) hL.2
    rwa [hdl] at this) _ _ _ _ H
  rw [hlen] at this
  exact this
end
end GrR
end Go.Proofs.YtpfmmfapdcbnkaaDoor
namespace Go.Proofs.YtpfmmfapdcbnkaaDoor
set_option maxRecDepth 20000
open Go.RowKit Go.Deep
set_option linter.unusedVariables false
/-- A record's variable: these are its ten cells. -/
def R10 (w : World) (b : Nat) (l : List Value) : Prop := w.heap[b]? = some (.cells l.toArray 31)
theorem R10.cell {w : World} {b : Nat} {l : List Value} (h : R10 w b l) (i : Nat) (v : Value) (hv : l[i]? = some v) : w.cell? ⟨b, i, none⟩ = some v := by
  rw [cell_of_row _ _ _ _ _ _ h, List.getElem?_toArray]; exact hv
theorem R10.frozen {w : World} {b : Nat} {l : List Value} (h : R10 w b l) (i : Nat) : w.frozen? ⟨b, i, none⟩ = false := frozen_of_row _ _ _ _ _ h
theorem R10.set {w : World} {b : Nat} {l : List Value} (h : R10 w b l) (i : Nat) (v : Value) : R10 (w.setCell ⟨b, i, none⟩ v) b (l.set i v) := by
  unfold R10 at *
  rw [heap_setCell_same _ _ _ _ _ _ h, List.setIfInBounds_toArray]
theorem R10.kept {w w' : World} {b t : Nat} {l : List Value} (h : R10 w b l) (hg : w.grownBy w' (some t)) (hne : b ≠ t) : R10 w' b l := by
  unfold R10 at *
  rw [hg.block b (Array.getElem?_eq_some_iff.1 h).1 (by simpa using hne)]; exact h
theorem R10.ext {w w' : World} {b : Nat} {l : List Value} (h : R10 w b l) (hx : w.Extends w') : R10 w' b l := by
  unfold R10 at *
  rw [hx.block b (Array.getElem?_eq_some_iff.1 h).1]; exact h
theorem R10.lt {w : World} {b : Nat} {l : List Value} (h : R10 w b l) : b < w.heap.size := (Array.getElem?_eq_some_iff.1 h).1
end Go.Proofs.YtpfmmfapdcbnkaaDoor
namespace Go.Proofs.YtpfmmfapdcbnkaaDoor
set_option maxRecDepth 20000
open Go.RowKit
namespace PM
/-- How many low rows a block of k source symbols has. -/
def s (k : Nat) : Nat := 2 + k / 8
def w (k : Nat) : Nat := k + s k
def l (k : Nat) : Nat := w k + 2
theorem s_le (k : Nat) (h : k ≤ 40) : s k ≤ 7 := by unfold s; omega
theorem w_le (k : Nat) (h : k ≤ 40) : w k ≤ 47 := by have := s_le k h; unfold w; omega
theorem l_le (k : Nat) (h : k ≤ 40) : l k ≤ 49 := by have := w_le k h; unfold l; omega
end PM
/-- Params as a value. -/
abbrev PV (k s h : Int) : Value := .agg #[.int .i64 k, .int .i64 s, .int .i64 h]
theorem pret64 {a b : Int} (h : a = b) : Ending.returned (.int .i64 a) = .returned (.int .i64 b) := by rw [h]
theorem prm_ext_alloc (w : World) (o : Obj) : w.Extends (w.alloc o) := Gr.ext_of ((Below.refl _ _).alloc (Nat.le_refl _) _)
theorem prm_cells (w : World) (T : TypeId) (k s h : Int) : (w.alloc (.cells #[.int .i64 k, .int .i64 s, .int .i64 h] T)).cell? ⟨w.heap.size, 0, none⟩ = some (.int .i64 k) ∧
    (w.alloc (.cells #[.int .i64 k, .int .i64 s, .int .i64 h] T)).cell? ⟨w.heap.size, 1, none⟩ = some (.int .i64 s) ∧ (w.alloc (.cells #[.int .i64 k, .int .i64 s, .int .i64 h] T)).cell? ⟨w.heap.size, 2, none⟩ = some (.int .i64 h) := by
  have h0 := heap_alloc_new w (.cells #[.int .i64 k, .int .i64 s, .int .i64 h] T)
  exact ⟨by rw [cell_of_row _ _ _ _ _ _ h0]; rfl, by rw [cell_of_row _ _ _ _ _ _ h0]; rfl, by rw [cell_of_row _ _ _ _ _ _ h0]; rfl⟩
theorem prmOf_bad (k : Int) (w : World) (h : k < 1 ∨ 40 < k) :
    Calls Tryd.prog 26 #[.int .i64 k] w fun e w' => e = .returned (.tuple #[PV 0 0 0, .int .i64 1]) ∧ w.Extends w' := by
  go_enter Tryd.func26, Tryd.ntmps26
  go_wp2
  all_goals (go_returns; exact ⟨rfl, prm_ext_alloc _ _⟩)
theorem prmOf_good (k : Nat) (w : World) (h1 : 1 ≤ k) (h2 : k ≤ 40) :
    Calls Tryd.prog 26 #[.int .i64 k] w fun e w' => e = .returned (.tuple #[PV k (PM.s k) 2, .int .i64 0]) ∧ w.Extends w' := by
  go_enter Tryd.func26, Tryd.ntmps26
  go_wp2
  go_returns
  exact ⟨rfl, prm_ext_alloc _ _⟩
theorem prmW_any (k s h : Int) (w : World) (hb : -9223372036854775808 ≤ k + s ∧ k + s ≤ 9223372036854775807) :
    Calls Tryd.prog 56 #[PV k s h] w fun e w' => e = .returned (.int .i64 (k + s)) ∧ w.Extends w' := by
  go_enter Tryd.func56, Tryd.ntmps56
  go_wp2
  go_ret
  exact ⟨rfl, prm_ext_alloc _ _⟩
theorem prmL_any (k s h : Int) (w : World) (hb : -9223372036854775808 ≤ k + s ∧ k + s ≤ 9223372036854775807) (hb2 : -9223372036854775808 ≤ k + s + h ∧ k + s + h ≤ 9223372036854775807) :
    Calls Tryd.prog 42 #[PV k s h] w fun e w' => e = .returned (.int .i64 (k + s + h)) ∧ w.Extends w' := by
  go_enter Tryd.func42, Tryd.ntmps42
  go_wp2_with fail
  generalize hw1 : World.alloc w _ = w1
  have hx1 : w.Extends w1 := by subst hw1; exact prm_ext_alloc _ _
  have hc := prm_cells w 74 k s h
  rw [hw1] at hc
  clear hw1
  obtain ⟨b, hb0⟩ : ∃ b, b = w.heap.size := ⟨_, rfl⟩
  rw [← hb0] at hc ⊢
  clear hb0
  have hC : ∀ w', w1.drew.Extends w' → w'.cell? ⟨b, 0, none⟩ = some (.int .i64 k) ∧ w'.cell? ⟨b, 1, none⟩ = some (.int .i64 s) ∧ w'.cell? ⟨b, 2, none⟩ = some (.int .i64 h) :=
    fun w' hw' => ⟨(Gr.of_drew hw').cell_of hc.1, (Gr.of_drew hw').cell_of hc.2.1, (Gr.of_drew hw').cell_of hc.2.2⟩
  have HC := Lib.hid hC
  have HX1 := Lib.hid (Gr.ext_drew hx1)
  clear hC hc hx1
  refine Gr.region 5 [(false,0),(false,2),(false,3),(true,1),(false,4)] (by kernel_rfl) (by kernel_rfl) (fun d _ _ _ _ h => by cases d <;> exact h) ?_
  simp only [Gr.pick, List.getElem?_cons_zero, List.getElem?_cons_succ, List.drop_succ_cons, List.drop_zero]
  generalize w1.drew = w2 at *
  iterate 3
    refine Gr.walk_t ?_ (Or.inl ⟨by rfl, ?_⟩) ?_
    rotate_left
    · intro w' hw'
      obtain ⟨c0, c1, c2⟩ := HC.out w' hw'
      clear hw'
      go_simp
      try with_reducible rfl
    simp only [Act.put, List.setIfInBounds_toArray, List.set_cons_zero, List.set_cons_succ]
  refine Gr.walk_c (fun K hK => ?_)
  go_simp
  refine (prmW_any k s h w2 hb).mono ?_
  rintro e w3 ⟨rfl, hx⟩
  have HX3 := Lib.hid (Gr.ext_trans HX1.out hx)
  try go_simp
  refine hK.out _ _ (hx) ?_
  clear hK K
  refine Gr.walk_t ?_ (Or.inl ⟨by rfl, ?_⟩) ?_
  rotate_left
  · intro w' hw'
    clear hw'
    go_simp
    try with_reducible rfl
  simp only [Act.put, List.setIfInBounds_toArray, List.set_cons_zero, List.set_cons_succ]
  refine Gr.walk_nil ?_
  go_wp2
  go_ret
  exact ⟨pret64 (IntWalk.i64_in _ hb2), HX3.out⟩
end Go.Proofs.YtpfmmfapdcbnkaaDoor
namespace Go.Proofs.YtpfmmfapdcbnkaaDoor
set_option maxRecDepth 20000
open Go.RowKit
/-- Params laid at block b. -/
def PAt (w : World) (b : Nat) (k s h : Int) : Prop := w.cell? ⟨b, 0, none⟩ = some (.int .i64 k) ∧ w.cell? ⟨b, 1, none⟩ = some (.int .i64 s) ∧ w.cell? ⟨b, 2, none⟩ = some (.int .i64 h)
theorem PAt.ext {w w' : World} {b : Nat} {k s h : Int} (hp : PAt w b k s h) (hx : w.Extends w') : PAt w' b k s h := ⟨hx.cell_of hp.1, hx.cell_of hp.2.1, hx.cell_of hp.2.2⟩
theorem PAt.lt {w : World} {b : Nat} {k s h : Int} (hp : PAt w b k s h) : b < w.heap.size := World.block_lt_of_cell? w _ hp.1
theorem PAt.new (w : World) (T : TypeId) (k s h : Int) : PAt (w.alloc (.cells #[.int .i64 k, .int .i64 s, .int .i64 h] T)) w.heap.size k s h := prm_cells w T k s h
end Go.Proofs.YtpfmmfapdcbnkaaDoor
namespace Go.Proofs.YtpfmmfapdcbnkaaDoor
set_option maxRecDepth 20000
open Go.RowKit
set_option linter.unusedVariables false
theorem within_yes (n m : Int) (w : World) (h1 : 1 ≤ n) (h2 : n ≤ m) :
    Calls Tryd.prog 23 #[.int .i64 n, .int .i64 m] w fun e w' => e = .returned (.bool true) ∧ w = w' := by
  go_enter Tryd.func23, Tryd.ntmps23
  go_wp2
  go_ret
  exact ⟨rfl, rfl⟩
theorem up_any (b s : Nat) (w : World) (hb : b ≤ 10000) (hs : 1 ≤ s) (hs2 : s ≤ 10000) :
    Calls Tryd.prog 24 #[.int .i64 b, .int .i64 s] w fun e w' => e = .returned (.int .i64 ((b + s - 1) / s : Nat)) ∧ w = w' := by
  obtain ⟨q, hq⟩ : ∃ q, q = (b + s - 1) / s := ⟨_, rfl⟩
  have hi : (((b : Int) + s - 1) / s : Int) = q := by
    rw [hq, Int.natCast_ediv, show ((b + s - 1 : Nat) : Int) = (b : Int) + s - 1 by omega]
  rw [← hq]
  go_enter Tryd.func24, Tryd.ntmps24
  go_wp2
  go_ret
  exact ⟨pret64 hi, rfl⟩
theorem right_yes (b s m : Int) (w : World) (h : CM.Right b s m) :
    Calls Tryd.prog 14 #[PV b s m] w fun e w' => e = .returned (.bool true) ∧ w.Extends w' := by
  obtain ⟨h1, h2, h3, h4, h5, h6⟩ := h
  go_enter Tryd.func14, Tryd.ntmps14
  go_wp2_with fail
  generalize hw1 : World.alloc w _ = w1
  have hx1 : w.Extends w1 := by subst hw1; exact prm_ext_alloc _ _
  have hp : PAt w1 w.heap.size b s m := by subst hw1; exact PAt.new w 28 b s m
  generalize w.heap.size = g at hp ⊢
  clear hw1
  have HX1 := Lib.hid hx1
  have hb1 := hp.lt
  have HP1 := Lib.hid hp
  obtain ⟨p0, p1, p2⟩ := hp
  clear hx1
  refine (within_yes b 4000 w1 h1 h2).mono ?_
  rintro e w2 ⟨rfl, rfl⟩
  go_wp2_with fail
  refine (within_yes s 64 w1 h3 h4).mono ?_
  rintro e w2 ⟨rfl, rfl⟩
  go_wp2_with fail
  refine (within_yes m 40 w1 h5 h6).mono ?_
  rintro e w2 ⟨rfl, rfl⟩
  go_wp2
  go_ret
  exact ⟨by rfl, HX1.out⟩
end Go.Proofs.YtpfmmfapdcbnkaaDoor
namespace Go.Proofs.YtpfmmfapdcbnkaaDoor
set_option maxRecDepth 20000
open Go.RowKit
set_option linter.unusedVariables false
theorem CM.right_of {b s m : Nat} (h : CM.Right b s m) : 1 ≤ b ∧ b ≤ 4000 ∧ 1 ≤ s ∧ s ≤ 64 ∧ 1 ≤ m ∧ m ≤ 40 := by obtain ⟨h1, h2, h3, h4, h5, h6⟩ := h; omega
theorem sym_yes (b s m : Nat) (w : World) (h : CM.Right b s m) :
    Calls Tryd.prog 25 #[PV b s m] w fun e w' => e = .returned (.int .i64 (CM.sy b s : Nat)) ∧ w.Extends w' := by
  obtain ⟨h1, h2, h3, h4, h5, h6⟩ := CM.right_of h
  have HU := Lib.hid (CM.up_eq b s h1 h3)
  have hyl := CM.sy_le b s h1
  have hyp := CM.sy_pos b s
  have HS : Hid (((b : Int) - 1) / s + 1 = (CM.sy b s : Nat)) := by
    show _ = _
    unfold CM.sy
    rw [Int.natCast_add, Int.natCast_ediv, show ((b - 1 : Nat) : Int) = (b : Int) - 1 by omega]; rfl
  generalize CM.sy b s = y at *
  have HR := Lib.hid h
  clear h
  go_enter Tryd.func25, Tryd.ntmps25
  go_wp2_with fail
  generalize hw1 : World.alloc w _ = w1
  have hx1 : w.Extends w1 := by subst hw1; exact prm_ext_alloc _ _
  have hp : PAt w1 w.heap.size b s m := by subst hw1; exact PAt.new w 28 b s m
  generalize w.heap.size = g at hp ⊢
  clear hw1
  have HX1 := Lib.hid hx1
  have HP1 := Lib.hid hp
  have hb1 := hp.lt
  obtain ⟨p0, p1, p2⟩ := hp
  clear hx1
  refine (right_yes b s m w1 HR.out).mono ?_
  rintro e w2 ⟨rfl, hx⟩
  have HX2 := Lib.hid (Gr.ext_trans HX1.out hx)
  have HP2 := Lib.hid (HP1.out.ext hx)
  have hb2 := HP2.out.lt
  clear p0 p1 p2 hx
  obtain ⟨p0, p1, p2⟩ := HP2.out
  go_wp2_with fail
  refine (up_any b s w2 (by omega) h3 (by omega)).mono ?_
  rintro e w3 ⟨rfl, rfl⟩
  rw [HU.out]
  go_wp2
  go_ret
  exact ⟨by rfl, HX2.out⟩
theorem blocks_yes (b s m : Nat) (w : World) (h : CM.Right b s m) :
    Calls Tryd.prog 15 #[PV b s m] w fun e w' => e = .returned (.int .i64 (CM.bl b s m : Nat)) ∧ w.Extends w' := by
  obtain ⟨h1, h2, h3, h4, h5, h6⟩ := CM.right_of h
  have HY := Lib.hid (fun w => sym_yes b s m w h)
  have hyl := CM.sy_le b s h1
  have hyp := CM.sy_pos b s
  have HU : Hid ((CM.sy b s + m - 1) / m = CM.bl b s m) := CM.up_eq (CM.sy b s) m hyp h5
  have hnl := CM.bl_le b s m
  have hnp := CM.bl_pos b s m
  have HS : Hid (((CM.sy b s : Int) - 1) / m + 1 = (CM.bl b s m : Nat)) := by
    show _ = _
    unfold CM.bl
    rw [Int.natCast_add, Int.natCast_ediv, show ((CM.sy b s - 1 : Nat) : Int) = (CM.sy b s : Int) - 1 by omega]; rfl
  generalize CM.bl b s m = n at *
  generalize CM.sy b s = y at *
  have HR := Lib.hid h
  clear h
  go_enter Tryd.func15, Tryd.ntmps15
  go_wp2_with fail
  generalize hw1 : World.alloc w _ = w1
  have hx1 : w.Extends w1 := by subst hw1; exact prm_ext_alloc _ _
  have hp : PAt w1 w.heap.size b s m := by subst hw1; exact PAt.new w 28 b s m
  generalize w.heap.size = g at hp ⊢
  clear hw1
  have HX1 := Lib.hid hx1
  have HP1 := Lib.hid hp
  have hb1 := hp.lt
  obtain ⟨p0, p1, p2⟩ := hp
  clear hx1
  refine (right_yes b s m w1 HR.out).mono ?_
  rintro e w2 ⟨rfl, hx⟩
  have HX2 := Lib.hid (Gr.ext_trans HX1.out hx)
  have HP2 := Lib.hid (HP1.out.ext hx)
  have hb2 := HP2.out.lt
  clear p0 p1 p2 hx
  obtain ⟨p0, p1, p2⟩ := HP2.out
  have HC : Hid (∀ w', w2.drew.Extends w' → w'.cell? ⟨g, 0, none⟩ = some (.int .i64 b) ∧ w'.cell? ⟨g, 1, none⟩ = some (.int .i64 s) ∧ w'.cell? ⟨g, 2, none⟩ = some (.int .i64 m)) := fun w' hw' => HP2.out.ext (Gr.of_drew hw')
  go_upto_region 3 with fail
  clear p0 p1 p2
  refine Gr.region 4 [(false,0),(false,2),(false,3),(true,1)] (by kernel_rfl) (by kernel_rfl) (fun d _ _ _ _ h => by cases d <;> exact h) ?_
  simp only [Gr.pick, List.getElem?_cons_zero, List.getElem?_cons_succ, List.drop_succ_cons, List.drop_zero]
  have HX3 := Lib.hid (Gr.ext_drew HX2.out)
  generalize w2.drew = w3 at *
  iterate 3
    refine Gr.walk_t ?_ (Or.inl ⟨by rfl, ?_⟩) ?_
    rotate_left
    · intro w' hw'
      obtain ⟨c0, c1, c2⟩ := HC.out w' hw'
      clear hw'
      go_simp
      try with_reducible rfl
    simp only [Act.put, List.setIfInBounds_toArray, List.set_cons_zero, List.set_cons_succ]
  refine Gr.walk_c (fun K hK => ?_)
  go_simp
  refine (HY.out w3).mono ?_
  rintro e w4 ⟨rfl, hx⟩
  have HX4 := Lib.hid (Gr.ext_trans HX3.out hx)
  try go_simp
  refine hK.out _ _ (hx) ?_
  clear hK K
  refine Gr.walk_nil ?_
  go_wp2_with fail
  refine (up_any y m w4 (by omega) h5 (by omega)).mono ?_
  rintro e w5 ⟨rfl, rfl⟩
  rw [HU.out]
  go_wp2
  go_ret
  exact ⟨by rfl, HX4.out⟩
end Go.Proofs.YtpfmmfapdcbnkaaDoor
namespace Go.Proofs.YtpfmmfapdcbnkaaDoor
set_option maxRecDepth 20000
open Go.RowKit Go.Deep
set_option linter.unusedVariables false
theorem RCell.new {T : TypeId} (w w1 : World) (r : Rc) (u : Value) (hw : w.alloc (.cells (r.cells u).toArray T) = w1) : w1.rangeAt w.heap.size 0 (r.cells u) ∧ w.Extends w1 ∧ w.heap.size < w1.heap.size := by
  subst hw
  exact ⟨box_rec _ _ _ _, ext_alloc _ _, by simp⟩
end Go.Proofs.YtpfmmfapdcbnkaaDoor
namespace Go.Proofs.YtpfmmfapdcbnkaaDoor
set_option maxRecDepth 20000
open Go.RowKit Go.Deep
set_option linter.unusedVariables false
/-- A literal of these numbers. -/
def NumAt (w : World) (g : Nat) (ns : List Nat) : Prop := w.heap[g]? = some (.cells (ns.map fun (n : Nat) => Value.int .i64 (n : Int)).toArray 3)
theorem NumAt.kept {w w' : World} {g : Nat} {ns : List Nat} {B : Nat} {v : Value} {k : Nat} {xs : List Value} (h : NumAt w g ns) (ho : w.ownsRow B 5 1 v k xs) (hg : w.grownBy w' v.ownBlock) : NumAt w' g ns := by
  unfold NumAt at *
  rw [hg.block g (Array.getElem?_eq_some_iff.1 h).1 fun e => ?_]
  · exact h
  · rcases ho.2 with ⟨rfl, _⟩ | ⟨g', cap, cur, rfl, hbg, hg', _⟩
    · cases e
    · simp only [Value.ownBlock, Option.some.injEq] at e
      subst e
      rw [h] at hg'
      simp only [Option.some.injEq, Obj.cells.injEq] at hg'
      exact absurd hg'.2.1 (by decide)
theorem NumAt.alloc {w : World} {g : Nat} {ns : List Nat} (h : NumAt w g ns) (o : Obj) : NumAt (w.alloc o) g ns := by
  unfold NumAt at *
  rw [Go.heap_alloc_old (w := _) (o := _) (h := (Array.getElem?_eq_some_iff.1 h).1)]; exact h
theorem NumAt.cell {w : World} {g : Nat} {ns : List Nat} (h : NumAt w g ns) {k : Nat} (hk : k < ns.length) : w.cell? ⟨g, k, none⟩ = some (.int .i64 (ns.getD k 0 : Nat)) := by
  rw [cell_of_row _ _ _ _ _ _ h]
  simp [hk]
theorem NumAt.lt {w : World} {g : Nat} {ns : List Nat} (h : NumAt w g ns) : g < w.heap.size := (Array.getElem?_eq_some_iff.1 h).1
namespace KM
end KM
end Go.Proofs.YtpfmmfapdcbnkaaDoor
namespace Go.Proofs.YtpfmmfapdcbnkaaDoor
set_option maxRecDepth 20000
open Go.RowKit Go.Deep
set_option linter.unusedVariables false
theorem NumAt.new (w : World) (ns : List Nat) (g : Nat) (cs : Array Value) (hg : g = w.heap.size) (hc : cs = (ns.map fun (n : Nat) => Value.int .i64 (n : Int)).toArray) : NumAt (w.alloc (.cells cs 3)) g ns := by
  subst hg; subst hc
  exact heap_alloc_new _ _
end Go.Proofs.YtpfmmfapdcbnkaaDoor
namespace Go.Proofs.YtpfmmfapdcbnkaaDoor
set_option maxRecDepth 20000
open Go.RowKit Go.Deep
set_option linter.unusedVariables false
/-- What reading answers: a record, its data in memory; and the error. -/
def ROut (r : Rc) (er : Int) (w : World) (e : Ending) (w' : World) : Prop := ∃ a c, e = .returned (.tuple #[r.val (.slice a r.d.length c), .int .i64 er]) ∧ U8s w' (.slice a r.d.length c) r.d ∧ w.Extends w'
/-- And the data lie in memory of the call's own. -/
def ROutN (r : Rc) (er : Int) (w : World) (e : Ending) (w' : World) : Prop := ∃ a c, e = .returned (.tuple #[r.val (.slice a r.d.length c), .int .i64 er]) ∧ U8s w' (.slice a r.d.length c) r.d ∧ w.Extends w' ∧ ∀ g, (Value.slice a r.d.length c).ownBlock = some g → w.heap.size ≤ g
theorem ROutN.old {r : Rc} {er : Int} {w w' : World} {e : Ending} (h : ROutN r er w e w') : ROut r er w e w' := by
  obtain ⟨a, c, h1, h2, h3, _⟩ := h
  exact ⟨a, c, h1, h2, h3⟩
end Go.Proofs.YtpfmmfapdcbnkaaDoor
namespace Go.Proofs.YtpfmmfapdcbnkaaDoor
set_option maxRecDepth 20000
open Go.RowKit
namespace GrB
open Gr (AnyE check growB pick)
section
variable {P : Program} {ops : Array Oper} {Q : Exit → Act → World → Prop} {md : Region.Mode} {S : World → Prop}
def walk (B : Nat) (P : Program) (ops : Array Oper) (Q : Exit → Act → World → Prop) (tail : List Oper) : List (Bool × Oper) → Act → World → Prop
  | [], a, w => wpList P ops Q tail a w
  | (true, o) :: rest, a, w => if Region.wanted o (yielded ops a.tmps) = true then o.wp P a w (fun a' w' => Below B w w' ∧ walk B P ops Q tail rest a' w') Q else walk B P ops Q tail rest (a.put o.dst undef) w
  | (false, o) :: rest, a, w => ∃ v, YieldsIf P ops (Below B w) o v a ∧ walk B P ops Q tail rest (a.put o.dst v) w
theorem walk_nil {B : Nat} {tail : List Oper} {a : Act} {w : World} (h : wpList P ops Q tail a w) : walk B P ops Q tail [] a w := h
/-- An operation that is taken. -/
theorem walk_t {B : Nat} {tail : List Oper} {rest : List (Bool × Oper)} {o : Oper} {a : Act} {w : World} (v : Value) (hy : YieldsIf P ops (Below B w) o v a) (h : walk B P ops Q tail rest (a.put o.dst v) w) :
    walk B P ops Q tail ((false, o) :: rest) a w := ⟨v, hy, h⟩
/-- An operation that is carried out. -/
theorem walk_c {B : Nat} {tail : List Oper} {rest : List (Bool × Oper)} {o : Oper} {a : Act} {w : World}
    (h : ∀ K : Act → World → Prop, Shut (∀ a' w', Below B w w' → walk B P ops Q tail rest a' w' → K a' w') → if Region.wanted o (yielded ops a.tmps) = true then o.wp P a w K Q else K (a.put o.dst undef) w) :
    walk B P ops Q tail ((true, o) :: rest) a w := by
  have h0 := h (fun a' w' => Below B w w' ∧ walk B P ops Q tail rest a' w') (fun _ _ h1 h2 => ⟨h1, h2⟩)
  unfold walk
  split
  · rename_i hw; rw [if_pos hw] at h0; exact h0
  · rename_i hw; rw [if_neg hw] at h0; exact h0.2

theorem walk_sound (B : Nat) {l : List Oper} {n : Nat} (hsel : Region.noSelect l.toArray = true) (hs : Region.sinkB md l.toArray n = true) (hc : Region.chainB md l.toArray n = true) (hn : n < l.toArray.size)
    (hQ : ∀ d v c a w, Q (.panic c) (Act.put a d v) w → Q (.panic c) a w) :
    ∀ (ord : List (Bool × Nat)) (listed : Array Bool) (a : Act) (w : World), HeadInv md l.toArray n listed → check md l.toArray n (l.toArray.size - n) ord listed = true →
      walk B P l.toArray Q (l.drop n) (pick l ord) a w →
      AnyE P md l.toArray Q n (fun listed' a' w' => Region.seqB md l.toArray (l.toArray.size - n) n listed' = true ∧ wpList P l.toArray Q (l.drop n) a' w') (Below B w) ord.length listed a w
  | [], listed, a, w, _, hB, h => ⟨hB, h⟩
  | (c, i) :: rest, listed, a, w, inv, hB, h => by
    simp only [check, Bool.and_eq_true, decide_eq_true_eq] at hB
    obtain ⟨⟨hin, hr⟩, hB'⟩ := hB
    have hil : i < l.length := by have : l.toArray.size = l.length := by simp
                                  omega
    have ho : l[i]? = some l[i] := List.getElem?_eq_getElem hil
    have hoa : l.toArray[i]? = some l[i] := by simp
    simp only [pick, ho] at h
    cases c with
    | true =>
      simp only [decide_eq_true_eq] at hr
      refine ⟨(by rw [hr]; simp), fun j hj => ?_⟩
      rw [hr] at hj
      obtain rfl : j = i := by simpa using hj
      refine ⟨hin, ?_⟩
      have hrm : j ∈ Region.ready md l.toArray listed := by rw [hr]; simp
      unfold walk at h
      unfold wpOp
      simp only [hoa]
      split
      · rename_i hw
        rw [if_pos hw] at h
        exact .inl (Oper.wp_mono (fun a' w' hk => ⟨hk.1, AnyE.weaken (fun u hu => Below.trans hk.1 hu) _ _ _ _ (walk_sound B hsel hs hc hn hQ rest _ a' w' (inv.set hrm hin) hB' hk.2)⟩) h)
      · rename_i hw
        rw [if_neg hw] at h
        exact ⟨Below.refl B w, walk_sound B hsel hs hc hn hQ rest _ _ w (inv.set hrm hin) hB' h⟩
    | false =>
      simp only [Bool.and_eq_true] at hr
      unfold walk at h
      obtain ⟨v, hy, hK⟩ := h
      have hrm : i ∈ Region.ready md l.toArray listed := by simpa using hr.1
      exact AnyE.first hoa (Region.noSelect_spec hsel) hs hc hn hin (fun c a w => hQ _ v c a w) (fun listed' a' w' hL => seqB_ready hL.1) rest.length listed a w inv (Region.free_spec hoa hr.2) hrm hy (Below.refl B w)
        (walk_sound B hsel hs hc hn hQ rest _ _ w (inv.set hrm hin) hB' hK)

theorem region (B : Nat) {id : Nat} {a : Act} {w : World} {l : List Oper} (n : Nat) (ord : List (Bool × Nat)) (hm : P.follows .mixedOrders = true) (hB : growB .any l.toArray n ord = true)
    (hQ : ∀ d v c a w, Q (.panic c) (Act.put a d v) w → Q (.panic c) a w)
    (h : walk B P l.toArray Q (l.drop n) (pick l ord) a w.drew) : (Code.region id l.toArray true).wp P Q a w := by
  simp only [growB, Bool.and_eq_true, decide_eq_true_eq] at hB
  obtain ⟨⟨⟨⟨⟨hsel, hn⟩, hs⟩, hc⟩, hlen⟩, hck⟩ := hB
  have hdl : (l.drop n).length = l.toArray.size - n := by simp
  have inv0 : HeadInv .any l.toArray n (Array.replicate l.toArray.size false) :=
    ⟨by simp, fun j oj _ hl => (by rw [getD_replicate_false] at hl; cases hl), fun t _ ht => getD_in (by simpa using ht) (getD_replicate_false _ _)⟩
  have H := walk_sound B (md := .any) hsel hs hc hn hQ ord _ a w.drew inv0 hck h
  refine wp_region_any hm ?_
  have := AnyE.any (Q := Q) (g := l.toArray.size - n) (fun listed a' w' hL => by
    have := wpAny_of_seq (md := .any) (Q' := Q) (l.drop n) n listed a' w' (fun j => by simp [List.getElem?_drop]) (by rw [hdl]; exact hL.1) hL.2
    rwa [hdl] at this) _ _ _ _ H
  rw [hlen] at this
  exact this
end
end GrB
end Go.Proofs.YtpfmmfapdcbnkaaDoor
namespace Go.Proofs.YtpfmmfapdcbnkaaDoor
set_option maxRecDepth 20000
open Go.RowKit Go.Deep
set_option linter.unusedVariables false
/-- What the reference takes: of a tombstone no data. -/
def KM.rk (xs : List Nat) : Rc := ⟨(KM.tk xs).1.p, (KM.tk xs).1.n, (KM.tk xs).1.b, (KM.tk xs).1.s, (KM.tk xs).1.m, (KM.tk xs).1.k, (KM.tk xs).1.e, (KM.tk xs).1.g, (KM.tk xs).1.u, if (KM.tk xs).1.g then [] else (KM.tk xs).1.d⟩
/-- Whether bytes are a record's, as the reference tells it. -/
def Good (xs : List Nat) : Prop := (KM.tk xs).2.2 = false ∧ KM.Right (KM.rk xs) ∧ KM.bytes (KM.rk xs) = xs
end Go.Proofs.YtpfmmfapdcbnkaaDoor
namespace Go.Proofs.YtpfmmfapdcbnkaaDoor
set_option maxRecDepth 20000
open Go.RowKit Go.Deep
set_option linter.unusedVariables false
theorem KM.rk_right {r : Rc} {xs : List Nat} (h : KM.Right r) (hb : KM.bytes r = xs) : KM.rk xs = r := by
  have ht := KM.tk_bytes h
  rw [hb] at ht
  unfold KM.rk
  rw [ht]
  obtain ⟨p, n, b, s, m, k, e, g, u, d⟩ := r
  cases g with
  | false => rfl
  | true =>
    have hd := (h.2.2.2.1 rfl).2.2
    simp only at hd
    subst hd
    rfl
end Go.Proofs.YtpfmmfapdcbnkaaDoor
