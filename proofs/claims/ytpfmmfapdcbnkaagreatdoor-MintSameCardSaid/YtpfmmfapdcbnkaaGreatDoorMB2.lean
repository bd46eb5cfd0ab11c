/- In one text: FldAdd, RowMath, Grow, RowSum, RefSum. -/
import Derived.Test.YtpfmmfapdcbnkaaGreatDoorRows
import Derived.OrdersHeld
import Derived.StillTail
import Derived.Below
import Derived.KernelRfl
import Derived.Deep.RegionHeld
import Derived.WalkLawsBesides
import Derived.Outline
import Derived.Test.YtpfmmfapdcbnkaaGreatDoorMB1
namespace Go.Proofs.YtpfmmfapdcbnkaaGreatDoor
set_option maxRecDepth 20000
open Go.RowKit
/-- the sum of all -/
def FM.sum (xs : List Nat) : Nat := xs.foldl (fun s x => s ^^^ x) 0
def FM.prod (xs : List Nat) : Nat := xs.foldl FM.tm 1
theorem FM.sum_snoc (xs : List Nat) (k : Nat) (h : k < xs.length) : FM.sum (xs.take (k + 1)) = FM.sum (xs.take k) ^^^ xs.getD k 0 := by
  rw [List.take_succ_eq_append_getElem h, FM.sum, List.foldl_append]; simp [FM.sum, h]
theorem FM.prod_snoc (xs : List Nat) (k : Nat) (h : k < xs.length) : FM.prod (xs.take (k + 1)) = FM.tm (FM.prod (xs.take k)) (xs.getD k 0) := by
  rw [List.take_succ_eq_append_getElem h, FM.prod, List.foldl_append]; simp [FM.prod, h]
theorem FM.sum_lt (xs : List Nat) (h : ∀ x ∈ xs, x < 256) : FM.sum xs < 256 := by
  have : ∀ (xs : List Nat) (s : Nat), s < 256 → (∀ x ∈ xs, x < 256) → xs.foldl (fun s x => s ^^^ x) s < 256 := by
    intro xs
    induction xs with
    | nil => intro s hs _; exact hs
    | cons x xs ih => intro s hs h; exact ih _ (FM.xor_lt hs (h x (by simp))) (fun y hy => h y (by simp [hy]))
  exact this xs 0 (by omega) h
theorem FM.prod_lt (xs : List Nat) : FM.prod xs < 256 := by
  have : ∀ (xs : List Nat) (s : Nat), s < 256 → xs.foldl FM.tm s < 256 := by
    intro xs
    induction xs with
    | nil => intro s hs; exact hs
    | cons x xs ih => intro s hs; exact ih _ (FM.tm_lt _ _ hs)
  exact this xs 1 (by omega)
set_option maxHeartbeats 400000 in
theorem add_any (v : Value) (xs : List Nat) (w : World) (hv : U8s w v xs) :
    Calls Tryz.prog 117 #[v] w fun e w' => e = .returned (.int .u8 (FM.sum xs : Nat)) ∧ w = w' := by
  rcases hv with ⟨rfl, a, cap, rfl, _⟩ | ⟨b, off, cap, rfl, hm1, hm2, hb, hx, hl⟩
  · go_enter Tryz.func117, Tryz.ntmps117
    go_wp2
    refine wp_loop_rounds 1 ?_; rw [rounds_succ]
    go_wp2
    go_ret
    exact ⟨rfl, rfl⟩
  · have hm := Nat.le_trans hm1 hm2; unfold maxLen at hm; clear hm1 hm2
    go_enter Tryz.func117, Tryz.ntmps117
    go_wp2
    generalize hn : xs.length = n at *
    have HN := Lib.hid hn; clear hn
    have HX := Lib.hid hx; clear hx
    have HL := Lib.hid hl; clear hl
    go_loop [3, 8] (fun s i => ∃ k : Nat, k ≤ n ∧ i = .int .i64 k ∧ s = .int .u8 (FM.sum (xs.take k) : Nat)) (fun _ i => (n - intOf i).toNat)
    case atStart => exact ⟨0, by omega, rfl, rfl⟩
    case round =>
      obtain ⟨k, hk, rfl, rfl⟩ := hrel
      by_cases h0 : k < n
      · have hc := HX.out k h0
        have hs := Lib.hid (FM.sum_snoc xs k (by rw [HN.out]; exact h0))
        have he := Lib.hid (u8_xor_nat (FM.sum (xs.take k)) (xs.getD k 0) (FM.sum_lt _ (take_lt xs HL.out k)) (getD_lt xs HL.out k))
        go_wp2
        go_round
        case rel => exact ⟨k + 1, by omega, by go_num, by rw [hs.out, ← he.out]; simp⟩
        case measure => simp [intOf]; omega
      · obtain rfl : k = n := by omega
        go_wp2
        go_ret
        exact ⟨retu8 (by rw [← HN.out, List.take_length]), rfl⟩
end Go.Proofs.YtpfmmfapdcbnkaaGreatDoor
namespace Go.Proofs.YtpfmmfapdcbnkaaGreatDoor
set_option maxRecDepth 20000
namespace RM
def cut (n : Int) : Nat := min n.toNat 1000
/-- s plus r, as far as s goes. -/
def xr (s r : List Nat) : List Nat := (List.range s.length).map fun i => s.getD i 0 ^^^ r.getD i 0
/-- The first k places of s summed with those of r. -/
def xrTo (k : Nat) (s r : List Nat) : List Nat := (List.range s.length).map fun i => if i < k then s.getD i 0 ^^^ r.getD i 0 else s.getD i 0
theorem xr_length (s r : List Nat) : (xr s r).length = s.length := by simp [xr]
theorem xrTo_length (k : Nat) (s r : List Nat) : (xrTo k s r).length = s.length := by simp [xrTo]
theorem map_getD {f : Nat → Nat} {n i : Nat} (h : i < n) : ((List.range n).map f).getD i 0 = f i := by
  simp [List.getD_eq_getElem?_getD, h]
theorem list_ext {xs ys : List Nat} (hl : xs.length = ys.length) (h : ∀ i, i < xs.length → xs.getD i 0 = ys.getD i 0) : xs = ys := by
  apply List.ext_getElem hl
  intro i h1 h2
  have := h i h1
  simpa [List.getD_eq_getElem?_getD, h1, h2] using this
theorem getD_far (xs : List Nat) (i : Nat) (h : xs.length ≤ i) : xs.getD i 0 = 0 := by
  simp [List.getD_eq_getElem?_getD, List.getElem?_eq_none h]
theorem xrTo_zero (s r : List Nat) : xrTo 0 s r = s := list_ext (xrTo_length _ _ _) fun i hi => by
  rw [xrTo_length] at hi
  rw [xrTo, map_getD hi]; simp
theorem xrTo_all (k : Nat) (s r : List Nat) (h : min s.length r.length ≤ k) : xrTo k s r = xr s r := list_ext (by rw [xrTo_length, xr_length]) fun i hi => by
  rw [xrTo_length] at hi
  rw [xrTo, map_getD hi, xr, map_getD hi]
  split
  · rfl
  · rw [getD_far r i (by omega)]; simp
theorem xrTo_succ (k : Nat) (s r : List Nat) (h : k < s.length) : (xrTo k s r).set k (s.getD k 0 ^^^ r.getD k 0) = xrTo (k + 1) s r := list_ext (by simp [xrTo_length]) fun i hi => by
  rw [List.length_set, xrTo_length] at hi
  by_cases hk : i = k
  · subst hk
    rw [xrTo, xrTo, map_getD hi, if_pos (by omega)]
    simp [List.getD_eq_getElem?_getD, hi]
  · rw [xrTo, xrTo, map_getD hi]
    have : ∀ (l : List Nat) (v : Nat), (l.set k v).getD i 0 = l.getD i 0 := fun l v => by simp [List.getD_eq_getElem?_getD, Ne.symm hk]
    rw [this, map_getD hi]
    by_cases h1 : i < k
    · rw [if_pos h1, if_pos (by omega)]
    · rw [if_neg h1, if_neg (by omega)]
theorem xrTo_at (k : Nat) (s r : List Nat) (h : k < s.length) : (xrTo k s r).getD k 0 = s.getD k 0 := by
  rw [xrTo, map_getD h]; simp
theorem xr_lt (s r : List Nat) (hs : ∀ x ∈ s, x < 256) (hr : ∀ x ∈ r, x < 256) : ∀ x ∈ xr s r, x < 256 := fun x hx => by
  obtain ⟨i, _, rfl⟩ := List.mem_map.1 hx
  exact FM.xor_lt (getD_lt _ hs _) (getD_lt _ hr _)
theorem xr_take (s r : List Nat) (n : Nat) (h : s.length ≤ n) : xr s (r.take n) = xr s r := list_ext (by simp [xr_length]) fun i hi => by
  rw [xr_length] at hi
  rw [xr, xr, map_getD hi, map_getD hi]
  congr 1
  simp [List.getD_eq_getElem?_getD, show i < n by omega]
def zeros (n : Nat) : List Nat := List.replicate n 0
/-- The sum of rows, of n places. -/
def sum (n : Nat) (l : List (List Nat)) : List Nat := l.foldl xr (zeros n)
theorem fold_length (f : List Nat → List Nat) (l : List (List Nat)) (s : List Nat) : (l.foldl (fun s r => xr s (f r)) s).length = s.length := by
  induction l generalizing s with
  | nil => rfl
  | cons r l ih => rw [List.foldl_cons, ih, xr_length]
theorem sum_length (n : Nat) (l : List (List Nat)) : (sum n l).length = n := by
  have := fold_length id l (zeros n)
  simpa [sum, zeros] using this
theorem sum_snoc (n : Nat) (l : List (List Nat)) (k : Nat) (h : k < l.length) : sum n (l.take (k + 1)) = xr (sum n (l.take k)) (l.getD k []) := by
  rw [List.take_succ_eq_append_getElem h, sum, List.foldl_append]
  simp [sum, h]
def scale (c : Nat) (r : List Nat) : List Nat := r.map (FM.tm c)
theorem scale_length (c : Nat) (r : List Nat) : (scale c r).length = r.length := by simp [scale]
theorem scale_getD (c : Nat) (r : List Nat) (i : Nat) : (scale c r).getD i 0 = FM.tm c (r.getD i 0) := by
  by_cases h : i < r.length
  · simp [scale, List.getD_eq_getElem?_getD, h]
  · rw [getD_far _ i (by rw [scale_length]; omega), getD_far r i (by omega), FM.tm_zero_right]
theorem scale_lt (c : Nat) (r : List Nat) (hc : c < 256) : ∀ x ∈ scale c r, x < 256 := fun x hx => by
  obtain ⟨y, _, rfl⟩ := List.mem_map.1 hx
  exact FM.tm_lt c y hc
/-- The mixture of the first k rows. -/
def mixTo (n k : Nat) (c : List Nat) (l : List (List Nat)) : List Nat := (List.range k).foldl (fun s i => xr s (scale (c.getD i 0) (l.getD i []))) (zeros n)
def mix (n : Nat) (c : List Nat) (l : List (List Nat)) : List Nat := mixTo n (min c.length l.length) c l
theorem mixTo_succ (n k : Nat) (c : List Nat) (l : List (List Nat)) : mixTo n (k + 1) c l = xr (mixTo n k c l) (scale (c.getD k 0) (l.getD k [])) := by
  simp [mixTo, List.range_succ]
theorem mixTo_length (n k : Nat) (c : List Nat) (l : List (List Nat)) : (mixTo n k c l).length = n := by
  induction k with
  | zero => simp [mixTo, zeros]
  | succ k ih => rw [mixTo_succ, xr_length, ih]
theorem scale_take (c : Nat) (r : List Nat) (n : Nat) : scale c (r.take n) = (scale c r).take n := by simp [scale, List.map_take]
theorem zeros_length (n : Nat) : (zeros n).length = n := by simp [zeros]
theorem zeros_getD (n i : Nat) : (zeros n).getD i 0 = 0 := by
  by_cases h : i < n
  · simp [zeros, List.getD_eq_getElem?_getD, h]
  · exact getD_far _ i (by rw [zeros_length]; omega)
theorem xr_zeros (r : List Nat) : xr (zeros r.length) r = r := list_ext (by rw [xr_length, zeros_length]) fun i hi => by
  rw [xr_length] at hi
  rw [xr, map_getD hi, zeros_getD]; simp
theorem xr_at (s r : List Nat) (i : Nat) (h : i < s.length) : (xr s r).getD i 0 = s.getD i 0 ^^^ r.getD i 0 := by rw [xr, map_getD h]
theorem fold_at (l : List (List Nat)) (s : List Nat) (i : Nat) (h : i < s.length) : (l.foldl xr s).getD i 0 = l.foldl (fun x r => x ^^^ r.getD i 0) (s.getD i 0) := by
  induction l generalizing s with
  | nil => rfl
  | cons r l ih => rw [List.foldl_cons, List.foldl_cons, ih _ (by rw [xr_length]; exact h), xr_at s r i h]
theorem sum_at (n : Nat) (l : List (List Nat)) (i : Nat) (h : i < n) : (sum n l).getD i 0 = l.foldl (fun x r => x ^^^ r.getD i 0) 0 := by
  rw [sum, fold_at l _ i (by rw [zeros_length]; exact h), zeros_getD]
end RM
end Go.Proofs.YtpfmmfapdcbnkaaGreatDoor
namespace Go.Proofs.YtpfmmfapdcbnkaaGreatDoor
set_option maxRecDepth 20000
open Go.RowKit
namespace Gr
theorem ext_refl (w : World) : w.Extends w := ⟨rfl, rfl, rfl, Nat.le_refl _, fun _ _ => rfl, fun _ _ => rfl, fun _ _ => rfl⟩
theorem ext_trans {a b c : World} (h : a.Extends b) (k : b.Extends c) : a.Extends c :=
  ⟨k.os.trans h.os, k.tape.trans h.tape, k.output.trans h.output, Nat.le_trans h.size k.size,
    fun x hx => (k.cell x (Nat.lt_of_lt_of_le hx h.size)).trans (h.cell x hx), fun x hx => (k.frozen x (Nat.lt_of_lt_of_le hx h.size)).trans (h.frozen x hx),
    fun i hi => (k.block i (Nat.lt_of_lt_of_le hi h.size)).trans (h.block i hi)⟩
theorem ext_of {w w' : World} (h : Below w.heap.size w w') : w.Extends w' :=
  ⟨h.os, h.tape, h.output, h.size, fun _ ha => World.cell?_of_block (w := w) (h.block _ ha), fun _ ha => World.frozen?_of_block (w := w) (h.block _ ha), h.block⟩
theorem below_of {w w' : World} (h : w.Extends w') : Below w.heap.size w w' := ⟨h.os, h.tape, h.output, h.size, h.block⟩
theorem ext_drew {w w' : World} (h : w.Extends w') : w.Extends w'.drew := ⟨h.os, h.tape, h.output, h.size, h.cell, h.frozen, h.block⟩

theorem of_drew {w w' : World} (h : w.drew.Extends w') : w.Extends w' := ⟨h.os, h.tape, h.output, h.size, h.cell, h.frozen, h.block⟩

section
variable {P : Program} {ops : Array Oper} {Q : Exit → Act → World → Prop} {md : Region.Mode} {S : World → Prop}
/-- Whatever order is picked, till 'fuel' operations have come up; then L. -/
def AnyE (P : Program) (md : Region.Mode) (ops : Array Oper) (Q : Exit → Act → World → Prop) (n : Nat) (L : Array Bool → Act → World → Prop) (S : World → Prop) : Nat → Array Bool → Act → World → Prop
  | 0, listed, a, w => L listed a w
  | f + 1, listed, a, w => Region.ready md ops listed ≠ [] ∧ ∀ i ∈ Region.ready md ops listed, i < n ∧ wpOp P ops Q i (fun a' w' => S w' ∧ AnyE P md ops Q n L S f (listed.setIfInBounds i true) a' w') a w
theorem AnyE.weaken {n : Nat} {L : Array Bool → Act → World → Prop} {S S' : World → Prop} (hS : ∀ w, S' w → S w) :
    ∀ (f : Nat) (listed : Array Bool) (a : Act) (w : World), AnyE P md ops Q n L S' f listed a w → AnyE P md ops Q n L S f listed a w
  | 0, _, _, _, h => h
  | f + 1, _, _, _, h => ⟨h.1, fun i hi => ⟨(h.2 i hi).1, wpOp_mono (fun a' w' hk => ⟨hS _ hk.1, AnyE.weaken hS f _ a' w' hk.2⟩) (h.2 i hi).2⟩⟩
theorem AnyE.any {n g : Nat} {L : Array Bool → Act → World → Prop} (hL : ∀ listed a w, L listed a w → wpAny P md ops Q g listed a w) :
    ∀ (f : Nat) (listed : Array Bool) (a : Act) (w : World), AnyE P md ops Q n L S f listed a w → wpAny P md ops Q (f + g) listed a w
  | 0, listed, a, w, h => by rw [Nat.zero_add]; exact hL _ _ _ h
  | f + 1, listed, a, w, h => by
    rw [show f + 1 + g = (f + g) + 1 by omega]
    exact ⟨fun h0 => absurd h0 h.1, fun i hi => wpOp_mono (fun a' w' h' => AnyE.any hL f _ a' w' h'.2) (h.2 i hi).2⟩
theorem AnyE.first {n i : Nat} {oi : Oper} {v : Value} {L : Array Bool → Act → World → Prop} (hi : ops[i]? = some oi) (hsel : ∀ (j : Nat) (o : Oper) cs b, ops[j]? = some o → o.op ≠ .select cs b)
    (hs : Region.sinkB md ops n = true) (hc : Region.chainB md ops n = true) (hn : n < ops.size) (hin : i < n)
    (hQ : ∀ c a w, Q (.panic c) (a.put oi.dst v) w → Q (.panic c) a w)
    (hdone : ∀ listed a w, L listed a w → ∀ j ∈ Region.ready md ops listed, n ≤ j) :
    ∀ (f : Nat) (listed : Array Bool) (a : Act) (w : World), HeadInv md ops n listed →
      (∀ j oj, ops[j]? = some oj → j ≠ i → listed.getD j true = false → (∀ e ∈ oj.after, Region.binds md e = true → e.on ≠ i) → oi.apart ops oj = true) →
      i ∈ Region.ready md ops listed → YieldsIf P ops S oi v a → S w →
      AnyE P md ops Q n L S f (listed.setIfInBounds i true) (a.put oi.dst v) w → AnyE P md ops Q n L S (f + 1) listed a w := by
  intro f
  induction f with
  | zero =>
    intro listed a w inv _ hr hy hS H
    have hun := (mem_ready.1 hr).1
    refine ⟨fun h => (by rw [h] at hr; cases hr), fun j hj => ?_⟩
    have hjn : j < n := by
      rcases Nat.lt_or_ge j n with h | h
      · exact h
      · exact absurd hj (tail_waits hs hc hn inv _ i rfl hin hun j h)
    refine ⟨hjn, ?_⟩
    by_cases hji : j = i
    · subst hji; exact hy.wpOp hi hS ⟨hS, H⟩
    · have := hdone _ _ _ H j (ready_mono hj hji)
      omega
  | succ f ih =>
    intro listed a w inv hfree hr hy hS H
    have hun := (mem_ready.1 hr).1
    refine ⟨fun h => (by rw [h] at hr; cases hr), fun j hj => ?_⟩
    have hjn : j < n := by
      rcases Nat.lt_or_ge j n with h | h
      · exact h
      · exact absurd hj (tail_waits hs hc hn inv _ i rfl hin hun j h)
    refine ⟨hjn, ?_⟩
    by_cases hji : j = i
    · subst hji; exact hy.wpOp hi hS ⟨hS, H⟩
    · have h1 := (H.2 j (ready_mono hj hji)).2
      obtain ⟨hjun, oj, hoj, hall⟩ := mem_ready.1 hj
      have hnot : ∀ e ∈ oj.after, Region.binds md e = true → e.on ≠ i := fun e he hb heq => by
        have h1 := hall e he hb
        rw [heq, getD_both hun] at h1
        cases h1
      have h2 := wpOp_putIf hoj (hfree j oj hoj hji hjun hnot) (fun cs b => hsel i oi cs b hi) (fun cs b => hsel j oj cs b hoj) hQ hy h1
      have hfree' : ∀ k ok, ops[k]? = some ok → k ≠ i → (listed.setIfInBounds j true).getD k true = false →
          (∀ e ∈ ok.after, Region.binds md e = true → e.on ≠ i) → oi.apart ops ok = true := fun k ok hk hki hun hno => by
        refine hfree k ok hk hki ?_ hno
        by_cases hjk : j = k
        · subst hjk; exact hjun
        · rw [getD_set_ne true hjk] at hun; exact hun
      refine wpOp_mono (fun a' w' h3 => ⟨h3.2.1, ih (listed.setIfInBounds j true) a' w' (inv.set hj hjn) hfree' (ready_mono hr (Ne.symm hji)) h3.1 h3.2.1 ?_⟩) h2
      rw [Array.setIfInBounds_comm _ _ hji]
      exact h3.2.2

/-- The order of the walk: of each operation whether it is carried out (else it is taken), and its number. -/
def check (md : Region.Mode) (ops : Array Oper) (n g : Nat) : List (Bool × Nat) → Array Bool → Bool
  | [], listed => Region.seqB md ops g n listed
  | (c, i) :: rest, listed => decide (i < n) && (match c with | true => decide (Region.ready md ops listed = [i]) | false => (Region.ready md ops listed).contains i && Region.free md ops listed i)
      && check md ops n g rest (listed.setIfInBounds i true)
def growB (md : Region.Mode) (ops : Array Oper) (n : Nat) (ord : List (Bool × Nat)) : Bool :=
  Region.noSelect ops && decide (n < ops.size) && Region.sinkB md ops n && Region.chainB md ops n && decide (ord.length + (ops.size - n) = ops.size) && check md ops n (ops.size - n) ord (Array.replicate ops.size false)
/-- The operations in that order. -/
def pick (l : List Oper) : List (Bool × Nat) → List (Bool × Oper)
  | [] => []
  | (c, i) :: r => match l[i]? with | some o => (c, o) :: pick l r | none => []
def walk (P : Program) (ops : Array Oper) (Q : Exit → Act → World → Prop) (tail : List Oper) : List (Bool × Oper) → Act → World → Prop
  | [], a, w => wpList P ops Q tail a w
  | (true, o) :: rest, a, w => if Region.wanted o (yielded ops a.tmps) = true then o.wp P a w (fun a' w' => w.Extends w' ∧ walk P ops Q tail rest a' w') Q else walk P ops Q tail rest (a.put o.dst undef) w
  | (false, o) :: rest, a, w => ∃ v, YieldsIf P ops w.Extends o v a ∧ walk P ops Q tail rest (a.put o.dst v) w
theorem walk_nil {tail : List Oper} {a : Act} {w : World} (h : wpList P ops Q tail a w) : walk P ops Q tail [] a w := h
/-- An operation that is taken. -/
theorem walk_t {tail : List Oper} {rest : List (Bool × Oper)} {o : Oper} {a : Act} {w : World} (v : Value) (hy : YieldsIf P ops w.Extends o v a) (h : walk P ops Q tail rest (a.put o.dst v) w) :
    walk P ops Q tail ((false, o) :: rest) a w := ⟨v, hy, h⟩
/-- An operation that is carried out. -/
theorem walk_c {tail : List Oper} {rest : List (Bool × Oper)} {o : Oper} {a : Act} {w : World}
    (h : ∀ K : Act → World → Prop, Shut (∀ a' w', w.Extends w' → walk P ops Q tail rest a' w' → K a' w') → if Region.wanted o (yielded ops a.tmps) = true then o.wp P a w K Q else K (a.put o.dst undef) w) :
    walk P ops Q tail ((true, o) :: rest) a w := by
  have h0 := h (fun a' w' => w.Extends w' ∧ walk P ops Q tail rest a' w') (fun _ _ h1 h2 => ⟨h1, h2⟩)
  unfold walk
  split
  · rename_i hw; rw [if_pos hw] at h0; exact h0
  · rename_i hw; rw [if_neg hw] at h0; exact h0.2

theorem walk_sound {l : List Oper} {n : Nat} (hsel : Region.noSelect l.toArray = true) (hs : Region.sinkB md l.toArray n = true) (hc : Region.chainB md l.toArray n = true) (hn : n < l.toArray.size)
    (hQ : ∀ d v c a w, Q (.panic c) (Act.put a d v) w → Q (.panic c) a w) :
    ∀ (ord : List (Bool × Nat)) (listed : Array Bool) (a : Act) (w : World), HeadInv md l.toArray n listed → check md l.toArray n (l.toArray.size - n) ord listed = true →
      walk P l.toArray Q (l.drop n) (pick l ord) a w →
      AnyE P md l.toArray Q n (fun listed' a' w' => Region.seqB md l.toArray (l.toArray.size - n) n listed' = true ∧ wpList P l.toArray Q (l.drop n) a' w') w.Extends ord.length listed a w
  | [], listed, a, w, _, hB, h => ⟨hB, h⟩
  | (c, i) :: rest, listed, a, w, inv, hB, h => by
    simp only [check, Bool.and_eq_true, decide_eq_true_eq] at hB
    obtain ⟨⟨hin, hr⟩, hB'⟩ := hB
    have hil : i < l.length := by have : l.toArray.size = l.length := by simp
                                  omega
    have ho : l[i]? = some l[i] := List.getElem?_eq_getElem hil
    have hoa : l.toArray[i]? = some l[i] := by simp
    simp only [pick, ho] at h
    cases c with
    | true =>
      simp only [decide_eq_true_eq] at hr
      refine ⟨(by rw [hr]; simp), fun j hj => ?_⟩
      rw [hr] at hj
      obtain rfl : j = i := by simpa using hj
      refine ⟨hin, ?_⟩
      have hrm : j ∈ Region.ready md l.toArray listed := by rw [hr]; simp
      unfold walk at h
      unfold wpOp
      simp only [hoa]
      split
      · rename_i hw
        rw [if_pos hw] at h
        exact .inl (Oper.wp_mono (fun a' w' hk => ⟨hk.1, AnyE.weaken (fun u hu => ext_trans hk.1 hu) _ _ _ _ (walk_sound hsel hs hc hn hQ rest _ a' w' (inv.set hrm hin) hB' hk.2)⟩) h)
      · rename_i hw
        rw [if_neg hw] at h
        exact ⟨ext_refl w, walk_sound hsel hs hc hn hQ rest _ _ w (inv.set hrm hin) hB' h⟩
    | false =>
      simp only [Bool.and_eq_true] at hr
      unfold walk at h
      obtain ⟨v, hy, hK⟩ := h
      have hrm : i ∈ Region.ready md l.toArray listed := by simpa using hr.1
      exact AnyE.first hoa (Region.noSelect_spec hsel) hs hc hn hin (fun c a w => hQ _ v c a w) (fun listed' a' w' hL => seqB_ready hL.1) rest.length listed a w inv (Region.free_spec hoa hr.2) hrm hy (ext_refl w)
        (walk_sound hsel hs hc hn hQ rest _ _ w (inv.set hrm hin) hB' hK)

theorem region {id : Nat} {a : Act} {w : World} {l : List Oper} (n : Nat) (ord : List (Bool × Nat)) (hm : P.follows .mixedOrders = true) (hB : growB .any l.toArray n ord = true)
    (hQ : ∀ d v c a w, Q (.panic c) (Act.put a d v) w → Q (.panic c) a w)
    (h : walk P l.toArray Q (l.drop n) (pick l ord) a w.drew) : (Code.region id l.toArray true).wp P Q a w := by
  simp only [growB, Bool.and_eq_true, decide_eq_true_eq] at hB
  obtain ⟨⟨⟨⟨⟨hsel, hn⟩, hs⟩, hc⟩, hlen⟩, hck⟩ := hB
  have hdl : (l.drop n).length = l.toArray.size - n := by simp
  have inv0 : HeadInv .any l.toArray n (Array.replicate l.toArray.size false) :=
    ⟨by simp, fun j oj _ hl => (by rw [getD_replicate_false] at hl; cases hl), fun t _ ht => getD_in (by simpa using ht) (getD_replicate_false _ _)⟩
  have H := walk_sound (md := .any) hsel hs hc hn hQ ord _ a w.drew inv0 hck h
  refine wp_region_any hm ?_
  have := AnyE.any (Q := Q) (g := l.toArray.size - n) (fun listed a' w' hL => by
    have := wpAny_of_seq (md := .any) (Q' := Q) (l.drop n) n listed a' w' (fun j => by simp [List.getElem?_drop]) (by rw [hdl]; exact hL.1) hL.2
    rwa [hdl] at this) _ _ _ _ H
  rw [hlen] at this
  exact this
/-! Where more than one operation that is carried out may come up: the walk goes a step at a time. -/
/-- What is left: 'f' operations of the head, then the tail. -/
def Left (P : Program) (l : List Oper) (Q : Exit → Act → World → Prop) (n f : Nat) (listed : Array Bool) (a : Act) (w : World) : Prop :=
  HeadInv .any l.toArray n listed → AnyE P .any l.toArray Q n (fun listed' a' w' => Region.seqB .any l.toArray (l.toArray.size - n) n listed' = true ∧ wpList P l.toArray Q (l.drop n) a' w') w.Extends f listed a w
theorem Left.done {l : List Oper} {n : Nat} {listed : Array Bool} {a : Act} {w : World} (hB : Region.seqB .any l.toArray (l.toArray.size - n) n listed = true) (h : wpList P l.toArray Q (l.drop n) a w) : Left P l Q n 0 listed a w := fun _ => ⟨hB, h⟩
theorem Left.take {l : List Oper} {n f i : Nat} {o : Oper} {listed : Array Bool} {a : Act} {w : World} (hi : l[i]? = some o)
    (hk : (Region.noSelect l.toArray && decide (n < l.toArray.size) && Region.sinkB .any l.toArray n && Region.chainB .any l.toArray n && decide (i < n) && (Region.ready .any l.toArray listed).contains i && Region.free .any l.toArray listed i) = true)
    (hQ : ∀ d v c a w, Q (.panic c) (Act.put a d v) w → Q (.panic c) a w) (v : Value) (hy : YieldsIf P l.toArray w.Extends o v a)
    (h : Left P l Q n f (listed.setIfInBounds i true) (a.put o.dst v) w) : Left P l Q n (f + 1) listed a w := fun inv => by
  simp only [Bool.and_eq_true, decide_eq_true_eq] at hk
  obtain ⟨⟨⟨⟨⟨⟨hsel, hn⟩, hs⟩, hc⟩, hin⟩, hr⟩, hf⟩ := hk
  have hoa : l.toArray[i]? = some o := by simpa using hi
  have hrm : i ∈ Region.ready .any l.toArray listed := by simpa using hr
  exact AnyE.first hoa (Region.noSelect_spec hsel) hs hc hn hin (fun c a w => hQ _ v c a w) (fun listed' a' w' hL => seqB_ready hL.1) f listed a w inv (Region.free_spec hoa hf) hrm hy (ext_refl w) (h (inv.set hrm hin))
/-- One step of an operation that is carried out. -/
def Step (P : Program) (l : List Oper) (Q : Exit → Act → World → Prop) (n f i : Nat) (listed : Array Bool) (a : Act) (w : World) : Prop :=
  ∀ o, l[i]? = some o → ∀ K : Act → World → Prop, Shut (∀ a' w', w.Extends w' → Left P l Q n f (listed.setIfInBounds i true) a' w' → K a' w') → if Region.wanted o (yielded l.toArray a.tmps) = true then o.wp P a w K Q else K (a.put o.dst undef) w
theorem Step.mk {l : List Oper} {n f i : Nat} {o : Oper} {listed : Array Bool} {a : Act} {w : World} (hi : l[i]? = some o)
    (h : ∀ K : Act → World → Prop, Shut (∀ a' w', w.Extends w' → Left P l Q n f (listed.setIfInBounds i true) a' w' → K a' w') → if Region.wanted o (yielded l.toArray a.tmps) = true then o.wp P a w K Q else K (a.put o.dst undef) w) : Step P l Q n f i listed a w := fun o' ho' => by
  rw [hi] at ho'; cases ho'; exact h
theorem Left.some {l : List Oper} {n f : Nat} {rs : List Nat} {listed : Array Bool} {a : Act} {w : World} (hr : Region.ready .any l.toArray listed = rs) (hne : (!rs.isEmpty && rs.all (· < n) && rs.all (· < l.length)) = true)
    (h : ∀ i ∈ rs, Step P l Q n f i listed a w) : Left P l Q n (f + 1) listed a w := fun inv => by
  simp only [Bool.and_eq_true, List.all_eq_true, decide_eq_true_eq] at hne
  refine ⟨(by rw [hr]; intro h0; rw [h0] at hne; simp at hne), fun j hj => ?_⟩
  have hjr : j ∈ rs := hr ▸ hj
  refine ⟨hne.1.2 j hjr, ?_⟩
  have hjl := hne.2 j hjr
  have hoa : l.toArray[j]? = Option.some l[j] := by simp
  have h0 := h j hjr l[j] (List.getElem?_eq_getElem hjl) (fun a' w' => w.Extends w' ∧ Left P l Q n f (listed.setIfInBounds j true) a' w') (fun _ _ h1 h2 => ⟨h1, h2⟩)
  have hinv := inv.set hj (hne.1.2 j hjr)
  have fin : ∀ a' w', w.Extends w' ∧ Left P l Q n f (listed.setIfInBounds j true) a' w' → w.Extends w' ∧ AnyE P .any l.toArray Q n _ w.Extends f (listed.setIfInBounds j true) a' w' :=
    fun a' w' hk => ⟨hk.1, AnyE.weaken (fun u hu => ext_trans hk.1 hu) _ _ _ _ (hk.2 hinv)⟩
  unfold wpOp
  simp only [hoa]
  split
  · rename_i hw; rw [if_pos hw] at h0; exact .inl (Oper.wp_mono fin h0)
  · rename_i hw; rw [if_neg hw] at h0; exact fin _ _ h0
theorem Left.one {l : List Oper} {n f i : Nat} {listed : Array Bool} {a : Act} {w : World} (hr : Region.ready .any l.toArray listed = [i]) (hne : (decide (i < n) && decide (i < l.length)) = true)
    (h : Step P l Q n f i listed a w) : Left P l Q n (f + 1) listed a w :=
  Left.some hr (by simpa using hne) (fun j hj => by obtain rfl : j = i := by simpa using hj
                                                    exact h)
theorem Left.two {l : List Oper} {n f i j : Nat} {listed : Array Bool} {a : Act} {w : World} (hr : Region.ready .any l.toArray listed = [i, j]) (hne : (decide (i < n) && decide (i < l.length) && decide (j < n) && decide (j < l.length)) = true)
    (h1 : Step P l Q n f i listed a w) (h2 : Step P l Q n f j listed a w) : Left P l Q n (f + 1) listed a w :=
  Left.some hr (by simp only [Bool.and_eq_true, decide_eq_true_eq] at hne; simp; omega) (fun k hk => by
    simp only [List.mem_cons, List.not_mem_nil, or_false] at hk
    rcases hk with rfl | rfl
    · exact h1
    · exact h2)
theorem Left.three {l : List Oper} {n f i j k : Nat} {listed : Array Bool} {a : Act} {w : World} (hr : Region.ready .any l.toArray listed = [i, j, k]) (hne : (decide (i < n) && decide (i < l.length) && decide (j < n) && decide (j < l.length) && decide (k < n) && decide (k < l.length)) = true)
    (h1 : Step P l Q n f i listed a w) (h2 : Step P l Q n f j listed a w) (h3 : Step P l Q n f k listed a w) : Left P l Q n (f + 1) listed a w :=
  Left.some hr (by simp only [Bool.and_eq_true, decide_eq_true_eq] at hne; simp; omega) (fun m hm => by
    simp only [List.mem_cons, List.not_mem_nil, or_false] at hm
    rcases hm with rfl | rfl | rfl
    · exact h1
    · exact h2
    · exact h3)
/-- The walk of a beginning; what is left is walked a step at a time. -/
def checkTo (md : Region.Mode) (ops : Array Oper) (n : Nat) : List (Bool × Nat) → Array Bool → Bool
  | [], _ => true
  | (c, i) :: rest, listed => decide (i < n) && (match c with | true => decide (Region.ready md ops listed = [i]) | false => (Region.ready md ops listed).contains i && Region.free md ops listed i)
      && checkTo md ops n rest (listed.setIfInBounds i true)
def lists : List (Bool × Nat) → Array Bool → Array Bool
  | [], listed => listed
  | (_, i) :: rest, listed => lists rest (listed.setIfInBounds i true)
def walkE (P : Program) (ops : Array Oper) (Q : Exit → Act → World → Prop) (E : Act → World → Prop) : List (Bool × Oper) → Act → World → Prop
  | [], a, w => E a w
  | (true, o) :: rest, a, w => if Region.wanted o (yielded ops a.tmps) = true then o.wp P a w (fun a' w' => w.Extends w' ∧ walkE P ops Q E rest a' w') Q else walkE P ops Q E rest (a.put o.dst undef) w
  | (false, o) :: rest, a, w => ∃ v, YieldsIf P ops w.Extends o v a ∧ walkE P ops Q E rest (a.put o.dst v) w
theorem walkE_nil {E : Act → World → Prop} {a : Act} {w : World} (h : E a w) : walkE P ops Q E [] a w := h
theorem walkE_t {E : Act → World → Prop} {rest : List (Bool × Oper)} {o : Oper} {a : Act} {w : World} (v : Value) (hy : YieldsIf P ops w.Extends o v a) (h : walkE P ops Q E rest (a.put o.dst v) w) :
    walkE P ops Q E ((false, o) :: rest) a w := ⟨v, hy, h⟩
theorem walkE_sound {l : List Oper} {n g : Nat} (hsel : Region.noSelect l.toArray = true) (hs : Region.sinkB .any l.toArray n = true) (hc : Region.chainB .any l.toArray n = true) (hn : n < l.toArray.size)
    (hQ : ∀ d v c a w, Q (.panic c) (Act.put a d v) w → Q (.panic c) a w) :
    ∀ (ord : List (Bool × Nat)) (listed : Array Bool) (a : Act) (w : World), checkTo .any l.toArray n ord listed = true →
      walkE P l.toArray Q (Left P l Q n g (lists ord listed)) (pick l ord) a w → Left P l Q n (ord.length + g) listed a w
  | [], listed, a, w, _, h => by rw [List.length_nil, Nat.zero_add]; exact h
  | (c, i) :: rest, listed, a, w, hB, h => fun inv => by
    simp only [checkTo, Bool.and_eq_true, decide_eq_true_eq] at hB
    obtain ⟨⟨hin, hr⟩, hB'⟩ := hB
    have hil : i < l.length := by have : l.toArray.size = l.length := by simp
                                  omega
    have ho : l[i]? = Option.some l[i] := List.getElem?_eq_getElem hil
    have hoa : l.toArray[i]? = Option.some l[i] := by simp
    have hlen : ((c, i) :: rest).length + g = (rest.length + g) + 1 := by simp; omega
    rw [hlen]
    simp only [pick, ho] at h
    cases c with
    | true =>
      simp only [decide_eq_true_eq] at hr
      refine ⟨(by rw [hr]; simp), fun j hj => ?_⟩
      rw [hr] at hj
      obtain rfl : j = i := by simpa using hj
      refine ⟨hin, ?_⟩
      have hrm : j ∈ Region.ready .any l.toArray listed := by rw [hr]; simp
      unfold walkE at h
      unfold wpOp
      simp only [hoa]
      split
      · rename_i hw
        rw [if_pos hw] at h
        exact .inl (Oper.wp_mono (fun a' w' hk => ⟨hk.1, AnyE.weaken (fun u hu => ext_trans hk.1 hu) _ _ _ _ (walkE_sound hsel hs hc hn hQ rest _ a' w' hB' hk.2 (inv.set hrm hin))⟩) h)
      · rename_i hw
        rw [if_neg hw] at h
        exact ⟨ext_refl w, walkE_sound hsel hs hc hn hQ rest _ _ w hB' h (inv.set hrm hin)⟩
    | false =>
      simp only [Bool.and_eq_true] at hr
      unfold walkE at h
      obtain ⟨v, hy, hK⟩ := h
      have hrm : i ∈ Region.ready .any l.toArray listed := by simpa using hr.1
      exact AnyE.first hoa (Region.noSelect_spec hsel) hs hc hn hin (fun c a w => hQ _ v c a w) (fun listed' a' w' hL => seqB_ready hL.1) (rest.length + g) listed a w inv (Region.free_spec hoa hr.2) hrm hy (ext_refl w)
        (walkE_sound hsel hs hc hn hQ rest _ _ w hB' hK (inv.set hrm hin))
theorem regionE {id : Nat} {a : Act} {w : World} {l : List Oper} (n g : Nat) (ord : List (Bool × Nat)) (hm : P.follows .mixedOrders = true)
    (hB : (Region.noSelect l.toArray && decide (n < l.toArray.size) && Region.sinkB .any l.toArray n && Region.chainB .any l.toArray n && decide (ord.length + g = n) && checkTo .any l.toArray n ord (Array.replicate l.toArray.size false)) = true)
    (hQ : ∀ d v c a w, Q (.panic c) (Act.put a d v) w → Q (.panic c) a w)
    (h : walkE P l.toArray Q (Left P l Q n g (lists ord (Array.replicate l.toArray.size false))) (pick l ord) a w.drew) : (Code.region id l.toArray true).wp P Q a w := by
  simp only [Bool.and_eq_true, decide_eq_true_eq] at hB
  obtain ⟨⟨⟨⟨⟨hsel, hn⟩, hs⟩, hc⟩, hlen⟩, hck⟩ := hB
  have hdl : (l.drop n).length = l.toArray.size - n := by simp
  have inv0 : HeadInv .any l.toArray n (Array.replicate l.toArray.size false) :=
    ⟨by simp, fun j oj _ hl => (by rw [getD_replicate_false] at hl; cases hl), fun t _ ht => getD_in (by simpa using ht) (getD_replicate_false _ _)⟩
  have H := walkE_sound hsel hs hc hn hQ ord _ a w.drew hck h inv0
  refine wp_region_any hm ?_
  have := AnyE.any (Q := Q) (g := l.toArray.size - n) (fun listed a' w' hL => by
    have := wpAny_of_seq (md := .any) (Q' := Q) (l.drop n) n listed a' w' (fun j => by simp [List.getElem?_drop]) (by rw [hdl]; exact hL.1) hL.2
    rwa [hdl] at this) _ _ _ _ H
  rw [hlen, show n + (l.toArray.size - n) = l.toArray.size by omega] at this
  exact this
end
end Gr
theorem grown_in {a b c : World} {g : Nat} {r : Option Nat} (h : a.grownBy b (some g)) (k : b.grownBy c r) (hr : ∀ x, r = some x → a.heap.size ≤ x) : a.grownBy c (some g) :=
  ⟨k.os.trans h.os, k.tape.trans h.tape, k.output.trans h.output, Nat.le_trans h.size k.size, fun i hi hn =>
    (k.block i (Nat.lt_of_lt_of_le hi h.size) (fun e => by have := hr i e.symm; omega)).trans (h.block i hi hn)⟩
theorem ext_grown {a b c : World} {g : Nat} (h : a.Extends b) (k : b.grownBy c (some g)) (hg : a.heap.size ≤ g) : a.Extends c :=
  Gr.ext_of ((Gr.below_of h).trans ⟨k.os, k.tape, k.output, k.size, fun i hi => k.block i (Nat.lt_of_lt_of_le hi h.size) (by simp; omega)⟩)
theorem ext_own {a b c : World} {r : Option Nat} (h : a.Extends b) (k : b.grownBy c r) (hr : ∀ x, r = some x → a.heap.size ≤ x) : a.Extends c :=
  Gr.ext_of ((Gr.below_of h).trans ⟨k.os, k.tape, k.output, k.size, fun i hi => k.block i (Nat.lt_of_lt_of_le hi h.size) (fun e => by have := hr i e.symm; omega)⟩)
end Go.Proofs.YtpfmmfapdcbnkaaGreatDoor
namespace Go.Proofs.YtpfmmfapdcbnkaaGreatDoor
set_option maxRecDepth 20000
open Go.RowKit
theorem u8info : (Tryz.prog.info? 5).map (fun i => (i.zero, i.size, i.bytes)) = some (some (.int .u8 0), 1, 1) := by kernel_rfl
theorem makeRow (k : Nat) (hk : k ≤ 281474976710656) (w : World) : (Instr.makeSlice 99 (.int .i64 (k : Int)) (.int .i64 (k : Int))).run Tryz.prog w = .ok (.slice (some ⟨w.heap.size, 0, none⟩) k k) (w.alloc (.cells (madeCells #[.int .u8 0] k) 5)) :=
  run_make_row' (P := Tryz.prog) 99 5 (.int .u8 0) 1 Tryz.underlying99 u8info rfl .i64 .i64 k (by omega) (by omega) w
theorem makeBytes (k : Nat) (hk : k ≤ 281474976710656) (w : World) : (Instr.makeSlice 30 (.int .i64 (k : Int)) (.int .i64 (k : Int))).run Tryz.prog w = .ok (.slice (some ⟨w.heap.size, 0, none⟩) k k) (w.alloc (.cells (madeCells #[.int .u8 0] k) 5)) :=
  run_make_row' (P := Tryz.prog) 30 5 (.int .u8 0) 1 Tryz.underlying30 u8info rfl .i64 .i64 k (by omega) (by omega) w
theorem retslice {a : Option Addr} {l l' c c' : Nat} (h : l = l') (h' : c = c') : Ending.returned (.slice a l c) = .returned (.slice a l' c') := by rw [h, h']
set_option maxHeartbeats 400000 in
theorem zeros_any (n : Int) (w : World) :
    Calls Tryz.prog 103 #[.int .i64 n] w fun e w' => e = .returned (.slice (some ⟨w.heap.size, 0, none⟩) (RM.cut n) (RM.cut n)) ∧ w' = w.alloc (.cells (madeCells #[.int .u8 0] (RM.cut n)) 5) := by
  by_cases h1 : n < 0
  · have hc : RM.cut n = 0 := by unfold RM.cut; omega
    rw [hc]
    have hmk := fun w => makeRow 0 (by omega) w
    simp only [Int.cast_ofNat_Int] at hmk
    go_enter Tryz.func103, Tryz.ntmps103
    go_wp2
    go_ret
    exact ⟨rfl, rfl⟩
  · obtain ⟨k, rfl⟩ := Int.eq_ofNat_of_zero_le (show 0 ≤ n by omega)
    by_cases h2 : k ≤ 1000
    · have hc : RM.cut k = k := by unfold RM.cut; omega
      rw [hc]
      have hmk := fun w => makeRow k (by omega) w
      go_enter Tryz.func103, Tryz.ntmps103
      go_wp2
      go_ret
      exact ⟨rfl, rfl⟩
    · have hc : RM.cut k = 1000 := by unfold RM.cut; omega
      rw [hc]
      have hmk := fun w => makeRow 1000 (by omega) w
      simp only [Int.cast_ofNat_Int] at hmk
      go_enter Tryz.func103, Tryz.ntmps103
      go_wp2
      go_ret
      exact ⟨rfl, rfl⟩
set_option maxHeartbeats 400000 in
theorem head_any (a : Option Addr) (l cap n : Nat) (h1 : l ≤ cap) (_h2 : cap ≤ maxLen) (w : World) :
    Calls Tryz.prog 116 #[.slice a l cap, .int .i64 n] w fun e w' => e = .returned (.slice a (min n l) cap) ∧ w = w' := by
  have h2 := _h2; unfold maxLen at h2; clear _h2
  go_enter Tryz.func116, Tryz.ntmps116
  go_wp2
  all_goals
    go_ret
    exact ⟨retslice (by omega) rfl, rfl⟩
theorem add_none (b n cap : Nat) (a : Option Addr) (l cap' : Nat) (hl : l ≤ cap') (hc : cap' ≤ maxLen) (h0 : min n l = 0) (w : World) :
    Calls Tryz.prog 104 #[.slice (some ⟨b, 0, none⟩) n cap, .slice a l cap'] w fun e w' => e = .returned (.tuple #[]) ∧ w = w' := by
  go_enter Tryz.func104, Tryz.ntmps104
  go_wp2_with fail
  refine (head_any _ _ _ _ hl hc _).mono ?_
  rintro e w' ⟨rfl, rfl⟩
  rw [h0]
  go_wp2
  refine wp_loop_rounds 1 ?_; rw [rounds_succ]
  go_wp2
  go_end0
  exact ⟨rfl, rfl⟩
set_option maxHeartbeats 1000000 in
theorem add_some (b : Nat) (xs ys : List Nat) (a : Option Addr) (cap' : Nat) (w : World) (ho : Own w b 5 xs) (hv : U8s w (.slice a ys.length cap') ys) (hl : ys.length ≤ cap') (hm : cap' ≤ maxLen)
    (hne : Value.ownBlock (.slice a ys.length cap') ≠ some b) (h0 : 0 < min xs.length ys.length) :
    Calls Tryz.prog 104 #[.slice (some ⟨b, 0, none⟩) xs.length xs.length, .slice a ys.length cap'] w fun e w' => e = .returned (.tuple #[]) ∧ w.grownBy w' (some b) ∧ Own w' b 5 (RM.xr xs ys) := by
  have hxl := ho.2.1
  obtain ⟨_, hcell⟩ := hv.cell
  obtain ⟨b', off, rfl, hb', hc⟩ := hcell (by omega)
  have hne' : b' ≠ b := by simpa [Value.ownBlock] using hne
  have hylt := Lib.hid hv.lt
  have hxlt := Lib.hid ho.2.2
  have HO0 := Lib.hid ho
  have HC := Lib.hid hc
  clear hv hcell hc ho hne
  generalize hn : xs.length = n at *
  generalize hny : ys.length = ny at *
  have HN := Lib.hid hn; clear hn
  have HNY := Lib.hid hny; clear hny
  generalize hmm : min n ny = m at *
  have HM : Hid (m = min n ny) := hmm.symm
  have hmn : m ≤ n := by omega
  have hmy : m ≤ ny := by omega
  clear hmm
  unfold maxLen at hxl
  go_enter Tryz.func104, Tryz.ntmps104
  go_wp2_with fail
  refine (head_any _ _ _ _ hl hm _).mono ?_
  rintro e w' ⟨rfl, rfl⟩
  rw [← HM.out]
  clear hl hm
  go_wp2
  go_loopw [11] (fun i wr => ∃ k : Nat, k ≤ m ∧ i = .int .i64 k ∧ w.grownBy wr (some b) ∧ Own wr b 5 (RM.xrTo k xs ys)) (fun i _ => (m - intOf i).toNat)
  case atStart => exact ⟨0, by omega, rfl, grown_refl _ _, by rw [RM.xrTo_zero]; exact HO0.out⟩
  case round =>
    obtain ⟨k, hk, rfl, hg, ho⟩ := hrel
    by_cases h1 : k < m
    · have hc1 : wr.cell? ⟨b', off + k, none⟩ = some (.int .u8 (ys.getD k 0 : Nat)) := hg.cell (HC.out k (by omega)) (by simpa using hne')
      have hxk : k < xs.length := by rw [HN.out]; omega
      have hc2 : wr.cell? ⟨b, k, none⟩ = some (.int .u8 (xs.getD k 0 : Nat)) := by
        have := ho.1.cell (i := k) (by rw [RM.xrTo_length]; exact hxk)
        rw [this, RM.xrTo_at k xs ys hxk]
      have hc3 := ho.1.frozen k
      have hbl := ho.lt
      have HG := Lib.hid hg
      have HO := Lib.hid ho
      clear hg ho
      have hx1 := getD_lt xs hxlt.out k
      have hy1 := getD_lt ys hylt.out k
      have hs2 : Hid (FM.sum [xs.getD k 0, ys.getD k 0] = xs.getD k 0 ^^^ ys.getD k 0) := by simp [FM.sum, Hid]
      generalize hx : xs.getD k 0 = x at *
      have HX := Lib.hid hx; clear hx
      generalize hy : ys.getD k 0 = y at *
      have HY := Lib.hid hy; clear hy
      go_wp2_with fail
      refine (add_any _ [x, y] _ (u8s_new _ _ _ _ _ _ _ rfl rfl rfl (by simp [maxLen]) (by simp [hx1, hy1]))).mono ?_
      rintro e w' ⟨rfl, rfl⟩
      rw [hs2.out]
      go_wp2
      go_roundw
      case rel =>
        refine ⟨k + 1, by omega, by go_num, grown_alloc (grown_setCell HG.out _ _) _, ?_⟩
        rw [← RM.xrTo_succ k xs ys hxk, HX.out, HY.out]
        exact (HO.out.set k _ (by rw [RM.xrTo_length]; exact hxk) (FM.xor_lt hx1 hy1)).alloc _
      case measure => simp [intOf]; omega
    · obtain rfl : k = m := by omega
      have HP : Hid (w.grownBy wr (some b) ∧ Own wr b 5 (RM.xr xs ys)) := ⟨hg, by rw [← RM.xrTo_all k xs ys (by rw [HN.out, HNY.out, ← HM.out]; exact Nat.le_refl _)]; exact ho⟩
      clear hg ho
      go_wp2
      go_end0
      exact ⟨rfl, HP.out⟩
theorem RM.xr_none (xs ys : List Nat) (h : min xs.length ys.length = 0) : RM.xr xs ys = xs := by
  rw [← RM.xrTo_all 0 xs ys (by omega), RM.xrTo_zero]
/-- s plus r, where s is a row of the call's own and r is not that row. -/
theorem add_row (b : Nat) (xs ys : List Nat) (v : Value) (w : World) (ho : Own w b 5 xs) (hv : U8s w v ys) (hne : ys = [] ∨ v.ownBlock ≠ some b) :
    Calls Tryz.prog 104 #[.slice (some ⟨b, 0, none⟩) xs.length xs.length, v] w fun e w' => e = .returned (.tuple #[]) ∧ w.grownBy w' (some b) ∧ Own w' b 5 (RM.xr xs ys) := by
  obtain ⟨a, cap, rfl, hl, hm⟩ := hv.slice
  by_cases h0 : min xs.length ys.length = 0
  · refine (add_none b xs.length xs.length a ys.length cap hl hm h0 w).mono ?_
    rintro e w' ⟨rfl, rfl⟩
    exact ⟨rfl, grown_refl _ _, by rw [RM.xr_none xs ys h0]; exact ho⟩
  · refine add_some b xs ys a cap w ho hv hl hm ?_ (by omega)
    rcases hne with rfl | hne
    · simp at h0
    · exact hne
theorem Own.madeZ (w : World) (n : Nat) (hn : n ≤ 1000) : Own (w.alloc (.cells (madeCells #[.int .u8 0] n) 5)) w.heap.size 5 (RM.zeros n) := Own.made w n _ (by unfold maxLen; omega)
theorem cut_le (n : Int) : RM.cut n ≤ 1000 := by unfold RM.cut; omega
set_option maxHeartbeats 1000000 in
theorem sum_any (n : Int) (v : Value) (l : List (List Nat)) (w : World) (hv : Rws w v l) :
    Calls Tryz.prog 89 #[.int .i64 n, v] w fun e w' => e = .returned (.slice (some ⟨w.heap.size, 0, none⟩) (RM.cut n) (RM.cut n)) ∧ Below w.heap.size w w' ∧ Own w' w.heap.size 5 (RM.sum (RM.cut n) l) := by
  have hm0 := cut_le n
  have hlm := hv.len
  have HV0 := Lib.hid hv
  obtain ⟨a, cap, rfl, _⟩ := hv.slice
  have hw1 : w.Extends (w.alloc (.cells (madeCells #[.int .u8 0] (RM.cut n)) 5)) := ext_below ((Below.refl _ _).alloc (Nat.le_refl _) _) rfl
  have HR := Lib.hid hv.at.2
  clear hv
  have HB0 : Hid (Below w.heap.size w (w.alloc (.cells (madeCells #[.int .u8 0] (RM.cut n)) 5))) := (Below.refl _ _).alloc (Nat.le_refl _) _
  have HO0 := Lib.hid (Own.madeZ w (RM.cut n) hm0)
  generalize hll : l.length = ll at *
  have HL := Lib.hid hll; clear hll
  unfold maxLen at hlm
  obtain ⟨w1, hw1e⟩ : ∃ w1, w1 = w.alloc (.cells (madeCells #[.int .u8 0] (RM.cut n)) 5) := ⟨_, rfl⟩
  rw [← hw1e] at hw1 HB0 HO0
  have HE := Lib.hid hw1e; clear hw1e
  generalize hcn : RM.cut n = m at *
  have HCN := Lib.hid hcn; clear hcn
  generalize hbs : w.heap.size = b at *
  have HBS := Lib.hid hbs; clear hbs
  go_enter Tryz.func89, Tryz.ntmps89
  go_wp2_with fail
  refine (zeros_any _ _).mono ?_
  rintro e w1' ⟨rfl, he⟩
  obtain rfl : w1 = w1' := by rw [HE.out, he, HCN.out]
  clear he HE
  rw [HCN.out, HBS.out]
  by_cases h0 : ll = 0
  · subst h0
    have HS : Hid (RM.sum m l = RM.zeros m) := by rw [List.eq_nil_of_length_eq_zero HL.out]; exact rfl
    go_wp2
    refine wp_loop_rounds 1 ?_; rw [rounds_succ]
    go_wp2
    go_ret
    exact ⟨rfl, HB0.out, by rw [HS.out]; exact HO0.out⟩
  · obtain ⟨bb, off, rfl, hbb, hrow⟩ := HR.out (by omega)
    clear HR
    have HR := Lib.hid hrow; clear hrow
    go_wp2
    go_loopw [12] (fun i wr => ∃ k : Nat, k ≤ ll ∧ i = .int .i64 k ∧ w1.grownBy wr (some b) ∧ Own wr b 5 (RM.sum m (l.take k))) (fun i _ => (ll - intOf i).toNat)
    case atStart => exact ⟨0, by omega, rfl, grown_refl _ _, HO0.out⟩
    case round =>
      obtain ⟨k, hk, rfl, hg, ho⟩ := hrel
      by_cases h1 : k < ll
      · obtain ⟨a', c', hc0, hu0⟩ := HR.out k h1
        have hold := hu0.old (b := b) (by rw [HBS.out]; exact Nat.le_refl _)
        have hc : wr.cell? ⟨bb, off + k, none⟩ = some (.slice a' (l.getD k []).length c') := hg.cell ((hw1.cell ⟨bb, off + k, none⟩ (by rw [HBS.out]; exact hbb)).trans hc0) (by simp; omega)
        have HU := Lib.hid ((hu0.ext hw1).grown hg hold)
        have HG := Lib.hid hg
        have HO := Lib.hid ho
        have hsl := RM.sum_length m (l.take k)
        have HSN := Lib.hid (RM.sum_snoc m l k (by rw [HL.out]; exact h1))
        have hbl := ho.lt
        clear hu0 hc0 hg ho
        generalize hr : l.getD k [] = r at *
        have HRR := Lib.hid hr; clear hr
        generalize hs : RM.sum m (l.take k) = sm at *
        have HS := Lib.hid hs; clear hs
        go_wp2_with fail
        have hc1 := add_row b sm r _ wr HO.out HU.out hold
        rw [hsl] at hc1
        have HSL := Lib.hid hsl; clear hsl
        refine hc1.mono ?_
        rintro e w' ⟨rfl, hg', ho'⟩
        clear hc1
        have HP : Hid (w1.grownBy w' (some b) ∧ Own w' b 5 (RM.sum m (l.take (k + 1)))) := ⟨grown_trans HG.out hg', by rw [HSN.out]; exact ho'⟩
        clear hg' ho'
        go_wp2
        go_roundw
        case rel => exact ⟨k + 1, by omega, by go_num, HP.out⟩
        case measure => simp [intOf]; omega
      · obtain rfl : k = ll := by omega
        have HP : Hid (Below b w wr ∧ Own wr b 5 (RM.sum m l)) := ⟨HB0.out.trans (below_grown hg (Nat.le_refl _) (Nat.le_of_lt HO0.out.lt)), by rw [show l = l.take k by rw [← HL.out, List.take_length]]; exact ho⟩
        clear hg ho
        go_wp2
        go_ret
        exact ⟨rfl, HP.out⟩
end Go.Proofs.YtpfmmfapdcbnkaaGreatDoor
namespace Go.Proofs.YtpfmmfapdcbnkaaGreatDoor
set_option maxRecDepth 20000
open Go.RowKit
def refcut (n lo hi : Int) : Int := if n < lo then lo else if hi < n then hi else n
theorem refcut_row (n : Int) : refcut n 0 1000 = (RM.cut n : Nat) := by
  unfold refcut RM.cut
  by_cases h1 : n < 0
  · rw [if_pos h1]; omega
  · rw [if_neg h1]
    by_cases h2 : 1000 < n
    · rw [if_pos h2]; omega
    · rw [if_neg h2]; omega
theorem reti64 {a b : Int} (h : a = b) : Ending.returned (.int .i64 a) = .returned (.int .i64 b) := by rw [h]
set_option maxHeartbeats 400000 in
theorem rcut_any (n lo hi : Int) (w : World) :
    Calls Tryz.prog 31 #[.int .i64 n, .int .i64 lo, .int .i64 hi] w fun e w' => e = .returned (.int .i64 (refcut n lo hi)) ∧ w = w' := by
  by_cases h1 : n < lo
  · have hf : Hid (refcut n lo hi = lo) := by unfold refcut; exact if_pos h1
    go_enter Tryz.func31, Tryz.ntmps31
    go_wp2
    go_ret
    exact ⟨reti64 hf.out.symm, rfl⟩
  · by_cases h2 : hi < n
    · have hf : Hid (refcut n lo hi = hi) := by unfold refcut; rw [if_neg h1]; exact if_pos h2
      go_enter Tryz.func31, Tryz.ntmps31
      go_wp2
      go_ret
      exact ⟨reti64 hf.out.symm, rfl⟩
    · have hf : Hid (refcut n lo hi = n) := by unfold refcut; rw [if_neg h1]; exact if_neg h2
      go_enter Tryz.func31, Tryz.ntmps31
      go_wp2
      go_ret
      exact ⟨reti64 hf.out.symm, rfl⟩
set_option maxHeartbeats 400000 in
theorem at_any (v : Value) (xs : List Nat) (i : Nat) (w : World) (hv : U8s w v xs) :
    Calls Tryz.prog 74 #[v, .int .i64 i] w fun e w' => e = .returned (.int .u8 (xs.getD i 0 : Nat)) ∧ w = w' := by
  obtain ⟨a, cap, rfl, _, _⟩ := hv.slice
  by_cases h1 : i < xs.length
  · obtain ⟨b, off, rfl, hb, hc⟩ := hv.cell.2 (by omega)
    have hc1 := hc i h1
    clear hc hv
    generalize xs.getD i 0 = x at *
    generalize xs.length = n at *
    go_enter Tryz.func74, Tryz.ntmps74
    go_wp2
    go_ret
    exact ⟨rfl, rfl⟩
  · have hf : Hid (xs.getD i 0 = 0) := RM.getD_far xs i (by omega)
    clear hv
    generalize xs.length = n at *
    go_enter Tryz.func74, Tryz.ntmps74
    go_wp2
    go_ret
    exact ⟨retu8 (by rw [hf.out]; rfl), rfl⟩
theorem xrTo_full (s r : List Nat) (n : Nat) (h : s.length = n) : RM.xrTo n s r = RM.xr s r := RM.xrTo_all _ _ _ (by omega)
set_option maxHeartbeats 1000000 in
theorem rsum_any (n : Int) (v : Value) (l : List (List Nat)) (w : World) (hv : Rws w v l) :
    Calls Tryz.prog 50 #[.int .i64 n, v] w fun e w' => e = .returned (.slice (some ⟨w.heap.size, 0, none⟩) (RM.cut n) (RM.cut n)) ∧ Below w.heap.size w w' ∧ Own w' w.heap.size 5 (RM.sum (RM.cut n) l) := by
  have hm0 := cut_le n
  have hm2 := hv.len
  obtain ⟨a', cap', rfl, _⟩ := hv.slice
  have hw1 : w.Extends (w.alloc (.cells (madeCells #[.int .u8 0] (RM.cut n)) 5)) := ext_below ((Below.refl _ _).alloc (Nat.le_refl _) _) rfl
  have hcv := Lib.hid hv.at.2
  have HROW := Lib.hid hv.row_lt
  clear hv
  have HB0 : Hid (Below w.heap.size w (w.alloc (.cells (madeCells #[.int .u8 0] (RM.cut n)) 5))) := (Below.refl _ _).alloc (Nat.le_refl _) _
  have HO0 := Lib.hid (Own.madeZ w (RM.cut n) hm0)
  have hmk := makeBytes (RM.cut n) (by omega) w
  have HRC := Lib.hid (refcut_row n)
  generalize hll : l.length = ll at *
  have HL := Lib.hid hll; clear hll
  unfold maxLen at hm2
  obtain ⟨w1, hw1e⟩ : ∃ w1, w1 = w.alloc (.cells (madeCells #[.int .u8 0] (RM.cut n)) 5) := ⟨_, rfl⟩
  rw [← hw1e] at hw1 HB0 HO0 hmk
  clear hw1e
  have HW1 := Lib.hid hw1; clear hw1
  generalize hcn : RM.cut n = m at *
  have HCN := Lib.hid hcn; clear hcn
  have HMK := Lib.hid hmk; clear hmk
  generalize hbs : w.heap.size = b at *
  have HBS := Lib.hid hbs; clear hbs
  go_enter Tryz.func50, Tryz.ntmps50
  go_wp2_with fail
  refine (rcut_any _ _ _ _).mono ?_
  rintro e w' ⟨rfl, rfl⟩
  rw [HRC.out]
  have hmk := HMK.out
  go_wp2
  clear hmk
  go_loopw [6] (fun i wr => ∃ k : Nat, k ≤ ll ∧ i = .int .i64 k ∧ w1.grownBy wr (some b) ∧ Own wr b 5 (RM.sum m (l.take k))) (fun i _ => (ll - intOf i).toNat)
  case atStart => exact ⟨0, by omega, rfl, grown_refl _ _, HO0.out⟩
  case round =>
    obtain ⟨k, hk, rfl, hg, ho⟩ := hrel
    by_cases h1 : k < ll
    · obtain ⟨b2, o2, rfl, hb2, hc2⟩ := hcv.out (by omega)
      obtain ⟨ra, rc, hc3, hr0⟩ := hc2 k h1
      have hold := hr0.old (b := b) (by rw [HBS.out]; exact Nat.le_refl _)
      have hsl := RM.sum_length m (l.take k)
      have HSN := Lib.hid (RM.sum_snoc m l k (by rw [HL.out]; exact h1))
      have HC := Lib.hid (HW1.out.cell_of hc3)
      have HR := Lib.hid (hr0.ext HW1.out)
      have HRL := Lib.hid (fun i => HROW.out k i)
      have HG := Lib.hid hg
      have HO := Lib.hid ho
      clear hc2 hc3 hr0 hg ho
      have HOLD := Lib.hid hold; clear hold
      generalize hr : l.getD k [] = r at *
      have HRR := Lib.hid hr; clear hr
      generalize hs : RM.sum m (l.take k) = sm at *
      have HSS := Lib.hid hs; clear hs
      have HSL := Lib.hid hsl; clear hsl
      have HXF := Lib.hid (xrTo_full sm r m HSL.out)
      obtain ⟨wo, rfl⟩ : ∃ wo : World, wo = wr := ⟨_, rfl⟩
      go_wp2
      go_loopw [7] (fun i wr => ∃ j : Nat, j ≤ m ∧ i = .int .i64 j ∧ w1.grownBy wr (some b) ∧ Own wr b 5 (RM.xrTo j sm r)) (fun i _ => (m - intOf i).toNat)
      case atStart => exact ⟨0, by omega, rfl, HG.out, by rw [RM.xrTo_zero]; exact HO.out⟩
      case round =>
        obtain ⟨j, hj, rfl, hg, ho⟩ := hrel
        by_cases h2 : j < m
        · have hjs : j < sm.length := by rw [HSL.out]; exact h2
          have hx1 : sm.getD j 0 < 256 := by
            have := getD_lt _ ho.2.2 j
            rwa [RM.xrTo_at j sm r hjs] at this
          have hy1 := HRL.out j
          have hcs : wr.cell? ⟨b, j, none⟩ = some (.int .u8 (sm.getD j 0 : Nat)) := by
            have := ho.1.cell (i := j) (by rw [RM.xrTo_length]; exact hjs)
            rw [this, RM.xrTo_at j sm r hjs]
          have hfz := ho.1.frozen j
          have hcr : wr.cell? ⟨b2, o2 + k, none⟩ = some (.slice ra r.length rc) := hg.cell HC.out (by simp; omega)
          have HU := Lib.hid (HR.out.grown hg HOLD.out)
          have HP : Hid (w1.grownBy (wr.setCell ⟨b, j, none⟩ (.int .u8 (sm.getD j 0 ^^^ r.getD j 0 : Nat))) (some b) ∧ Own (wr.setCell ⟨b, j, none⟩ (.int .u8 (sm.getD j 0 ^^^ r.getD j 0 : Nat))) b 5 (RM.xrTo (j + 1) sm r)) :=
            ⟨grown_setCell hg _ _, by rw [← RM.xrTo_succ j sm r hjs]; exact ho.set j _ (by rw [RM.xrTo_length]; exact hjs) (FM.xor_lt hx1 hy1)⟩
          have HL1 : Hid (∀ w', wr.Extends w' → w'.cell? ⟨b, j, none⟩ = some (.int .u8 (sm.getD j 0 : Nat))) := fun w' hw' => hw'.cell_of hcs
          have HL2 : Hid (∀ w', wr.Extends w' → w'.cell? ⟨b2, o2 + k, none⟩ = some (.slice ra r.length rc)) := fun w' hw' => hw'.cell_of hcr
          have hex := u8_xor_nat (sm.getD j 0) (r.getD j 0) hx1 hy1
          clear hg ho hcr
          have HRM := Lib.hid (RM.getD_far r j)
          generalize hx : sm.getD j 0 = x at *
          have HXX := Lib.hid hx; clear hx
          obtain ⟨y, hy⟩ : ∃ y, y = r.getD j 0 := ⟨_, rfl⟩
          rw [← hy] at hex hy1 HP
          have HYY := Lib.hid hy; clear hy
          go_wp2_with fail
          refine Gr.region 13 [(false,0),(false,1),(false,2),(false,3),(false,4),(false,5),(false,6),(false,7),(false,8),(false,9),(false,10),(true,11),(false,12)] (by kernel_rfl) (by kernel_rfl) (fun d _ _ _ _ h => by cases d <;> exact h) ?_
          simp only [Gr.pick, List.getElem?_cons_zero, List.getElem?_cons_succ, List.drop_succ_cons, List.drop_zero]
          iterate 11
            refine Gr.walk_t ?_ (Or.inl ⟨by rfl, ?_⟩) ?_
            rotate_left
            · intro w' hw'
              have hc1 := HL1.out w' (Gr.of_drew hw')
              have hc2 := HL2.out w' (Gr.of_drew hw')
              clear hw'
              go_simp
              try with_reducible rfl
            simp only [Act.put, List.setIfInBounds_toArray, List.set_cons_zero, List.set_cons_succ]
          refine Gr.walk_c (fun K hK => ?_)
          go_simp
          refine (at_any _ r j _ HU.out.drew).mono ?_
          rintro e w' ⟨rfl, rfl⟩
          rw [← HYY.out]
          try go_simp
          refine hK.out _ _ (Gr.ext_refl _) ?_
          clear hK K
          refine Gr.walk_t ?_ (Or.inl ⟨by rfl, ?_⟩) ?_
          rotate_left
          · intro w' hw'
            clear hw'
            go_simp
            try with_reducible rfl
          simp only [Act.put, List.setIfInBounds_toArray, List.set_cons_zero, List.set_cons_succ]
          refine Gr.walk_nil ?_
          go_wp2
          go_roundw
          case rel => exact ⟨j + 1, by omega, by go_num, grown_drew HP.out.1, HP.out.2⟩
          case measure => simp [intOf]; omega
        · obtain rfl : j = m := by omega
          have HP : Hid (w1.grownBy wr (some b) ∧ Own wr b 5 (RM.sum j (l.take (k + 1)))) := ⟨hg, by rw [HSN.out, ← HXF.out]; exact ho⟩
          clear hg ho
          go_wp2
          go_roundw
          case rel => exact ⟨k + 1, by omega, by go_num, HP.out⟩
          case measure => simp [intOf]; omega
    · obtain rfl : k = ll := by omega
      have HP : Hid (Below b w wr ∧ Own wr b 5 (RM.sum m l)) := ⟨HB0.out.trans (below_grown hg (Nat.le_refl _) (Nat.le_of_lt HO0.out.lt)), by rw [show l = l.take k by rw [← HL.out, List.take_length]]; exact ho⟩
      clear hg ho
      go_wp2
      go_ret
      exact ⟨rfl, HP.out⟩
end Go.Proofs.YtpfmmfapdcbnkaaGreatDoor
