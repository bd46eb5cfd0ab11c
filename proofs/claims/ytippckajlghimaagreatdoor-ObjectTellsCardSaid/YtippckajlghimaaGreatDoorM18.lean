/- In one text: CutS, SplCopy, ObjAt, SplCut, SplFit. -/
import Derived.Handy
import Derived.Laws.CopyOwn
import Derived.Lib.Hide
import Derived.Test.YtippckajlghimaaGreatDoorM1
import Derived.Test.YtippckajlghimaaGreatDoorM3
import Derived.Test.YtippckajlghimaaGreatDoorM8
import Derived.Test.YtippckajlghimaaGreatDoorM13
import Derived.Test.YtippckajlghimaaGreatDoorM17
/- Cuts of a slice of bytes: x[n:], x[:n], x[l:r], as equations for the walk and as what they read as. -/
namespace Go.Proofs.YtippckajlghimaaGreatDoor
set_option maxRecDepth 20000
open Go.RowKit
set_option linter.unusedVariables false
theorem U8s.sliced {w : World} {a : Option Addr} {cap : Nat} {xs : List Nat} (h : U8s w (.slice a xs.length cap) xs) (l r : Nat) (hl : l ≤ r) (hr : r ≤ xs.length) : ∃ a', sliced a l r cap 1 = .slice a' (r - l) (cap - l) ∧ U8s w (.slice a' (r - l) (cap - l)) ((xs.take r).drop l) := by
  have hlen : ((xs.take r).drop l).length = r - l := by rw [List.length_drop, List.length_take]; omega
  have hcap : xs.length ≤ cap ∧ cap ≤ maxLen := by
    rcases h with ⟨rfl, a', cap', hv, hm⟩ | ⟨b, off, cap', hv, h2, h2', _⟩
    · cases hv; exact ⟨Nat.zero_le _, hm⟩
    · cases hv; exact ⟨h2, h2'⟩
  unfold Go.sliced
  by_cases h0 : r - l = 0
  · refine ⟨_, rfl, .inl ⟨List.eq_nil_of_length_eq_zero (by omega), _, _, by rw [h0], by omega⟩⟩
  · rw [if_neg (by omega)]
    have hlt := h.lt
    obtain ⟨b, off, rfl, hb, hc⟩ := h.cell.2 (by omega)
    refine ⟨_, rfl, .inr ⟨b, off + l, cap - l, by rw [hlen]; simp [Addr.add_mid], by rw [hlen]; omega, by omega, hb, fun k hk => ?_, fun x hx => hlt x (List.mem_of_mem_take (List.mem_of_mem_drop hx))⟩⟩
    rw [hlen] at hk
    rw [Nat.add_assoc, hc (l + k) (by omega)]
    have e : ((xs.take r).drop l).getD k 0 = xs.getD (l + k) 0 := by
      rw [List.getD_eq_getElem?_getD, List.getElem?_drop, List.getElem?_take, if_pos (by omega), ← List.getD_eq_getElem?_getD]
    rw [e]
/-- The operation of a cut, where its run is known by an equation. -/
theorem wpList_slice {P : Program} {w : World} {ops : Array Oper} {rest : List Oper} {o : Oper} {a : Act} {Q : Exit → Act → World → Prop} (hgd : o.guard = none) (t : TypeId) (x : Operand) (lo hi : Option Operand) (ho : o.op = .slice t x lo hi none)
    (ht : P.underlying t = some (.slice (P.elem t))) (v : Value) (l h : Option Value) (hx : a.eval x = v) (hl : lo.map a.eval = l) (hh : hi.map a.eval = h) {v' : Value}
    (hr : (Instr.slice t v l h none).run P w = .ok v' w) (hk : wpList P ops Q rest (a.put o.dst v') w) : wpList P ops Q (o :: rest) a w := by
  refine wpList_plain hgd fun K hK => ?_
  have hr' : (Instr.sliceAt t v l h none).run P w = .ok v' w := by rw [run_sliceAt_slice (P := P) w t v l h none ht]; exact hr
  unfold Oper.wp
  simp [execOp, ho, hx, hl, hh, hr', Result.andThen]
  exact hK _ _ hk
theorem elemBytes : Tryz.prog.underlying 24 = some (.slice (Tryz.prog.elem 24)) := by kernel_rfl
theorem sizeByte (w : World) : (sizeOf (Tryz.prog.elem 24)).run Tryz.prog w = .ok 1 w := by
  obtain ⟨i, hi, hz, hs, _⟩ := info_parts byteinfo
  have e : Tryz.prog.elem 24 = 5 := by kernel_rfl
  rw [e]
  simp [sizeOf, typeInfo, hi, hs]
theorem cut_from {w : World} {v : Value} {xs : List Nat} (h : U8s w v xs) (n : Nat) (hn : n ≤ xs.length) :
    ∃ a c, (∀ w', (Instr.slice 24 v (some (.int .i64 (n : Nat))) none none).run Tryz.prog w' = .ok (.slice a (xs.length - n) c) w') ∧ U8s w (.slice a (xs.length - n) c) (xs.drop n) := by
  obtain ⟨a, cap, rfl, _, _⟩ := h.slice
  obtain ⟨a', e, hu⟩ := h.sliced n xs.length hn (Nat.le_refl _)
  rw [List.take_length] at hu
  refine ⟨a', cap - n, fun w' => ?_, hu⟩
  rw [run_slice_l (P := Tryz.prog) w' 24 a xs.length cap elemBytes .i64 n (by omega) (by omega), sizeByte]
  simp only [Result.andThen_ok, Int.toNat_natCast, e]
theorem cut_to {w : World} {v : Value} {xs : List Nat} (h : U8s w v xs) (n : Nat) (hn : n ≤ xs.length) :
    ∃ a c, (∀ w', (Instr.slice 24 v none (some (.int .i64 (n : Nat))) none).run Tryz.prog w' = .ok (.slice a n c) w') ∧ U8s w (.slice a n c) (xs.take n) := by
  obtain ⟨a, cap, rfl, hc, _⟩ := h.slice
  obtain ⟨a', e, hu⟩ := h.sliced 0 n (Nat.zero_le _) hn
  rw [List.drop_zero] at hu
  refine ⟨a', cap - 0, fun w' => ?_, hu⟩
  rw [run_slice_h (P := Tryz.prog) w' 24 a xs.length cap elemBytes .i64 n (by omega) (by omega), sizeByte]
  simp only [Result.andThen_ok, Int.toNat_natCast, e, Nat.sub_zero]
theorem cut_part {w : World} {v : Value} {xs : List Nat} (h : U8s w v xs) (l r : Nat) (hl : l ≤ r) (hr : r ≤ xs.length) :
    ∃ a c, (∀ w', (Instr.slice 24 v (some (.int .i64 (l : Nat))) (some (.int .i64 (r : Nat))) none).run Tryz.prog w' = .ok (.slice a (r - l) c) w') ∧ U8s w (.slice a (r - l) c) ((xs.take r).drop l) := by
  obtain ⟨a, cap, rfl, hc, _⟩ := h.slice
  obtain ⟨a', e, hu⟩ := h.sliced l r hl hr
  refine ⟨a', cap - l, fun w' => ?_, hu⟩
  rw [run_slice_lh (P := Tryz.prog) w' 24 a xs.length cap elemBytes .i64 .i64 l r (by omega) (by omega) (by omega), sizeByte]
  simp only [Result.andThen_ok, Int.toNat_natCast, e]
end Go.Proofs.YtippckajlghimaaGreatDoor
/- What package split's Cut lays down: a row that is copied over, and a slice of slices whose cells are written one by one. -/
namespace Go.Proofs.YtippckajlghimaaGreatDoor
set_option maxRecDepth 20000
open Go.RowKit Go.Deep
set_option linter.unusedVariables false
theorem grown_exts {a b c : World} {r : Option Nat} (h : a.grownBy b r) (k : b.Extends c) : a.grownBy c r :=
  grown_trans h ⟨k.os, k.tape, k.output, k.size, fun i hi _ => k.block i hi⟩
theorem grown_in {a b c : World} {g : Nat} {r : Option Nat} (h : a.grownBy b (some g)) (k : b.grownBy c r) (hr : ∀ x, r = some x → a.heap.size ≤ x) : a.grownBy c (some g) :=
  ⟨k.os.trans h.os, k.tape.trans h.tape, k.output.trans h.output, Nat.le_trans h.size k.size, fun i hi hn =>
    (k.block i (Nat.lt_of_lt_of_le hi h.size) (fun e => by have := hr i e.symm; omega)).trans (h.block i hi hn)⟩
theorem ext_grown {a b c : World} {g : Nat} (h : a.Extends b) (k : b.grownBy c (some g)) (hg : a.heap.size ≤ g) : a.Extends c :=
  Gr.ext_of ((Gr.below_of h).trans ⟨k.os, k.tape, k.output, k.size, fun i hi => k.block i (Nat.lt_of_lt_of_le hi h.size) (by simp; omega)⟩)
theorem ext_own {a b c : World} {r : Option Nat} (h : a.Extends b) (k : b.grownBy c r) (hr : ∀ x, r = some x → a.heap.size ≤ x) : a.Extends c :=
  Gr.ext_of ((Gr.below_of h).trans ⟨k.os, k.tape, k.output, k.size, fun i hi => k.block i (Nat.lt_of_lt_of_le hi h.size) (fun e => by have := hr i e.symm; omega)⟩)
theorem PAt.own {w w' : World} {b : Nat} {k s h : Int} {r : Option Nat} (hp : PAt w b k s h) (hg : w.grownBy w' r) (hn : ∀ x, r = some x → b < x) : PAt w' b k s h :=
  have e : some b ≠ r := fun e => by have := hn b e.symm; omega
  ⟨hg.cell hp.1 e, hg.cell hp.2.1 e, hg.cell hp.2.2 e⟩
theorem PAt.but {w w' : World} {b g : Nat} {k s h : Int} (hp : PAt w b k s h) (hg : w.grownBy w' (some g)) (hn : b ≠ g) : PAt w' b k s h :=
  ⟨hg.cell hp.1 (by simp; omega), hg.cell hp.2.1 (by simp; omega), hg.cell hp.2.2 (by simp; omega)⟩
theorem RowOk.butRow {w w' : World} {u : Value} {xs : List Nat} {g n : Nat} {T : TypeId} {f : Nat → Value} (h : RowOk w 0 u xs) (hr : w.rowIs g T n f) (hT : T ≠ 5) (hg : w.grownBy w' (some g)) : RowOk w' 0 u xs := by
  refine h.grown hg ?_
  rcases h.2 with h0 | h0
  · exact .inl h0
  · refine .inr fun e => ?_
    obtain ⟨_, h1 | ⟨cs, h1⟩⟩ := h0 g e
    · omega
    · obtain ⟨cs', hc, _⟩ := hr
      rw [h1] at hc
      simp only [Option.some.injEq, Obj.cells.injEq] at hc
      exact hT hc.2.1.symm
theorem Mats.butRow {w w' : World} {B k g n : Nat} {T T1 : TypeId} {v : Value} {l : List (List Nat)} {f : Nat → Value} (h : Mats w B 0 T1 v k l) (hgB : g < B) (hr : w.rowIs g T n f) (hT : T ≠ 5) (hg : w.grownBy w' (some g)) : Mats w' B 0 T1 v k l := by
  obtain ⟨vs, ho, hv⟩ := h
  refine ⟨vs, ho.kept hg ?_, fun j hj => ?_⟩
  · cases hb : v.ownBlock with
    | none => exact .inl rfl
    | some x => exact .inr (by have := (ho.lt x hb).1; simp; omega)
  · obtain ⟨u, h1, h2⟩ := hv j hj
    exact ⟨u, h1, h2.butRow hr hT hg⟩
theorem Own.ok {w : World} {b n : Nat} {xs : List Nat} (h : Own w b 5 xs) (hn : xs.length = n) : RowOk w 0 (.slice (some ⟨b, 0, none⟩) n n) xs := RowOk.own h 0 hn.symm hn.symm
theorem splice_at (s : Nat) (ys : List Nat) (i : Nat) (hi : i < s) : (splice (List.replicate s (Value.int .u8 0)) 0 (u8vs (ys.take s)))[i]? = some (.int .u8 (ys.getD i 0 : Nat)) := by
  unfold splice
  rw [List.take_zero, List.nil_append, Nat.zero_add, u8vs_length]
  by_cases h : i < (ys.take s).length
  · rw [List.getElem?_append_left (by rw [u8vs_length]; exact h)]
    have h' : i < ys.length := by rw [List.length_take] at h; omega
    simp [u8vs, hi, h']
  · have h' : ¬ i < ys.length := by rw [List.length_take] at h; omega
    rw [List.getElem?_append_right (by rw [u8vs_length]; omega), u8vs_length, List.getElem?_drop, show (ys.take s).length + (i - (ys.take s).length) = i by omega]
    simp [hi, List.getElem?_eq_none (Nat.le_of_not_lt h')]
theorem splice_length (s : Nat) (ys : List Nat) : (splice (List.replicate s (Value.int .u8 0)) 0 (u8vs (ys.take s))).length = s := by
  rw [length_splice _ _ _ (by rw [u8vs_length, List.length_take, List.length_replicate]; omega), List.length_replicate]
/-- The row that copy has filled: the symbol. -/
theorem own_copied {w : World} {r s j : Nat} {T : TypeId} {xs : List Nat} (hs : s ≤ maxLen) (hl : ∀ x ∈ xs, x < 256)
    (h : w.heap[r]? = some (.cells (splice (List.replicate s (Value.int .u8 0)) 0 (u8vs ((xs.drop (j * s)).take s))).toArray T (0, 0))) : Own w r T (CM.sym s xs j) := by
  refine ⟨⟨_, h, ?_, fun i hi => ?_⟩, by rw [CM.sym_length]; exact hs, CM.sym_lt s xs j hl⟩
  · rw [List.size_toArray, splice_length, CM.sym_length]
  · rw [CM.sym_length] at hi
    have := splice_at s (xs.drop (j * s)) i hi
    rw [List.getElem?_toArray, this]
    show _ = some (Value.int .u8 ((CM.sym s xs j).getD i 0 : Nat))
    rw [CM.sym_at s xs j i hi]
    simp [List.getD_eq_getElem?_getD, List.getElem?_drop]
theorem drop_next (s j : Nat) (xs : List Nat) : (xs.drop (j * s)).drop (u8vs ((xs.drop (j * s)).take s)).length = xs.drop ((j + 1) * s) := by
  rw [u8vs_length, List.length_take, List.length_drop, List.drop_drop, Nat.add_mul, Nat.one_mul]
  by_cases h : j * s + s ≤ xs.length
  · rw [Nat.min_eq_left (by omega)]
  · rw [List.drop_eq_nil_of_le (by omega), List.drop_eq_nil_of_le (by omega)]
theorem rowlistinfo : (Tryz.prog.info? 62).map (fun i => (i.zero, i.size, i.bytes)) = some (some (.slice none 0 0), 1, 24) := by kernel_rfl
theorem mkRowLists (k : Nat) (hk : k ≤ 10000) (w : World) : (Instr.makeSlice 59 (.int .i64 (k : Int)) (.int .i64 (k : Int))).run Tryz.prog w = .ok (.slice (some ⟨w.heap.size, 0, none⟩) k k) (w.alloc (.cells (madeCells #[.slice none 0 0] k) 62)) :=
  run_make_row' (P := Tryz.prog) 59 62 (.slice none 0 0) 24 Tryz.underlying59 rowlistinfo rfl .i64 .i64 k (by omega) (by omega) w
/-- The first q blocks are laid: cells of block g. -/
def CutTo (w : World) (g n q : Nat) (vals : Nat → Value) (s y : Nat) (xs : List Nat) : Prop :=
  w.rowIs g 62 n vals ∧ (∀ c, c < q → Mats w (g + 1) 0 76 (vals c) (CM.deal y n c) (CM.blk s xs (CM.ahead y n c) (CM.deal y n c))) ∧ ∀ c, q ≤ c → vals c = .slice none 0 0
theorem CutTo.made (w : World) (n s y : Nat) (xs : List Nat) : CutTo (w.alloc (.cells (madeCells #[.slice none 0 0] n) 62)) w.heap.size n 0 (fun _ => .slice none 0 0) s y xs :=
  ⟨World.rowIs_made w (.slice none 0 0) n 62, fun c hc => absurd hc (Nat.not_lt_zero _), fun _ _ => rfl⟩
theorem CutTo.ext {w w' : World} {g n q : Nat} {vals : Nat → Value} {s y : Nat} {xs : List Nat} (h : CutTo w g n q vals s y xs) (hx : w.Extends w') : CutTo w' g n q vals s y xs :=
  ⟨h.1.of_block (hx.block g h.1.lt), fun c hc => (h.2.1 c hc).ext hx, h.2.2⟩
theorem copy_src {w : World} {a : Option Addr} {n cap : Nat} {ys : List Nat} (h : U8s w (.slice a n cap) ys) (s : Nat) (h0 : 0 < (u8vs (ys.take s)).length) : ∃ ad, a = some ad ∧ ∀ j v, (u8vs (ys.take s))[j]? = some v → w.cell? (ad.add j) = some v := by
  rw [u8vs_length, List.length_take] at h0
  obtain ⟨hn, hc⟩ := h.cell
  obtain ⟨b, off, rfl, _, hc⟩ := hc (by omega)
  refine ⟨_, rfl, fun j v hv => ?_⟩
  obtain ⟨hj, rfl⟩ := u8vs_at _ _ _ hv
  rw [List.length_take] at hj
  rw [Addr.add_mid, hc j (by omega)]
  simp [List.getD_eq_getElem?_getD, show j < s by omega]
theorem u8vs_one (ys : List Nat) : ∀ v ∈ u8vs ys, v.oneCell' = true := fun v hv => by
  obtain ⟨x, _, rfl⟩ := List.mem_map.1 hv; rfl
theorem bytesize : (Tryz.prog.info? 5).map (·.size) = some 1 := by kernel_rfl
theorem made_bytes (w : World) (s : Nat) : (w.alloc (.cells (madeCells #[.int .u8 0] s) 5)).heap[w.heap.size]? = some (.cells (List.replicate s (Value.int .u8 0)).toArray 5 (0, 0)) := by
  rw [heap_alloc_new]
  obtain ⟨c, hc, hs, hi⟩ := World.rowIs_made w (.int .u8 0) s 5
  rw [heap_alloc_new] at hc
  rw [hc]
  congr 2
  apply Array.ext
  · simp [hs]
  · intro i h1 h2
    have := hi i (by omega)
    rw [Array.getElem?_eq_getElem h1] at this
    simpa using this
/-- .. and block q, too. -/
theorem CutTo.next {wo w : World} {g n q : Nat} {vals : Nat → Value} {s y : Nat} {xs : List Nat} {u : Value} (h : CutTo wo g n q vals s y xs) (hg : wo.grownBy w (some g)) (hr : w.rowIs g 62 n (fun c => if c = q then u else vals c))
    (hu : Mats w wo.heap.size 0 76 u (CM.deal y n q) (CM.blk s xs (CM.ahead y n q) (CM.deal y n q))) : CutTo w g n (q + 1) (fun c => if c = q then u else vals c) s y xs := by
  have hlt := h.1.lt
  refine ⟨hr, fun c hc => ?_, fun c hc => ?_⟩
  · by_cases e : c = q
    · subst e; simp only [if_true]; exact hu.base (by omega)
    · simp only [if_neg e]
      exact (h.2.1 c (by omega)).butRow (by omega) h.1 (by decide) hg
  · simp only [if_neg (show ¬ c = q by omega)]
    exact h.2.2 c (by omega)
theorem CutTo.rws {w : World} {g n : Nat} {vals : Nat → Value} {s m : Nat} {xs : List Nat} (h : CutTo w g n n vals s (CM.sy xs.length s) xs) (hn : n = CM.bl xs.length s m) (hm : n ≤ maxLen) : RwsL w (.slice (some ⟨g, 0, none⟩) n n) (CM.cut xs.length s m xs) := by
  subst hn
  refine RwsL.row h.1 hm (CM.cut_length _ _ _ _) fun k hk => ?_
  rw [CM.cut_at _ _ _ _ _ hk, CM.kk_in _ _ _ _ hk]
  exact (h.2.1 k hk).rws (CM.blk_length _ _ _ _).symm
/-- What Cut answers. -/
def CutOut (w : World) (er : Nat) (L : List (List (List Nat))) (e : Ending) (w' : World) : Prop := ∃ v, e = .returned (.tuple #[v, .int .i64 (er : Nat)]) ∧ w.Extends w' ∧ RwsL w' v L
end Go.Proofs.YtippckajlghimaaGreatDoor
/- Objects in memory: the struct, its slice of pointers to blocks, and these; while it grows (OB), and as it reads (OV). -/
namespace Go.Proofs.YtippckajlghimaaGreatDoor
set_option maxRecDepth 20000
open Go.RowKit Go.Deep
set_option linter.unusedVariables false
/-- A block: how many source symbols it has, its seed's number, its parts. -/
structure Bk where
  k : Nat
  j : Nat
  c : List (List Nat)
def Bk.zero : Bk := ⟨0, 0, []⟩
/-- How a block at p with its parts at u looks. -/
abbrev Look := World → Nat → Bk → Value → Prop
structure Looks (A : Look) : Prop where
  int0 : ∀ {w : World} {p : Nat} {x : Bk} {u : Value}, A w p x u → ∃ n : Int, w.cell? ⟨p, 0, none⟩ = some (.int .i64 n)
  three : ∀ {w : World} {p : Nat} {x : Bk} {u : Value}, A w p x u → (∃ n : Int, w.cell? ⟨p, 3, none⟩ = some (.int .i64 n)) ∨ w.cell? ⟨p, 3, none⟩ = some u
  keep : ∀ {w w' : World} {p : Nat} {x : Bk} {u : Value}, A w p x u → (∀ i v, w.cell? ⟨p, i, none⟩ = some v → w'.cell? ⟨p, i, none⟩ = some v) → A w' p x u
theorem Looks.ext {A : Look} (hA : Looks A) {w w' : World} {p : Nat} {x : Bk} {u : Value} (h : A w p x u) (hx : w.Extends w') : A w' p x u := hA.keep h fun i v hv => hx.cell_of hv
def BLook (sz : Nat) : Look := fun w p x u => BAt w p x.k (PM.s x.k) 2 x.j sz u
def RLook (sz : Nat) : Look := fun w p x u => RAt w p x.k x.j sz u
theorem bLooks (sz : Nat) : Looks (BLook sz) := ⟨fun h => ⟨_, h.1⟩, fun h => .inl ⟨_, h.2.2.2.1⟩, fun h k => ⟨k _ _ h.1, k _ _ h.2.1, k _ _ h.2.2.1, k _ _ h.2.2.2.1, k _ _ h.2.2.2.2.1, k _ _ h.2.2.2.2.2⟩⟩
theorem rLooks (sz : Nat) : Looks (RLook sz) := ⟨fun h => ⟨_, h.1⟩, fun h => .inr h.2.2.2, fun h k => ⟨k _ _ h.1, k _ _ h.2.1, k _ _ h.2.2.1, k _ _ h.2.2.2⟩⟩
def ofn (b s m : Int) (v : Value) : Nat → Value
  | 0 => .int .i64 b
  | 1 => .int .i64 s
  | 2 => .int .i64 m
  | _ => v
def IsPtr (y : Value) : Prop := ∃ a, y = .pointer a
/-- No rows lie in block g. -/
def NoRows (w : World) (g : Nat) : Prop := (∀ x n, w.cell? ⟨g, x, none⟩ ≠ some (.int .u8 n)) ∧ ∀ x a n c a' n' c', w.cell? ⟨g, x, none⟩ = some (.slice a n c) → w.cell? ⟨g, x + 1, none⟩ ≠ some (.slice a' n' c')
theorem cell_mem {w : World} {g x : Nat} {y : Value} (h : w.cell? ⟨g, x, none⟩ = some y) : ∃ cs T f, w.heap[g]? = some (.cells cs T f) ∧ cs[x]? = some y := by
  unfold World.cell? at h
  split at h
  · rename_i c T f e
    exact ⟨c, T, f, e, h⟩
  · cases h
theorem clean_cell {C : Value → Prop} {w : World} {v : Value} {g x : Nat} {y : Value} (h : CleanBlk C w v) (hg : v.ownBlock = some g) (hc : w.cell? ⟨g, x, none⟩ = some y) : C y := by
  obtain ⟨cs, T, f, e, hm⟩ := cell_mem hc
  exact h g cs T f hg e y (Array.mem_toList_iff.2 (Array.mem_of_getElem? hm))
theorem noRows_clean {w : World} {v : Value} {g : Nat} (h : CleanBlk IsPtr w v) (hg : v.ownBlock = some g) : NoRows w g := by
  refine ⟨fun x n hc => ?_, fun x a n c a' n' c' hc => ?_⟩
  · obtain ⟨a, e⟩ := clean_cell h hg hc; cases e
  · obtain ⟨a, e⟩ := clean_cell h hg hc; cases e
theorem ocell {w : World} {o x : Nat} {T : TypeId} {b s m : Int} {v y : Value} (h : w.rowIs o T 4 (ofn b s m v)) (hc : w.cell? ⟨o, x, none⟩ = some y) : x < 4 ∧ y = ofn b s m v x := by
  obtain ⟨cs, T', f, e, hm⟩ := cell_mem hc
  obtain ⟨c, e2, hs, hi⟩ := h
  rw [e] at e2
  simp only [Option.some.injEq, Obj.cells.injEq] at e2
  rw [e2.1] at hm
  have hx : x < 4 := by
    rcases Nat.lt_or_ge x 4 with h | h
    · exact h
    · rw [Array.getElem?_eq_none (by omega)] at hm; cases hm
  exact ⟨hx, Option.some.inj (hm.symm.trans (hi x hx))⟩
theorem noRows_obj {w : World} {o : Nat} {T : TypeId} {b s m : Int} {v : Value} (h : w.rowIs o T 4 (ofn b s m v)) (hv : ∃ a n c, v = .slice a n c) : NoRows w o := by
  obtain ⟨va, vn, vc, rfl⟩ := hv
  refine ⟨fun x n hc => ?_, fun x a n c a' n' c' hc hc' => ?_⟩
  · obtain ⟨hx, e⟩ := ocell h hc
    match x, hx, e with
    | 0, _, e => simp [ofn] at e
    | 1, _, e => simp [ofn] at e
    | 2, _, e => simp [ofn] at e
    | 3, _, e => simp [ofn] at e
  · obtain ⟨hx, e⟩ := ocell h hc
    obtain ⟨hx', e'⟩ := ocell h hc'
    match x, hx, e with
    | 0, _, e => simp [ofn] at e
    | 1, _, e => simp [ofn] at e
    | 2, _, e => simp [ofn] at e
    | 3, _, e => omega
theorem U8s.off {w w' : World} {v : Value} {xs : List Nat} {g : Nat} (h : U8s w v xs) (hg : w.grownBy w' (some g)) (hn : NoRows w g) : U8s w' v xs := by
  refine h.grown hg ?_
  by_cases hx : xs = []
  · exact .inl hx
  · refine .inr fun e => ?_
    rcases h with h | ⟨b, off, cap, rfl, h1, h2, h3, h4, h5⟩
    · exact hx h.1
    · simp only [Value.ownBlock, Option.some.injEq] at e
      subst e
      exact hn.1 _ _ (h4 0 (List.length_pos_iff.2 hx))
theorem Rws.off {w w' : World} {v : Value} {l : List (List Nat)} {g : Nat} (h : Rws w v l) (hl : 2 ≤ l.length) (hg : w.grownBy w' (some g)) (hn : NoRows w g) : Rws w' v l := by
  rcases h with ⟨rfl, _⟩ | ⟨b, off, cap, rfl, h1, h2, h3, h4⟩
  · simp at hl
  · have hne : some b ≠ some g := fun e => by
      cases e
      obtain ⟨u0, c0, r0⟩ := h4 0 (by omega)
      obtain ⟨u1, c1, r1⟩ := h4 1 (by omega)
      obtain ⟨_, _, rfl, _⟩ := r0.slice
      obtain ⟨_, _, rfl, _⟩ := r1.slice
      exact hn.2 _ _ _ _ _ _ _ c0 c1
    exact .inr ⟨b, off, cap, rfl, h1, h2, Nat.lt_of_lt_of_le h3 hg.size, fun k hk => by
      obtain ⟨u, hu, hr⟩ := h4 k hk
      exact ⟨u, hg.cell hu hne, hr.off hg hn⟩⟩
/-- A block that a pointer points to. -/
def Pte (A : Look) (w : World) (y : Value) (x : Bk) : Prop := ∃ p u, y = .pointer (some ⟨p, 0, none⟩) ∧ A w p x u ∧ Rws w u x.c
theorem Pte.ext {A : Look} (hA : Looks A) {w w' : World} {y : Value} {x : Bk} (h : Pte A w y x) (hx : w.Extends w') : Pte A w' y x := by
  obtain ⟨p, u, e, h1, h2⟩ := h
  exact ⟨p, u, e, hA.ext h1 hx, h2.ext hx⟩
theorem Pte.off {A : Look} (hA : Looks A) {w w' : World} {p g : Nat} {u : Value} {x : Bk} (h1 : A w p x u) (h2 : Rws w u x.c) (hl : 2 ≤ x.c.length) (hp : p ≠ g) (hg : w.grownBy w' (some g)) (hn : NoRows w g) : A w' p x u ∧ Rws w' u x.c :=
  ⟨hA.keep h1 fun i v hv => hg.cell hv (by simp; exact hp), h2.off hl hg hn⟩
/-- An object that a call lays at o: its blocks so far. -/
def OB (A : Look) (TO TP : TypeId) (w : World) (o : Nat) (b s m : Int) (v : Value) (bs : List Bk) : Prop :=
  w.rowIs o TO 4 (ofn b s m v) ∧ CleanBlk IsPtr w v ∧ ∃ vs, w.ownsRow (o + 1) TP 1 v bs.length vs ∧ ∀ i, i < bs.length → ∃ y, vs[i]? = some y ∧ Pte A w y (bs.getD i Bk.zero) ∧ 2 ≤ (bs.getD i Bk.zero).c.length
theorem OB.ext {A : Look} (hA : Looks A) {TO TP : TypeId} {w w' : World} {o : Nat} {b s m : Int} {v : Value} {bs : List Bk} (h : OB A TO TP w o b s m v bs) (hx : w.Extends w') : OB A TO TP w' o b s m v bs := by
  obtain ⟨h1, h2, vs, h3, h4⟩ := h
  refine ⟨h1.of_block (hx.block o h1.lt), h2.kept fun g hg => hx.block g (h3.lt g hg).2, vs, owns_ext h3 hx, fun i hi => ?_⟩
  obtain ⟨y, e, hp, hl⟩ := h4 i hi
  exact ⟨y, e, hp.ext hA hx, hl⟩
theorem OB.new (A : Look) (TO TP : TypeId) (w : World) (b s m : Int) : OB A TO TP (w.alloc (.cells #[.int .i64 b, .int .i64 s, .int .i64 m, .slice none 0 0] TO)) w.heap.size b s m (.slice none 0 0) [] := by
  refine ⟨?_, CleanBlk.nil _ _, [], World.ownsRow_nil _ _ _ _, fun i hi => absurd hi (Nat.not_lt_zero _)⟩
  exact World.rowIs_alloc w _ TO _ fun i hi => by
    have hi : i < 4 := hi
    match i, hi with
    | 0, _ => rfl
    | 1, _ => rfl
    | 2, _ => rfl
    | 3, _ => rfl
theorem OB.slice {A : Look} {TO TP : TypeId} {w : World} {o : Nat} {b s m : Int} {v : Value} {bs : List Bk} (h : OB A TO TP w o b s m v bs) : ∃ a cap, v = .slice a bs.length cap := by
  obtain ⟨_, _, vs, h3, _⟩ := h
  exact owns_slice h3
/-- A block's cells are no pointers, and not the object's. -/
theorem OB.apart {A : Look} (hA : Looks A) {TO TP : TypeId} {w : World} {o p : Nat} {b s m : Int} {v u : Value} {x : Bk} {bs : List Bk} (h : OB A TO TP w o b s m v bs) (h1 : A w p x u) (h2 : Rws w u x.c) (hl : 2 ≤ x.c.length) : p ≠ o ∧ ∀ g, v.ownBlock = some g → p ≠ g := by
  obtain ⟨hr, hcl, vs, ho, _⟩ := h
  refine ⟨fun e => ?_, fun g hg e => ?_⟩
  · subst e
    rcases hA.three h1 with ⟨n, hc⟩ | hc
    · obtain ⟨_, e⟩ := ocell hr hc
      obtain ⟨a, c, rfl⟩ := owns_slice ho
      simp [ofn] at e
    · obtain ⟨_, e⟩ := ocell hr hc
      have e : u = v := e
      subst e
      rcases h2 with ⟨h0, _⟩ | ⟨g, off, cap, rfl, _, _, _, h4⟩
      · rw [h0] at hl; simp at hl
      · obtain ⟨y, hy, hu⟩ := h4 0 (by omega)
        obtain ⟨_, _, rfl, _⟩ := hu.slice
        obtain ⟨a, e⟩ := clean_cell hcl rfl hy
        cases e
  · subst e
    obtain ⟨n, hc⟩ := hA.int0 h1
    obtain ⟨a, e⟩ := clean_cell hcl hg hc
    cases e
/-- One block more. -/
theorem OB.snoc {A : Look} (hA : Looks A) {TO TP : TypeId} {w w' : World} {o p : Nat} {b s m : Int} {v v' u : Value} {x : Bk} {bs : List Bk} {vs : List Value} (hr : w.rowIs o TO 4 (ofn b s m v)) (hcl : CleanBlk IsPtr w v) (ho : w.ownsRow (o + 1) TP 1 v bs.length vs)
    (hp : ∀ i, i < bs.length → ∃ y, vs[i]? = some y ∧ Pte A w y (bs.getD i Bk.zero) ∧ 2 ≤ (bs.getD i Bk.zero).c.length) (h1 : A w p x u) (h2 : Rws w u x.c) (hl : 2 ≤ x.c.length)
    (hg : w.grownBy w' v.ownBlock) (ho' : w'.ownsRow (o + 1) TP 1 v' (bs.length + 1) (vs ++ [.pointer (some ⟨p, 0, none⟩)])) (hcl' : CleanBlk IsPtr w' v') : OB A TO TP (w'.setCell ⟨o, 3, none⟩ v') o b s m v' (bs ++ [x]) := by
  have hob : OB A TO TP w o b s m v bs := ⟨hr, hcl, vs, ho, hp⟩
  have hvo : ∀ g, v.ownBlock = some g → o < g := fun g hg => (ho.lt g hg).1
  have hvo' : ∀ g, v'.ownBlock = some g → o < g := fun g hg => (ho'.lt g hg).1
  have hr' : w'.rowIs o TO 4 (ofn b s m v) := hr.of_block (hg.block o hr.lt fun e => by have := hvo o e.symm; omega)
  have keep : ∀ {q : Nat} {z : Value} {y : Bk}, A w q y z → Rws w z y.c → 2 ≤ y.c.length → Pte A (w'.setCell ⟨o, 3, none⟩ v') (.pointer (some ⟨q, 0, none⟩)) y := fun {q z y} a1 a2 a3 => by
    obtain ⟨n1, n2⟩ := hob.apart hA a1 a2 a3
    have k1 : A w' q y z ∧ Rws w' z y.c := by
      cases hv : v.ownBlock with
      | none =>
        rw [hv] at hg
        have hx : w.Extends w' := ext_below ⟨hg.os, hg.tape, hg.output, hg.size, fun i hi => hg.block i hi (by simp)⟩ rfl
        exact ⟨hA.ext a1 hx, a2.ext hx⟩
      | some g =>
        rw [hv] at hg
        exact Pte.off hA a1 a2 a3 (n2 g hv) hg (noRows_clean hcl hv)
    obtain ⟨k2, k3⟩ := Pte.off hA k1.1 k1.2 a3 n1 (grown_setCell (grown_refl w' (some o)) 3 v') (noRows_obj hr' (by obtain ⟨a, c, e⟩ := owns_slice ho; exact ⟨_, _, _, e⟩))
    exact ⟨q, z, rfl, k2, k3⟩
  have hgs : w'.grownBy (w'.setCell ⟨o, 3, none⟩ v') (some o) := grown_setCell (grown_refl _ _) 3 v'
  have hlen : vs.length = bs.length := by have := ho.1; omega
  refine ⟨(hr'.set 3 v').congr fun i hi => ?_, hcl'.kept fun g hg => hgs.block g (ho'.lt g hg).2 (by have := hvo' g hg; simp; omega), vs ++ [.pointer (some ⟨p, 0, none⟩)], ?_, fun i hi => ?_⟩
  · match i, hi with
    | 0, _ => rfl
    | 1, _ => rfl
    | 2, _ => rfl
    | 3, _ => rfl
  · rw [List.length_append]
    refine ho'.kept hgs ?_
    cases hv : v'.ownBlock with
    | none => exact .inl rfl
    | some g => exact .inr (by have := hvo' g hv; simp; omega)
  · rw [List.length_append] at hi
    have hi : i < bs.length + 1 := hi
    by_cases hib : i < bs.length
    · obtain ⟨y, e, ⟨q, z, rfl, a1, a2⟩, a3⟩ := hp i hib
      rw [show (bs ++ [x]).getD i Bk.zero = bs.getD i Bk.zero by simp [List.getD_eq_getElem?_getD, List.getElem?_append_left hib]]
      exact ⟨_, by rw [List.getElem?_append_left (by omega)]; exact e, keep a1 a2 a3, a3⟩
    · obtain rfl : i = bs.length := by omega
      rw [show (bs ++ [x]).getD bs.length Bk.zero = x by simp]
      exact ⟨_, by rw [List.getElem?_append_right (by omega), hlen]; simp, keep h1 h2 hl, hl⟩
/-- An object at o, as it reads. -/
def OV (A : Look) (w : World) (o : Nat) (b s m : Int) (bs : List Bk) : Prop :=
  o < w.heap.size ∧ w.cell? ⟨o, 0, none⟩ = some (.int .i64 b) ∧ w.cell? ⟨o, 1, none⟩ = some (.int .i64 s) ∧ w.cell? ⟨o, 2, none⟩ = some (.int .i64 m) ∧
  ∃ a cap, w.cell? ⟨o, 3, none⟩ = some (.slice a bs.length cap) ∧ (0 < bs.length → ∃ g off, a = some ⟨g, off, none⟩ ∧ g < w.heap.size ∧ ∀ i, i < bs.length → ∃ p u, w.cell? ⟨g, off + i, none⟩ = some (.pointer (some ⟨p, 0, none⟩)) ∧ A w p (bs.getD i Bk.zero) u ∧ Rws w u (bs.getD i Bk.zero).c)
theorem OV.ext {A : Look} (hA : Looks A) {w w' : World} {o : Nat} {b s m : Int} {bs : List Bk} (h : OV A w o b s m bs) (hx : w.Extends w') : OV A w' o b s m bs := by
  obtain ⟨h0, h1, h2, h3, a, cap, h4, h5⟩ := h
  refine ⟨Nat.lt_of_lt_of_le h0 hx.size, hx.cell_of h1, hx.cell_of h2, hx.cell_of h3, a, cap, hx.cell_of h4, fun hn => ?_⟩
  obtain ⟨g, off, e, hg, hi⟩ := h5 hn
  refine ⟨g, off, e, Nat.lt_of_lt_of_le hg hx.size, fun i hib => ?_⟩
  obtain ⟨p, u, c, a1, a2⟩ := hi i hib
  exact ⟨p, u, hx.cell_of c, hA.ext a1 hx, a2.ext hx⟩
theorem OB.ov {A : Look} {TO TP : TypeId} {w : World} {o : Nat} {b s m : Int} {v : Value} {bs : List Bk} (h : OB A TO TP w o b s m v bs) : OV A w o b s m bs := by
  obtain ⟨hr, hcl, vs, ho, hp⟩ := h
  refine ⟨hr.lt, hr.cell (i := 0) (by omega), hr.cell (i := 1) (by omega), hr.cell (i := 2) (by omega), ?_⟩
  have h3 := hr.cell (i := 3) (by omega)
  have h3 : w.cell? ⟨o, 3, none⟩ = some v := h3
  rcases id ho.2 with ⟨rfl, h0⟩ | ⟨g, cap, cur, rfl, hbg, hg, _⟩
  · exact ⟨none, 0, by rw [h0]; exact h3, fun h => by omega⟩
  · refine ⟨_, cap, h3, fun _ => ⟨g, 0, rfl, (Array.getElem?_eq_some_iff.1 hg).1, fun i hi => ?_⟩⟩
    obtain ⟨y, e, ⟨p, u, rfl, a1, a2⟩, _⟩ := hp i hi
    have := ho.cells (g := g) rfl i _ e
    rw [Addr.add_mid] at this
    exact ⟨p, u, this, a1, a2⟩
end Go.Proofs.YtippckajlghimaaGreatDoor
/- split.Cut. -/
namespace Go.Proofs.YtippckajlghimaaGreatDoor
set_option maxRecDepth 20000
open Go.RowKit Go.Deep
set_option linter.unusedVariables false
theorem cut_wrong (b s m : Int) (v : Value) (w : World) (h : ¬ CM.Right b s m) :
    Calls Tryz.prog 21 #[PV b s m, v] w (CutOut w 1 []) := by
  go_enter Tryz.func21, Tryz.ntmps21
  go_wp2_with fail
  generalize hw1 : World.alloc w _ = w1
  have hx1 : w.Extends w1 := by subst hw1; exact prm_ext_alloc _ _
  have hp : PAt w1 w.heap.size b s m := by subst hw1; exact PAt.new w 23 b s m
  generalize w.heap.size = g at hp ⊢
  clear hw1
  have HX1 := Lib.hid hx1
  have hb1 := hp.lt
  obtain ⟨p0, p1, p2⟩ := hp
  clear hx1
  refine (right_no b s m w1 h).mono ?_
  rintro e w2 ⟨rfl, hx⟩
  have HX2 := Lib.hid (Gr.ext_trans HX1.out hx)
  go_wp2
  go_returns
  exact ⟨_, by rfl, HX2.out, RwsL.nil _ _ _⟩
theorem cut_other (b s m : Nat) (v : Value) (xs : List Nat) (w : World) (h : CM.Right b s m) (hn : xs.length ≠ b) (hv : U8s w v xs) :
    Calls Tryz.prog 21 #[PV b s m, v] w (CutOut w 10 []) := by
  obtain ⟨va, vc, rfl, _⟩ := hv.slice
  have hlen := hv.len
  unfold maxLen at hlen
  obtain ⟨n, hn0⟩ : ∃ n, n = xs.length := ⟨_, rfl⟩
  rw [← hn0] at hn hlen ⊢
  have hne : ((n : Int) != b) = true := by simp; omega
  have HR := Lib.hid h
  clear h hv hn0
  go_enter Tryz.func21, Tryz.ntmps21
  go_wp2_with fail
  generalize hw1 : World.alloc w _ = w1
  have hx1 : w.Extends w1 := by subst hw1; exact prm_ext_alloc _ _
  have hp : PAt w1 w.heap.size b s m := by subst hw1; exact PAt.new w 23 b s m
  generalize w.heap.size = g at hp ⊢
  clear hw1
  have HX1 := Lib.hid hx1
  have HP1 := Lib.hid hp
  have hb1 := hp.lt
  obtain ⟨p0, p1, p2⟩ := hp
  clear hx1
  refine (right_yes b s m w1 HR.out).mono ?_
  rintro e w2 ⟨rfl, hx⟩
  have HX2 := Lib.hid (Gr.ext_trans HX1.out hx)
  have HP2 := Lib.hid (HP1.out.ext hx)
  clear p0 p1 p2 hx
  obtain ⟨p0, p1, p2⟩ := HP2.out
  go_wp2
  go_returns
  exact ⟨_, by rfl, HX2.out, RwsL.nil _ _ _⟩
set_option maxHeartbeats 1000000 in
set_option maxRecDepth 100000 in
theorem cut_some (b s m : Nat) (v : Value) (xs : List Nat) (w : World) (h : CM.Right b s m) (hn : xs.length = b) (hv : U8s w v xs) :
    Calls Tryz.prog 21 #[PV b s m, v] w (CutOut w 0 (CM.cut b s m xs)) := by
  obtain ⟨va, vc, rfl, _⟩ := hv.slice
  obtain ⟨h1, h2, h3, h4, h5, h6⟩ := CM.right_of h
  have HLT := Lib.hid hv.lt
  have HB := Lib.hid (fun w => blocks_yes b s m w h)
  have HK := Lib.hid (fun w i hi => k_in b s m i w h hi)
  have hyl := CM.sy_le b s h1
  have hnl := CM.bl_le b s m
  have hnp := CM.bl_pos b s m
  have HKI : Hid (∀ i, i < CM.bl b s m → CM.kk b s m i = CM.deal (CM.sy b s) (CM.bl b s m) i) := fun i hi => CM.kk_in b s m i hi
  have HKL : Hid (∀ i, CM.kk b s m i ≤ 40) := fun i => Nat.le_trans (CM.kk_le b s m i h5) h6
  have HFIN : Hid (∀ w g vals, CutTo w g (CM.bl b s m) (CM.bl b s m) vals s (CM.sy b s) xs → RwsL w (.slice (some ⟨g, 0, none⟩) (CM.bl b s m) (CM.bl b s m)) (CM.cut b s m xs)) := fun w g vals hc => by
    subst hn; exact hc.rws rfl (by unfold maxLen; omega)
  have HMADE := Lib.hid (fun w => CutTo.made w (CM.bl b s m) s (CM.sy b s) xs)
  have hmk := fun w => mkRowLists (CM.bl b s m) (by omega) w
  have HAS := Lib.hid (CM.ahead_succ (CM.sy b s) (CM.bl b s m))
  have HU := Lib.hid hv
  have HD0 : Hid (xs.drop (CM.ahead (CM.sy b s) (CM.bl b s m) 0 * s) = xs) := by show _ = _; rw [CM.ahead_zero]; simp
  rw [hn] at HU ⊢
  obtain ⟨i1, hi', hz0', hz1', hz2'⟩ := info_parts rowinfo
  have HI' := Lib.hid hi'; clear hi'
  have HZ0' := Lib.hid hz0'; clear hz0'
  have HZ1' := Lib.hid hz1'; clear hz1'
  have HZ2' := Lib.hid hz2'; clear hz2'
  have hmr := fun w => mkRow s (by omega) w
  have HMR := Lib.hid hmr
  clear hmr
  generalize CM.cut b s m xs = L at *
  generalize CM.bl b s m = n at *
  generalize CM.sy b s = y at *
  generalize hkk : CM.kk b s m = kk at *
  have HR := Lib.hid h
  clear h hn hkk hv
  go_enter Tryz.func21, Tryz.ntmps21
  have HMK := Lib.hid hmk
  clear hmk
  go_wp2_with fail
  generalize hw1 : World.alloc w _ = w1
  have hx1 : w.Extends w1 := by subst hw1; exact prm_ext_alloc _ _
  have hp : PAt w1 w.heap.size b s m := by subst hw1; exact PAt.new w 23 b s m
  generalize w.heap.size = bx at hp ⊢
  clear hw1
  have HX1 := Lib.hid hx1
  have HP1 := Lib.hid hp
  have hb1 := hp.lt
  obtain ⟨p0, p1, p2⟩ := hp
  clear hx1
  refine (right_yes b s m w1 HR.out).mono ?_
  rintro e w2 ⟨rfl, hx⟩
  have HX2 := Lib.hid (Gr.ext_trans HX1.out hx)
  have HP2 := Lib.hid (HP1.out.ext hx)
  have hb2 := HP2.out.lt
  clear p0 p1 p2 hx
  obtain ⟨p0, p1, p2⟩ := HP2.out
  go_wp2_with fail
  refine (HB.out w2).mono ?_
  rintro e w3 ⟨rfl, hx⟩
  have HX3 := Lib.hid (Gr.ext_trans HX2.out hx)
  have HP3 := Lib.hid (HP2.out.ext hx)
  have hb3 := HP3.out.lt
  clear p0 p1 p2 hx
  have hmk := HMK.out
  go_upto_region 6 with fail
  clear hmk
  have HM3 := Lib.hid (HMADE.out w3)
  have HU4 : Hid (U8s (w3.alloc (.cells (madeCells #[.slice none 0 0] n) 62)) (.slice va b vc) xs) := (HU.out.ext HX3.out).ext (ext_alloc _ _)
  generalize hw4 : World.alloc w3 _ = w4 at *
  have HX4 : Hid (w3.Extends w4) := by subst hw4; exact ext_alloc _ _
  have HP4 := Lib.hid (HP3.out.ext HX4.out)
  have hgx : w.heap.size ≤ w3.heap.size := HX3.out.size
  generalize w3.heap.size = g at *
  have HX5 := Lib.hid (Gr.ext_trans HX3.out HX4.out)
  clear hw4 HX4 HX3 HMADE HU4
  go_wp2_with fail
  go_loopw [1, 22] (fun d i wr => ∃ (q : Nat) (vals : Nat → Value), q ≤ n ∧ i = .int .i64 q ∧ Hid (U8s w d (xs.drop (CM.ahead y n q * s))) ∧ Hid (w4.grownBy wr (some g)) ∧ Hid (CutTo wr g n q vals s y xs)) (fun _ i _ => (n - intOf i).toNat)
  case atStart => exact ⟨0, _, by omega, rfl, Lib.hid (by rw [HD0.out]; exact HU.out), Lib.hid (grown_refl _ _), HM3⟩
  case round =>
    obtain ⟨q, vals, hq, rfl, HD, HG, HC⟩ := hrel
    by_cases h7 : q < n
    · have HPr := Lib.hid (HP4.out.but HG.out (by omega))
      have hbr := HPr.out.lt
      obtain ⟨p0, p1, p2⟩ := HPr.out
      go_wp2_with fail
      refine (HK.out wr q h7).mono ?_
      rintro e wo ⟨rfl, hx⟩
      have HGo := Lib.hid (grown_exts HG.out hx)
      have HCo := Lib.hid (HC.out.ext hx)
      have HPo := Lib.hid (HPr.out.ext hx)
      have HKQ := Lib.hid (HKI.out q h7)
      have hkl := HKL.out q
      have HAQ := Lib.hid (HAS.out q)
      have hglt : g < wo.heap.size := HCo.out.1.lt
      generalize kk q = k at *
      generalize haq : CM.ahead y n q = a at *
      have HAE := Lib.hid haq
      clear haq
      clear HG HC HPr hx p0 p1 p2 hbr
      clear wr
      go_wp2_with fail
      go_loopw [1, 28] (fun d i wr => ∃ (z : Nat) (u : Value), z ≤ k ∧ i = .int .i64 z ∧ Hid (U8s w d (xs.drop ((a + z) * s))) ∧ Hid (wo.grownBy wr (some g)) ∧ Hid (wr.rowIs g 62 n (fun c => if c = q then u else vals c)) ∧ Hid (Mats wr wo.heap.size 0 76 u z (CM.blk s xs a z))) (fun _ i _ => (k - intOf i).toNat)
      case atStart =>
        refine ⟨0, .slice none 0 0, by omega, rfl, HD, Lib.hid (grown_refl _ _), Lib.hid (HCo.out.1.congr fun c hc => ?_), Lib.hid (Mats.nil _ _ _ _ _)⟩
        by_cases e : c = q
        · rw [if_pos e, HCo.out.2.2 c (by omega)]
        · rw [if_neg e]
      case round =>
        obtain ⟨z, u, hz, rfl, HD, HG, HRw, HM⟩ := hrel
        have HXW : Hid (w.Extends wr) := ext_grown (Gr.ext_trans HX5.out (Gr.ext_refl _)) (grown_trans HGo.out HG.out) hgx
        by_cases h8 : z < k
        · obtain ⟨da, dc, rfl, _⟩ := HD.out.slice
          have HDR := Lib.hid (HD.out.ext HXW.out)
          have hdl := HD.out.len
          have hcl0 : (u8vs ((xs.drop ((a + z) * s)).take s)).length = min s (xs.drop ((a + z) * s)).length := by rw [u8vs_length, List.length_take]
          obtain ⟨a2, c2, hsl, hd2⟩ := cut_from HD.out (u8vs ((xs.drop ((a + z) * s)).take s)).length (by omega)
          rw [drop_next] at hd2
          have HD2 := Lib.hid hd2
          have HCS := Lib.hid (copy_src (HDR.out.ext (ext_alloc _ _) : U8s (wr.alloc (.cells (madeCells #[.int .u8 0] s) 5)) _ _) s)
          have HONE := Lib.hid (u8vs_one ((xs.drop ((a + z) * s)).take s))
          have HOC : Hid (∀ (w : World) r, w.heap[r]? = some (.cells (splice (List.replicate s (Value.int .u8 0)) 0 (u8vs ((xs.drop ((a + z) * s)).take s))).toArray 5 (0, 0)) → Own w r 5 (CM.sym s xs (a + z))) := fun w r h => own_copied (by unfold maxLen; omega) HLT.out h
          have HSL := Lib.hid (CM.sym_length s xs (a + z))
          have HBS := Lib.hid (CM.blk_snoc s xs a z)
          have HBL := Lib.hid (CM.blk_length s xs a z)
          have HSLC := Lib.hid hsl
          clear hd2 HDR hsl
          generalize u8vs ((xs.drop ((a + z) * s)).take s) = cs at *
          generalize (xs.drop ((a + z) * s)).length = dn at *
          generalize CM.sym s xs (a + z) = row at *
          generalize hcn : cs.length = cn at *
          have HCN := Lib.hid hcn
          have HCL := Lib.hid hcl0
          clear hcn hcl0
          have HPr := Lib.hid (HPo.out.but HG.out (by omega))
          have hbr := HPr.out.lt
          obtain ⟨p0, p1, p2⟩ := HPr.out
          have hmk := HMR.out
          go_wp2_with (with_reducible refine wpList_copy_splice rfl (.tmp 34) (.tmp 35) 76 24 rfl 5 Tryz.underlying76 bytesize _ _ _ _ _ _ rfl rfl wr.heap.size 0 (List.replicate s (Value.int .u8 0)) 5 (made_bytes wr s) cs ?_ ?_ ?_ HONE.out wr.heap.size (wr.alloc (.cells (madeCells #[.int .u8 0] s) 5)) (Below.refl _ _) (Nat.le_refl _) ?_)
          · rw [HCN.out, HCL.out]; exact Nat.min_comm _ _
          · intro h0
            rw [HCN.out] at h0
            exact HCS.out h0
          · rw [HCN.out, List.length_replicate, HCL.out]; omega
          intro w2 HG2 hB2
          have HX2' : Hid (wr.Extends w2) := Gr.ext_of ((balloc (Below.refl _ _) _).trans hB2)
          have HOW := Lib.hid (HOC.out w2 _ HG2.out)
          have hbr2 : bx < w2.heap.size := Nat.lt_of_lt_of_le hbr HX2'.out.size
          have HR2 := Lib.hid (HRw.out.of_block (HX2'.out.block g HRw.out.lt))
          obtain ⟨ua, uc, rfl⟩ := HM.out.slice
          obtain ⟨vs, hown, hrows⟩ := HM.out.ext HX2'.out
          have HOWN := Lib.hid hown
          have HROWS := Lib.hid hrows
          have HNE : Hid (∀ x, (Value.slice ua z uc).ownBlock = some x → wo.heap.size ≤ x) := fun x hx => (HOWN.out.lt x hx).1
          have hcell : w2.cell? ⟨g, q, none⟩ = some (.slice ua z uc) := by have := HR2.out.cell h7; rwa [if_pos rfl] at this
          have hgl2 : g < w2.heap.size := HR2.out.lt
          have HGW := Lib.hid (grown_exts HG.out HX2'.out)
          have hwos := HGW.out.size
          rw [HCN.out]
          clear hown hrows HG2 hB2 p0 p1 p2 HM HG hmk HRw
          generalize wr.heap.size = r at *
          refine wpList_slice rfl 24 (.tmp 33) (some (.tmp 36)) none rfl elemBytes _ _ _ rfl rfl rfl (HSLC.out _) ?_
          go_wp2_with (at_builtin; refine wpList_append_own_src _ rfl _ _ 62 62 rfl wo.heap.size 76 i1 (.slice none 0 0) 1 24 Tryz.underlying62 HI'.out HZ0'.out HZ1'.out HZ2'.out rfl _ _ _ rfl (HOWN.out.alloc _) _ 1 [.slice (some ⟨r, 0, none⟩) s s] rfl (src_one Tryz.underlying62 _ _ rfl rfl) (by unfold maxLen; omega) (by omega) (by simp; omega) ?_)
          intro v' w3' ho3 hg3 _
          have HR3 := Lib.hid ((HR2.out.alloc (.cells #[.slice (some ⟨r, 0, none⟩) s s] 76)).of_block (hg3.block g (by simp; omega) (fun e => by have := HNE.out g e.symm; omega)))
          have HG3 := Lib.hid (grown_in (grown_exts HGW.out (ext_alloc _ _)) hg3 HNE.out)
          have HM3' : Hid (Mats w3' wo.heap.size 0 76 v' (z + 1) (CM.blk s xs a (z + 1))) := by
            show Mats _ _ _ _ _ _ _
            rw [← HBS.out]
            exact Mats.snoc (Nat.zero_le _) (by decide) HBL.out.symm (HOWN.out.alloc _) (fun j hj => by obtain ⟨x, e1, e2⟩ := HROWS.out j hj; exact ⟨x, e1, e2.ext (ext_alloc _ _)⟩) ((HOW.out.ok HSL.out).ext (ext_alloc _ _)) hg3 ho3
          have hcell3 : w3'.cell? ⟨g, q, none⟩ = some (.slice ua z uc) := by have := HR3.out.cell h7; rwa [if_pos rfl] at this
          have hfz3 := HR3.out.frozen q
          obtain ⟨xa, xc, rfl⟩ := HM3'.out.slice
          have HP : Hid (wo.grownBy (w3'.setCell ⟨g, q, none⟩ (.slice xa (z + 1) xc)) (some g) ∧ (w3'.setCell ⟨g, q, none⟩ (.slice xa (z + 1) xc)).rowIs g 62 n (fun c => if c = q then .slice xa (z + 1) xc else vals c) ∧
              Mats (w3'.setCell ⟨g, q, none⟩ (.slice xa (z + 1) xc)) wo.heap.size 0 76 (.slice xa (z + 1) xc) (z + 1) (CM.blk s xs a (z + 1))) := by
            refine ⟨grown_setCell HG3.out _ _, (HR3.out.set q _).congr fun c hc => ?_, HM3'.out.butRow hglt HR3.out (by decide) (grown_setCell (grown_refl _ _) _ _)⟩
            by_cases e : c = q
            · simp [e]
            · simp [e]
          clear hg3 ho3 hcell HR2 HOWN HROWS HNE HGW HR3 HG3 HM3'
          go_wp2
          go_roundw
          case rel => exact ⟨z + 1, _, by omega, by go_num, HD2, Lib.hid HP.out.1, Lib.hid HP.out.2.1, Lib.hid HP.out.2.2⟩
          case measure => simp [intOf]; omega
        · obtain rfl : z = k := by omega
          have HCN : Hid (CutTo wr g n (q + 1) (fun c => if c = q then u else vals c) s y xs) := by
            have hu := HM.out
            rw [HKQ.out, ← HAE.out] at hu
            exact HCo.out.next HG.out HRw.out hu
          have HGN := Lib.hid (grown_trans HGo.out HG.out)
          have HDN : Hid (U8s w u1 (xs.drop (CM.ahead y n (q + 1) * s))) := by
            show U8s _ _ _
            rw [HAQ.out, ← HKQ.out]; exact HD.out
          clear HD HG HRw HM
          go_wp2
          go_roundw
          case rel => exact ⟨q + 1, _, by omega, by go_num, HDN, HGN, HCN⟩
          case measure => simp [intOf]; omega
    · obtain rfl : q = n := by omega
      have HXW : Hid (w.Extends wr) := ext_grown HX5.out HG.out hgx
      have HRW := Lib.hid (HFIN.out _ _ _ HC.out)
      go_wp2
      go_returns
      exact ⟨_, by rfl, HXW.out, HRW.out⟩
end Go.Proofs.YtippckajlghimaaGreatDoor
/- Package split: allOf and fit. -/
namespace Go.Proofs.YtippckajlghimaaGreatDoor
set_option maxRecDepth 20000
open Go.RowKit Go.Deep
set_option linter.unusedVariables false
theorem sallOf_any (size : Int) (v : Value) (l : List (List Nat)) (w : World) (hv : Rws w v l) :
    Calls Tryz.prog 78 #[.int .i64 size, v] w (Says (AllB size l) w) := by
  have hm := hv.len
  obtain ⟨a, cap, rfl, _⟩ := hv.slice
  have HV := Lib.hid hv.at.2
  have HALL : Hid ((∀ k, k < l.length → ((l.getD k []).length : Int) = size) ↔ AllB size l) := Iff.rfl
  clear hv
  generalize hn : l.length = n at *
  have HN := Lib.hid hn; clear hn
  unfold maxLen at hm
  go_enter Tryz.func78, Tryz.ntmps78
  go_wp2_with fail
  go_loopw [9] (fun i wr => ∃ k : Nat, k ≤ n ∧ i = .int .i64 k ∧ Hid (w.Extends wr) ∧ Hid (∀ i, i < k → ((l.getD i []).length : Int) = size)) (fun i _ => (n - intOf i).toNat)
  case atStart => exact ⟨0, by omega, rfl, Lib.hid (Gr.ext_refl _), Lib.hid (fun i hi => absurd hi (Nat.not_lt_zero _))⟩
  case round =>
    obtain ⟨k, hk, rfl, HX, HK⟩ := hrel
    by_cases h1 : k < n
    · obtain ⟨b1, o1, rfl, hb1, hc1⟩ := HV.out (by omega)
      obtain ⟨ra, rc, hc3, hr0⟩ := hc1 k h1
      have hc2 := HX.out.cell_of hc3
      clear hc1 hc3 hr0
      have HK2 : Hid (((l.getD k []).length : Int) = size → ∀ i, i < k + 1 → ((l.getD i []).length : Int) = size) := fun h2 i hi => by
        by_cases e : i = k
        · subst e; exact h2
        · exact HK.out i (by omega)
      have HK3 : Hid (AllB size l → ((l.getD k []).length : Int) = size) := fun h => h k (by rw [HN.out]; exact h1)
      generalize (l.getD k []).length = r at *
      by_cases h2 : (r : Int) = size
      · have hne : ((r : Int) != size) = false := by simpa using h2
        have HK4 := Lib.hid (HK2.out h2)
        clear h2 HK2 HK3
        go_wp2
        go_roundw
        case rel => exact ⟨k + 1, by omega, by go_num, HX, HK4⟩
        case measure => simp [intOf]; omega
      · have hne : ((r : Int) != size) = true := by simpa using h2
        have HP : Hid (Says (AllB size l) w (.returned (.bool false)) wr) := Says.no (fun h => h2 (HK3.out h)) HX.out
        clear h2 HK2 HK3
        go_wp2
        go_ret
        exact HP.out
    · obtain rfl : k = n := by omega
      have HP : Hid (Says (AllB size l) w (.returned (.bool true)) wr) := Says.yes (fun i hi => HK.out i (by rw [← HN.out]; exact hi)) HX.out
      go_wp2
      go_ret
      exact HP.out
set_option maxHeartbeats 1000000 in
theorem fit_any (b s m : Nat) (v : Value) (L : List (List (List Nat))) (w : World) (h : CM.Right b s m) (hv : RwsL w v L) :
    Calls Tryz.prog 61 #[PV b s m, v] w (Says (CM.Fit b s m L) w) := by
  have hm := hv.len
  obtain ⟨va, vc, rfl, _⟩ := hv.slice
  have HV := Lib.hid hv.at.2
  have HB := Lib.hid (fun w => blocks_yes b s m w h)
  have HK := Lib.hid (fun w i hi => k_in b s m i w h hi)
  have HFIT : Hid ((L.length = CM.bl b s m ∧ ∀ i, i < L.length → (L.getD i []).length = CM.kk b s m i ∧ ∀ j, j < (L.getD i []).length → ((L.getD i []).getD j []).length = s) ↔ CM.Fit b s m L) := Iff.rfl
  obtain ⟨h1, h2, h3, h4, h5, h6⟩ := CM.right_of h
  have hyl := CM.sy_le b s h1
  have hnl := CM.bl_le b s m
  have HKL : Hid (∀ i, CM.kk b s m i ≤ 40) := fun i => Nat.le_trans (CM.kk_le b s m i h5) h6
  unfold maxLen at hm
  clear hv
  generalize CM.Fit b s m L = Ft at *
  generalize CM.bl b s m = n at *
  generalize CM.sy b s = y at *
  generalize CM.kk b s m = kk at *
  obtain ⟨ln, hln⟩ : ∃ ln, ln = L.length := ⟨_, rfl⟩
  rw [← hln] at HV HFIT hm ⊢
  clear hln h
  go_enter Tryz.func61, Tryz.ntmps61
  go_wp2_with fail
  generalize hw1 : World.alloc w _ = w1
  have hx1 : w.Extends w1 := by subst hw1; exact prm_ext_alloc _ _
  have hp : PAt w1 w.heap.size b s m := by subst hw1; exact PAt.new w 23 b s m
  generalize w.heap.size = bx at hp ⊢
  clear hw1
  have HX1 := Lib.hid hx1
  have HP1 := Lib.hid hp
  have hb1 := hp.lt
  obtain ⟨p0, p1, p2⟩ := hp
  clear hx1
  refine (HB.out w1).mono ?_
  rintro e w2 ⟨rfl, hx⟩
  have HX2 := Lib.hid (Gr.ext_trans HX1.out hx)
  have HP2 := Lib.hid (HP1.out.ext hx)
  have hb2 := HP2.out.lt
  clear p0 p1 p2 hx
  by_cases h7 : ln = n
  · have hne : ((ln : Int) != n) = false := by simp; omega
    have HLN := Lib.hid h7
    clear h7
    go_wp2_with fail
    go_loopw [14] (fun i wr => ∃ q : Nat, q ≤ ln ∧ i = .int .i64 q ∧ Hid (w2.Extends wr) ∧ Hid (∀ i, i < q → (L.getD i []).length = kk i ∧ ∀ j, j < (L.getD i []).length → ((L.getD i []).getD j []).length = s)) (fun i _ => (ln - intOf i).toNat)
    case atStart => exact ⟨0, by omega, rfl, Lib.hid (Gr.ext_refl _), Lib.hid (fun i hi => absurd hi (Nat.not_lt_zero _))⟩
    case round =>
      obtain ⟨q, hq, rfl, HX, HQ⟩ := hrel
      by_cases h8 : q < ln
      · obtain ⟨bb, o1, rfl, hbb, hc1⟩ := HV.out (by omega)
        obtain ⟨ra, rc, hc3, hr0⟩ := hc1 q h8
        have HXW := Lib.hid (Gr.ext_trans HX2.out HX.out)
        have hc2 := HXW.out.cell_of hc3
        have HR := Lib.hid (hr0.ext HXW.out)
        have HPr := Lib.hid (HP2.out.ext HX.out)
        have hbr := HPr.out.lt
        obtain ⟨p0, p1, p2⟩ := HPr.out
        have hrl := hr0.len
        unfold maxLen at hrl
        have hkl := HKL.out q
        have HNX : Hid ((L.getD q []).length = kk q → (∀ j, j < (L.getD q []).length → ((L.getD q []).getD j []).length = s) → ∀ i, i < q + 1 → (L.getD i []).length = kk i ∧ ∀ j, j < (L.getD i []).length → ((L.getD i []).getD j []).length = s) := fun e1 e2 i hi => by
          by_cases e : i = q
          · subst e; exact ⟨e1, e2⟩
          · exact HQ.out i (by omega)
        have HNO : Hid (Ft → (L.getD q []).length = kk q ∧ ∀ j, j < (L.getD q []).length → ((L.getD q []).getD j []).length = s) := fun hf => (HFIT.out.2 hf).2 q h8
        clear hc1 hc3 hr0
        generalize L.getD q [] = l at *
        have HKq := Lib.hid (fun w => HK.out w q (by have := HLN.out; omega))
        generalize kk q = k at *
        obtain ⟨r, hr⟩ : ∃ r, r = l.length := ⟨_, rfl⟩
        have HRL := Lib.hid hr
        rw [← hr] at hc2 hrl
        have HR' : Hid (Rws wr (.slice ra r rc) l) := by have := HR.out; rw [← hr] at this; exact this
        clear hr
        go_wp2_with fail
        refine (HKq.out wr).mono ?_
        rintro e w3 ⟨rfl, hx⟩
        have HX3 := Lib.hid (Gr.ext_trans HX.out hx)
        have HP3 := Lib.hid (HPr.out.ext hx)
        have HR3 := Lib.hid (HR'.out.ext hx)
        have hb3 := HP3.out.lt
        clear p0 p1 p2 hx hc2
        obtain ⟨p0, p1, p2⟩ := HP3.out
        by_cases h9 : r = k
        · have hne2 : ((r : Int) != k) = false := by simp; omega
          have H9 := Lib.hid h9
          clear h9
          go_wp2_with fail
          refine (sallOf_any s _ l w3 HR3.out).mono ?_
          rintro e w4 ⟨⟨ok, rfl, hok⟩, hx⟩
          have HX4 := Lib.hid (Gr.ext_trans HX3.out hx)
          have HAL : Hid (AllB s l ↔ ∀ j, j < l.length → (l.getD j []).length = s) := ⟨fun h j hj => by have := h j hj; omega, fun h j hj => by have := h j hj; omega⟩
          have HOK := Lib.hid hok
          clear hok hx p0 p1 p2
          cases ok with
          | true =>
            have HN := Lib.hid (HNX.out (by rw [← HRL.out]; exact H9.out) (HAL.out.1 (HOK.out.1 rfl)))
            go_wp2
            go_roundw
            case rel => exact ⟨q + 1, by omega, by go_num, HX4, HN⟩
            case measure => simp [intOf]; omega
          | false =>
            have HP : Hid (Says Ft w (.returned (.bool false)) w4) := Says.no (fun hf => by have := HOK.out.2 (HAL.out.2 (HNO.out hf).2); cases this) (Gr.ext_trans HX2.out HX4.out)
            go_wp2
            go_ret
            exact HP.out
        · have hne2 : ((r : Int) != k) = true := by simp; omega
          have HP : Hid (Says Ft w (.returned (.bool false)) w3) := Says.no (fun hf => h9 (by rw [HRL.out]; exact (HNO.out hf).1)) (Gr.ext_trans HX2.out HX3.out)
          clear h9
          go_wp2
          go_ret
          exact HP.out
      · obtain rfl : q = ln := by omega
        have HP : Hid (Says Ft w (.returned (.bool true)) wr) := Says.yes (HFIT.out.1 ⟨HLN.out, HQ.out⟩) (Gr.ext_trans HX2.out HX.out)
        go_wp2
        go_ret
        exact HP.out
  · have hne : ((ln : Int) != n) = true := by simp; omega
    have HP : Hid (Says Ft w (.returned (.bool false)) w2) := Says.no (fun hf => h7 (HFIT.out.2 hf).1) HX2.out
    clear h7
    go_wp2
    go_ret
    exact HP.out
end Go.Proofs.YtippckajlghimaaGreatDoor
