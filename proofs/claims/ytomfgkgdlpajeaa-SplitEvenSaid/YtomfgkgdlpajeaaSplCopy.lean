/- What package split's Cut lays down: a row that is copied over, and a slice of slices whose cells are written one by one. -/
import Derived.Test.YtomfgkgdlpajeaaSplKK
import Derived.Test.YtomfgkgdlpajeaaRwsL
import Derived.Test.YtomfgkgdlpajeaaCutS
import Derived.Laws.CopyOwn
namespace Go.Proofs.Ytomfgkgdlpajeaa
open Go.RowKit Go.Deep
set_option linter.unusedVariables false
theorem grown_ext {a b c : World} {r : Option Nat} (h : a.grownBy b r) (k : b.Extends c) : a.grownBy c r :=
  grown_trans h ⟨k.os, k.tape, k.output, k.size, fun i hi _ => k.block i hi⟩
theorem grown_in {a b c : World} {g : Nat} {r : Option Nat} (h : a.grownBy b (some g)) (k : b.grownBy c r) (hr : ∀ x, r = some x → a.heap.size ≤ x) : a.grownBy c (some g) :=
  ⟨k.os.trans h.os, k.tape.trans h.tape, k.output.trans h.output, Nat.le_trans h.size k.size, fun i hi hn =>
    (k.block i (Nat.lt_of_lt_of_le hi h.size) (fun e => by have := hr i e.symm; omega)).trans (h.block i hi hn)⟩
theorem ext_grown {a b c : World} {g : Nat} (h : a.Extends b) (k : b.grownBy c (some g)) (hg : a.heap.size ≤ g) : a.Extends c :=
  Gr.ext_of ((Gr.below_of h).trans ⟨k.os, k.tape, k.output, k.size, fun i hi => k.block i (Nat.lt_of_lt_of_le hi h.size) (by simp; omega)⟩)
theorem ext_own {a b c : World} {r : Option Nat} (h : a.Extends b) (k : b.grownBy c r) (hr : ∀ x, r = some x → a.heap.size ≤ x) : a.Extends c :=
  Gr.ext_of ((Gr.below_of h).trans ⟨k.os, k.tape, k.output, k.size, fun i hi => k.block i (Nat.lt_of_lt_of_le hi h.size) (fun e => by have := hr i e.symm; omega)⟩)
theorem PAt.own {w w' : World} {b : Nat} {k s h : Int} {r : Option Nat} (hp : PAt w b k s h) (hg : w.grownBy w' r) (hn : ∀ x, r = some x → b < x) : PAt w' b k s h :=
  have e : some b ≠ r := fun e => by have := hn b e.symm; omega
  ⟨hg.cell hp.1 e, hg.cell hp.2.1 e, hg.cell hp.2.2 e⟩
theorem PAt.but {w w' : World} {b g : Nat} {k s h : Int} (hp : PAt w b k s h) (hg : w.grownBy w' (some g)) (hn : b ≠ g) : PAt w' b k s h :=
  ⟨hg.cell hp.1 (by simp; omega), hg.cell hp.2.1 (by simp; omega), hg.cell hp.2.2 (by simp; omega)⟩
theorem RowOk.butRow {w w' : World} {u : Value} {xs : List Nat} {g n : Nat} {T : TypeId} {f : Nat → Value} (h : RowOk w 0 u xs) (hr : w.rowIs g T n f) (hT : T ≠ 5) (hg : w.grownBy w' (some g)) : RowOk w' 0 u xs := by
  refine h.grown hg ?_
  rcases h.2 with h0 | h0
  · exact .inl h0
  · refine .inr fun e => ?_
    obtain ⟨_, h1 | ⟨cs, h1⟩⟩ := h0 g e
    · omega
    · obtain ⟨cs', hc, _⟩ := hr
      rw [h1] at hc
      simp only [Option.some.injEq, Obj.cells.injEq] at hc
      exact hT hc.2.1.symm
theorem Mats.butRow {w w' : World} {B k g n : Nat} {T T1 : TypeId} {v : Value} {l : List (List Nat)} {f : Nat → Value} (h : Mats w B 0 T1 v k l) (hgB : g < B) (hr : w.rowIs g T n f) (hT : T ≠ 5) (hg : w.grownBy w' (some g)) : Mats w' B 0 T1 v k l := by
  obtain ⟨vs, ho, hv⟩ := h
  refine ⟨vs, ho.kept hg ?_, fun j hj => ?_⟩
  · cases hb : v.ownBlock with
    | none => exact .inl rfl
    | some x => exact .inr (by have := (ho.lt x hb).1; simp; omega)
  · obtain ⟨u, h1, h2⟩ := hv j hj
    exact ⟨u, h1, h2.butRow hr hT hg⟩
theorem Own.ok {w : World} {b n : Nat} {xs : List Nat} (h : Own w b 5 xs) (hn : xs.length = n) : RowOk w 0 (.slice (some ⟨b, 0, none⟩) n n) xs := RowOk.own h 0 hn.symm hn.symm
theorem splice_at (s : Nat) (ys : List Nat) (i : Nat) (hi : i < s) : (splice (List.replicate s (Value.int .u8 0)) 0 (u8vs (ys.take s)))[i]? = some (.int .u8 (ys.getD i 0 : Nat)) := by
  unfold splice
  rw [List.take_zero, List.nil_append, Nat.zero_add, u8vs_length]
  by_cases h : i < (ys.take s).length
  · rw [List.getElem?_append_left (by rw [u8vs_length]; exact h)]
    have h' : i < ys.length := by rw [List.length_take] at h; omega
    simp [u8vs, hi, h']
  · have h' : ¬ i < ys.length := by rw [List.length_take] at h; omega
    rw [List.getElem?_append_right (by rw [u8vs_length]; omega), u8vs_length, List.getElem?_drop, show (ys.take s).length + (i - (ys.take s).length) = i by omega]
    simp [hi, List.getElem?_eq_none (Nat.le_of_not_lt h')]
theorem splice_length (s : Nat) (ys : List Nat) : (splice (List.replicate s (Value.int .u8 0)) 0 (u8vs (ys.take s))).length = s := by
  rw [length_splice _ _ _ (by rw [u8vs_length, List.length_take, List.length_replicate]; omega), List.length_replicate]
/-- The row that copy has filled: the symbol. -/
theorem own_copied {w : World} {r s j : Nat} {T : TypeId} {xs : List Nat} (hs : s ≤ maxLen) (hl : ∀ x ∈ xs, x < 256)
    (h : w.heap[r]? = some (.cells (splice (List.replicate s (Value.int .u8 0)) 0 (u8vs ((xs.drop (j * s)).take s))).toArray T (0, 0))) : Own w r T (CM.sym s xs j) := by
  refine ⟨⟨_, h, ?_, fun i hi => ?_⟩, by rw [CM.sym_length]; exact hs, CM.sym_lt s xs j hl⟩
  · rw [List.size_toArray, splice_length, CM.sym_length]
  · rw [CM.sym_length] at hi
    have := splice_at s (xs.drop (j * s)) i hi
    rw [List.getElem?_toArray, this]
    show _ = some (Value.int .u8 ((CM.sym s xs j).getD i 0 : Nat))
    rw [CM.sym_at s xs j i hi]
    simp [List.getD_eq_getElem?_getD, List.getElem?_drop]
theorem drop_next (s j : Nat) (xs : List Nat) : (xs.drop (j * s)).drop (u8vs ((xs.drop (j * s)).take s)).length = xs.drop ((j + 1) * s) := by
  rw [u8vs_length, List.length_take, List.length_drop, List.drop_drop, Nat.add_mul, Nat.one_mul]
  by_cases h : j * s + s ≤ xs.length
  · rw [Nat.min_eq_left (by omega)]
  · rw [List.drop_eq_nil_of_le (by omega), List.drop_eq_nil_of_le (by omega)]
theorem rowlistinfo : (Try.prog.info? 30).map (fun i => (i.zero, i.size, i.bytes)) = some (some (.slice none 0 0), 1, 24) := by kernel_rfl
theorem mkRowLists (k : Nat) (hk : k ≤ 10000) (w : World) : (Instr.makeSlice 27 (.int .i64 (k : Int)) (.int .i64 (k : Int))).run Try.prog w = .ok (.slice (some ⟨w.heap.size, 0, none⟩) k k) (w.alloc (.cells (madeCells #[.slice none 0 0] k) 30)) :=
  run_make_row' (P := Try.prog) 27 30 (.slice none 0 0) 24 Try.underlying27 rowlistinfo rfl .i64 .i64 k (by omega) (by omega) w
/-- The first q blocks are laid: cells of block g. -/
def CutTo (w : World) (g n q : Nat) (vals : Nat → Value) (s y : Nat) (xs : List Nat) : Prop :=
  w.rowIs g 30 n vals ∧ (∀ c, c < q → Mats w (g + 1) 0 49 (vals c) (CM.deal y n c) (CM.blk s xs (CM.ahead y n c) (CM.deal y n c))) ∧ ∀ c, q ≤ c → vals c = .slice none 0 0
theorem CutTo.made (w : World) (n s y : Nat) (xs : List Nat) : CutTo (w.alloc (.cells (madeCells #[.slice none 0 0] n) 30)) w.heap.size n 0 (fun _ => .slice none 0 0) s y xs :=
  ⟨World.rowIs_made w (.slice none 0 0) n 30, fun c hc => absurd hc (Nat.not_lt_zero _), fun _ _ => rfl⟩
theorem CutTo.ext {w w' : World} {g n q : Nat} {vals : Nat → Value} {s y : Nat} {xs : List Nat} (h : CutTo w g n q vals s y xs) (hx : w.Extends w') : CutTo w' g n q vals s y xs :=
  ⟨h.1.of_block (hx.block g h.1.lt), fun c hc => (h.2.1 c hc).ext hx, h.2.2⟩
theorem copy_src {w : World} {a : Option Addr} {n cap : Nat} {ys : List Nat} (h : U8s w (.slice a n cap) ys) (s : Nat) (h0 : 0 < (u8vs (ys.take s)).length) : ∃ ad, a = some ad ∧ ∀ j v, (u8vs (ys.take s))[j]? = some v → w.cell? (ad.add j) = some v := by
  rw [u8vs_length, List.length_take] at h0
  obtain ⟨hn, hc⟩ := h.cell
  obtain ⟨b, off, rfl, _, hc⟩ := hc (by omega)
  refine ⟨_, rfl, fun j v hv => ?_⟩
  obtain ⟨hj, rfl⟩ := u8vs_at _ _ _ hv
  rw [List.length_take] at hj
  rw [Addr.add_mid, hc j (by omega)]
  simp [List.getD_eq_getElem?_getD, show j < s by omega]
theorem u8vs_one (ys : List Nat) : ∀ v ∈ u8vs ys, v.oneCell' = true := fun v hv => by
  obtain ⟨x, _, rfl⟩ := List.mem_map.1 hv; rfl
theorem bytesize : (Try.prog.info? 5).map (·.size) = some 1 := by kernel_rfl
theorem made_bytes (w : World) (s : Nat) : (w.alloc (.cells (madeCells #[.int .u8 0] s) 5)).heap[w.heap.size]? = some (.cells (List.replicate s (Value.int .u8 0)).toArray 5 (0, 0)) := by
  rw [heap_alloc_new]
  obtain ⟨c, hc, hs, hi⟩ := World.rowIs_made w (.int .u8 0) s 5
  rw [heap_alloc_new] at hc
  rw [hc]
  congr 2
  apply Array.ext
  · simp [hs]
  · intro i h1 h2
    have := hi i (by omega)
    rw [Array.getElem?_eq_getElem h1] at this
    simpa using this
/-- .. and block q, too. -/
theorem CutTo.next {wo w : World} {g n q : Nat} {vals : Nat → Value} {s y : Nat} {xs : List Nat} {u : Value} (h : CutTo wo g n q vals s y xs) (hg : wo.grownBy w (some g)) (hr : w.rowIs g 30 n (fun c => if c = q then u else vals c))
    (hu : Mats w wo.heap.size 0 49 u (CM.deal y n q) (CM.blk s xs (CM.ahead y n q) (CM.deal y n q))) : CutTo w g n (q + 1) (fun c => if c = q then u else vals c) s y xs := by
  have hlt := h.1.lt
  refine ⟨hr, fun c hc => ?_, fun c hc => ?_⟩
  · by_cases e : c = q
    · subst e; simp only [if_true]; exact hu.base (by omega)
    · simp only [if_neg e]
      exact (h.2.1 c (by omega)).butRow (by omega) h.1 (by decide) hg
  · simp only [if_neg (show ¬ c = q by omega)]
    exact h.2.2 c (by omega)
theorem CutTo.rws {w : World} {g n : Nat} {vals : Nat → Value} {s m : Nat} {xs : List Nat} (h : CutTo w g n n vals s (CM.sy xs.length s) xs) (hn : n = CM.bl xs.length s m) (hm : n ≤ maxLen) : RwsL w (.slice (some ⟨g, 0, none⟩) n n) (CM.cut xs.length s m xs) := by
  subst hn
  refine RwsL.row h.1 hm (CM.cut_length _ _ _ _) fun k hk => ?_
  rw [CM.cut_at _ _ _ _ _ hk, CM.kk_in _ _ _ _ hk]
  exact (h.2.1 k hk).rws (CM.blk_length _ _ _ _).symm
/-- What Cut answers. -/
def CutOut (w : World) (er : Nat) (L : List (List (List Nat))) (e : Ending) (w' : World) : Prop := ∃ v, e = .returned (.tuple #[v, .int .i64 (er : Nat)]) ∧ w.Extends w' ∧ RwsL w' v L
end Go.Proofs.Ytomfgkgdlpajeaa
