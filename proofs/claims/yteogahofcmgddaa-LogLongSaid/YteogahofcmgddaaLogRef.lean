/- The reference's log: Append, Sure. -/
import Derived.Test.YteogahofcmgddaaLogAt
import Derived.Test.YteogahofcmgddaaAppend3
import Derived.WalkKit
import Derived.IntWalk
namespace Go.Proofs.Yteogahofcmgddaa
set_option maxRecDepth 20000
open Go.RowKit Go.Deep
set_option linter.unusedVariables false
/-- The array is that of v, or a new one. -/
def NewBlk (w : World) (v v' : Value) : Prop := v'.ownBlock = v.ownBlock ∨ ∃ g, v'.ownBlock = some g ∧ w.heap.size ≤ g
theorem grown_on {a b c : World} {v v' : Value} (h : a.grownBy b v.ownBlock) (k : b.grownBy c v'.ownBlock) (hn : NewBlk a v v') : a.grownBy c v.ownBlock := by
  rcases hn with e | ⟨g, e, hg⟩
  · rw [e] at k; exact grown_trans h k
  · rw [e] at k
    exact ⟨k.os.trans h.os, k.tape.trans h.tape, k.output.trans h.output, Nat.le_trans h.size k.size, fun i hi hr =>
      (k.block i (Nat.lt_of_lt_of_le hi h.size) (by simp; omega)).trans (h.block i hi hr)⟩
theorem NewBlk.next {a b : World} {v v' v'' : Value} (h : NewBlk a v v') (hs : a.heap.size ≤ b.heap.size) (k : v''.ownBlock = v'.ownBlock ∨ ∃ g, v''.ownBlock = some g ∧ b.heap.size ≤ g) : NewBlk a v v'' := by
  rcases k with e | ⟨g, e, hg⟩
  · rcases h with e' | ⟨g, e', hg⟩
    · exact .inl (e.trans e')
    · exact .inr ⟨g, e.trans e', hg⟩
  · exact .inr ⟨g, e, Nat.le_trans hs hg⟩
theorem clean_any (w : World) (v : Value) : CleanBlk (fun _ => True) w v := fun _ _ _ _ _ _ _ _ => trivial
/-- The reference's put: the array is the old one or a new one. -/
def PutOut (w : World) (v : Value) (zs : List Nat) (e : Ending) (w' : World) : Prop := ∃ a c ys, e = .returned (.slice a ys.length c) ∧ ys = zs ∧ w'.ownsRow 0 5 1 (.slice a ys.length c) ys.length (u8vs ys) ∧ w.grownBy w' v.ownBlock ∧ NewBlk w v (.slice a ys.length c)
theorem put_own (v : Value) (xs : List Nat) (n W : Nat) (w : World) (hW : W ≤ 8) (hn : n < 4611686018427387904) (hx : xs.length ≤ 1000000) (hown : w.ownsRow 0 5 1 v xs.length (u8vs xs)) :
    Calls Try.prog 18 #[v, .int .i64 n, .int .i64 W] w (PutOut w v (xs ++ KM.nb W n)) := by
  obtain ⟨iu, hiu, hz0, hz1, hz2⟩ := info_parts byteinfo
  have HI := Lib.hid hiu
  have HZ0 := Lib.hid hz0
  have HZ1 := Lib.hid hz1
  have HZ2 := Lib.hid hz2
  have HOWN := Lib.hid hown
  obtain ⟨lx, hlx⟩ : ∃ lx, lx = xs.length := ⟨_, rfl⟩
  rw [← hlx] at hx HOWN
  have HLX := Lib.hid hlx
  obtain ⟨va, vc, rfl⟩ := owns_slice HOWN.out
  clear hiu hz0 hz1 hz2 hown hlx
  go_enter Try.func18, Try.ntmps18
  go_wp2_with fail
  go_loopw [0, 7] (fun s0 s7 wr => ∃ q : Nat, q ≤ W ∧ s7 = .int .i64 ((q : Int) - 1) ∧ Hid (wr.ownsRow 0 5 1 s0 (lx + (W - q)) (u8vs (xs ++ (KM.nb W n).take (W - q)))) ∧ Hid (w.grownBy wr (Value.slice va lx vc).ownBlock) ∧ Hid (NewBlk w (.slice va lx vc) s0)) (fun _ s7 _ => (intOf s7 + 1).toNat)
  case atStart => exact ⟨W, by omega, by rfl, by rw [Nat.sub_self, List.take_zero, List.append_nil]; exact HOWN, grown_refl _ _, .inl rfl⟩
  case round =>
    obtain ⟨q, hq, rfl, HO, HG, HN⟩ := hrel
    obtain ⟨a0, c0, rfl⟩ := owns_slice HO.out
    by_cases h : q = 0
    · subst h
      have HP : Hid (PutOut w (.slice va lx vc) (xs ++ KM.nb W n) (.returned (.slice a0 (lx + (W - 0)) c0)) wr) := by
        have ho := HO.out
        have e : lx + (W - 0) = (xs ++ KM.nb W n).length := by rw [List.length_append, KM.nb_length, HLX.out]; rfl
        have hnb := HN.out
        rw [List.take_of_length_le (by rw [KM.nb_length]; omega), e] at ho
        rw [e] at hnb ⊢
        exact ⟨a0, c0, _, rfl, rfl, ho, HG.out, hnb⟩
      go_wp2
      go_ret
      exact HP.out
    · obtain ⟨p, rfl⟩ : ∃ p, q = p + 1 := ⟨q - 1, by omega⟩
      rw [show (((p + 1 : Nat) : Int) - 1) = (p : Int) by omega]
      have hshr := shr_bytes n p
      obtain ⟨m, hm⟩ : ∃ m, m = n / 256 ^ p % 256 := ⟨_, rfl⟩
      have hm2 : m < 256 := hm ▸ Nat.mod_lt _ (by decide)
      have hand : bits .and .i64 ((n : Int) / 256 ^ p) 255 = (m : Int) := by
        rw [i64_and255, hm, Int.natCast_emod, Int.natCast_ediv, Int.natCast_pow]; rfl
      have HM := Lib.hid hm
      clear h hm
      go_wp2_with (at_builtin; refine wpList_append_own_src3 _ rfl _ _ 29 29 rfl 0 5 iu (.int .u8 0) 1 1 Try.underlying29 HI.out HZ0.out HZ1.out HZ2.out rfl _ _ _ rfl (HO.out.alloc _) _ 1 [.int .u8 m] rfl (src_one Try.underlying29 _ _ rfl rfl) (by unfold maxLen; omega) (by omega) (Nat.zero_le _) (fun _ => True) (clean_any _ _) (fun _ _ => trivial) (fun _ _ => trivial) ?_)
      intro v' w9 ho9 hg9 hn9 _
      have HP : Hid (w9.ownsRow 0 5 1 v' (lx + (W - p)) (u8vs (xs ++ (KM.nb W n).take (W - p))) ∧ w.grownBy w9 (Value.slice va lx vc).ownBlock ∧ NewBlk w (.slice va lx vc) v') := by
        refine ⟨?_, grown_on (grown_alloc HG.out _) hg9 HN.out, HN.out.next (b := wr) HG.out.size (hn9.imp id (fun ⟨g, e, h⟩ => ⟨g, e, by omega⟩))⟩
        rw [show lx + (W - p) = lx + (W - (p + 1)) + 1 by omega, ← KM.nb_step p W n (by omega), ← HM.out, ← List.append_assoc, u8vs_app1]
        exact ho9
      clear ho9 hg9 hn9
      go_wp2
      go_roundw
      case rel => exact ⟨p, by omega, by go_num, Lib.hid HP.out.1, Lib.hid HP.out.2.1, Lib.hid HP.out.2.2⟩
      case measure => simp [intOf]
/-- A log of the reference lies at block t: its bytes, how many are sure; its array is one of D. -/
def RAt (w : World) (t : Nat) (D : Nat → Prop) (bs : List Nat) (s : Nat) : Prop := ∃ a c, w.heap[t]? = some (.cells #[.slice a bs.length c, .int .i64 ((s : Nat) : Int)] 31 (0, 0)) ∧ w.ownsRow 0 5 1 (.slice a bs.length c) bs.length (u8vs bs) ∧ ∀ g, (Value.slice a bs.length c).ownBlock = some g → D g
theorem RAt.lt {w : World} {t s : Nat} {D : Nat → Prop} {bs : List Nat} (h : RAt w t D bs s) : t < w.heap.size := by
  obtain ⟨a, c, h1, _⟩ := h
  exact (Array.getElem?_eq_some_iff.1 h1).1
theorem RAt.new (w : World) (D : Nat → Prop) : RAt (w.alloc (.cells #[.slice none 0 0, .int .i64 0] 31)) w.heap.size D [] 0 :=
  ⟨none, 0, heap_alloc_new _ _, World.ownsRow_nil _ _ _ _, fun g hg => by cases hg⟩
theorem owns_at {w : World} {v : Value} {n g : Nat} {T : TypeId} {vs : List Value} {B : Nat} (h : w.ownsRow B T 1 v n vs) (hg : v.ownBlock = some g) : ∃ cs, w.heap[g]? = some (.cells cs T (0, 0)) := by
  rcases h.2 with ⟨rfl, _⟩ | ⟨g', cap, cur, rfl, hbg, hh, _⟩
  · cases hg
  · simp only [Value.ownBlock, Option.some.injEq] at hg
    subst hg
    exact ⟨cur, hh⟩
theorem RAt.keep {w w' : World} {t s : Nat} {D : Nat → Prop} {bs : List Nat} (h : RAt w t D bs s) (ht : w'.heap[t]? = w.heap[t]?) (hD : ∀ (g : Nat) (cs : Array Value), D g → w.heap[g]? = some (.cells cs 5 (0, 0)) → w'.heap[g]? = w.heap[g]?) : RAt w' t D bs s := by
  obtain ⟨a, c, h1, h2, h3⟩ := h
  refine ⟨a, c, ht.trans h1, ⟨h2.1, ?_⟩, h3⟩
  rcases h2.2 with h4 | ⟨g, cap, cur, hv, hb, hh, hrest⟩
  · exact .inl h4
  · refine .inr ⟨g, cap, cur, hv, hb, ?_, hrest⟩
    rw [hD g cur (h3 g (by rw [hv]; rfl)) hh]; exact hh
theorem RAt.ext {w w' : World} {t s : Nat} {D : Nat → Prop} {bs : List Nat} (h : RAt w t D bs s) (hx : w.Extends w') : RAt w' t D bs s :=
  h.keep (hx.block t h.lt) fun g cs _ hg => hx.block g (Array.getElem?_eq_some_iff.1 hg).1
theorem RAt.mono {w : World} {t s : Nat} {D D' : Nat → Prop} {bs : List Nat} (h : RAt w t D bs s) (hD : ∀ g, g < w.heap.size → D g → D' g) : RAt w t D' bs s := by
  obtain ⟨a, c, h1, h2, h3⟩ := h
  refine ⟨a, c, h1, h2, fun g hg => ?_⟩
  obtain ⟨cs, hc⟩ := owns_at h2 hg
  exact hD g (Array.getElem?_eq_some_iff.1 hc).1 (h3 g hg)
/-- It stays where another block may be written, that is none of D's or holds no bytes. -/
theorem RAt.grown {w w' : World} {t s g : Nat} {D : Nat → Prop} {bs : List Nat} (h : RAt w t D bs s) (hg : w.grownBy w' (some g)) (hn : t ≠ g) (hD : ¬ D g ∨ ∃ cs T f, w.heap[g]? = some (.cells cs T f) ∧ T ≠ 5) : RAt w' t D bs s :=
  h.keep (hg.block t h.lt (by simpa using hn)) fun i cs hi hc => hg.block i (Array.getElem?_eq_some_iff.1 hc).1 (fun e => by
    have e' := Option.some.inj e
    subst e'
    rcases hD with hD | ⟨cs', T, f, hc', hT⟩
    · exact hD hi
    · rw [hc] at hc'
      simp only [Option.some.injEq, Obj.cells.injEq] at hc'
      exact hT hc'.2.1.symm)
/-- What an append of the reference's log may write: its block t, and bytes in a block of D. -/
structure Touch (D : Nat → Prop) (t : Nat) (w w' : World) : Prop where
  os : w'.os = w.os
  tape : w'.tape = w.tape
  output : w'.output = w.output
  size : w.heap.size ≤ w'.heap.size
  away : ∀ i, i < w.heap.size → i ≠ t → ¬ D i → w'.heap[i]? = w.heap[i]?
  other : ∀ (i : Nat) (cs : Array Value) (T : TypeId) (f : Nat × Nat), w.heap[i]? = some (.cells cs T f) → i ≠ t → T ≠ 5 → w'.heap[i]? = w.heap[i]?
theorem Touch.below {D : Nat → Prop} {t B : Nat} {w w' : World} (h : Touch D t w w') (hB : B ≤ t) (hs : B ≤ w.heap.size) (hD : ∀ i, D i → B ≤ i) : Below B w w' :=
  ⟨h.os, h.tape, h.output, h.size, fun k hk => h.away k (by omega) (by omega) (fun hd => by have := hD k hd; omega)⟩
theorem LAt.touch {D : Nat → Prop} {t b s : Nat} {l : List (List Nat)} {w w' : World} (h : LAt w t l s) (hT : Touch D b w w') (hb : ∃ cs f, w.heap[b]? = some (.cells cs 31 f)) : LAt w' t l s := by
  obtain ⟨cb, fb, hb⟩ := hb
  have hne : ∀ (k : Nat) (cs : Array Value) (T : TypeId) (f : Nat × Nat), w.heap[k]? = some (.cells cs T f) → T ≠ 31 → k ≠ b := fun k cs T f hk hTT e => by
    subst e
    rw [hk] at hb
    simp only [Option.some.injEq, Obj.cells.injEq] at hb
    exact hTT hb.2.1
  obtain ⟨p, h1, _⟩ := id h
  exact h.keep (fun k cs hk => hT.other k cs _ _ hk (hne k _ _ _ hk (by decide)) (by decide)) (hT.other t _ _ _ h1 (hne t _ _ _ h1 (by decide)) (by decide))
theorem RAt.shape {w : World} {t s : Nat} {D : Nat → Prop} {bs : List Nat} (h : RAt w t D bs s) : ∃ cs f, w.heap[t]? = some (.cells cs 31 f) := by
  obtain ⟨a, c, h1, _⟩ := h
  exact ⟨_, _, h1⟩
theorem rlog_cells (a : Option Addr) (n c : Nat) (s : Int) : ∀ y ∈ (#[Value.slice a n c, .int .i64 s] : Array Value).toList, ∀ n, y ≠ .int .u8 n := by
  intro y hy n e
  subst e
  simp at hy
theorem RAt.cells {w : World} {t s : Nat} {D : Nat → Prop} {bs : List Nat} (h : RAt w t D bs s) : ∃ a c, w.cell? ⟨t, 0, none⟩ = some (.slice a bs.length c) ∧ w.cell? ⟨t, 1, none⟩ = some (.int .i64 ((s : Nat) : Int)) ∧ w.frozen? ⟨t, 0, none⟩ = false ∧ w.frozen? ⟨t, 1, none⟩ = false ∧
    w.ownsRow 0 5 1 (.slice a bs.length c) bs.length (u8vs bs) ∧ (∀ g, (Value.slice a bs.length c).ownBlock = some g → D g) ∧ w.heap[t]? = some (.cells #[.slice a bs.length c, .int .i64 ((s : Nat) : Int)] 31 (0, 0)) := by
  obtain ⟨a, c, h1, h2, h3⟩ := h
  exact ⟨a, c, by rw [cell_of_row _ _ _ _ _ _ h1]; rfl, by rw [cell_of_row _ _ _ _ _ _ h1]; rfl, frozen_of_row _ _ _ _ _ h1, frozen_of_row _ _ _ _ _ h1, h2, h3, h1⟩
theorem rsure15_any (t s : Nat) (D : Nat → Prop) (bs : List Nat) (w : World) (h : RAt w t D bs s) :
    Calls Try.prog 11 #[.pointer (some ⟨t, 0, none⟩)] w fun e w' => e = .returned (.tuple #[]) ∧ RAt w' t D bs bs.length ∧ w.grownBy w' (some t) := by
  obtain ⟨a, c, h0, h1, f0, f1, ho, hD, hb⟩ := h.cells
  have HP : Hid (∀ w2, w2 = w.setCell ⟨t, 1, none⟩ (.int .i64 ((bs.length : Nat) : Int)) → RAt w2 t D bs bs.length ∧ w.grownBy w2 (some t)) := fun w2 e => by
    have hg : w.grownBy w2 (some t) := by subst e; exact grown_set _ _ _ _
    refine ⟨⟨a, c, ?_, ho.kept hg ?_, hD⟩, hg⟩
    · subst e; rw [heap_setCell_same _ _ _ _ _ _ hb]; rfl
    · cases hv : (Value.slice a bs.length c).ownBlock with
      | none => exact .inl rfl
      | some g =>
        refine .inr fun e => ?_
        obtain ⟨cs, hc⟩ := owns_at ho hv
        have e' := Option.some.inj e
        subst e'
        rw [hb] at hc
        simp only [Option.some.injEq, Obj.cells.injEq] at hc
        exact absurd hc.2.1 (by decide)
  clear h ho hD hb
  generalize bs.length = n at *
  go_enter Try.func11, Try.ntmps11
  go_wp2
  go_end0
  exact ⟨rfl, HP.out _ rfl⟩
theorem rappend15_any (t s : Nat) (D : Nat → Prop) (bs : List Nat) (v : Value) (x : List Nat) (w : World) (h : RAt w t D bs s) (hu : U8s w v x) (hx : x.length ≤ 65535) (hz : bs.length ≤ 900000)
    (hsrc : x = [] ∨ ∀ g, v.ownBlock = some g → ¬ D g) (hnew : ∀ g, w.heap.size ≤ g → D g) :
    Calls Try.prog 9 #[.pointer (some ⟨t, 0, none⟩), v] w fun e w' => e = .returned (.int .i64 0) ∧ RAt w' t D (bs ++ KM.nb 2 x.length ++ x) s ∧ Touch D t w w' := by
  obtain ⟨a, c, h0, h1, f0, f1, ho, hD, hb⟩ := h.cells
  have hlt := h.lt
  obtain ⟨va, vc, rfl, _, _⟩ := hu.slice
  have hxlt := hu.lt
  obtain ⟨iu, hiu, hz0, hz1, hz2⟩ := info_parts byteinfo
  have HI := Lib.hid hiu
  have HZ0 := Lib.hid hz0
  have HZ1 := Lib.hid hz1
  have HZ2 := Lib.hid hz2
  have hvt : (Value.slice a bs.length c).ownBlock ≠ some t := fun e => by
    obtain ⟨cs, hc⟩ := owns_at ho e
    rw [hb] at hc
    simp only [Option.some.injEq, Obj.cells.injEq] at hc
    exact absurd hc.2.1 (by decide)
  have hput := put_own (.slice a bs.length c) bs x.length 2 w (by omega) (by omega) (by omega) ho
  have hstay : ∀ w3 : World, w.grownBy w3 (Value.slice a bs.length c).ownBlock → w3.cell? ⟨t, 0, none⟩ = some (.slice a bs.length c) ∧ w3.frozen? ⟨t, 0, none⟩ = false := fun w3 hg3 => by
    have e : w3.heap[t]? = w.heap[t]? := hg3.block t hlt (Ne.symm hvt)
    exact ⟨by rw [World.cell?_of_block (w := w) (w' := w3) (a := ⟨t, 0, none⟩) e]; exact h0, by rw [World.frozen?_of_block (w := w) (w' := w3) (a := ⟨t, 0, none⟩) e]; exact f0⟩
  have HSTAY := Lib.hid hstay
  have hmid : ∀ (a2 : Option Addr) (c2 : Nat) (ys : List Nat) (w2 : World), w2.ownsRow 0 5 1 (.slice a2 ys.length c2) ys.length (u8vs ys) → w.grownBy w2 (Value.slice a bs.length c).ownBlock → NewBlk w (.slice a bs.length c) (.slice a2 ys.length c2) →
      U8s w2 (.slice va x.length vc) x ∧ w2.cell? ⟨t, 0, none⟩ = some (.slice a bs.length c) ∧ w2.frozen? ⟨t, 0, none⟩ = false := fun a2 c2 ys w2 ho2 hg2 hn2 => by
    have e : w2.heap[t]? = w.heap[t]? := hg2.block t hlt (Ne.symm hvt)
    refine ⟨hu.grown hg2 ?_, ?_, ?_⟩
    · rcases hsrc with rfl | hsrc
      · exact .inl rfl
      · cases hv : (Value.slice va x.length vc).ownBlock with
        | none =>
          rcases hu with hu | ⟨b, off, cap, hv', _⟩
          · exact .inl hu.1
          · rw [hv'] at hv; cases hv
        | some g => exact .inr fun e => hsrc g hv (hD g e.symm)
    · rw [World.cell?_of_block (w := w) (w' := w2) (a := ⟨t, 0, none⟩) e]; exact h0
    · rw [World.frozen?_of_block (w := w) (w' := w2) (a := ⟨t, 0, none⟩) e]; exact f0
  have hlast : ∀ (a2 : Option Addr) (c2 : Nat) (ys : List Nat) (w2 : World) (a3 : Option Addr) (c3 : Nat) (w3 : World) (n3 : Nat) (w4 : World), ys = bs ++ KM.nb 2 x.length → w2.ownsRow 0 5 1 (.slice a2 ys.length c2) ys.length (u8vs ys) → w.grownBy w2 (Value.slice a bs.length c).ownBlock → NewBlk w (.slice a bs.length c) (.slice a2 ys.length c2) →
      w3.ownsRow 0 5 1 (.slice a3 n3 c3) (ys.length + x.length) (u8vs ys ++ u8vs x) → n3 = ys.length + x.length → w2.grownBy w3 (Value.slice a2 ys.length c2).ownBlock → ((Value.slice a3 n3 c3).ownBlock = (Value.slice a2 ys.length c2).ownBlock ∨ ∃ g, (Value.slice a3 n3 c3).ownBlock = some g ∧ w2.heap.size ≤ g) →
      w4 = w3.setCell ⟨t, 0, none⟩ (.slice a3 n3 c3) → RAt w4 t D (bs ++ KM.nb 2 x.length ++ x) s ∧ Touch D t w w4 := fun a2 c2 ys w2 a3 c3 w3 n3 w4 hys ho2 hg2 hn2 ho3 hn3 hg3 hnn e4 => by
    have hN3 : NewBlk w (.slice a bs.length c) (.slice a3 n3 c3) := hn2.next hg2.size hnn
    have hG3 : w.grownBy w3 (Value.slice a bs.length c).ownBlock := grown_on hg2 hg3 hn2
    have hb3 : w3.heap[t]? = some (.cells #[.slice a bs.length c, .int .i64 ((s : Nat) : Int)] 31 (0, 0)) := (hG3.block t hlt (Ne.symm hvt)).trans hb
    have hl : (bs ++ KM.nb 2 x.length ++ x).length = n3 := by rw [hn3, List.length_append, ← hys]
    have hg4 : w3.grownBy w4 (some t) := by subst e4; exact grown_set _ _ _ _
    have hne3 : (Value.slice a3 n3 c3).ownBlock ≠ some t := fun e => by
      rcases hN3 with e' | ⟨g, e', hg⟩
      · exact hvt (e'.symm.trans e)
      · rw [e'] at e; have := Option.some.inj e; omega
    refine ⟨⟨a3, c3, ?_, ?_, fun g hg => ?_⟩, ?_⟩
    · subst e4; rw [heap_setCell_same _ _ _ _ _ _ hb3, hl]; rfl
    · rw [hl]
      have : w4.ownsRow 0 5 1 (.slice a3 n3 c3) (ys.length + x.length) (u8vs ys ++ u8vs x) := ho3.kept hg4 (.inr hne3)
      rw [← hn3, ← u8vs_app1, hys] at this
      exact this
    · rw [hl] at hg
      rcases hN3 with e' | ⟨g', e', hg'⟩
      · exact hD g (e'.symm.trans hg)
      · rw [e'] at hg; have := Option.some.inj hg; subst this; exact hnew _ hg'
    · refine ⟨hg4.os.trans hG3.os, hg4.tape.trans hG3.tape, hg4.output.trans hG3.output, Nat.le_trans hG3.size hg4.size, fun i hi hit hDi => ?_, fun i cs T f hi hit hT => ?_⟩
      · exact (hg4.block i (Nat.lt_of_lt_of_le hi hG3.size) (by simpa using hit)).trans (hG3.block i hi (fun e => hDi (hD i e.symm)))
      · have hil := (Array.getElem?_eq_some_iff.1 hi).1
        refine (hg4.block i (Nat.lt_of_lt_of_le hil hG3.size) (by simpa using hit)).trans (hG3.block i hil (fun e => ?_))
        obtain ⟨cs', hc'⟩ := owns_at ho e.symm
        rw [hi] at hc'
        simp only [Option.some.injEq, Obj.cells.injEq] at hc'
        exact hT hc'.2.1
  have HPUT := Lib.hid hput
  have HMID := Lib.hid hmid
  have HLAST := Lib.hid hlast
  have HLN : Hid (∀ ys : List Nat, ys = bs ++ KM.nb 2 x.length → ys.length ≤ 1000000) := fun ys e => by rw [e, List.length_append, KM.nb_length]; omega
  clear hput hmid hlast hstay hb ho hD hvt hu hxlt hsrc hnew h h1 f0 f1 hlt hiu hz0 hz1 hz2
  generalize bs.length = n at *
  go_enter Try.func9, Try.ntmps9
  go_wp2_with fail
  refine HPUT.out.mono ?_
  rintro e w2 ⟨a2, c2, ys, rfl, hys, ho2, hg2, hn2⟩
  obtain ⟨hu2, hc2, hf2⟩ := HMID.out a2 c2 ys w2 ho2 hg2 hn2
  have hyl := HLN.out ys hys
  have HO2 := Lib.hid ho2
  have HU2 := Lib.hid hu2
  have HL2 := Lib.hid (HLAST.out a2 c2 ys w2)
  have HG2 := Lib.hid hg2
  have HN2 := Lib.hid hn2
  have HYS := Lib.hid hys
  clear h0 hu2 ho2 hg2 hn2 hys HPUT HMID HLAST HLN
  go_wp2_with (at_builtin; refine wpList_append_own_src3 _ rfl _ _ 29 29 rfl 0 5 iu (.int .u8 0) 1 1 Try.underlying29 HI.out HZ0.out HZ1.out HZ2.out rfl _ _ _ rfl HO2.out _ x.length (u8vs x) rfl (HU2.out.src Try.underlying29) (by unfold maxLen; omega) (by omega) (Nat.zero_le _) (fun _ => True) (clean_any _ _) (fun _ _ => trivial) (fun _ _ => trivial) ?_)
  intro v' w3 ho3 hg3 hn3 _
  obtain ⟨a3, c3, rfl⟩ := owns_slice ho3
  obtain ⟨hc3, hf3⟩ := HSTAY.out w3 (grown_on HG2.out hg3 HN2.out)
  have HP := Lib.hid (fun w4 => HL2.out a3 c3 w3 (ys.length + x.length) w4 HYS.out HO2.out HG2.out HN2.out ho3 rfl hg3 hn3)
  clear ho3 hg3 hn3 hc2 hf2 HL2 HSTAY
  generalize ys.length + x.length = n3 at *
  go_wp2
  go_ret
  exact ⟨rfl, HP.out _ rfl⟩
end Go.Proofs.Yteogahofcmgddaa
