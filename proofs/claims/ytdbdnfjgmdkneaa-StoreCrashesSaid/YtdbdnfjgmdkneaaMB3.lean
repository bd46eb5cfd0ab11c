/- In one text: Ints, Marks, RecPut, CutS, RecCur, StoRow, StoIdx, StoDel. -/
import Derived.Lib.Hide
import Derived.Handy
import Derived.Test.YtdbdnfjgmdkneaaRows
import Derived.Deep.OwnRows
import Derived.WalkKit
import Derived.IntWalk
import Derived.Laws.BitsLemmas
import Derived.Test.YtdbdnfjgmdkneaaMB1
import Derived.Test.YtdbdnfjgmdkneaaMB2
namespace Go.Proofs.Ytdbdnfjgmdkneaa
set_option maxRecDepth 20000
open Go.RowKit
/-- v is a slice of the ints xs in w: empty; or its cells hold them. -/
def Ints (w : World) (v : Value) (xs : List Int) : Prop :=
  (xs = [] ∧ ∃ a cap, v = .slice a 0 cap ∧ cap ≤ maxLen) ∨
  ∃ b off cap, v = .slice (some ⟨b, off, none⟩) xs.length cap ∧ xs.length ≤ cap ∧ cap ≤ maxLen ∧ b < w.heap.size ∧ ∀ k, k < xs.length → w.cell? ⟨b, off + k, none⟩ = some (.int .i64 (xs.getD k 0))
theorem Ints.ext {w w' : World} {v : Value} {xs : List Int} (h : Ints w v xs) (hb : w.Extends w') : Ints w' v xs := by
  rcases h with h | ⟨b, off, cap, h1, h2, h2', h3, h4⟩
  · exact .inl h
  · exact .inr ⟨b, off, cap, h1, h2, h2', Nat.lt_of_lt_of_le h3 hb.size, fun k hk => (hb.cell ⟨b, off + k, none⟩ h3).trans (h4 k hk)⟩
theorem Ints.slice {w : World} {v : Value} {xs : List Int} (h : Ints w v xs) : ∃ a cap, v = .slice a xs.length cap ∧ xs.length ≤ cap ∧ cap ≤ maxLen := by
  rcases h with ⟨rfl, a, cap, rfl, hm⟩ | ⟨b, off, cap, rfl, h1, h2, _⟩
  · exact ⟨a, cap, rfl, Nat.zero_le _, hm⟩
  · exact ⟨_, cap, rfl, h1, h2⟩
theorem Ints.len {w : World} {v : Value} {xs : List Int} (h : Ints w v xs) : xs.length ≤ maxLen := by
  obtain ⟨_, _, _, h1, h2⟩ := h.slice; exact Nat.le_trans h1 h2
theorem Ints.cell {w : World} {a : Option Addr} {n cap : Nat} {xs : List Int} (h : Ints w (.slice a n cap) xs) : n = xs.length ∧ (0 < n → ∃ b off, a = some ⟨b, off, none⟩ ∧ b < w.heap.size ∧ ∀ k, k < n → w.cell? ⟨b, off + k, none⟩ = some (.int .i64 (xs.getD k 0))) := by
  rcases h with ⟨rfl, a', cap', hv, _⟩ | ⟨b, off, cap', hv, h2, h2', h3, h4⟩
  · cases hv; exact ⟨rfl, fun h => absurd h (Nat.lt_irrefl _)⟩
  · cases hv; exact ⟨rfl, fun _ => ⟨b, off, rfl, h3, h4⟩⟩
theorem owns_ext {w w' : World} {B : Nat} {e : TypeId} {s : Nat} {v : Value} {n : Nat} {xs : List Value} (h : w.ownsRow B e s v n xs) (hx : w.Extends w') : w'.ownsRow B e s v n xs :=
  h.kept (row := none) ⟨hx.os, hx.tape, hx.output, hx.size, fun i hi _ => hx.block i hi⟩ (by cases v.ownBlock <;> simp)
end Go.Proofs.Ytdbdnfjgmdkneaa
namespace Go.Proofs.Ytdbdnfjgmdkneaa
set_option maxRecDepth 20000
open Go.RowKit
theorem byteinfo : (Try.prog.info? 5).map (fun i => (i.zero, i.size, i.bytes)) = some (some (.int .u8 0), 1, 1) := by kernel_rfl
end Go.Proofs.Ytdbdnfjgmdkneaa
namespace Go.Proofs.Ytdbdnfjgmdkneaa
set_option maxRecDepth 20000
open Go.RowKit Go.Deep
set_option linter.unusedVariables false
theorem u8vs_app1 (xs ys : List Nat) : u8vs (xs ++ ys) = u8vs xs ++ u8vs ys := by simp [u8vs]
/-- n shifted right by whole bytes. -/
theorem shr_bytes (n p : Nat) : (n : Int) / 2 ^ (8 * (p : Int)).toNat = ((n / 256 ^ p : Nat) : Int) := by
  have e : (8 * (p : Int)).toNat = 8 * p := by omega
  rw [e, Nat.pow_mul 2 8 p |> fun h => (show (2 : Int) ^ (8 * p) = ((256 ^ p : Nat) : Int) by rw [← show (2 ^ 8 : Nat) = 256 from rfl, ← h]; simp), Int.natCast_ediv]
theorem i64_and255 (n : Int) : bits .and .i64 n 255 = n % 256 := by
  have h8 : (BitVec.ofInt 64 255).toNat = 2 ^ 8 - 1 := by decide
  have key : (BitVec.ofInt 64 n &&& BitVec.ofInt 64 255).toNat = (n % ((2 ^ 64 : Nat) : Int)).toNat % 2 ^ 8 := by
    rw [BitVec.toNat_and, BitVec.toNat_ofInt, h8, Nat.and_two_pow_sub_one_eq_mod]
  show IntKind.i64.wrap ((BitVec.ofInt 64 n &&& BitVec.ofInt 64 255).toNat : Nat) = n % 256
  rw [key, IntKind.wrap_i64]
  omega
/-- As it is used: what is answered reads as a list of its own name. -/
def AppOut (B : Nat) (w : World) (zs : List Nat) (e : Ending) (w' : World) : Prop := ∃ a c ys, e = .returned (.slice a ys.length c) ∧ ys = zs ∧ w'.ownsRow B 5 1 (.slice a ys.length c) ys.length (u8vs ys) ∧ Below B w w'
theorem put_any (B : Nat) (v : Value) (xs : List Nat) (n W : Nat) (w : World) (hW : W ≤ 8) (hn : n < 4611686018427387904) (hx : xs.length ≤ 1000000) (hown : w.ownsRow B 5 1 v xs.length (u8vs xs)) (hB : B ≤ w.heap.size) :
    Calls Try.prog 65 #[v, .int .i64 n, .int .i64 W] w fun e w' => ∃ v', e = .returned v' ∧ w'.ownsRow B 5 1 v' (xs.length + W) (u8vs (xs ++ KM.nb W n)) ∧ Below B w w' := by
  obtain ⟨iu, hiu, hz0, hz1, hz2⟩ := info_parts byteinfo
  have HI := Lib.hid hiu
  have HZ0 := Lib.hid hz0
  have HZ1 := Lib.hid hz1
  have HZ2 := Lib.hid hz2
  have HOWN := Lib.hid hown
  have HB := Lib.hid hB
  obtain ⟨lx, hlx⟩ : ∃ lx, lx = xs.length := ⟨_, rfl⟩
  rw [← hlx] at hx HOWN ⊢
  have HLX := Lib.hid hlx
  obtain ⟨va, vc, rfl⟩ := owns_slice HOWN.out
  clear hiu hz0 hz1 hz2 hown hB hlx
  go_enter Try.func65, Try.ntmps65
  go_wp2_with fail
  go_loopw [0, 7] (fun s0 s7 wr => ∃ q : Nat, q ≤ W ∧ s7 = .int .i64 ((q : Int) - 1) ∧ Hid (wr.ownsRow B 5 1 s0 (lx + (W - q)) (u8vs (xs ++ (KM.nb W n).take (W - q)))) ∧ Hid (Below B w wr)) (fun _ s7 _ => (intOf s7 + 1).toNat)
  case atStart => exact ⟨W, by omega, by rfl, by rw [Nat.sub_self, List.take_zero, List.append_nil]; exact HOWN, Lib.hid (Below.refl _ _)⟩
  case round =>
    obtain ⟨q, hq, rfl, HO, HX⟩ := hrel
    obtain ⟨a0, c0, rfl⟩ := owns_slice HO.out
    by_cases h : q = 0
    · subst h
      have HP : Hid (∃ v', Ending.returned (.slice a0 (lx + (W - 0)) c0) = .returned v' ∧ wr.ownsRow B 5 1 v' (lx + W) (u8vs (xs ++ KM.nb W n)) ∧ Below B w wr) := by
        have ho := HO.out
        rw [List.take_of_length_le (by rw [KM.nb_length]; omega)] at ho
        exact ⟨_, rfl, ho, HX.out⟩
      go_wp2
      go_ret
      exact HP.out
    · obtain ⟨p, rfl⟩ : ∃ p, q = p + 1 := ⟨q - 1, by omega⟩
      rw [show (((p + 1 : Nat) : Int) - 1) = (p : Int) by omega]
      have hshr := shr_bytes n p
      obtain ⟨m, hm⟩ : ∃ m, m = n / 256 ^ p % 256 := ⟨_, rfl⟩
      have hm2 : m < 256 := hm ▸ Nat.mod_lt _ (by decide)
      have hand : bits .and .i64 ((n : Int) / 256 ^ p) 255 = (m : Int) := by
        rw [i64_and255, hm, Int.natCast_emod, Int.natCast_ediv, Int.natCast_pow]; rfl
      have HM := Lib.hid hm
      have HBW : B ≤ wr.heap.size := Nat.le_trans HB.out HX.out.size
      have HOB : Hid (∀ g, (Value.slice a0 (lx + (W - (p + 1))) c0).ownBlock = some g → B ≤ g) := fun g hg => (HO.out.lt g hg).1
      clear h hm
      go_wp2_with (at_builtin; refine wpList_append_own_src _ rfl _ _ 26 26 rfl B 5 iu (.int .u8 0) 1 1 Try.underlying26 HI.out HZ0.out HZ1.out HZ2.out rfl _ _ _ rfl (HO.out.alloc _) _ 1 [.int .u8 m] rfl (src_one Try.underlying26 _ _ rfl rfl) (by unfold maxLen; omega) (by omega) (by simp; omega) ?_)
      intro v' w9 ho9 hg9 _
      have HP : Hid (w9.ownsRow B 5 1 v' (lx + (W - p)) (u8vs (xs ++ (KM.nb W n).take (W - p))) ∧ Below B w w9) := by
        refine ⟨?_, (HX.out.alloc HBW _).grown hg9 (by simp; omega) HOB.out⟩
        rw [show lx + (W - p) = lx + (W - (p + 1)) + 1 by omega, ← KM.nb_step p W n (by omega), ← HM.out, ← List.append_assoc, u8vs_app1]
        exact ho9
      clear ho9 hg9
      go_wp2
      go_roundw
      case rel => exact ⟨p, by omega, by go_num, Lib.hid HP.out.1, Lib.hid HP.out.2⟩
      case measure => simp [intOf]
theorem put_new (B : Nat) (v : Value) (xs : List Nat) (n W : Nat) (w : World) (hW : W ≤ 8) (hn : n < 4611686018427387904) (hx : xs.length ≤ 1000000) (hown : w.ownsRow B 5 1 v xs.length (u8vs xs)) (hB : B ≤ w.heap.size) :
    Calls Try.prog 65 #[v, .int .i64 n, .int .i64 W] w (AppOut B w (xs ++ KM.nb W n)) :=
  (put_any B v xs n W w hW hn hx hown hB).mono fun e w' ⟨v', h1, h2, h3⟩ => by
    rw [show xs.length + W = (xs ++ KM.nb W n).length by rw [List.length_append, KM.nb_length]] at h2
    obtain ⟨a, c, rfl⟩ := owns_slice h2
    exact ⟨a, c, _, h1, rfl, h2, h3⟩
end Go.Proofs.Ytdbdnfjgmdkneaa
namespace Go.Proofs.Ytdbdnfjgmdkneaa
set_option maxRecDepth 20000
open Go.RowKit
set_option linter.unusedVariables false
theorem U8s.sliced {w : World} {a : Option Addr} {cap : Nat} {xs : List Nat} (h : U8s w (.slice a xs.length cap) xs) (l r : Nat) (hl : l ≤ r) (hr : r ≤ xs.length) : ∃ a', sliced a l r cap 1 = .slice a' (r - l) (cap - l) ∧ U8s w (.slice a' (r - l) (cap - l)) ((xs.take r).drop l) := by
  have hlen : ((xs.take r).drop l).length = r - l := by rw [List.length_drop, List.length_take]; omega
  have hcap : xs.length ≤ cap ∧ cap ≤ maxLen := by
    rcases h with ⟨rfl, a', cap', hv, hm⟩ | ⟨b, off, cap', hv, h2, h2', _⟩
    · cases hv; exact ⟨Nat.zero_le _, hm⟩
    · cases hv; exact ⟨h2, h2'⟩
  unfold Go.sliced
  by_cases h0 : r - l = 0
  · refine ⟨_, rfl, .inl ⟨List.eq_nil_of_length_eq_zero (by omega), _, _, by rw [h0], by omega⟩⟩
  · rw [if_neg (by omega)]
    have hlt := h.lt
    obtain ⟨b, off, rfl, hb, hc⟩ := h.cell.2 (by omega)
    refine ⟨_, rfl, .inr ⟨b, off + l, cap - l, by rw [hlen]; simp [Addr.add_mid], by rw [hlen]; omega, by omega, hb, fun k hk => ?_, fun x hx => hlt x (List.mem_of_mem_take (List.mem_of_mem_drop hx))⟩⟩
    rw [hlen] at hk
    rw [Nat.add_assoc, hc (l + k) (by omega)]
    have e : ((xs.take r).drop l).getD k 0 = xs.getD (l + k) 0 := by
      rw [List.getD_eq_getElem?_getD, List.getElem?_drop, List.getElem?_take, if_pos (by omega), ← List.getD_eq_getElem?_getD]
    rw [e]
/-- The operation of a cut, where its run is known by an equation. -/
theorem wpList_slice {P : Program} {w : World} {ops : Array Oper} {rest : List Oper} {o : Oper} {a : Act} {Q : Exit → Act → World → Prop} (hgd : o.guard = none) (t : TypeId) (x : Operand) (lo hi : Option Operand) (ho : o.op = .slice t x lo hi none)
    (ht : P.underlying t = some (.slice (P.elem t))) (v : Value) (l h : Option Value) (hx : a.eval x = v) (hl : lo.map a.eval = l) (hh : hi.map a.eval = h) {v' : Value}
    (hr : (Instr.slice t v l h none).run P w = .ok v' w) (hk : wpList P ops Q rest (a.put o.dst v') w) : wpList P ops Q (o :: rest) a w := by
  refine wpList_plain hgd fun K hK => ?_
  have hr' : (Instr.sliceAt t v l h none).run P w = .ok v' w := by rw [run_sliceAt_slice (P := P) w t v l h none ht]; exact hr
  unfold Oper.wp
  simp [execOp, ho, hx, hl, hh, hr', Result.andThen]
  exact hK _ _ hk
theorem elemBytes : Try.prog.underlying 26 = some (.slice (Try.prog.elem 26)) := by kernel_rfl
theorem sizeByte (w : World) : (sizeOf (Try.prog.elem 26)).run Try.prog w = .ok 1 w := by
  obtain ⟨i, hi, hz, hs, _⟩ := info_parts byteinfo
  have e : Try.prog.elem 26 = 5 := by kernel_rfl
  rw [e]
  simp [sizeOf, typeInfo, hi, hs]
theorem cut_from {w : World} {v : Value} {xs : List Nat} (h : U8s w v xs) (n : Nat) (hn : n ≤ xs.length) :
    ∃ a c, (∀ w', (Instr.slice 26 v (some (.int .i64 (n : Nat))) none none).run Try.prog w' = .ok (.slice a (xs.length - n) c) w') ∧ U8s w (.slice a (xs.length - n) c) (xs.drop n) := by
  obtain ⟨a, cap, rfl, _, _⟩ := h.slice
  obtain ⟨a', e, hu⟩ := h.sliced n xs.length hn (Nat.le_refl _)
  rw [List.take_length] at hu
  refine ⟨a', cap - n, fun w' => ?_, hu⟩
  rw [run_slice_l (P := Try.prog) w' 26 a xs.length cap elemBytes .i64 n (by omega) (by omega), sizeByte]
  simp only [Result.andThen_ok, Int.toNat_natCast, e]
end Go.Proofs.Ytdbdnfjgmdkneaa
namespace Go.Proofs.Ytdbdnfjgmdkneaa
set_option maxRecDepth 20000
open Go.RowKit Go.Deep
set_option linter.unusedVariables false
/-- No number of a byte in a block's cells: a slice of bytes does not lie there. -/
theorem U8s.beside {w w' : World} {v : Value} {xs : List Nat} {t : Nat} {cs : Array Value} {T : TypeId} {f : Nat × Nat} (h : U8s w v xs) (ht : w.heap[t]? = some (.cells cs T f)) (hc : ∀ y ∈ cs.toList, ∀ n, y ≠ .int .u8 n) (hg : w.grownBy w' (some t)) : U8s w' v xs := by
  rcases h with h | ⟨b, off, cap, h1, h2, h2', h3, h4, h5⟩
  · exact .inl h
  · by_cases h0 : xs.length = 0
    · exact .inl ⟨List.eq_nil_of_length_eq_zero h0, _, _, by rw [h1, h0], h2'⟩
    · have hb : b ≠ t := fun e => by
        subst e
        have := h4 0 (by omega)
        rw [cell_of_row _ _ _ _ _ _ ht] at this
        obtain ⟨hlt, hv⟩ := Array.getElem?_eq_some_iff.1 this
        exact hc _ (Array.getElem_mem_toList hlt) _ hv
      have hblk := hg.block b h3 (by simpa using hb)
      refine .inr ⟨b, off, cap, h1, h2, h2', Nat.lt_of_lt_of_le h3 hg.size, fun k hk => ?_, h5⟩
      rw [World.cell?_of_block (w := w) (w' := w') (a := ⟨b, off + k, none⟩) hblk]
      exact h4 k hk
/-- A cursor of this state lies at block t. -/
def CurAt (T : TypeId) (w : World) (t : Nat) (s : List Nat × Bool) : Prop := ∃ a c, w.heap[t]? = some (.cells #[.slice a s.1.length c, .bool s.2] T) ∧ U8s w (.slice a s.1.length c) s.1
theorem CurAt.lt {T : TypeId} {w : World} {t : Nat} {s : List Nat × Bool} (h : CurAt T w t s) : t < w.heap.size := by
  obtain ⟨a, c, h1, _⟩ := h
  exact (Array.getElem?_eq_some_iff.1 h1).1
theorem CurAt.ext {T : TypeId} {w w' : World} {t : Nat} {s : List Nat × Bool} (h : CurAt T w t s) (hx : w.Extends w') : CurAt T w' t s := by
  have hl := h.lt
  obtain ⟨a, c, h1, h2⟩ := h
  exact ⟨a, c, by rw [hx.block t hl]; exact h1, h2.ext hx⟩
theorem CurAt.new {T : TypeId} {w : World} {a : Option Addr} {c : Nat} {xs : List Nat} (h : U8s w (.slice a xs.length c) xs) : CurAt T (w.alloc (.cells #[.slice a xs.length c, .bool false] T)) w.heap.size (xs, false) :=
  ⟨a, c, heap_alloc_new _ _, h.ext (ext_alloc _ _)⟩
theorem cur_cells (a : Option Addr) (n c : Nat) (b : Bool) : ∀ y ∈ (#[Value.slice a n c, .bool b] : Array Value).toList, ∀ n, y ≠ .int .u8 n := by
  intro y hy n e
  subst e
  simp at hy
theorem grown_set (w : World) (t i : Nat) (v : Value) : w.grownBy (w.setCell ⟨t, i, none⟩ v) (some t) :=
  ⟨rfl, rfl, rfl, by simp, fun k _ hk => heap_setCell_other w _ k v (by simpa using hk)⟩
theorem CurAt.cells {T : TypeId} {w : World} {t : Nat} {s : List Nat × Bool} (h : CurAt T w t s) : ∃ a c, w.cell? ⟨t, 0, none⟩ = some (.slice a s.1.length c) ∧ w.cell? ⟨t, 1, none⟩ = some (.bool s.2) ∧ w.frozen? ⟨t, 0, none⟩ = false ∧ w.frozen? ⟨t, 1, none⟩ = false ∧ U8s w (.slice a s.1.length c) s.1 ∧
    w.heap[t]? = some (.cells #[.slice a s.1.length c, .bool s.2] T) := by
  obtain ⟨a, c, h1, h2⟩ := h
  exact ⟨a, c, by rw [cell_of_row _ _ _ _ _ _ h1]; rfl, by rw [cell_of_row _ _ _ _ _ _ h1]; rfl, frozen_of_row _ _ _ _ _ h1, frozen_of_row _ _ _ _ _ h1, h2, h1⟩
/-- What is left was set. -/
theorem CurAt.left {T : TypeId} {w : World} {t : Nat} {a a' : Option Addr} {n c n' c' : Nat} {b : Bool} {ys : List Nat} (h1 : w.heap[t]? = some (.cells #[.slice a n c, .bool b] T)) (hn : n' = ys.length) (hu : U8s w (.slice a' n' c') ys) :
    CurAt T (w.setCell ⟨t, 0, none⟩ (.slice a' n' c')) t (ys, b) := by
  subst hn
  refine ⟨a', c', ?_, hu.beside h1 (cur_cells _ _ _ _) (grown_set _ _ _ _)⟩
  rw [heap_setCell_same _ _ _ _ _ _ h1]; rfl
/-- That there was too little was set. -/
theorem CurAt.short {T : TypeId} {w : World} {t : Nat} {a : Option Addr} {c : Nat} {b : Bool} {ys : List Nat} (h1 : w.heap[t]? = some (.cells #[.slice a ys.length c, .bool b] T)) (hu : U8s w (.slice a ys.length c) ys) :
    CurAt T (w.setCell ⟨t, 1, none⟩ (.bool true)) t (ys, true) := by
  refine ⟨a, c, ?_, hu.beside h1 (cur_cells _ _ _ _) (grown_set _ _ _ _)⟩
  rw [heap_setCell_same _ _ _ _ _ _ h1]; rfl
theorem i64_or_byte (n b : Nat) (hn : n < 4294967296) (hb : b < 256) : bits .or .i64 ((n : Int) * 256) (b : Int) = ((n * 256 + b : Nat) : Int) := by
  have h1 : (BitVec.ofInt 64 ((n : Int) * 256)).toNat = n * 256 := by
    rw [BitVec.toNat_ofInt]; omega
  have h2 : (BitVec.ofInt 64 (b : Int)).toNat = b := by
    rw [BitVec.toNat_ofInt]; omega
  have key : (BitVec.ofInt 64 ((n : Int) * 256) ||| BitVec.ofInt 64 (b : Int)).toNat = n * 256 + b := by
    rw [BitVec.toNat_or, h1, h2, show n * 256 = 2 ^ 8 * n by omega, ← Nat.two_pow_add_eq_or_of_lt (by omega : b < 2 ^ 8)]
  show IntKind.i64.wrap ((BitVec.ofInt 64 ((n : Int) * 256) ||| BitVec.ofInt 64 (b : Int)).toNat : Nat) = _
  rw [key, IntKind.wrap_i64]
  omega
namespace KM
theorem num_take_lt (xs : List Nat) (h : ∀ x ∈ xs, x < 256) (q : Nat) (hq : q ≤ 3) : num (xs.take q) < 16777216 := by
  have h1 := num_lt (xs.take q) fun x hx => h x (List.mem_of_mem_take hx)
  have h2 : 256 ^ (xs.take q).length ≤ 256 ^ 3 := Nat.pow_le_pow_right (by decide) (by rw [List.length_take]; omega)
  omega
theorem num_take_succ (xs : List Nat) (q : Nat) (h : q < xs.length) : num (xs.take (q + 1)) = num (xs.take q) * 256 + xs.getD q 0 := by
  rw [List.take_succ_eq_append_getElem h, num_snoc]
  simp [h]
end KM
/-- What taking a number answers. -/
def TakeOut (T : TypeId) (w : World) (t W : Nat) (s : List Nat × Bool) (e : Ending) (w' : World) : Prop := e = .returned (.int .i64 (KM.gn W s : Nat)) ∧ CurAt T w' t (KM.gs W s) ∧ w.grownBy w' (some t)
theorem get_any (t W : Nat) (s : List Nat × Bool) (w : World) (hW : W ≤ 4) (h : CurAt 102 w t s) :
    Calls Try.prog 62 #[.pointer (some ⟨t, 0, none⟩), .int .i64 W] w (TakeOut 102 w t W s) := by
  obtain ⟨a, c, h0, h1, f0, f1, hu, hh⟩ := h.cells
  obtain ⟨xs, b⟩ := s
  simp only at h0 h1 hu hh
  cases b with
  | true =>
    have HP : Hid (TakeOut 102 w t W (xs, true) (.returned (.int .i64 (0 : Nat))) (w.setCell ⟨t, 1, none⟩ (.bool true))) := by
      refine ⟨by unfold KM.gn; rw [if_pos (Or.inl rfl)], ?_, grown_set _ _ _ _⟩
      unfold KM.gs; rw [if_pos (Or.inl rfl)]
      exact CurAt.short hh hu
    clear hu hh
    go_enter Try.func62, Try.ntmps62
    go_wp2
    go_ret
    exact HP.out
  | false =>
    by_cases hl : xs.length < W
    · have HP : Hid (TakeOut 102 w t W (xs, false) (.returned (.int .i64 (0 : Nat))) (w.setCell ⟨t, 1, none⟩ (.bool true))) := by
        refine ⟨by unfold KM.gn; rw [if_pos (Or.inr hl)], ?_, grown_set _ _ _ _⟩
        unfold KM.gs; rw [if_pos (Or.inr hl)]
        exact CurAt.short hh hu
      clear hu hh
      generalize xs.length = n at *
      go_enter Try.func62, Try.ntmps62
      go_wp2
      go_ret
      exact HP.out
    · obtain ⟨a2, c2, hsl, hd2⟩ := cut_from hu W (by omega)
      have HSL := Lib.hid hsl
      have HP : Hid (TakeOut 102 w t W (xs, false) (.returned (.int .i64 (KM.num (xs.take W) : Nat))) (w.setCell ⟨t, 0, none⟩ (.slice a2 (xs.length - W) c2))) := by
        have c : ¬ ((xs, false).2 = true ∨ (xs, false).1.length < W) := by simp; omega
        refine ⟨by unfold KM.gn; rw [if_neg c], ?_, grown_set _ _ _ _⟩
        unfold KM.gs; rw [if_neg c]
        exact CurAt.left hh (by rw [List.length_drop]) hd2
      have HC := Lib.hid hu.cell.2
      have HLT := Lib.hid hu.lt
      have HNT := Lib.hid (KM.num_take_succ xs)
      have hlen := hu.len
      unfold maxLen at hlen
      clear hu hh hsl hd2
      go_enter Try.func62, Try.ntmps62
      go_wp2_with fail
      go_loopw [5, 6] (fun s5 s6 wr => ∃ q : Nat, q ≤ W ∧ s5 = .int .i64 (KM.num (xs.take q) : Nat) ∧ s6 = .int .i64 (q : Nat) ∧ wr = w) (fun _ s6 _ => (W - intOf s6).toNat)
      case atStart => exact ⟨0, by omega, by rfl, by rfl, rfl⟩
      case round =>
        obtain ⟨q, hq, rfl, rfl, rfl⟩ := hrel
        by_cases h : q < W
        · have hb := KM.num_take_lt xs HLT.out q (by omega)
          have HS := Lib.hid (HNT.out q (by omega))
          obtain ⟨g, off, rfl, hg, hcell⟩ := HC.out (by omega)
          have hc := hcell q (by omega)
          have hx : xs.getD q 0 < 256 := getD_lt xs HLT.out q
          generalize xs.getD q 0 = x at *
          generalize KM.num (xs.take q) = m at *
          have hor := i64_or_byte m x (by omega) hx
          clear hcell
          go_wp2
          go_roundw
          case rel => exact ⟨q + 1, by omega, by rw [HS.out]; go_num, by go_num, trivial⟩
          case measure => simp [intOf]; omega
        · obtain rfl : q = W := by omega
          go_wp2_with (refine wpList_slice rfl 26 (.tmp 43) (some (.tmp 44)) none rfl elemBytes _ _ _ rfl rfl rfl (HSL.out _) ?_)
          go_ret
          exact HP.out
end Go.Proofs.Ytdbdnfjgmdkneaa
namespace Go.Proofs.Ytdbdnfjgmdkneaa
set_option maxRecDepth 20000
open Go.RowKit Go.Deep
set_option linter.unusedVariables false
/-- A record and the slice of its data. -/
abbrev Pr := Rc × Value
def zp : Pr := (Rc.zero, .slice none 0 0)
def flat (ps : List Pr) : List Value := ps.flatMap fun p => p.1.cells p.2
theorem flat_nil : flat [] = [] := rfl
theorem flat_cons (p : Pr) (ps : List Pr) : flat (p :: ps) = p.1.cells p.2 ++ flat ps := rfl
theorem flat_append (a b : List Pr) : flat (a ++ b) = flat a ++ flat b := by simp [flat]
theorem flat_length : ∀ ps : List Pr, (flat ps).length = ps.length * 10
  | [] => rfl
  | p :: ps => by rw [flat_cons, List.length_append, flat_length ps, List.length_cons]; show 10 + _ = _; omega
theorem flat_at : ∀ (ps : List Pr) (k i : Nat), k < ps.length → i < 10 → (flat ps)[k * 10 + i]? = ((ps.getD k zp).1.cells (ps.getD k zp).2)[i]?
  | p :: ps, 0, i, _, hi => by
    rw [flat_cons, Nat.zero_mul, Nat.zero_add, List.getElem?_append_left (by show i < 10; exact hi)]; rfl
  | p :: ps, k + 1, i, hk, hi => by
    rw [flat_cons, List.getElem?_append_right (by show 10 ≤ _; omega), show (k + 1) * 10 + i - (p.1.cells p.2).length = k * 10 + i by show (k + 1) * 10 + i - 10 = _; omega, flat_at ps k i (by simpa using hk) hi]
    rfl
/-- Its data is a slice of so many bytes. -/
def Slc (p : Pr) : Prop := ∃ a c, p.2 = .slice a p.1.d.length c
theorem Slc.one {p : Pr} (h : Slc p) : p.2.oneCell' = true := by
  obtain ⟨a, c, h⟩ := h
  rw [h]; rfl
theorem Slc.cells {p : Pr} (h : Slc p) : ∀ v ∈ p.1.cells p.2, v.oneCell' = true := by
  intro v hv
  have h1 := h.one
  simp only [Rc.cells, List.mem_cons, List.not_mem_nil, or_false] at hv
  rcases hv with h | h | h | h | h | h | h | h | h | h
  all_goals rw [h]
  all_goals first | exact h1 | rfl
theorem slc_flat {ps : List Pr} (h : ∀ p ∈ ps, Slc p) : ∀ v ∈ flat ps, v.oneCell' = true := by
  intro v hv
  obtain ⟨p, hp, hv⟩ := List.mem_flatMap.1 hv
  exact (h p hp).cells v hv
/-- v is a slice of a call's own of these records. -/
def OwnR (w : World) (v : Value) (ps : List Pr) : Prop := w.ownsRow 0 28 10 v ps.length (flat ps) ∧ ∀ p ∈ ps, Slc p
theorem OwnR.nil (w : World) : OwnR w (.slice none 0 0) [] := ⟨World.ownsRow_nil _ _ _ _, fun p hp => by cases hp⟩
theorem OwnR.kinds {w : World} {v : Value} {ps : List Pr} (h : OwnR w v ps) : (v = .slice none 0 0 ∧ ps = []) ∨ ∃ g cap, v = .slice (some ⟨g, 0, none⟩) ps.length cap := by
  rcases h.1.2 with ⟨rfl, h0⟩ | ⟨g, cap, cur, rfl, _⟩
  · exact .inl ⟨rfl, List.eq_nil_of_length_eq_zero h0⟩
  · exact .inr ⟨g, cap, rfl⟩
theorem OwnR.slice {w : World} {v : Value} {ps : List Pr} (h : OwnR w v ps) : ∃ a cap, v = .slice a ps.length cap := by
  rcases h.kinds with ⟨rfl, rfl⟩ | ⟨g, cap, rfl⟩
  · exact ⟨_, _, rfl⟩
  · exact ⟨_, _, rfl⟩
theorem OwnR.kept {w w' : World} {v : Value} {ps : List Pr} {row : Option Nat} (h : OwnR w v ps) (hg : w.grownBy w' row) (hne : v.ownBlock = none ∨ v.ownBlock ≠ row) : OwnR w' v ps := ⟨h.1.kept hg hne, h.2⟩
theorem OwnR.ext {w w' : World} {v : Value} {ps : List Pr} (h : OwnR w v ps) (hx : w.Extends w') : OwnR w' v ps := by
  have hg : w.grownBy w' none := ⟨hx.os, hx.tape, hx.output, hx.size, fun i hi _ => hx.block i hi⟩
  exact h.kept hg (by cases v.ownBlock <;> simp)
/-- Block g is an array of cap records, of which the first n are f's. -/
def Arr (w : World) (g cap n : Nat) (f : Nat → Pr) : Prop := ∃ cur : List Value, w.heap[g]? = some (.cells cur.toArray 28 (0, 0)) ∧ cur.length = cap * 10 ∧ n ≤ cap ∧ cap ≤ maxLen ∧ ∀ k, k < n → ∀ i, i < 10 → cur[k * 10 + i]? = ((f k).1.cells (f k).2)[i]?
theorem OwnR.arr {w : World} {g n cap : Nat} {ps : List Pr} (h : OwnR w (.slice (some ⟨g, 0, none⟩) n cap) ps) : Arr w g cap n (fun k => ps.getD k zp) ∧ n = ps.length := by
  rcases h.1.2 with ⟨e, _⟩ | ⟨g', cap', cur, e, _, hg, hnc, hcm, hcs, htake⟩
  · cases e
  · cases e
    refine ⟨⟨cur.toList, hg, by simpa using hcs, hnc, hcm, fun k hk i hi => ?_⟩, rfl⟩
    rw [← flat_at ps k i hk hi, ← htake, List.getElem?_take, if_pos (by omega)]
theorem Arr.lt {w : World} {g cap n : Nat} {f : Nat → Pr} (h : Arr w g cap n f) : g < w.heap.size := by
  obtain ⟨cur, h1, _⟩ := h
  exact (Array.getElem?_eq_some_iff.1 h1).1
theorem flat_of {cur : List Value} : ∀ (ps : List Pr), ps.length * 10 ≤ cur.length → (∀ k, k < ps.length → ∀ i, i < 10 → cur[k * 10 + i]? = ((ps.getD k zp).1.cells (ps.getD k zp).2)[i]?) → cur.take (ps.length * 10) = flat ps := fun ps hl h => by
  apply List.ext_getElem?
  intro j
  rcases Nat.lt_or_ge j (ps.length * 10) with hj | hj
  · have e : j = j / 10 * 10 + j % 10 := by omega
    rw [List.getElem?_take, if_pos hj, e, h (j / 10) (by omega) (j % 10) (by omega), flat_at ps (j / 10) (j % 10) (by omega) (by omega)]
  · rw [List.getElem?_eq_none (by rw [List.length_take]; omega), List.getElem?_eq_none (by rw [flat_length]; omega)]
theorem Arr.own {w : World} {g cap n m : Nat} {f : Nat → Pr} (h : Arr w g cap n f) (hm : m ≤ n) {ps : List Pr} (hl : ps.length = m) (hf : ∀ k, k < m → f k = ps.getD k zp) (hs : ∀ p ∈ ps, Slc p) : OwnR w (.slice (some ⟨g, 0, none⟩) m cap) ps := by
  obtain ⟨cur, h1, h2, h3, h4, h5⟩ := h
  subst hl
  refine ⟨⟨by rw [flat_length], .inr ⟨g, cap, cur.toArray, rfl, Nat.zero_le _, h1, by omega, h4, by simpa using h2, ?_⟩⟩, hs⟩
  rw [List.toList_toArray]
  refine flat_of ps (by omega) (fun k hk i hi => ?_)
  rw [← hf k hk]
  exact h5 k (by omega) i hi
theorem Arr.range {w : World} {g cap n : Nat} {f : Nat → Pr} (h : Arr w g cap n f) {k : Nat} (hk : k < n) : w.rangeAt g (k * 10) ((f k).1.cells (f k).2) := fun j v hv => by
  obtain ⟨cur, h1, h2, h3, h4, h5⟩ := h
  rw [cell_of_row _ _ _ _ _ _ h1, List.getElem?_toArray, h5 k hk j (Rc.cells_lt _ _ hv)]
  exact hv
theorem Arr.frozen {w : World} {g cap n : Nat} {f : Nat → Pr} (h : Arr w g cap n f) (o : Nat) : w.frozen? ⟨g, o, none⟩ = false := by
  obtain ⟨cur, h1, _⟩ := h
  exact frozen_of_row _ _ _ _ _ h1
theorem Arr.kept {w w' : World} {g cap n : Nat} {f : Nat → Pr} (h : Arr w g cap n f) (hg : w'.heap[g]? = w.heap[g]?) : Arr w' g cap n f := by
  obtain ⟨cur, h1, hr⟩ := h
  exact ⟨cur, hg.trans h1, hr⟩
theorem Arr.ext {w w' : World} {g cap n : Nat} {f : Nat → Pr} (h : Arr w g cap n f) (hx : w.Extends w') : Arr w' g cap n f := h.kept (hx.block g h.lt)
theorem Arr.congr {w : World} {g cap n : Nat} {f f' : Nat → Pr} (h : Arr w g cap n f) (hf : ∀ k, k < n → f k = f' k) : Arr w g cap n f' := by
  obtain ⟨cur, h1, h2, h3, h4, h5⟩ := h
  exact ⟨cur, h1, h2, h3, h4, fun k hk i hi => by rw [← hf k hk]; exact h5 k hk i hi⟩
/-- f with p at i. -/
def upd (f : Nat → Pr) (i : Nat) (p : Pr) : Nat → Pr := fun k => if k = i then p else f k
theorem grown_setRow (w : World) (g : Nat) (cs : Array Value) : w.grownBy (w.setRow g cs) (some g) := ⟨rfl, rfl, rfl, by simp [World.setRow], fun k _ hk => setRow_other w g k cs (fun e => hk (by rw [e]))⟩
theorem Arr.put {w : World} {g cap n i : Nat} {f : Nat → Pr} (h : Arr w g cap n f) (hi : i < n) (p : Pr) {cur : List Value} (hc : w.heap[g]? = some (.cells cur.toArray 28 (0, 0))) : Arr (w.setRow g (cur.take (i * 10) ++ p.1.cells p.2 ++ cur.drop (i * 10 + 10)).toArray) g cap n (upd f i p) := by
  obtain ⟨cur', h1, h2, h3, h4, h5⟩ := h
  rw [hc] at h1
  simp only [Option.some.injEq, Obj.cells.injEq, and_true] at h1
  have e : cur = cur' := by simpa using h1
  subst e
  have hp : (p.1.cells p.2).length = 10 := rfl
  refine ⟨_, setRow_heap w g _ _ _ _ hc, ?_, h3, h4, fun k hk j hj => ?_⟩
  · simp only [List.length_append, List.length_take, List.length_drop, hp]; omega
  · unfold upd
    rcases Nat.lt_trichotomy k i with hki | hki | hki
    · rw [if_neg (by omega), List.append_assoc, List.getElem?_append_left (by rw [List.length_take]; omega), List.getElem?_take, if_pos (by omega)]
      exact h5 k hk j hj
    · subst hki
      rw [if_pos rfl, List.append_assoc, List.getElem?_append_right (by rw [List.length_take]; omega), List.getElem?_append_left (by rw [List.length_take, hp]; omega), List.length_take]
      congr 1; omega
    · rw [if_neg (by omega), List.getElem?_append_right (by rw [List.length_append, List.length_take, hp]; omega), List.getElem?_drop]
      rw [← h5 k hk j hj]
      congr 1
      rw [List.length_append, List.length_take, hp]; omega
/-- The record stored at i of an array. -/
theorem wpList_store_rec {P : Program} {ops : Array Oper} {rest : List Oper} {o : Oper} {a : Act} {w : World} {Q : Exit → Act → World → Prop} (hgd : o.guard = none) (ty : TypeId) (hty : (P.info? ty).map (·.size) = some 10) (x y : Operand) (ho : o.op = .store ty x y)
    (g off i cap n : Nat) (f : Nat → Pr) (p : Pr) (hx : a.eval x = .pointer (some ⟨g, off, none⟩)) (hoff : off = i * 10) (hy : a.eval y = p.1.val p.2) (hA : Arr w g cap n f) (hi : i < n) (hs : Slc p)
    (h : ∀ w', Arr w' g cap n (upd f i p) → w.grownBy w' (some g) → wpList P ops Q rest (a.put o.dst undef) w') : wpList P ops Q (o :: rest) a w := by
  refine wpList_plain hgd fun K hK => ?_
  obtain ⟨cur, h1, h2, h3, h4, h5⟩ := id hA
  have hst := run_storeCells_at P g off 28 (p.1.cells p.2) 0 cur.toArray w h1 (by show off + 0 + 10 ≤ _; simp; omega) hs.cells
  have hp : (p.1.cells p.2).length = 10 := rfl
  simp only [Nat.add_zero, hp] at hst
  have hrun : (storeVar ty ⟨g, off, none⟩ (p.1.val p.2)).run P w = .ok () (w.setRow g (cur.take off ++ p.1.cells p.2 ++ cur.drop (off + 10)).toArray) := by
    cases hq : P.info? ty with
    | none => simp [hq] at hty
    | some t =>
      have hs' : t.size = 10 := by simpa [hq] using hty
      have hvc : (p.1.val p.2).cells = (p.1.cells p.2).toArray := rfl
      simp [storeVar, sizeOf, typeInfo, hq, hvc, hp, hs', hst]
  unfold Oper.wp execOp
  simp only [ho, hx, hy, Instr.storeAt, Instr.sureAddr, Sem.run_bind, Sem.run_pure, Result.andThen_ok, hrun]
  exact hK _ _ (h _ (by subst hoff; exact hA.put hi p h1) (grown_setRow _ _ _))
/-- Another Until at i. -/
theorem Arr.till {w w' : World} {g cap n i : Nat} {f : Nat → Pr} (h : Arr w g cap n f) (hi : i < n) (u : Int) (hw : w' = w.setCell ⟨g, i * 10 + 8, none⟩ (.int .i64 u)) : Arr w' g cap n (upd f i ({ (f i).1 with u := u }, (f i).2)) ∧ w.grownBy w' (some g) := by
  subst hw
  refine ⟨?_, grown_set _ _ _ _⟩
  obtain ⟨cur, h1, h2, h3, h4, h5⟩ := h
  refine ⟨cur.set (i * 10 + 8) (.int .i64 u), ?_, by rw [List.length_set]; exact h2, h3, h4, fun k hk j hj => ?_⟩
  · rw [heap_setCell_same _ _ _ _ _ _ h1]; simp
  · unfold upd
    rw [List.getElem?_set]
    by_cases hki : k = i
    · subst hki
      rw [if_pos rfl]
      by_cases hj8 : j = 8
      · subst hj8
        rw [if_pos rfl, if_pos (by omega)]; rfl
      · rw [if_neg (by omega), h5 k hk j hj]
        obtain rfl | rfl | rfl | rfl | rfl | rfl | rfl | rfl | rfl : j = 0 ∨ j = 1 ∨ j = 2 ∨ j = 3 ∨ j = 4 ∨ j = 5 ∨ j = 6 ∨ j = 7 ∨ j = 9 := by omega
        all_goals rfl
    · rw [if_neg hki, if_neg (by omega)]
      exact h5 k hk j hj
theorem recsize : (Try.prog.info? 28).map (·.size) = some 10 := by kernel_rfl
end Go.Proofs.Ytdbdnfjgmdkneaa
namespace Go.Proofs.Ytdbdnfjgmdkneaa
set_option maxRecDepth 20000
open Go.RowKit Go.Deep
set_option linter.unusedVariables false
/-- A call of F enters it: it has a body. -/
abbrev Enters (F : FuncId) : Prop := ∀ (args : Array Value) (w : World), (callFunc F args).run Try.prog w = .ok (.enter F args) w
theorem enters_of {F : FuncId} {fn : Func} (hf : Try.prog.funcs[F]? = some fn) (hname : (fn.name == "runtime.NumGoroutine") = false) (hb : fn.body.isNone = false) : Enters F := fun args w => by
  have h1 : fn.name ≠ "runtime.NumGoroutine" := by simpa using hname
  simp only [callFunc, Sem.run_bind, run_program, Result.andThen_ok, hf]
  simp [h1, hb]
/-- The closure F, whose one captured variable lies in block c, tells whether q holds of a record. -/
def Tells (F c : Nat) (q : Rc → Bool) (w : World) : Prop := ∀ (p : Pr) (w' : World), Slc p → w'.heap[c]? = w.heap[c]? → Calls Try.prog F #[p.1.val p.2, .pointer (some ⟨c, 0, none⟩)] w' fun e w2 => e = .returned (.bool (q p.1)) ∧ w'.Extends w2
theorem Tells.kept {F c : Nat} {q : Rc → Bool} {w w' : World} (h : Tells F c q w) (hc : w'.heap[c]? = w.heap[c]?) : Tells F c q w' := fun p w2 hs h2 => h p w2 hs (h2.trans hc)
/-- Where the first one stands of which q holds. -/
def fnd (q : Rc → Bool) : List Pr → Nat
  | [] => 0
  | p :: l => if q p.1 then 0 else fnd q l + 1
theorem fnd_uniq {q : Rc → Bool} : ∀ {l : List Pr} {k : Nat}, k ≤ l.length → (∀ m, m < k → q (l.getD m zp).1 = false) → (k < l.length → q (l.getD k zp).1 = true) → fnd q l = k
  | [], k, hk, _, _ => by simp at hk; rw [hk]; rfl
  | p :: l, 0, _, _, h2 => by
    have : q p.1 = true := h2 (by simp)
    unfold fnd; rw [if_pos this]
  | p :: l, k + 1, hk, h1, h2 => by
    have h0 : q p.1 = false := h1 0 (by omega)
    unfold fnd
    rw [if_neg (by rw [h0]; decide), fnd_uniq (k := k) (by simpa using hk) (fun m hm => h1 (m + 1) (by omega)) (fun hk' => h2 (by simpa using hk'))]
theorem getD_mem {ps : List Pr} {k : Nat} (h : k < ps.length) : ps.getD k zp ∈ ps := by
  rw [List.getD_eq_getElem?_getD, List.getElem?_eq_getElem h]; exact List.getElem_mem h
def idxOf (q : Rc → Bool) (ps : List Pr) : Int := if fnd q ps < ps.length then (fnd q ps : Int) else -1
theorem idxf_any (F c : Nat) (hen : Enters F) (q : Rc → Bool) (v : Value) (ps : List Pr) (w : World) (hv : OwnR w v ps) (hl : ps.length ≤ 1000) (hF : Tells F c q w) (hc : c < w.heap.size) :
    Calls Try.prog 94 #[v, .func (.func F) #[] #[.pointer (some ⟨c, 0, none⟩)]] w fun e w' => e = .returned (.int .i64 (idxOf q ps)) ∧ w.Extends w' := by
  have HF := Lib.hid hF
  have HSL : Hid (∀ k, k < ps.length → Slc (ps.getD k zp)) := fun k hk => hv.2 _ (getD_mem hk)
  have HAT : Hid (∀ k, k < ps.length → ∃ g, (∃ cap, v = .slice (some ⟨g, 0, none⟩) ps.length cap) ∧ w.rangeAt g (k * 10) ((ps.getD k zp).1.cells (ps.getD k zp).2)) := fun k hk => by
    rcases hv.kinds with ⟨rfl, rfl⟩ | ⟨g, cap, rfl⟩
    · simp at hk
    · exact ⟨g, ⟨cap, rfl⟩, hv.arr.1.range hk⟩
  have HQ : Hid (∀ k, k < ps.length → (∀ m, m < k → q (ps.getD m zp).1 = false) → q (ps.getD k zp).1 = true → idxOf q ps = (k : Int)) := fun k hk h1 h2 => by
    have := fnd_uniq (q := q) (l := ps) (k := k) (by omega) h1 (fun _ => h2)
    unfold idxOf; rw [this, if_pos hk]
  have HQN : Hid ((∀ m, m < ps.length → q (ps.getD m zp).1 = false) → idxOf q ps = -1) := fun h1 => by
    have := fnd_uniq (q := q) (l := ps) (k := ps.length) (by omega) h1 (fun h => absurd h (Nat.lt_irrefl _))
    unfold idxOf; rw [this, if_neg (Nat.lt_irrefl _)]
  obtain ⟨a, cap, rfl⟩ := hv.slice
  clear hv hF
  generalize ps.length = n at *
  generalize idxOf q ps = ix at *
  go_enter Try.func94, Try.ntmps94
  go_wp2_with fail
  go_loopw [8] (fun s8 wr => ∃ k : Nat, k ≤ n ∧ s8 = .int .i64 k ∧ Hid (w.Extends wr) ∧ Hid (∀ m, m < k → q (ps.getD m zp).1 = false)) (fun s8 _ => n - (intOf s8).toNat)
  case atStart => exact ⟨0, by omega, rfl, Gr.ext_refl _, fun m hm => absurd hm (Nat.not_lt_zero _)⟩
  case round =>
    obtain ⟨k, hk, rfl, HX, HN⟩ := hrel
    by_cases h1 : k < n
    · obtain ⟨g, ⟨cap', e⟩, hr⟩ := HAT.out k h1
      cases e
      have hr := rangeAt_ext hr HX.out
      obtain ⟨c0, c1, c2, c3, c4, c5, c6, c7, c8, c9⟩ := RCell.ten hr
      have HSK := Lib.hid (HSL.out k h1)
      have HCL := Lib.hid (HF.out (ps.getD k zp) wr HSK.out (HX.out.block c hc))
      have HQK := Lib.hid (HQ.out k h1)
      have HNX : Hid (∀ b, q (ps.getD k zp).1 = b → b = false → ∀ m, m < k + 1 → q (ps.getD m zp).1 = false) := fun b e1 e2 m hm => by
        rcases Nat.lt_or_ge m k with h | h
        · exact HN.out m h
        · obtain rfl : m = k := by omega
          exact e1.trans e2
      have HQK2 := Lib.hid (HQK.out HN.out)
      clear HQK hr
      generalize hb : q (ps.getD k zp).1 = b at *
      have HB := Lib.hid hb
      clear hb
      generalize hp : ps.getD k zp = p at *
      clear hp
      obtain ⟨⟨xp, xn, xb, xs, xm, xk, xe, xg, xu, xd⟩, u⟩ := p
      obtain ⟨ua, uc, hu⟩ := HSK.out
      simp only at hu
      subst hu
      simp only at c0 c1 c2 c3 c4 c5 c6 c7 c8 c9
      go_wp2_with fail
      refine HCL.out.mono ?_
      rintro e w2 ⟨rfl, hx2⟩
      have HX2 := Lib.hid (Gr.ext_trans HX.out hx2)
      clear hx2 HCL c0 c1 c2 c3 c4 c5 c6 c7 c8 c9
      cases b with
      | true =>
        have HP := HQK2.out rfl
        go_wp2
        go_ret
        exact ⟨by rw [HP]; rfl, HX2.out⟩
      | false =>
        have HN2 := Lib.hid (HNX.out false rfl rfl)
        clear HNX HQK2
        go_wp2
        go_roundw
        case rel => exact ⟨k + 1, by omega, by go_num, HX2, HN2⟩
        case measure => simp [intOf]; omega
    · obtain rfl : k = n := by omega
      have HP := HQN.out HN.out
      go_wp2
      go_ret
      exact ⟨by rw [HP]; rfl, HX.out⟩
end Go.Proofs.Ytdbdnfjgmdkneaa
namespace Go.Proofs.Ytdbdnfjgmdkneaa
set_option maxRecDepth 20000
open Go.RowKit Go.Deep
set_option linter.unusedVariables false
/-- What is answered lies in v's array, and reads as qs. -/
def DelOut (w : World) (v : Value) (qs : List Pr) (e : Ending) (w' : World) : Prop := ∃ a c, e = .returned (.slice a qs.length c) ∧ OwnR w' (.slice a qs.length c) qs ∧ w.grownBy w' v.ownBlock ∧ (Value.slice a qs.length c).ownBlock = v.ownBlock
def fl (q : Rc → Bool) (ps : List Pr) (j : Nat) : List Pr := (ps.take j).filter (fun p => !q p.1)
theorem take_snocp (ps : List Pr) (j : Nat) (h : j < ps.length) : ps.take (j + 1) = ps.take j ++ [ps.getD j zp] := by
  rw [List.take_add_one, List.getElem?_eq_getElem h, List.getD_eq_getElem?_getD, List.getElem?_eq_getElem h]; rfl
theorem fl_yes {q : Rc → Bool} {ps : List Pr} {j : Nat} (h : j < ps.length) (hq : q (ps.getD j zp).1 = true) : fl q ps (j + 1) = fl q ps j := by
  unfold fl
  rw [take_snocp ps j h, List.filter_append]
  rw [List.filter_cons]
  simp only [hq]
  simp
theorem fl_no {q : Rc → Bool} {ps : List Pr} {j : Nat} (h : j < ps.length) (hq : q (ps.getD j zp).1 = false) : fl q ps (j + 1) = fl q ps j ++ [ps.getD j zp] := by
  unfold fl
  rw [take_snocp ps j h, List.filter_append]
  rw [List.filter_cons]
  simp only [hq]
  simp
theorem fl_le (q : Rc → Bool) (ps : List Pr) (j : Nat) : (fl q ps j).length ≤ j := by
  unfold fl
  refine Nat.le_trans (List.length_filter_le _ _) ?_
  rw [List.length_take]; omega
theorem fl_all (q : Rc → Bool) (ps : List Pr) : fl q ps ps.length = ps.filter (fun p => !q p.1) := by unfold fl; rw [List.take_length]
theorem fnd_le (q : Rc → Bool) : ∀ ps : List Pr, fnd q ps ≤ ps.length
  | [] => Nat.le_refl _
  | p :: l => by
    have := fnd_le q l
    unfold fnd
    split
    · exact Nat.zero_le _
    · rw [List.length_cons]; omega
theorem fnd_lt (q : Rc → Bool) : ∀ (ps : List Pr) (m : Nat), m < fnd q ps → q (ps.getD m zp).1 = false
  | [], m, h => by simp [fnd] at h
  | p :: l, m, h => by
    unfold fnd at h
    split at h
    · omega
    · rename_i hq
      cases m with
      | zero => exact Bool.eq_false_iff.2 hq
      | succ m => exact fnd_lt q l m (by omega)
theorem fnd_at (q : Rc → Bool) : ∀ (ps : List Pr), fnd q ps < ps.length → q (ps.getD (fnd q ps) zp).1 = true
  | [], h => by simp [fnd] at h
  | p :: l, h => by
    unfold fnd at h ⊢
    split
    · rename_i hq; exact hq
    · rename_i hq
      rw [if_neg hq, List.length_cons] at h
      exact fnd_at q l (by omega)
theorem fl_first {q : Rc → Bool} {ps : List Pr} : ∀ m, m ≤ fnd q ps → fl q ps m = ps.take m
  | 0, _ => by simp [fl]
  | m + 1, h => by
    have hl := fnd_le q ps
    rw [fl_no (by omega) (fnd_lt q ps m (by omega)), fl_first m (by omega), take_snocp ps m (by omega)]
theorem fl_start {q : Rc → Bool} {ps : List Pr} (h : fnd q ps < ps.length) : fl q ps (fnd q ps + 1) = ps.take (fnd q ps) := by
  rw [fl_yes h (fnd_at q ps h), fl_first _ (Nat.le_refl _)]
theorem fl_none {q : Rc → Bool} {ps : List Pr} (h : ¬ fnd q ps < ps.length) : ps.filter (fun p => !q p.1) = ps := by
  have hl := fnd_le q ps
  rw [← fl_all, fl_first _ (by omega), List.take_length]
theorem recUnder : Try.prog.underlying 47 = some (.slice 28) := Try.underlying47
theorem recZero (w : World) : (zeroValue 28).run Try.prog w = .ok (Rc.zero.val (.slice none 0 0)) w := by
  obtain ⟨i, hi, hz, _⟩ := info_parts recinfo
  simp [zeroValue, typeInfo, hi, hz]
/-- What is behind i is cleared. -/
theorem Arr.cleared {w : World} {g cap n i : Nat} {f : Nat → Pr} (h : Arr w g cap n f) (hi : i < n) (c : Nat) : ∃ w', (∀ ty, (Builtin.clear_ #[47] ty #[.slice (some ⟨g, i * 10, none⟩) (n - i) c]).run Try.prog w = .ok (.tuple #[]) w') ∧ Arr w' g cap i f ∧ w.grownBy w' (some g) := by
  obtain ⟨cur, h1, h2, h3, h4, h5⟩ := h
  have hz10 : (Rc.zero.val (.slice none 0 0)).cells.size = 10 := rfl
  refine ⟨_, fun ty => run_clear_wide w 47 28 ty (Rc.zero.val (.slice none 0 0)) recUnder recZero g (i * 10) (n - i) c cur.toArray _ (by omega) h1 (by rw [hz10]; simp; omega) (by decide), ?_, grown_setRow _ _ _⟩
  refine ⟨_, setRow_heap w g _ _ _ _ h1, ?_, by omega, h4, fun k hk j hj => ?_⟩
  · rw [hz10]
    simp only [List.length_append, List.length_take, List.length_drop, Array.length_toList, size_zeroCells, hz10]; omega
  · rw [List.toList_toArray, List.append_assoc, List.getElem?_append_left (by rw [List.length_take]; omega), List.getElem?_take, if_pos (by omega)]
    exact h5 k (by omega) j hj
theorem del_nil (F c : Nat) (hen : Enters F) (q : Rc → Bool) (w : World) (hF : Tells F c q w) (hc : c < w.heap.size) :
    Calls Try.prog 71 #[.slice none 0 0, .func (.func F) #[] #[.pointer (some ⟨c, 0, none⟩)]] w (DelOut w (.slice none 0 0) []) := by
  have HI := Lib.hid (idxf_any F c hen q (.slice none 0 0) [] w (OwnR.nil w) (by simp) hF hc)
  clear hF
  go_enter Try.func71, Try.ntmps71
  go_wp2_with fail
  refine HI.out.mono ?_
  rintro e w2 ⟨rfl, hx2⟩
  rw [show idxOf q [] = -1 from rfl]
  have HX := Lib.hid hx2
  clear hx2 HI
  go_wp2
  go_ret
  exact ⟨none, 0, rfl, OwnR.nil _, grown_below (Gr.below_of HX.out) (Nat.le_refl _), rfl⟩
theorem two_lt {c g : Nat} {w w' : World} (h : w.grownBy w' (some g)) (hc : c < w.heap.size) (hn : c ≠ g) : w'.heap[c]? = w.heap[c]? := h.block c hc (by simpa using hn)
set_option maxHeartbeats 4000000 in
theorem del_any (F c : Nat) (hen : Enters F) (q : Rc → Bool) (g cap n : Nat) (ps : List Pr) (w : World) (hv : OwnR w (.slice (some ⟨g, 0, none⟩) n cap) ps) (hl : ps.length ≤ 1000) (hF : Tells F c q w) (hc : c < w.heap.size) (hcg : c ≠ g) :
    Calls Try.prog 71 #[.slice (some ⟨g, 0, none⟩) n cap, .func (.func F) #[] #[.pointer (some ⟨c, 0, none⟩)]] w (DelOut w (.slice (some ⟨g, 0, none⟩) n cap) (ps.filter (fun p => !q p.1))) := by
  have HI := Lib.hid (idxf_any F c hen q _ ps w hv hl hF hc)
  obtain ⟨harr, hn⟩ := hv.arr
  have HS : Hid (∀ p ∈ ps, Slc p) := hv.2
  have HF := Lib.hid hF
  have HARR := Lib.hid harr
  have HN := Lib.hid hn
  have hnc : n ≤ cap ∧ cap ≤ 9223372036854775807 := by
    obtain ⟨cur, _, _, h3, h4, _⟩ := harr
    unfold maxLen at h4
    exact ⟨h3, by omega⟩
  have HOWN := Lib.hid hv
  rw [← hn] at hl
  clear hF harr hv hn
  go_enter Try.func71, Try.ntmps71
  go_wp2_with fail
  refine HI.out.mono ?_
  rintro e w2 ⟨rfl, hx2⟩
  clear HI
  by_cases hk : fnd q ps < ps.length
  · rw [show idxOf q ps = ((fnd q ps : Nat) : Int) from if_pos hk]
    have HST := Lib.hid (fl_start hk)
    have HYES : Hid (∀ j, j < n → q (ps.getD j zp).1 = true → fl q ps (j + 1) = fl q ps j) := fun j hj hq => fl_yes (HN.out ▸ hj) hq
    have HNO : Hid (∀ j, j < n → q (ps.getD j zp).1 = false → fl q ps (j + 1) = fl q ps j ++ [ps.getD j zp]) := fun j hj hq => fl_no (HN.out ▸ hj) hq
    have HLE := Lib.hid (fl_le q ps)
    have HALL : Hid (fl q ps n = ps.filter (fun p => !q p.1)) := by rw [HN.out]; exact fl_all q ps
    have HSL : Hid (∀ j, j < n → Slc (ps.getD j zp)) := fun j hj => HS.out _ (getD_mem (by have := HN.out; omega))
    have HTK : Hid (∀ k, (ps.take k).length = min k n) := fun k => by rw [List.length_take, ← HN.out]
    have HTG : Hid (∀ k m, m < k → (ps.take k).getD m zp = ps.getD m zp) := fun k m hm => by rw [List.getD_eq_getElem?_getD, List.getElem?_take, if_pos hm, ← List.getD_eq_getElem?_getD]
    rw [← HN.out] at hk
    have HX2 := Lib.hid hx2
    clear hx2
    generalize fnd q ps = k0 at *
    have hk1 : (((k0 : Nat) : Int) == -1) = false := by simp
    go_wp2_with fail
    go_loopw [5, 6] (fun s5 s6 wr => ∃ (i j : Nat) (f : Nat → Pr), i < j ∧ j ≤ n ∧ s5 = .int .i64 i ∧ s6 = .int .i64 j ∧ Hid (Arr wr g cap n f) ∧ Hid (i = (fl q ps j).length) ∧ Hid (∀ m, m < i → f m = (fl q ps j).getD m zp) ∧ Hid (∀ m, j ≤ m → m < n → f m = ps.getD m zp) ∧ Hid (w.grownBy wr (some g))) (fun _ s6 _ => n - (intOf s6).toNat)
    case atStart =>
      refine ⟨k0, k0 + 1, _, by omega, by omega, rfl, by go_num, HARR.out.ext HX2.out, ?_, ?_, fun m _ _ => rfl, grown_below (Gr.below_of HX2.out) (Nat.le_refl _)⟩
      · show k0 = _
        rw [HST.out, HTK.out]; omega
      · intro m hm
        rw [HST.out, HTG.out k0 m hm]
    case round =>
      obtain ⟨i, j, f, hij, hj, rfl, rfl, HA, HIL, HF1, HF2, HG⟩ := hrel
      by_cases h1 : j < n
      · have hr := HA.out.range h1
        rw [HF2.out j (Nat.le_refl _) h1] at hr
        obtain ⟨c0, c1, c2, c3, c4, c5, c6, c7, c8, c9⟩ := RCell.ten hr
        have HSJ := Lib.hid (HSL.out j h1)
        have HY := Lib.hid (HYES.out j h1)
        have HNN := Lib.hid (HNO.out j h1)
        have HCLF : Hid (∀ wb : World, wb.heap[c]? = w.heap[c]? → Calls Try.prog F #[(ps.getD j zp).1.val (ps.getD j zp).2, .pointer (some ⟨c, 0, none⟩)] wb fun e w2 => e = .returned (.bool (q (ps.getD j zp).1)) ∧ wb.Extends w2) := fun wb h => HF.out (ps.getD j zp) wb HSJ.out h
        clear hr
        generalize ps.getD j zp = p at *
        generalize hb : q p.1 = b at *
        have HB := Lib.hid hb
        clear hb
        obtain ⟨⟨xp, xn, xb, xs, xm, xk, xe, xg, xu, xd⟩, u⟩ := p
        obtain ⟨ua, uc, hu⟩ := id HSJ.out
        simp only at hu
        subst hu
        simp only at c0 c1 c2 c3 c4 c5 c6 c7 c8 c9
        have hgr : g < wr.heap.size := HA.out.lt
        go_wp2_with fail
        generalize hwb : World.alloc wr _ = wb
        have hxb : wr.Extends wb := by subst hwb; exact ext_alloc _ _
        have hbx : wb.rangeAt wr.heap.size 0 (Rc.cells ⟨xp, xn, xb, xs, xm, xk, xe, xg, xu, xd⟩ (.slice ua xd.length uc)) := by subst hwb; exact box_rec wr 28 ⟨xp, xn, xb, xs, xm, xk, xe, xg, xu, xd⟩ _
        have hblt : wr.heap.size < wb.heap.size := by subst hwb; simp
        obtain ⟨y, hy⟩ : ∃ y, y = wr.heap.size := ⟨_, rfl⟩
        rw [← hy] at hbx hblt ⊢
        clear hy hwb c0 c1 c2 c3 c4 c5 c6 c7 c8 c9
        obtain ⟨c0, c1, c2, c3, c4, c5, c6, c7, c8, c9⟩ := RCell.ten hbx
        simp only [Nat.zero_add] at c0 c1 c2 c3 c4 c5 c6 c7 c8 c9
        have hcb : wb.heap[c]? = w.heap[c]? := (hxb.block c (Nat.lt_of_lt_of_le hc HG.out.size)).trans (two_lt HG.out hc hcg)
        have HCL := Lib.hid (HCLF.out wb hcb)
        have HBX := Lib.hid hbx
        have HXB := Lib.hid hxb
        clear hbx hxb
        go_wp2_with fail
        refine HCL.out.mono ?_
        rintro e w3 ⟨rfl, hx3⟩
        have HX3 := Lib.hid (Gr.ext_trans HXB.out hx3)
        have hbx := rangeAt_ext HBX.out hx3
        clear hx3 HCL HCLF HBX HXB c0 c1 c2 c3 c4 c5 c6 c7 c8 c9 hcb
        cases b with
        | true =>
          have hfe := HY.out rfl
          have HR : Hid (Arr w3 g cap n f ∧ i = (fl q ps (j + 1)).length ∧ (∀ m, m < i → f m = (fl q ps (j + 1)).getD m zp) ∧ (∀ m, j + 1 ≤ m → m < n → f m = ps.getD m zp) ∧ w.grownBy w3 (some g)) :=
            ⟨HA.out.ext HX3.out, by rw [hfe]; exact HIL.out, by rw [hfe]; exact HF1.out, fun m h2 h3 => HF2.out m (by omega) h3, grown_trans HG.out (grown_below (Gr.below_of HX3.out) (Nat.le_refl _))⟩
          clear hfe hbx
          go_wp2
          go_roundw
          case rel => exact ⟨i, j + 1, f, by omega, by omega, rfl, by go_num, HR.out.1, HR.out.2.1, HR.out.2.2.1, HR.out.2.2.2.1, HR.out.2.2.2.2⟩
          case measure => simp [intOf]; omega
        | false =>
          have hfe := HNN.out rfl
          obtain ⟨c0, c1, c2, c3, c4, c5, c6, c7, c8, c9⟩ := RCell.ten hbx
          simp only [Nat.zero_add] at c0 c1 c2 c3 c4 c5 c6 c7 c8 c9
          have HA3 := Lib.hid (HA.out.ext HX3.out)
          have HS3 : Hid (Slc ((⟨xp, xn, xb, xs, xm, xk, xe, xg, xu, xd⟩, .slice ua xd.length uc) : Pr)) := HSJ.out
          have HFE := Lib.hid hfe
          clear hfe hbx
          go_wp2_with (refine wpList_store_rec rfl 28 recsize _ _ rfl g (i * 10) i cap n f (⟨xp, xn, xb, xs, xm, xk, xe, xg, xu, xd⟩, .slice ua xd.length uc) rfl rfl rfl HA3.out (by omega) HS3.out ?_)
          intro w4 ha4 hg4
          have HR : Hid (Arr w4 g cap n (upd f i (⟨xp, xn, xb, xs, xm, xk, xe, xg, xu, xd⟩, .slice ua xd.length uc)) ∧ i + 1 = (fl q ps (j + 1)).length ∧ (∀ m, m < i + 1 → upd f i (⟨xp, xn, xb, xs, xm, xk, xe, xg, xu, xd⟩, .slice ua xd.length uc) m = (fl q ps (j + 1)).getD m zp) ∧
              (∀ m, j + 1 ≤ m → m < n → upd f i (⟨xp, xn, xb, xs, xm, xk, xe, xg, xu, xd⟩, .slice ua xd.length uc) m = ps.getD m zp) ∧ w.grownBy w4 (some g)) := by
            refine ⟨ha4, by rw [HFE.out, List.length_append, ← HIL.out]; rfl, fun m hm => ?_, fun m h2 h3 => ?_, grown_trans (grown_trans HG.out (grown_below (Gr.below_of HX3.out) (Nat.le_refl _))) hg4⟩
            · unfold upd
              rw [HFE.out, List.getD_eq_getElem?_getD]
              have hil := HIL.out
              split
              · rename_i e; subst e
                rw [List.getElem?_append_right (by omega), hil]; simp
              · rw [List.getElem?_append_left (by omega), ← List.getD_eq_getElem?_getD]
                exact HF1.out m (by omega)
            · unfold upd
              rw [if_neg (by omega)]
              exact HF2.out m (by omega) h3
          clear ha4 hg4 c0 c1 c2 c3 c4 c5 c6 c7 c8 c9
          go_wp2
          go_roundw
          case rel => exact ⟨i + 1, j + 1, _, by omega, by omega, by go_num, by go_num, HR.out.1, HR.out.2.1, HR.out.2.2.1, HR.out.2.2.2.1, HR.out.2.2.2.2⟩
          case measure => simp [intOf]; omega
      · obtain rfl : j = n := by omega
        have hb1 : ¬ cap = i := by omega
        have hb2 : ¬ cap = 0 := by omega
        obtain ⟨w5, hcl, ha5, hg5⟩ := HA.out.cleared hij (cap - i)
        have hcl0 := hcl 0
        have HP : Hid (DelOut w (.slice (some ⟨g, 0, none⟩) j cap) (ps.filter (fun p => !q p.1)) (.returned (.slice (some ⟨g, 0, none⟩) i cap)) w5) := by
          have hil := HIL.out
          rw [HALL.out] at hil
          rw [hil]
          refine ⟨_, _, rfl, ?_, grown_trans HG.out hg5, rfl⟩
          rw [← hil]
          exact ha5.own (Nat.le_refl _) hil.symm (fun k hk => by rw [HF1.out k hk, HALL.out]) (fun p hp => HS.out p (List.mem_filter.1 hp).1)
        clear hcl ha5 hg5
        go_wp2
        go_ret
        exact HP.out
  · rw [show idxOf q ps = -1 from if_neg hk]
    have HP : Hid (DelOut w (.slice (some ⟨g, 0, none⟩) n cap) (ps.filter (fun p => !q p.1)) (.returned (.slice (some ⟨g, 0, none⟩) n cap)) w2) := by
      rw [fl_none hk, HN.out]
      refine ⟨_, _, rfl, ?_, grown_below (Gr.below_of hx2) (Nat.le_refl _), rfl⟩
      have := HOWN.out.ext hx2
      rw [HN.out] at this
      exact this
    clear hx2
    go_wp2
    go_ret
    exact HP.out
end Go.Proofs.Ytdbdnfjgmdkneaa
