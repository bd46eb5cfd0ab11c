/- In one text: ObjAt, SplCut, SplRefCut, SplLaw, SeeTells, BlkLaw. -/
import Derived.Handy
import Derived.Lib.Hide
import Derived.Lib.SlBytesConst
import Derived.Test.YtpfmmfapdcbnkaaGreatDoorMB2
import Derived.Test.YtpfmmfapdcbnkaaGreatDoorMB3
import Derived.Test.YtpfmmfapdcbnkaaGreatDoorMB13
import Derived.Test.YtpfmmfapdcbnkaaGreatDoorMB14
import Derived.Test.YtpfmmfapdcbnkaaGreatDoorMB15
import Derived.Test.YtpfmmfapdcbnkaaGreatDoorMB16
import Derived.Test.YtpfmmfapdcbnkaaGreatDoorMB18
import Derived.Test.YtpfmmfapdcbnkaaGreatDoorMB19
namespace Go.Proofs.YtpfmmfapdcbnkaaGreatDoor
set_option maxRecDepth 20000
open Go.RowKit Go.Deep
set_option linter.unusedVariables false
/-- A block: how many source symbols it has, its seed's number, its parts. -/
structure Bk where
  k : Nat
  j : Nat
  c : List (List Nat)
def Bk.zero : Bk := ⟨0, 0, []⟩
/-- How a block at p with its parts at u looks. -/
abbrev Look := World → Nat → Bk → Value → Prop
structure Looks (A : Look) : Prop where
  int0 : ∀ {w : World} {p : Nat} {x : Bk} {u : Value}, A w p x u → ∃ n : Int, w.cell? ⟨p, 0, none⟩ = some (.int .i64 n)
  three : ∀ {w : World} {p : Nat} {x : Bk} {u : Value}, A w p x u → (∃ n : Int, w.cell? ⟨p, 3, none⟩ = some (.int .i64 n)) ∨ w.cell? ⟨p, 3, none⟩ = some u
  keep : ∀ {w w' : World} {p : Nat} {x : Bk} {u : Value}, A w p x u → (∀ i v, w.cell? ⟨p, i, none⟩ = some v → w'.cell? ⟨p, i, none⟩ = some v) → A w' p x u
theorem Looks.ext {A : Look} (hA : Looks A) {w w' : World} {p : Nat} {x : Bk} {u : Value} (h : A w p x u) (hx : w.Extends w') : A w' p x u := hA.keep h fun i v hv => hx.cell_of hv
def BLook (sz : Nat) : Look := fun w p x u => BAt w p x.k (PM.s x.k) 2 x.j sz u
def RLook (sz : Nat) : Look := fun w p x u => RAt w p x.k x.j sz u
theorem bLooks (sz : Nat) : Looks (BLook sz) := ⟨fun h => ⟨_, h.1⟩, fun h => .inl ⟨_, h.2.2.2.1⟩, fun h k => ⟨k _ _ h.1, k _ _ h.2.1, k _ _ h.2.2.1, k _ _ h.2.2.2.1, k _ _ h.2.2.2.2.1, k _ _ h.2.2.2.2.2⟩⟩
theorem rLooks (sz : Nat) : Looks (RLook sz) := ⟨fun h => ⟨_, h.1⟩, fun h => .inr h.2.2.2, fun h k => ⟨k _ _ h.1, k _ _ h.2.1, k _ _ h.2.2.1, k _ _ h.2.2.2⟩⟩
def ofn (b s m : Int) (v : Value) : Nat → Value
  | 0 => .int .i64 b
  | 1 => .int .i64 s
  | 2 => .int .i64 m
  | _ => v
def IsPtr (y : Value) : Prop := ∃ a, y = .pointer a
/-- No rows lie in block g. -/
def NoRows (w : World) (g : Nat) : Prop := (∀ x n, w.cell? ⟨g, x, none⟩ ≠ some (.int .u8 n)) ∧ ∀ x a n c a' n' c', w.cell? ⟨g, x, none⟩ = some (.slice a n c) → w.cell? ⟨g, x + 1, none⟩ ≠ some (.slice a' n' c')
theorem cell_mem {w : World} {g x : Nat} {y : Value} (h : w.cell? ⟨g, x, none⟩ = some y) : ∃ cs T f, w.heap[g]? = some (.cells cs T f) ∧ cs[x]? = some y := by
  unfold World.cell? at h
  split at h
  · rename_i c T f e
    exact ⟨c, T, f, e, h⟩
  · cases h
theorem clean_cell {C : Value → Prop} {w : World} {v : Value} {g x : Nat} {y : Value} (h : CleanBlk C w v) (hg : v.ownBlock = some g) (hc : w.cell? ⟨g, x, none⟩ = some y) : C y := by
  obtain ⟨cs, T, f, e, hm⟩ := cell_mem hc
  exact h g cs T f hg e y (Array.mem_toList_iff.2 (Array.mem_of_getElem? hm))
theorem noRows_clean {w : World} {v : Value} {g : Nat} (h : CleanBlk IsPtr w v) (hg : v.ownBlock = some g) : NoRows w g := by
  refine ⟨fun x n hc => ?_, fun x a n c a' n' c' hc => ?_⟩
  · obtain ⟨a, e⟩ := clean_cell h hg hc; cases e
  · obtain ⟨a, e⟩ := clean_cell h hg hc; cases e
theorem ocell {w : World} {o x : Nat} {T : TypeId} {b s m : Int} {v y : Value} (h : w.rowIs o T 4 (ofn b s m v)) (hc : w.cell? ⟨o, x, none⟩ = some y) : x < 4 ∧ y = ofn b s m v x := by
  obtain ⟨cs, T', f, e, hm⟩ := cell_mem hc
  obtain ⟨c, e2, hs, hi⟩ := h
  rw [e] at e2
  simp only [Option.some.injEq, Obj.cells.injEq] at e2
  rw [e2.1] at hm
  have hx : x < 4 := by
    rcases Nat.lt_or_ge x 4 with h | h
    · exact h
    · rw [Array.getElem?_eq_none (by omega)] at hm; cases hm
  exact ⟨hx, Option.some.inj (hm.symm.trans (hi x hx))⟩
theorem noRows_obj {w : World} {o : Nat} {T : TypeId} {b s m : Int} {v : Value} (h : w.rowIs o T 4 (ofn b s m v)) (hv : ∃ a n c, v = .slice a n c) : NoRows w o := by
  obtain ⟨va, vn, vc, rfl⟩ := hv
  refine ⟨fun x n hc => ?_, fun x a n c a' n' c' hc hc' => ?_⟩
  · obtain ⟨hx, e⟩ := ocell h hc
    match x, hx, e with
    | 0, _, e => simp [ofn] at e
    | 1, _, e => simp [ofn] at e
    | 2, _, e => simp [ofn] at e
    | 3, _, e => simp [ofn] at e
  · obtain ⟨hx, e⟩ := ocell h hc
    obtain ⟨hx', e'⟩ := ocell h hc'
    match x, hx, e with
    | 0, _, e => simp [ofn] at e
    | 1, _, e => simp [ofn] at e
    | 2, _, e => simp [ofn] at e
    | 3, _, e => omega
theorem U8s.off {w w' : World} {v : Value} {xs : List Nat} {g : Nat} (h : U8s w v xs) (hg : w.grownBy w' (some g)) (hn : NoRows w g) : U8s w' v xs := by
  refine h.grown hg ?_
  by_cases hx : xs = []
  · exact .inl hx
  · refine .inr fun e => ?_
    rcases h with h | ⟨b, off, cap, rfl, h1, h2, h3, h4, h5⟩
    · exact hx h.1
    · simp only [Value.ownBlock, Option.some.injEq] at e
      subst e
      exact hn.1 _ _ (h4 0 (List.length_pos_iff.2 hx))
theorem Rws.off {w w' : World} {v : Value} {l : List (List Nat)} {g : Nat} (h : Rws w v l) (hl : 2 ≤ l.length) (hg : w.grownBy w' (some g)) (hn : NoRows w g) : Rws w' v l := by
  rcases h with ⟨rfl, _⟩ | ⟨b, off, cap, rfl, h1, h2, h3, h4⟩
  · simp at hl
  · have hne : some b ≠ some g := fun e => by
      cases e
      obtain ⟨u0, c0, r0⟩ := h4 0 (by omega)
      obtain ⟨u1, c1, r1⟩ := h4 1 (by omega)
      obtain ⟨_, _, rfl, _⟩ := r0.slice
      obtain ⟨_, _, rfl, _⟩ := r1.slice
      exact hn.2 _ _ _ _ _ _ _ c0 c1
    exact .inr ⟨b, off, cap, rfl, h1, h2, Nat.lt_of_lt_of_le h3 hg.size, fun k hk => by
      obtain ⟨u, hu, hr⟩ := h4 k hk
      exact ⟨u, hg.cell hu hne, hr.off hg hn⟩⟩
/-- A block that a pointer points to. -/
def Pte (A : Look) (w : World) (y : Value) (x : Bk) : Prop := ∃ p u, y = .pointer (some ⟨p, 0, none⟩) ∧ A w p x u ∧ Rws w u x.c
theorem Pte.ext {A : Look} (hA : Looks A) {w w' : World} {y : Value} {x : Bk} (h : Pte A w y x) (hx : w.Extends w') : Pte A w' y x := by
  obtain ⟨p, u, e, h1, h2⟩ := h
  exact ⟨p, u, e, hA.ext h1 hx, h2.ext hx⟩
theorem Pte.off {A : Look} (hA : Looks A) {w w' : World} {p g : Nat} {u : Value} {x : Bk} (h1 : A w p x u) (h2 : Rws w u x.c) (hl : 2 ≤ x.c.length) (hp : p ≠ g) (hg : w.grownBy w' (some g)) (hn : NoRows w g) : A w' p x u ∧ Rws w' u x.c :=
  ⟨hA.keep h1 fun i v hv => hg.cell hv (by simp; exact hp), h2.off hl hg hn⟩
/-- An object that a call lays at o: its blocks so far. -/
def OB (A : Look) (TO TP : TypeId) (w : World) (o : Nat) (b s m : Int) (v : Value) (bs : List Bk) : Prop :=
  w.rowIs o TO 4 (ofn b s m v) ∧ CleanBlk IsPtr w v ∧ ∃ vs, w.ownsRow (o + 1) TP 1 v bs.length vs ∧ ∀ i, i < bs.length → ∃ y, vs[i]? = some y ∧ Pte A w y (bs.getD i Bk.zero) ∧ 2 ≤ (bs.getD i Bk.zero).c.length
theorem OB.ext {A : Look} (hA : Looks A) {TO TP : TypeId} {w w' : World} {o : Nat} {b s m : Int} {v : Value} {bs : List Bk} (h : OB A TO TP w o b s m v bs) (hx : w.Extends w') : OB A TO TP w' o b s m v bs := by
  obtain ⟨h1, h2, vs, h3, h4⟩ := h
  refine ⟨h1.of_block (hx.block o h1.lt), h2.kept fun g hg => hx.block g (h3.lt g hg).2, vs, owns_ext h3 hx, fun i hi => ?_⟩
  obtain ⟨y, e, hp, hl⟩ := h4 i hi
  exact ⟨y, e, hp.ext hA hx, hl⟩
theorem OB.new (A : Look) (TO TP : TypeId) (w : World) (b s m : Int) : OB A TO TP (w.alloc (.cells #[.int .i64 b, .int .i64 s, .int .i64 m, .slice none 0 0] TO)) w.heap.size b s m (.slice none 0 0) [] := by
  refine ⟨?_, CleanBlk.nil _ _, [], World.ownsRow_nil _ _ _ _, fun i hi => absurd hi (Nat.not_lt_zero _)⟩
  exact World.rowIs_alloc w _ TO _ fun i hi => by
    have hi : i < 4 := hi
    match i, hi with
    | 0, _ => rfl
    | 1, _ => rfl
    | 2, _ => rfl
    | 3, _ => rfl
theorem OB.slice {A : Look} {TO TP : TypeId} {w : World} {o : Nat} {b s m : Int} {v : Value} {bs : List Bk} (h : OB A TO TP w o b s m v bs) : ∃ a cap, v = .slice a bs.length cap := by
  obtain ⟨_, _, vs, h3, _⟩ := h
  exact owns_slice h3
/-- A block's cells are no pointers, and not the object's. -/
theorem OB.apart {A : Look} (hA : Looks A) {TO TP : TypeId} {w : World} {o p : Nat} {b s m : Int} {v u : Value} {x : Bk} {bs : List Bk} (h : OB A TO TP w o b s m v bs) (h1 : A w p x u) (h2 : Rws w u x.c) (hl : 2 ≤ x.c.length) : p ≠ o ∧ ∀ g, v.ownBlock = some g → p ≠ g := by
  obtain ⟨hr, hcl, vs, ho, _⟩ := h
  refine ⟨fun e => ?_, fun g hg e => ?_⟩
  · subst e
    rcases hA.three h1 with ⟨n, hc⟩ | hc
    · obtain ⟨_, e⟩ := ocell hr hc
      obtain ⟨a, c, rfl⟩ := owns_slice ho
      simp [ofn] at e
    · obtain ⟨_, e⟩ := ocell hr hc
      have e : u = v := e
      subst e
      rcases h2 with ⟨h0, _⟩ | ⟨g, off, cap, rfl, _, _, _, h4⟩
      · rw [h0] at hl; simp at hl
      · obtain ⟨y, hy, hu⟩ := h4 0 (by omega)
        obtain ⟨_, _, rfl, _⟩ := hu.slice
        obtain ⟨a, e⟩ := clean_cell hcl rfl hy
        cases e
  · subst e
    obtain ⟨n, hc⟩ := hA.int0 h1
    obtain ⟨a, e⟩ := clean_cell hcl hg hc
    cases e
/-- One block more. -/
theorem OB.snoc {A : Look} (hA : Looks A) {TO TP : TypeId} {w w' : World} {o p : Nat} {b s m : Int} {v v' u : Value} {x : Bk} {bs : List Bk} {vs : List Value} (hr : w.rowIs o TO 4 (ofn b s m v)) (hcl : CleanBlk IsPtr w v) (ho : w.ownsRow (o + 1) TP 1 v bs.length vs)
    (hp : ∀ i, i < bs.length → ∃ y, vs[i]? = some y ∧ Pte A w y (bs.getD i Bk.zero) ∧ 2 ≤ (bs.getD i Bk.zero).c.length) (h1 : A w p x u) (h2 : Rws w u x.c) (hl : 2 ≤ x.c.length)
    (hg : w.grownBy w' v.ownBlock) (ho' : w'.ownsRow (o + 1) TP 1 v' (bs.length + 1) (vs ++ [.pointer (some ⟨p, 0, none⟩)])) (hcl' : CleanBlk IsPtr w' v') : OB A TO TP (w'.setCell ⟨o, 3, none⟩ v') o b s m v' (bs ++ [x]) := by
  have hob : OB A TO TP w o b s m v bs := ⟨hr, hcl, vs, ho, hp⟩
  have hvo : ∀ g, v.ownBlock = some g → o < g := fun g hg => (ho.lt g hg).1
  have hvo' : ∀ g, v'.ownBlock = some g → o < g := fun g hg => (ho'.lt g hg).1
  have hr' : w'.rowIs o TO 4 (ofn b s m v) := hr.of_block (hg.block o hr.lt fun e => by have := hvo o e.symm; omega)
  have keep : ∀ {q : Nat} {z : Value} {y : Bk}, A w q y z → Rws w z y.c → 2 ≤ y.c.length → Pte A (w'.setCell ⟨o, 3, none⟩ v') (.pointer (some ⟨q, 0, none⟩)) y := fun {q z y} a1 a2 a3 => by
    obtain ⟨n1, n2⟩ := hob.apart hA a1 a2 a3
    have k1 : A w' q y z ∧ Rws w' z y.c := by
      cases hv : v.ownBlock with
      | none =>
        rw [hv] at hg
        have hx : w.Extends w' := ext_below ⟨hg.os, hg.tape, hg.output, hg.size, fun i hi => hg.block i hi (by simp)⟩ rfl
        exact ⟨hA.ext a1 hx, a2.ext hx⟩
      | some g =>
        rw [hv] at hg
        exact Pte.off hA a1 a2 a3 (n2 g hv) hg (noRows_clean hcl hv)
    obtain ⟨k2, k3⟩ := Pte.off hA k1.1 k1.2 a3 n1 (grown_setCell (grown_refl w' (some o)) 3 v') (noRows_obj hr' (by obtain ⟨a, c, e⟩ := owns_slice ho; exact ⟨_, _, _, e⟩))
    exact ⟨q, z, rfl, k2, k3⟩
  have hgs : w'.grownBy (w'.setCell ⟨o, 3, none⟩ v') (some o) := grown_setCell (grown_refl _ _) 3 v'
  have hlen : vs.length = bs.length := by have := ho.1; omega
  refine ⟨(hr'.set 3 v').congr fun i hi => ?_, hcl'.kept fun g hg => hgs.block g (ho'.lt g hg).2 (by have := hvo' g hg; simp; omega), vs ++ [.pointer (some ⟨p, 0, none⟩)], ?_, fun i hi => ?_⟩
  · match i, hi with
    | 0, _ => rfl
    | 1, _ => rfl
    | 2, _ => rfl
    | 3, _ => rfl
  · rw [List.length_append]
    refine ho'.kept hgs ?_
    cases hv : v'.ownBlock with
    | none => exact .inl rfl
    | some g => exact .inr (by have := hvo' g hv; simp; omega)
  · rw [List.length_append] at hi
    have hi : i < bs.length + 1 := hi
    by_cases hib : i < bs.length
    · obtain ⟨y, e, ⟨q, z, rfl, a1, a2⟩, a3⟩ := hp i hib
      rw [show (bs ++ [x]).getD i Bk.zero = bs.getD i Bk.zero by simp [List.getD_eq_getElem?_getD, List.getElem?_append_left hib]]
      exact ⟨_, by rw [List.getElem?_append_left (by omega)]; exact e, keep a1 a2 a3, a3⟩
    · obtain rfl : i = bs.length := by omega
      rw [show (bs ++ [x]).getD bs.length Bk.zero = x by simp]
      exact ⟨_, by rw [List.getElem?_append_right (by omega), hlen]; simp, keep h1 h2 hl, hl⟩
/-- An object at o, as it reads. -/
def OV (A : Look) (w : World) (o : Nat) (b s m : Int) (bs : List Bk) : Prop :=
  o < w.heap.size ∧ w.cell? ⟨o, 0, none⟩ = some (.int .i64 b) ∧ w.cell? ⟨o, 1, none⟩ = some (.int .i64 s) ∧ w.cell? ⟨o, 2, none⟩ = some (.int .i64 m) ∧
  ∃ a cap, w.cell? ⟨o, 3, none⟩ = some (.slice a bs.length cap) ∧ (0 < bs.length → ∃ g off, a = some ⟨g, off, none⟩ ∧ g < w.heap.size ∧ ∀ i, i < bs.length → ∃ p u, w.cell? ⟨g, off + i, none⟩ = some (.pointer (some ⟨p, 0, none⟩)) ∧ A w p (bs.getD i Bk.zero) u ∧ Rws w u (bs.getD i Bk.zero).c)
theorem OV.ext {A : Look} (hA : Looks A) {w w' : World} {o : Nat} {b s m : Int} {bs : List Bk} (h : OV A w o b s m bs) (hx : w.Extends w') : OV A w' o b s m bs := by
  obtain ⟨h0, h1, h2, h3, a, cap, h4, h5⟩ := h
  refine ⟨Nat.lt_of_lt_of_le h0 hx.size, hx.cell_of h1, hx.cell_of h2, hx.cell_of h3, a, cap, hx.cell_of h4, fun hn => ?_⟩
  obtain ⟨g, off, e, hg, hi⟩ := h5 hn
  refine ⟨g, off, e, Nat.lt_of_lt_of_le hg hx.size, fun i hib => ?_⟩
  obtain ⟨p, u, c, a1, a2⟩ := hi i hib
  exact ⟨p, u, hx.cell_of c, hA.ext a1 hx, a2.ext hx⟩
theorem OB.ov {A : Look} {TO TP : TypeId} {w : World} {o : Nat} {b s m : Int} {v : Value} {bs : List Bk} (h : OB A TO TP w o b s m v bs) : OV A w o b s m bs := by
  obtain ⟨hr, hcl, vs, ho, hp⟩ := h
  refine ⟨hr.lt, hr.cell (i := 0) (by omega), hr.cell (i := 1) (by omega), hr.cell (i := 2) (by omega), ?_⟩
  have h3 := hr.cell (i := 3) (by omega)
  have h3 : w.cell? ⟨o, 3, none⟩ = some v := h3
  rcases id ho.2 with ⟨rfl, h0⟩ | ⟨g, cap, cur, rfl, hbg, hg, _⟩
  · exact ⟨none, 0, by rw [h0]; exact h3, fun h => by omega⟩
  · refine ⟨_, cap, h3, fun _ => ⟨g, 0, rfl, (Array.getElem?_eq_some_iff.1 hg).1, fun i hi => ?_⟩⟩
    obtain ⟨y, e, ⟨p, u, rfl, a1, a2⟩, _⟩ := hp i hi
    have := ho.cells (g := g) rfl i _ e
    rw [Addr.add_mid] at this
    exact ⟨p, u, this, a1, a2⟩
end Go.Proofs.YtpfmmfapdcbnkaaGreatDoor
namespace Go.Proofs.YtpfmmfapdcbnkaaGreatDoor
set_option maxRecDepth 20000
open Go.RowKit Go.Deep
set_option linter.unusedVariables false
theorem cut_wrong (b s m : Int) (v : Value) (w : World) (h : ¬ CM.Right b s m) :
    Calls Tryz.prog 43 #[PV b s m, v] w (CutOut w 1 []) := by
  go_enter Tryz.func43, Tryz.ntmps43
  go_wp2_with fail
  generalize hw1 : World.alloc w _ = w1
  have hx1 : w.Extends w1 := by subst hw1; exact prm_ext_alloc _ _
  have hp : PAt w1 w.heap.size b s m := by subst hw1; exact PAt.new w 25 b s m
  generalize w.heap.size = g at hp ⊢
  clear hw1
  have HX1 := Lib.hid hx1
  have hb1 := hp.lt
  obtain ⟨p0, p1, p2⟩ := hp
  clear hx1
  refine (right_no b s m w1 h).mono ?_
  rintro e w2 ⟨rfl, hx⟩
  have HX2 := Lib.hid (Gr.ext_trans HX1.out hx)
  go_wp2
  go_returns
  exact ⟨_, by rfl, HX2.out, RwsL.nil _ _ _⟩
theorem cut_other (b s m : Nat) (v : Value) (xs : List Nat) (w : World) (h : CM.Right b s m) (hn : xs.length ≠ b) (hv : U8s w v xs) :
    Calls Tryz.prog 43 #[PV b s m, v] w (CutOut w 10 []) := by
  obtain ⟨va, vc, rfl, _⟩ := hv.slice
  have hlen := hv.len
  unfold maxLen at hlen
  obtain ⟨n, hn0⟩ : ∃ n, n = xs.length := ⟨_, rfl⟩
  rw [← hn0] at hn hlen ⊢
  have hne : ((n : Int) != b) = true := by simp; omega
  have HR := Lib.hid h
  clear h hv hn0
  go_enter Tryz.func43, Tryz.ntmps43
  go_wp2_with fail
  generalize hw1 : World.alloc w _ = w1
  have hx1 : w.Extends w1 := by subst hw1; exact prm_ext_alloc _ _
  have hp : PAt w1 w.heap.size b s m := by subst hw1; exact PAt.new w 25 b s m
  generalize w.heap.size = g at hp ⊢
  clear hw1
  have HX1 := Lib.hid hx1
  have HP1 := Lib.hid hp
  have hb1 := hp.lt
  obtain ⟨p0, p1, p2⟩ := hp
  clear hx1
  refine (right_yes b s m w1 HR.out).mono ?_
  rintro e w2 ⟨rfl, hx⟩
  have HX2 := Lib.hid (Gr.ext_trans HX1.out hx)
  have HP2 := Lib.hid (HP1.out.ext hx)
  clear p0 p1 p2 hx
  obtain ⟨p0, p1, p2⟩ := HP2.out
  go_wp2
  go_returns
  exact ⟨_, by rfl, HX2.out, RwsL.nil _ _ _⟩
set_option maxHeartbeats 1000000 in
set_option maxRecDepth 100000 in
theorem cut_some (b s m : Nat) (v : Value) (xs : List Nat) (w : World) (h : CM.Right b s m) (hn : xs.length = b) (hv : U8s w v xs) :
    Calls Tryz.prog 43 #[PV b s m, v] w (CutOut w 0 (CM.cut b s m xs)) := by
  obtain ⟨va, vc, rfl, _⟩ := hv.slice
  obtain ⟨h1, h2, h3, h4, h5, h6⟩ := CM.right_of h
  have HLT := Lib.hid hv.lt
  have HB := Lib.hid (fun w => blocks_yes b s m w h)
  have HK := Lib.hid (fun w i hi => k_in b s m i w h hi)
  have hyl := CM.sy_le b s h1
  have hnl := CM.bl_le b s m
  have hnp := CM.bl_pos b s m
  have HKI : Hid (∀ i, i < CM.bl b s m → CM.kk b s m i = CM.deal (CM.sy b s) (CM.bl b s m) i) := fun i hi => CM.kk_in b s m i hi
  have HKL : Hid (∀ i, CM.kk b s m i ≤ 40) := fun i => Nat.le_trans (CM.kk_le b s m i h5) h6
  have HFIN : Hid (∀ w g vals, CutTo w g (CM.bl b s m) (CM.bl b s m) vals s (CM.sy b s) xs → RwsL w (.slice (some ⟨g, 0, none⟩) (CM.bl b s m) (CM.bl b s m)) (CM.cut b s m xs)) := fun w g vals hc => by
    subst hn; exact hc.rws rfl (by unfold maxLen; omega)
  have HMADE := Lib.hid (fun w => CutTo.made w (CM.bl b s m) s (CM.sy b s) xs)
  have hmk := fun w => mkRowLists (CM.bl b s m) (by omega) w
  have HAS := Lib.hid (CM.ahead_succ (CM.sy b s) (CM.bl b s m))
  have HU := Lib.hid hv
  have HD0 : Hid (xs.drop (CM.ahead (CM.sy b s) (CM.bl b s m) 0 * s) = xs) := by show _ = _; rw [CM.ahead_zero]; simp
  rw [hn] at HU ⊢
  obtain ⟨i1, hi', hz0', hz1', hz2'⟩ := info_parts rowinfo
  have HI' := Lib.hid hi'; clear hi'
  have HZ0' := Lib.hid hz0'; clear hz0'
  have HZ1' := Lib.hid hz1'; clear hz1'
  have HZ2' := Lib.hid hz2'; clear hz2'
  have hmr := fun w => mkRow s (by omega) w
  have HMR := Lib.hid hmr
  clear hmr
  generalize CM.cut b s m xs = L at *
  generalize CM.bl b s m = n at *
  generalize CM.sy b s = y at *
  generalize hkk : CM.kk b s m = kk at *
  have HR := Lib.hid h
  clear h hn hkk hv
  go_enter Tryz.func43, Tryz.ntmps43
  have HMK := Lib.hid hmk
  clear hmk
  go_wp2_with fail
  generalize hw1 : World.alloc w _ = w1
  have hx1 : w.Extends w1 := by subst hw1; exact prm_ext_alloc _ _
  have hp : PAt w1 w.heap.size b s m := by subst hw1; exact PAt.new w 25 b s m
  generalize w.heap.size = bx at hp ⊢
  clear hw1
  have HX1 := Lib.hid hx1
  have HP1 := Lib.hid hp
  have hb1 := hp.lt
  obtain ⟨p0, p1, p2⟩ := hp
  clear hx1
  refine (right_yes b s m w1 HR.out).mono ?_
  rintro e w2 ⟨rfl, hx⟩
  have HX2 := Lib.hid (Gr.ext_trans HX1.out hx)
  have HP2 := Lib.hid (HP1.out.ext hx)
  have hb2 := HP2.out.lt
  clear p0 p1 p2 hx
  obtain ⟨p0, p1, p2⟩ := HP2.out
  go_wp2_with fail
  refine (HB.out w2).mono ?_
  rintro e w3 ⟨rfl, hx⟩
  have HX3 := Lib.hid (Gr.ext_trans HX2.out hx)
  have HP3 := Lib.hid (HP2.out.ext hx)
  have hb3 := HP3.out.lt
  clear p0 p1 p2 hx
  have hmk := HMK.out
  go_upto_region 6 with fail
  clear hmk
  have HM3 := Lib.hid (HMADE.out w3)
  have HU4 : Hid (U8s (w3.alloc (.cells (madeCells #[.slice none 0 0] n) 87)) (.slice va b vc) xs) := (HU.out.ext HX3.out).ext (ext_alloc _ _)
  generalize hw4 : World.alloc w3 _ = w4 at *
  have HX4 : Hid (w3.Extends w4) := by subst hw4; exact ext_alloc _ _
  have HP4 := Lib.hid (HP3.out.ext HX4.out)
  have hgx : w.heap.size ≤ w3.heap.size := HX3.out.size
  generalize w3.heap.size = g at *
  have HX5 := Lib.hid (Gr.ext_trans HX3.out HX4.out)
  clear hw4 HX4 HX3 HMADE HU4
  go_wp2_with fail
  go_loopw [1, 22] (fun d i wr => ∃ (q : Nat) (vals : Nat → Value), q ≤ n ∧ i = .int .i64 q ∧ Hid (U8s w d (xs.drop (CM.ahead y n q * s))) ∧ Hid (w4.grownBy wr (some g)) ∧ Hid (CutTo wr g n q vals s y xs)) (fun _ i _ => (n - intOf i).toNat)
  case atStart => exact ⟨0, _, by omega, rfl, Lib.hid (by rw [HD0.out]; exact HU.out), Lib.hid (grown_refl _ _), HM3⟩
  case round =>
    obtain ⟨q, vals, hq, rfl, HD, HG, HC⟩ := hrel
    by_cases h7 : q < n
    · have HPr := Lib.hid (HP4.out.but HG.out (by omega))
      have hbr := HPr.out.lt
      obtain ⟨p0, p1, p2⟩ := HPr.out
      go_wp2_with fail
      refine (HK.out wr q h7).mono ?_
      rintro e wo ⟨rfl, hx⟩
      have HGo := Lib.hid (grown_exts HG.out hx)
      have HCo := Lib.hid (HC.out.ext hx)
      have HPo := Lib.hid (HPr.out.ext hx)
      have HKQ := Lib.hid (HKI.out q h7)
      have hkl := HKL.out q
      have HAQ := Lib.hid (HAS.out q)
      have hglt : g < wo.heap.size := HCo.out.1.lt
      generalize kk q = k at *
      generalize haq : CM.ahead y n q = a at *
      have HAE := Lib.hid haq
      clear haq
      clear HG HC HPr hx p0 p1 p2 hbr
      clear wr
      go_wp2_with fail
      go_loopw [1, 28] (fun d i wr => ∃ (z : Nat) (u : Value), z ≤ k ∧ i = .int .i64 z ∧ Hid (U8s w d (xs.drop ((a + z) * s))) ∧ Hid (wo.grownBy wr (some g)) ∧ Hid (wr.rowIs g 87 n (fun c => if c = q then u else vals c)) ∧ Hid (Mats wr wo.heap.size 0 99 u z (CM.blk s xs a z))) (fun _ i _ => (k - intOf i).toNat)
      case atStart =>
        refine ⟨0, .slice none 0 0, by omega, rfl, HD, Lib.hid (grown_refl _ _), Lib.hid (HCo.out.1.congr fun c hc => ?_), Lib.hid (Mats.nil _ _ _ _ _)⟩
        by_cases e : c = q
        · rw [if_pos e, HCo.out.2.2 c (by omega)]
        · rw [if_neg e]
      case round =>
        obtain ⟨z, u, hz, rfl, HD, HG, HRw, HM⟩ := hrel
        have HXW : Hid (w.Extends wr) := ext_grown (Gr.ext_trans HX5.out (Gr.ext_refl _)) (grown_trans HGo.out HG.out) hgx
        by_cases h8 : z < k
        · obtain ⟨da, dc, rfl, _⟩ := HD.out.slice
          have HDR := Lib.hid (HD.out.ext HXW.out)
          have hdl := HD.out.len
          have hcl0 : (u8vs ((xs.drop ((a + z) * s)).take s)).length = min s (xs.drop ((a + z) * s)).length := by rw [u8vs_length, List.length_take]
          obtain ⟨a2, c2, hsl, hd2⟩ := cut_from HD.out (u8vs ((xs.drop ((a + z) * s)).take s)).length (by omega)
          rw [drop_next] at hd2
          have HD2 := Lib.hid hd2
          have HCS := Lib.hid (copy_src (HDR.out.ext (ext_alloc _ _) : U8s (wr.alloc (.cells (madeCells #[.int .u8 0] s) 5)) _ _) s)
          have HONE := Lib.hid (u8vs_one ((xs.drop ((a + z) * s)).take s))
          have HOC : Hid (∀ (w : World) r, w.heap[r]? = some (.cells (splice (List.replicate s (Value.int .u8 0)) 0 (u8vs ((xs.drop ((a + z) * s)).take s))).toArray 5 (0, 0)) → Own w r 5 (CM.sym s xs (a + z))) := fun w r h => own_copied (by unfold maxLen; omega) HLT.out h
          have HSL := Lib.hid (CM.sym_length s xs (a + z))
          have HBS := Lib.hid (CM.blk_snoc s xs a z)
          have HBL := Lib.hid (CM.blk_length s xs a z)
          have HSLC := Lib.hid hsl
          clear hd2 HDR hsl
          generalize u8vs ((xs.drop ((a + z) * s)).take s) = cs at *
          generalize (xs.drop ((a + z) * s)).length = dn at *
          generalize CM.sym s xs (a + z) = row at *
          generalize hcn : cs.length = cn at *
          have HCN := Lib.hid hcn
          have HCL := Lib.hid hcl0
          clear hcn hcl0
          have HPr := Lib.hid (HPo.out.but HG.out (by omega))
          have hbr := HPr.out.lt
          obtain ⟨p0, p1, p2⟩ := HPr.out
          have hmk := HMR.out
          go_wp2_with (with_reducible refine wpList_copy_splice rfl (.tmp 34) (.tmp 35) 99 30 rfl 5 Tryz.underlying99 bytesize _ _ _ _ _ _ rfl rfl wr.heap.size 0 (List.replicate s (Value.int .u8 0)) 5 (made_bytes wr s) cs ?_ ?_ ?_ HONE.out wr.heap.size (wr.alloc (.cells (madeCells #[.int .u8 0] s) 5)) (Below.refl _ _) (Nat.le_refl _) ?_)
          · rw [HCN.out, HCL.out]; exact Nat.min_comm _ _
          · intro h0
            rw [HCN.out] at h0
            exact HCS.out h0
          · rw [HCN.out, List.length_replicate, HCL.out]; omega
          intro w2 HG2 hB2
          have HX2' : Hid (wr.Extends w2) := Gr.ext_of ((balloc (Below.refl _ _) _).trans hB2)
          have HOW := Lib.hid (HOC.out w2 _ HG2.out)
          have hbr2 : bx < w2.heap.size := Nat.lt_of_lt_of_le hbr HX2'.out.size
          have HR2 := Lib.hid (HRw.out.of_block (HX2'.out.block g HRw.out.lt))
          obtain ⟨ua, uc, rfl⟩ := HM.out.slice
          obtain ⟨vs, hown, hrows⟩ := HM.out.ext HX2'.out
          have HOWN := Lib.hid hown
          have HROWS := Lib.hid hrows
          have HNE : Hid (∀ x, (Value.slice ua z uc).ownBlock = some x → wo.heap.size ≤ x) := fun x hx => (HOWN.out.lt x hx).1
          have hcell : w2.cell? ⟨g, q, none⟩ = some (.slice ua z uc) := by have := HR2.out.cell h7; rwa [if_pos rfl] at this
          have hgl2 : g < w2.heap.size := HR2.out.lt
          have HGW := Lib.hid (grown_exts HG.out HX2'.out)
          have hwos := HGW.out.size
          rw [HCN.out]
          clear hown hrows HG2 hB2 p0 p1 p2 HM HG hmk HRw
          generalize wr.heap.size = r at *
          refine wpList_slice rfl 30 (.tmp 33) (some (.tmp 36)) none rfl elemBytes _ _ _ rfl rfl rfl (HSLC.out _) ?_
          go_wp2_with (at_builtin; refine wpList_append_own_src _ rfl _ _ 87 87 rfl wo.heap.size 99 i1 (.slice none 0 0) 1 24 Tryz.underlying87 HI'.out HZ0'.out HZ1'.out HZ2'.out rfl _ _ _ rfl (HOWN.out.alloc _) _ 1 [.slice (some ⟨r, 0, none⟩) s s] rfl (src_one Tryz.underlying87 _ _ rfl rfl) (by unfold maxLen; omega) (by omega) (by simp; omega) ?_)
          intro v' w3' ho3 hg3 _
          have HR3 := Lib.hid ((HR2.out.alloc (.cells #[.slice (some ⟨r, 0, none⟩) s s] 99)).of_block (hg3.block g (by simp; omega) (fun e => by have := HNE.out g e.symm; omega)))
          have HG3 := Lib.hid (grown_in (grown_exts HGW.out (ext_alloc _ _)) hg3 HNE.out)
          have HM3' : Hid (Mats w3' wo.heap.size 0 99 v' (z + 1) (CM.blk s xs a (z + 1))) := by
            show Mats _ _ _ _ _ _ _
            rw [← HBS.out]
            exact Mats.snoc (Nat.zero_le _) (by decide) HBL.out.symm (HOWN.out.alloc _) (fun j hj => by obtain ⟨x, e1, e2⟩ := HROWS.out j hj; exact ⟨x, e1, e2.ext (ext_alloc _ _)⟩) ((HOW.out.ok HSL.out).ext (ext_alloc _ _)) hg3 ho3
          have hcell3 : w3'.cell? ⟨g, q, none⟩ = some (.slice ua z uc) := by have := HR3.out.cell h7; rwa [if_pos rfl] at this
          have hfz3 := HR3.out.frozen q
          obtain ⟨xa, xc, rfl⟩ := HM3'.out.slice
          have HP : Hid (wo.grownBy (w3'.setCell ⟨g, q, none⟩ (.slice xa (z + 1) xc)) (some g) ∧ (w3'.setCell ⟨g, q, none⟩ (.slice xa (z + 1) xc)).rowIs g 87 n (fun c => if c = q then .slice xa (z + 1) xc else vals c) ∧
              Mats (w3'.setCell ⟨g, q, none⟩ (.slice xa (z + 1) xc)) wo.heap.size 0 99 (.slice xa (z + 1) xc) (z + 1) (CM.blk s xs a (z + 1))) := by
            refine ⟨grown_setCell HG3.out _ _, (HR3.out.set q _).congr fun c hc => ?_, HM3'.out.butRow hglt HR3.out (by decide) (grown_setCell (grown_refl _ _) _ _)⟩
            by_cases e : c = q
            · simp [e]
            · simp [e]
          clear hg3 ho3 hcell HR2 HOWN HROWS HNE HGW HR3 HG3 HM3'
          go_wp2
          go_roundw
          case rel => exact ⟨z + 1, _, by omega, by go_num, HD2, Lib.hid HP.out.1, Lib.hid HP.out.2.1, Lib.hid HP.out.2.2⟩
          case measure => simp [intOf]; omega
        · obtain rfl : z = k := by omega
          have HCN : Hid (CutTo wr g n (q + 1) (fun c => if c = q then u else vals c) s y xs) := by
            have hu := HM.out
            rw [HKQ.out, ← HAE.out] at hu
            exact HCo.out.next HG.out HRw.out hu
          have HGN := Lib.hid (grown_trans HGo.out HG.out)
          have HDN : Hid (U8s w u1 (xs.drop (CM.ahead y n (q + 1) * s))) := by
            show U8s _ _ _
            rw [HAQ.out, ← HKQ.out]; exact HD.out
          clear HD HG HRw HM
          go_wp2
          go_roundw
          case rel => exact ⟨q + 1, _, by omega, by go_num, HDN, HGN, HCN⟩
          case measure => simp [intOf]; omega
    · obtain rfl : q = n := by omega
      have HXW : Hid (w.Extends wr) := ext_grown HX5.out HG.out hgx
      have HRW := Lib.hid (HFIN.out _ _ _ HC.out)
      go_wp2
      go_returns
      exact ⟨_, by rfl, HXW.out, HRW.out⟩
end Go.Proofs.YtpfmmfapdcbnkaaGreatDoor
namespace Go.Proofs.YtpfmmfapdcbnkaaGreatDoor
set_option maxRecDepth 20000
open Go.RowKit Go.Deep
set_option linter.unusedVariables false
def slen : Value → Nat
  | .slice _ n _ => n
  | _ => 0
theorem byteslistinfo : (Tryz.prog.info? 73).map (fun i => (i.zero, i.size, i.bytes)) = some (some (.slice none 0 0), 1, 24) := by kernel_rfl
theorem CM.mod_end (y s n : Nat) (hs : 1 ≤ s) (h1 : (y - 1) * s < n) (h2 : n ≤ y * s) : n % s = 0 ↔ n = y * s := by
  constructor
  · intro h
    obtain ⟨k, rfl⟩ : ∃ k, n = k * s := ⟨n / s, by have := Nat.div_add_mod n s; rw [h, Nat.add_zero, Nat.mul_comm] at this; exact this.symm⟩
    have a1 : y - 1 < k := Nat.lt_of_mul_lt_mul_right h1
    have a2 : k ≤ y := Nat.le_of_mul_le_mul_right h2 (by omega)
    rw [show k = y by omega]
  · rintro rfl; exact Nat.mul_mod_left _ _
theorem CM.pad_of (xs : List Nat) (z : Nat) : xs ++ List.replicate z 0 = CM.pad (xs.length + z) xs := by
  refine CM.list_eq (by rw [CM.pad_length, List.length_append, List.length_replicate]) fun i hi => ?_
  rw [List.length_append, List.length_replicate] at hi
  rw [CM.pad_at _ _ _ hi]
  by_cases h : i < xs.length
  · rw [List.getD_eq_getElem?_getD, List.getElem?_append_left h, ← List.getD_eq_getElem?_getD]
  · rw [List.getD_eq_getElem?_getD, List.getElem?_append_right (by omega), List.getD_eq_getElem?_getD, List.getElem?_eq_none (l := xs) (by omega)]
    simp [show i - xs.length < z by omega]
theorem CM.pad_part (s : Nat) (xs : List Nat) (n j : Nat) (h : (j + 1) * s ≤ n) : ((CM.pad n xs).take (j * s + s)).drop (j * s) = CM.sym s xs j := by
  have hh : j * s + s ≤ n := by rw [Nat.add_mul, Nat.one_mul] at h; exact h
  refine CM.list_eq (by rw [List.length_drop, List.length_take, CM.pad_length, CM.sym_length]; omega) fun i hi => ?_
  rw [List.length_drop, List.length_take, CM.pad_length] at hi
  rw [CM.sym_at _ _ _ _ (by omega), List.getD_eq_getElem?_getD, List.getElem?_drop, List.getElem?_take, if_pos (by omega), ← List.getD_eq_getElem?_getD, CM.pad_at _ _ _ (by omega)]
theorem Own.owns {w : World} {b B : Nat} {T : TypeId} {xs : List Nat} (h : Own w b T xs) (hB : B ≤ b) : w.ownsRow B T 1 (.slice (some ⟨b, 0, none⟩) xs.length xs.length) xs.length (u8vs xs) := by
  obtain ⟨⟨cs, hc, hs, hi⟩, hm, _⟩ := h
  refine ⟨by rw [u8vs_length, Nat.mul_one], .inr ⟨b, xs.length, cs, rfl, hB, hc, Nat.le_refl _, hm, by rw [hs, Nat.mul_one], ?_⟩⟩
  rw [Nat.mul_one]
  apply List.ext_getElem?
  intro i
  by_cases h : i < xs.length
  · rw [List.getElem?_take, if_pos h, Array.getElem?_toList, hi i h]
    simp [u8vs, h]
  · rw [List.getElem?_take, if_neg h, List.getElem?_eq_none (by rw [u8vs_length]; omega)]
theorem Mats.raise {w : World} {B R R' : Nat} {T : TypeId} {v : Value} {k : Nat} {l : List (List Nat)} (h : Mats w B R T v k l) (hR : R ≤ R') : Mats w B R' T v k l := by
  obtain ⟨vs, ho, hr⟩ := h
  exact ⟨vs, ho, fun j hj => let ⟨u, h1, h2⟩ := hr j hj; ⟨u, h1, h2.mono hR⟩⟩
theorem CM.pad_lt (n : Nat) (xs : List Nat) (h : ∀ x ∈ xs, x < 256) : ∀ x ∈ CM.pad n xs, x < 256 := by
  intro x hx
  obtain ⟨j, hj, rfl⟩ := List.mem_map.1 hx
  exact getD_lt xs h j
theorem u8vs_zero (xs : List Nat) (z : Nat) : u8vs (xs ++ List.replicate z 0) ++ [Value.int .u8 0] = u8vs (xs ++ List.replicate (z + 1) 0) := by
  rw [List.replicate_succ', ← List.append_assoc]
  simp [u8vs]
theorem owns_at {w : World} {B n : Nat} {T : TypeId} {v : Value} {vs : List Value} (h : w.ownsRow B T 1 v n vs) (hn : 0 < n) : ∃ g cap, v = .slice (some ⟨g, 0, none⟩) n cap ∧ n ≤ cap ∧ cap ≤ maxLen := by
  rcases h.2 with ⟨rfl, rfl⟩ | ⟨g, cap, cur, rfl, _, _, h1, h2, _⟩
  · omega
  · exact ⟨g, cap, rfl, h1, h2⟩
theorem rcut_wrong (b s m : Int) (v : Value) (w : World) (h : ¬ CM.Right b s m) :
    Calls Tryz.prog 29 #[PV b s m, v] w (CutOut w 1 []) := by
  go_enter Tryz.func29, Tryz.ntmps29
  go_wp2_with fail
  generalize hw1 : World.alloc w _ = w1
  have hx1 : w.Extends w1 := by subst hw1; exact prm_ext_alloc _ _
  have hp : PAt w1 w.heap.size b s m := by subst hw1; exact PAt.new w 25 b s m
  generalize w.heap.size = g at hp ⊢
  clear hw1
  have HX1 := Lib.hid hx1
  have hb1 := hp.lt
  obtain ⟨p0, p1, p2⟩ := hp
  clear hx1
  refine (rright_no b s m w1 h).mono ?_
  rintro e w2 ⟨rfl, hx⟩
  have HX2 := Lib.hid (Gr.ext_trans HX1.out hx)
  go_wp2
  go_returns
  exact ⟨_, by rfl, HX2.out, RwsL.nil _ _ _⟩
theorem rcut_other (b s m : Nat) (v : Value) (xs : List Nat) (w : World) (h : CM.Right b s m) (hn : xs.length ≠ b) (hv : U8s w v xs) :
    Calls Tryz.prog 29 #[PV b s m, v] w (CutOut w 10 []) := by
  obtain ⟨va, vc, rfl, _⟩ := hv.slice
  have hlen := hv.len
  unfold maxLen at hlen
  obtain ⟨n, hn0⟩ : ∃ n, n = xs.length := ⟨_, rfl⟩
  rw [← hn0] at hn hlen ⊢
  have hne : ((n : Int) != b) = true := by simp; omega
  have HR := Lib.hid h
  clear h hv hn0
  go_enter Tryz.func29, Tryz.ntmps29
  go_wp2_with fail
  generalize hw1 : World.alloc w _ = w1
  have hx1 : w.Extends w1 := by subst hw1; exact prm_ext_alloc _ _
  have hp : PAt w1 w.heap.size b s m := by subst hw1; exact PAt.new w 25 b s m
  generalize w.heap.size = g at hp ⊢
  clear hw1
  have HX1 := Lib.hid hx1
  have HP1 := Lib.hid hp
  have hb1 := hp.lt
  obtain ⟨p0, p1, p2⟩ := hp
  clear hx1
  refine (rright_yes b s m w1 HR.out).mono ?_
  rintro e w2 ⟨rfl, hx⟩
  have HX2 := Lib.hid (Gr.ext_trans HX1.out hx)
  have HP2 := Lib.hid (HP1.out.ext hx)
  clear p0 p1 p2 hx
  obtain ⟨p0, p1, p2⟩ := HP2.out
  go_wp2
  go_returns
  exact ⟨_, by rfl, HX2.out, RwsL.nil _ _ _⟩
set_option maxHeartbeats 1000000 in
set_option maxRecDepth 100000 in
theorem rcut_some (b s m : Nat) (v : Value) (xs : List Nat) (w : World) (h : CM.Right b s m) (hn : xs.length = b) (hv : U8s w v xs) :
    Calls Tryz.prog 29 #[PV b s m, v] w (CutOut w 0 (CM.cut b s m xs)) := by
  obtain ⟨va, vc, rfl, _⟩ := hv.slice
  obtain ⟨h1, h2, h3, h4, h5, h6⟩ := CM.right_of h
  have HLT := Lib.hid hv.lt
  have HB := Lib.hid (fun w => rblocks_yes b s m w h)
  have HK := Lib.hid (fun w i hi => rk_in b s m i w h hi)
  have hyl := CM.sy_le b s h1
  have hyp := CM.sy_pos b s
  have hnl := CM.bl_le b s m
  have hnp := CM.bl_pos b s m
  have HLO := Lib.hid (CM.sy_lo b s h1 h3)
  have hhi := CM.sy_hi b s h3
  have hY : CM.sy b s * s ≤ 4000 * 64 := Nat.mul_le_mul (by omega) h4
  have HMOD : Hid (∀ z, b + z ≤ CM.sy b s * s → ((b + z) % s = 0 ↔ b + z = CM.sy b s * s)) := fun z hz => CM.mod_end (CM.sy b s) s (b + z) h3 (by have := HLO.out; omega) hz
  have HPAD : Hid (∀ z, xs ++ List.replicate z 0 = CM.pad (b + z) xs) := fun z => by rw [← hn]; exact CM.pad_of xs z
  have HPART : Hid (∀ j, j < CM.sy b s → ((CM.pad (CM.sy b s * s) xs).take (j * s + s)).drop (j * s) = CM.sym s xs j ∧ j * s + s ≤ CM.sy b s * s) := fun j hj => by
    have := Nat.mul_le_mul_right s (show j + 1 ≤ CM.sy b s from hj)
    exact ⟨CM.pad_part s xs _ j this, by rw [Nat.add_mul, Nat.one_mul] at this; exact this⟩
  have HKI : Hid (∀ i, i < CM.bl b s m → CM.kk b s m i = CM.deal (CM.sy b s) (CM.bl b s m) i) := fun i hi => CM.kk_in b s m i hi
  have HKL : Hid (∀ i, CM.kk b s m i ≤ 40) := fun i => Nat.le_trans (CM.kk_le b s m i h5) h6
  have HAS := Lib.hid (CM.ahead_succ (CM.sy b s) (CM.bl b s m))
  have HAL : Hid (∀ i, i ≤ CM.bl b s m → CM.ahead (CM.sy b s) (CM.bl b s m) i ≤ CM.sy b s) := fun i hi => CM.ahead_le _ _ _ hnp hi
  have HA0 : Hid (CM.ahead (CM.sy b s) (CM.bl b s m) 0 = 0) := CM.ahead_zero _ _
  have HSN : Hid (∀ i, i < CM.bl b s m → (CM.cut b s m xs).take i ++ [CM.blk s xs (CM.ahead (CM.sy b s) (CM.bl b s m) i) (CM.kk b s m i)] = (CM.cut b s m xs).take (i + 1)) := CM.cut_snoc b s m xs
  have HCL : Hid ((CM.cut b s m xs).length = CM.bl b s m) := CM.cut_length _ _ _ _
  have HC0 : Hid ((CM.cut b s m xs).take 0 = []) := by show _ = _; rw [List.take_zero]
  have HCE : Hid ((CM.cut b s m xs).take (CM.bl b s m) = CM.cut b s m xs) := by show _ = _; rw [← CM.cut_length b s m xs, List.take_length]
  have HU := Lib.hid hv
  rw [hn] at HU ⊢
  obtain ⟨i0, hi, hz0, hz1, hz2⟩ := info_parts u8info
  have HI := Lib.hid hi; clear hi
  have HZ0 := Lib.hid hz0; clear hz0
  have HZ1 := Lib.hid hz1; clear hz1
  have HZ2 := Lib.hid hz2; clear hz2
  obtain ⟨i1, hi', hz0', hz1', hz2'⟩ := info_parts bytesinfo
  have HI' := Lib.hid hi'; clear hi'
  have HZ0' := Lib.hid hz0'; clear hz0'
  have HZ1' := Lib.hid hz1'; clear hz1'
  have HZ2' := Lib.hid hz2'; clear hz2'
  obtain ⟨i2, hi'', hz0'', hz1'', hz2''⟩ := info_parts byteslistinfo
  have HI'' := Lib.hid hi''; clear hi''
  have HZ0'' := Lib.hid hz0''; clear hz0''
  have HZ1'' := Lib.hid hz1''; clear hz1''
  have HZ2'' := Lib.hid hz2''; clear hz2''
  have HN := Lib.hid hn
  generalize CM.cut b s m xs = L at *
  generalize CM.bl b s m = n at *
  generalize CM.sy b s = y at *
  generalize hkk : CM.kk b s m = kk at *
  have HR := Lib.hid h
  clear h hn hkk hv HLO
  obtain ⟨Y, hYY⟩ : ∃ Y, Y = y * s := ⟨_, rfl⟩
  rw [← hYY] at hY hhi HMOD HPART
  have HYY := Lib.hid hYY
  clear hYY
  go_enter Tryz.func29, Tryz.ntmps29
  go_wp2_with fail
  generalize hw1 : World.alloc w _ = w1
  have hx1 : w.Extends w1 := by subst hw1; exact prm_ext_alloc _ _
  have hp : PAt w1 w.heap.size b s m := by subst hw1; exact PAt.new w 25 b s m
  generalize w.heap.size = bx at hp ⊢
  clear hw1
  have HX1 := Lib.hid hx1
  have HP1 := Lib.hid hp
  have hb1 := hp.lt
  obtain ⟨p0, p1, p2⟩ := hp
  clear hx1
  refine (rright_yes b s m w1 HR.out).mono ?_
  rintro e w2 ⟨rfl, hx⟩
  have HX2 := Lib.hid (Gr.ext_trans HX1.out hx)
  have HP2 := Lib.hid (HP1.out.ext hx)
  have hb2 := HP2.out.lt
  clear p0 p1 p2 hx
  obtain ⟨p0, p1, p2⟩ := HP2.out
  go_wp2_with fail
  refine (rsum_any 0 _ [] w2 (Rws.nil _ _ _)).mono ?_
  rintro e w3 ⟨rfl, hb3, ho3⟩
  have hc0 : RM.cut 0 = 0 := by decide
  rw [hc0] at ho3 ⊢
  have HO3 : Hid (w3.ownsRow w2.heap.size 5 1 (.slice (some ⟨w2.heap.size, 0, none⟩) 0 0) 0 (u8vs [])) := ho3.owns (Nat.le_refl _)
  have hx3 := ext_below hb3 rfl
  have HX3 := Lib.hid (Gr.ext_trans HX2.out hx3)
  have HP3 := Lib.hid (HP2.out.ext hx3)
  have hs3 := hx3.size
  have HX23 := Lib.hid hx3
  clear p0 p1 p2 hb3 ho3 hc0 hx3
  have HB2 : Hid (w.heap.size ≤ w2.heap.size) := HX2.out.size
  generalize w2.heap.size = g at *
  go_wp2_with (at_builtin; refine wpList_append_own_src _ rfl _ _ 30 30 rfl g 5 i0 (.int .u8 0) 1 1 Tryz.underlying30 HI.out HZ0.out HZ1.out HZ2.out rfl _ _ _ rfl HO3.out _ b (u8vs xs) rfl (by have := (HU.out.ext HX3.out).src Tryz.underlying30; rw [HN.out] at this; exact this) (by unfold maxLen; omega) (by omega) (by omega) ?_)
  intro u w4 ho4 hg4 _
  have HO4 : Hid (w4.ownsRow g 5 1 u (b + 0) (u8vs (xs ++ List.replicate 0 0))) := by
    show World.ownsRow _ _ _ _ _ _ _
    rw [List.replicate_zero, List.append_nil]; exact ho4
  have HX4 : Hid (w.Extends w4) := ext_own HX3.out hg4 (fun x hx => by cases hx; exact HB2.out)
  have HP4 : Hid (PAt w4 bx b s m) := HP3.out.own hg4 (fun x hx => by cases hx; exact hb2)
  have hs4 : g ≤ w4.heap.size := Nat.le_trans hs3 hg4.size
  clear ho4 hg4 HO3
  go_wp2_with fail
  go_loopw [6] (fun u wr => ∃ z : Nat, b + z ≤ Y ∧ Hid (wr.ownsRow g 5 1 u (b + z) (u8vs (xs ++ List.replicate z 0))) ∧ Hid (w.Extends wr) ∧ Hid (PAt wr bx b s m) ∧ Hid (g ≤ wr.heap.size)) (fun u _ => Y - slen u)
  case atStart => exact ⟨0, by omega, HO4, HX4, HP4, Lib.hid hs4⟩
  case round =>
    obtain ⟨z, hz, HO, HX, HP, HS⟩ := hrel
    obtain ⟨ua, uc, rfl⟩ := owns_slice HO.out
    obtain ⟨p0, p1, p2⟩ := HP.out
    have hbr := HP.out.lt
    have HM := Lib.hid (HMOD.out z hz)
    obtain ⟨t, ht⟩ : ∃ t, t = b + z := ⟨_, rfl⟩
    rw [← ht] at HO HM hz ⊢
    have HT := Lib.hid ht
    clear ht
    have hrm : (t : Int) % s = (t % s : Nat) := by rw [Int.natCast_emod]
    obtain ⟨r, hr⟩ : ∃ r, r = t % s := ⟨_, rfl⟩
    rw [← hr] at HM hrm
    clear hr
    have hs0 := HS.out
    by_cases h7 : r = 0
    · subst h7
      obtain rfl : t = Y := HM.out.1 rfl
      have HO5 := HO.out
      rw [HPAD.out, ← HT.out] at HO5
      have HU5 : Hid (U8s wr (.slice ua t uc) (CM.pad t xs)) := owns_u8s HO5 (CM.pad_lt t xs HLT.out)
      obtain ⟨ga, cap, e, hc1, hc2⟩ := owns_at HO5 (by omega)
      cases e
      have HX5 := HX
      have HP5 := HP
      clear HO HO5 HX HP HM p0 p1 p2 hbr
      obtain ⟨w5, hw5⟩ : ∃ w5, w5 = wr := ⟨_, rfl⟩
      rw [← hw5] at HU5 HX5 HP5 hs0 HS ⊢
      clear hw5 wr
      have hb5 := HP5.out.lt
      obtain ⟨p0, p1, p2⟩ := HP5.out
      go_wp2_with fail
      clear p0 p1 p2 hrm
      go_loopw [7, 8, 9] (fun o nn i wr => ∃ q : Nat, q ≤ n ∧ i = .int .i64 q ∧ nn = .int .i64 (CM.ahead y n q * s : Nat) ∧ Hid (w5.Extends wr) ∧ Hid (Mts wr w5.heap.size 73 30 o q (L.take q))) (fun _ _ i _ => (n - intOf i).toNat)
      case atStart => exact ⟨0, by omega, rfl, by rw [HA0.out]; simp, Lib.hid (Gr.ext_refl _), by rw [HC0.out]; exact Lib.hid (Mts.nil _ _ _ _)⟩
      case round =>
        obtain ⟨q, hq, rfl, rfl, HX, HM⟩ := hrel
        have HPr := Lib.hid (HP5.out.ext HX.out)
        have hbr := HPr.out.lt
        obtain ⟨p0, p1, p2⟩ := HPr.out
        go_wp2_with fail
        refine (HB.out wr).mono ?_
        rintro e wo ⟨rfl, hx⟩
        have HXo := Lib.hid (Gr.ext_trans HX.out hx)
        have HMo := Lib.hid (HM.out.ext hx)
        have HPo := Lib.hid (HPr.out.ext hx)
        clear HX HM HPr hbr p0 p1 p2 hx
        by_cases h8 : q < n
        · have HKQ := Lib.hid (fun w => HK.out w q h8)
          have HDQ := Lib.hid (HKI.out q h8)
          have hkl := HKL.out q
          have HAQ := Lib.hid (HAS.out q)
          have haq := HAL.out (q + 1) (by omega)
          have HSQ := Lib.hid (HSN.out q h8)
          rw [HAQ.out, ← HDQ.out] at haq
          generalize kk q = k at *
          generalize CM.ahead y n q = a at *
          obtain ⟨oa, oc, rfl⟩ := HMo.out.slice
          go_wp2_with fail
          go_loopw [8, 10, 11] (fun nn l i wr => ∃ z : Nat, z ≤ k ∧ i = .int .i64 z ∧ nn = .int .i64 ((a + z) * s : Nat) ∧ Hid (wo.Extends wr) ∧ Hid (Mats wr wo.heap.size 0 30 l z (CM.blk s xs a z))) (fun _ _ i _ => (k - intOf i).toNat)
          case atStart => exact ⟨0, by omega, rfl, rfl, Lib.hid (Gr.ext_refl _), Lib.hid (Mats.nil _ _ _ _ _)⟩
          case round =>
            obtain ⟨z, hz, rfl, rfl, HX, HM⟩ := hrel
            have HPr := Lib.hid (HPo.out.ext HX.out)
            have hbr := HPr.out.lt
            obtain ⟨p0, p1, p2⟩ := HPr.out
            obtain ⟨pp, hpp⟩ : ∃ pp, pp = (a + z) * s := ⟨_, rfl⟩
            rw [← hpp]
            have HPP := Lib.hid hpp
            clear hpp
            go_wp2_with fail
            refine (HKQ.out wr).mono ?_
            rintro e w7 ⟨rfl, hx⟩
            have HX7 := Lib.hid (Gr.ext_trans HX.out hx)
            have HM7 := Lib.hid (HM.out.ext hx)
            have HP7 := Lib.hid (HPr.out.ext hx)
            have hb7 := HP7.out.lt
            clear HX HM HPr hbr p0 p1 p2 hx
            obtain ⟨p0, p1, p2⟩ := HP7.out
            by_cases h9 : z < k
            · obtain ⟨hpe, hple⟩ := HPART.out (a + z) (by omega)
              rw [← HPP.out] at hpe hple
              have HUP : Hid (U8s w7 (.slice (some ⟨ga, pp, none⟩) s (uc - pp)) (CM.sym s xs (a + z))) := by
                have hu := HU5.out.ext (Gr.ext_trans HXo.out HX7.out)
                have hu' : U8s w7 (.slice (some ⟨ga, 0, none⟩) (CM.pad t xs).length uc) (CM.pad t xs) := by rw [CM.pad_length]; exact hu
                obtain ⟨a', e, hv⟩ := hu'.sliced pp (pp + s) (by omega) (by rw [CM.pad_length]; exact hple)
                rw [hpe] at hv
                have e2 : Go.sliced (some ⟨ga, 0, none⟩) pp (pp + s) uc 1 = .slice (some ⟨ga, pp, none⟩) s (uc - pp) := by
                  unfold Go.sliced
                  rw [if_neg (by omega)]
                  simp [Addr.add_mid]
                rw [e2] at e
                injection e with e3 e4 e5
                subst e3
                rw [show pp + s - pp = s by omega] at hv
                exact hv
              have HSL := Lib.hid (CM.sym_length s xs (a + z))
              have HSLT := Lib.hid (CM.sym_lt s xs (a + z) HLT.out)
              have HBS := Lib.hid (CM.blk_snoc s xs a z)
              have HBL := Lib.hid (CM.blk_length s xs a z)
              generalize CM.sym s xs (a + z) = row at *
              have HSRC : Hid (Src Tryz.prog 1 30 (.slice (some ⟨ga, pp, none⟩) (pp + s - pp) (uc - pp)) s (u8vs row) w7) := by
                show Src _ _ _ _ _ _ _
                rw [show pp + s - pp = s by omega]
                have := HUP.out.src Tryz.underlying30
                rw [HSL.out] at this
                exact this
              have hnc : ¬ uc = pp := by omega
              have hsz7 := HX7.out.size
              obtain ⟨la, lc, rfl⟩ := HM7.out.slice
              go_wp2_with (at_builtin; refine wpList_append_own_src _ rfl (.const (.slice none 0 0)) _ 30 30 rfl wo.heap.size 5 i0 (.int .u8 0) 1 1 Tryz.underlying30 HI.out HZ0.out HZ1.out HZ2.out rfl _ _ _ rfl (World.ownsRow_nil _ _ _ _) _ s (u8vs row) rfl HSRC.out (by unfold maxLen; omega) (by omega) (by omega) ?_)
              intro x8 w8 ho8 hg8 _
              have hx8 : w7.Extends w8 := ext_own (Gr.ext_refl _) hg8 (fun x hx => by cases hx)
              have HX8 := Lib.hid (Gr.ext_trans HX7.out hx8)
              have HM8 := Lib.hid (HM7.out.ext hx8)
              have HOK8 : Hid (RowOk w8 0 x8 row) := owns_rowok ho8 HSLT.out
              obtain ⟨ra, rc, rfl⟩ := owns_slice ho8
              have hb8 : bx < w8.heap.size := Nat.lt_of_lt_of_le hb7 hx8.size
              have hsz8 := HX8.out.size
              have HP8 := Lib.hid (HP7.out.ext hx8)
              obtain ⟨vs, hown, hrows⟩ := HM8.out
              have HOWN := Lib.hid hown
              have HROWS := Lib.hid hrows
              have HNE : Hid (∀ x, (Value.slice la z lc).ownBlock = some x → wo.heap.size ≤ x) := fun x hx => (HOWN.out.lt x hx).1
              clear ho8 hg8 hx8 hown hrows HM7 HSRC HUP p0 p1 p2
              go_wp2_with (at_builtin; refine wpList_append_own_src _ rfl _ _ 73 73 rfl wo.heap.size 30 i1 (.slice none 0 0) 1 24 Tryz.underlying73 HI'.out HZ0'.out HZ1'.out HZ2'.out rfl _ _ _ rfl (HOWN.out.alloc _) _ 1 [.slice ra s rc] rfl (src_one Tryz.underlying73 _ _ rfl rfl) (by unfold maxLen; omega) (by omega) (by simp; omega) ?_)
              intro v9 w9 ho9 hg9 _
              have HX9 : Hid (wo.Extends w9) := ext_own (Gr.ext_trans HX8.out (ext_alloc _ _)) hg9 HNE.out
              have HP9 : Hid (PAt w9 bx b s m) := HPo.out.ext HX9.out
              have HM9 : Hid (Mats w9 wo.heap.size 0 30 v9 (z + 1) (CM.blk s xs a (z + 1))) := by
                show Mats _ _ _ _ _ _ _
                rw [← HBS.out]
                exact Mats.snoc (Nat.zero_le _) (by decide) HBL.out.symm (HOWN.out.alloc _) (fun j hj => by obtain ⟨x, e1, e2⟩ := HROWS.out j hj; exact ⟨x, e1, e2.ext (ext_alloc _ _)⟩) (HOK8.out.ext (ext_alloc _ _)) hg9 ho9
              obtain ⟨xa, xc, rfl⟩ := HM9.out.slice
              obtain ⟨p0, p1, p2⟩ := HP9.out
              have hb9 := HP9.out.lt
              have HPN : Hid (pp + s = (a + (z + 1)) * s) := by show _ = _; rw [HPP.out, ← Nat.add_assoc, Nat.add_mul _ 1, Nat.one_mul]
              clear ho9 hg9 HOWN HROWS HNE HM8
              go_wp2
              go_roundw
              case rel => exact ⟨z + 1, by omega, by go_num, by rw [← HPN.out]; go_num, HX9, HM9⟩
              case measure => simp [intOf]; omega
            · obtain rfl : z = k := by omega
              obtain ⟨la, lc, rfl⟩ := HM7.out.slice
              have HMS : Hid (Mats w7 w5.heap.size w5.heap.size 30 (.slice la z lc) (CM.blk s xs a z).length (CM.blk s xs a z)) := by
                show Mats _ _ _ _ _ _ _
                rw [CM.blk_length]; exact (HM7.out.base HXo.out.size).raise (Nat.zero_le _)
              have HXW := Lib.hid (Gr.ext_trans HXo.out HX7.out)
              have hs7 := HXW.out.size
              obtain ⟨vs, hown, hrows⟩ := HMo.out.ext HX7.out
              have HOWN := Lib.hid hown
              have HROWS := Lib.hid hrows
              have HNE : Hid (∀ x, (Value.slice oa q oc).ownBlock = some x → w5.heap.size ≤ x) := fun x hx => (HOWN.out.lt x hx).1
              clear hown hrows p0 p1 p2
              go_wp2_with (at_builtin; refine wpList_append_own_src _ rfl _ _ 64 64 rfl w5.heap.size 73 i2 (.slice none 0 0) 1 24 Tryz.underlying64 HI''.out HZ0''.out HZ1''.out HZ2''.out rfl _ _ _ rfl (HOWN.out.alloc _) _ 1 [.slice la z lc] rfl (src_one Tryz.underlying64 _ _ rfl rfl) (by unfold maxLen; omega) (by omega) (by simp; omega) ?_)
              intro v9 w9 ho9 hg9 _
              have HX9 : Hid (w5.Extends w9) := ext_own (Gr.ext_trans HXW.out (ext_alloc _ _)) hg9 HNE.out
              have HM9 : Hid (Mts w9 w5.heap.size 73 30 v9 (q + 1) (L.take (q + 1))) := by
                show Mts _ _ _ _ _ _ _
                rw [← HSQ.out]
                exact Mts.snoc (by decide) (by decide) (by rw [List.length_take, HCL.out]; omega) (HOWN.out.alloc _) (fun j hj => by obtain ⟨x, e1, e2⟩ := HROWS.out j hj; exact ⟨x, e1, e2.ext (ext_alloc _ _)⟩) (HMS.out.ext (ext_alloc _ _)) hg9 ho9
              have HPN : Hid (CM.ahead y n (q + 1) * s = pp) := by show _ = _; rw [HPP.out, HAQ.out, ← HDQ.out]
              clear ho9 hg9 HOWN HROWS HNE
              go_wp2
              go_roundw
              case rel => exact ⟨q + 1, by omega, by go_num, by rw [HPN.out], HX9, HM9⟩
              case measure => simp [intOf]; omega
        · obtain rfl : q = n := by omega
          have HF : Hid (w.Extends wo ∧ RwsL wo u7 L) := by
            have hm := HMo.out
            rw [HCE.out] at hm
            exact ⟨Gr.ext_trans HX5.out HXo.out, hm.rws HCL.out.symm⟩
          go_wp2
          go_returns
          exact ⟨_, by rfl, HF.out.1, HF.out.2⟩
    · have hne : ((r : Int) != 0) = true := by simp; omega
      have hlt : t < Y := by
        rcases Nat.lt_or_ge t Y with h' | h'
        · exact h'
        · exact absurd (HM.out.2 (by omega)) h7
      have HNE : Hid (∀ x, (Value.slice ua t uc).ownBlock = some x → g ≤ x) := fun x hx => (HO.out.lt x hx).1
      go_wp2_with (at_builtin; refine wpList_append_own_src _ rfl _ _ 30 30 rfl g 5 i0 (.int .u8 0) 1 1 Tryz.underlying30 HI.out HZ0.out HZ1.out HZ2.out rfl _ _ _ rfl (HO.out.alloc _) _ 1 [.int .u8 0] rfl (src_one Tryz.underlying30 _ _ rfl rfl) (by unfold maxLen; omega) (by omega) (by simp; omega) ?_)
      intro v' w' ho' hg' _
      have HP' : Hid (w'.ownsRow g 5 1 v' (t + 1) (u8vs (xs ++ List.replicate (z + 1) 0)) ∧ w.Extends w' ∧ PAt w' bx b s m ∧ g ≤ w'.heap.size) :=
        ⟨by rw [← u8vs_zero]; exact ho', ext_own (Gr.ext_trans HX.out (ext_alloc _ _)) hg' (fun x hx => Nat.le_trans HB2.out (HNE.out x hx)), (HP.out.ext (ext_alloc _ _)).own hg' (fun x hx => Nat.lt_of_lt_of_le hb2 (HNE.out x hx)), Nat.le_trans (Nat.le_trans hs0 (by simp)) hg'.size⟩
      obtain ⟨xa, xc, rfl⟩ := owns_slice HP'.out.1
      clear ho' hg'
      go_wp2
      go_roundw
      case rel => exact ⟨z + 1, by have := HT.out; omega, by rw [show b + (z + 1) = t + 1 by have := HT.out; omega]; exact Lib.hid HP'.out.1, Lib.hid HP'.out.2.1, Lib.hid HP'.out.2.2.1, Lib.hid HP'.out.2.2.2⟩
      case measure => simp [slen]; omega
end Go.Proofs.YtpfmmfapdcbnkaaGreatDoor
namespace Go.Proofs.YtpfmmfapdcbnkaaGreatDoor
set_option maxRecDepth 20000
open Go.RowKit Go.Deep
set_option linter.unusedVariables false
/-- What both programs answer of a shape. -/
structure Asked12 (b s m i : Int) (r : Bool) (y n k : Nat) : Prop where
  rp : ∀ w, Calls Tryz.prog 37 #[PV b s m] w fun e w' => e = .returned (.bool r) ∧ w.Extends w'
  rr : ∀ w, Calls Tryz.prog 14 #[PV b s m] w fun e w' => e = .returned (.bool r) ∧ w.Extends w'
  yp : ∀ w, Calls Tryz.prog 62 #[PV b s m] w fun e w' => e = .returned (.int .i64 (y : Nat)) ∧ w.Extends w'
  yr : ∀ w, Calls Tryz.prog 28 #[PV b s m] w fun e w' => e = .returned (.int .i64 (y : Nat)) ∧ w.Extends w'
  np : ∀ w, Calls Tryz.prog 38 #[PV b s m] w fun e w' => e = .returned (.int .i64 (n : Nat)) ∧ w.Extends w'
  nr : ∀ w, Calls Tryz.prog 15 #[PV b s m] w fun e w' => e = .returned (.int .i64 (n : Nat)) ∧ w.Extends w'
  kp : ∀ w, Calls Tryz.prog 41 #[PV b s m, .int .i64 i] w fun e w' => e = .returned (.int .i64 (k : Nat)) ∧ w.Extends w'
  kr : ∀ w, Calls Tryz.prog 20 #[PV b s m, .int .i64 i] w fun e w' => e = .returned (.int .i64 (k : Nat)) ∧ w.Extends w'
theorem right_nat {b s m : Int} (h : CM.Right b s m) : ∃ B S M : Nat, b = B ∧ s = S ∧ m = M := by
  obtain ⟨h1, h2, h3, h4, h5, h6⟩ := h
  exact ⟨b.toNat, s.toNat, m.toNat, by omega, by omega, by omega⟩
theorem asked12 (b s m i : Int) : ∃ r y n k, Asked12 b s m i r y n k := by
  by_cases h : CM.Right b s m
  · obtain ⟨B, S, M, rfl, rfl, rfl⟩ := right_nat h
    by_cases hi : 0 ≤ i ∧ i < CM.bl B S M
    · obtain ⟨I, rfl⟩ := Int.eq_ofNat_of_zero_le hi.1
      exact ⟨true, _, _, _, fun w => right_yes _ _ _ w h, fun w => rright_yes _ _ _ w h, fun w => sym_yes _ _ _ w h, fun w => rsym_yes _ _ _ w h, fun w => blocks_yes _ _ _ w h, fun w => rblocks_yes _ _ _ w h, fun w => k_in B S M I w h (by omega), fun w => rk_in B S M I w h (by omega)⟩
    · refine ⟨true, _, _, 0, fun w => right_yes _ _ _ w h, fun w => rright_yes _ _ _ w h, fun w => sym_yes _ _ _ w h, fun w => rsym_yes _ _ _ w h, fun w => blocks_yes _ _ _ w h, fun w => rblocks_yes _ _ _ w h, fun w => ?_, fun w => ?_⟩
      · by_cases h0 : i < 0
        · exact k_neg _ _ _ i w h0
        · exact k_over B S M i w h (by omega)
      · by_cases h0 : i < 0
        · exact rk_neg _ _ _ i w h0
        · exact rk_over B S M i w h (by omega)
  · refine ⟨false, 0, 0, 0, fun w => right_no _ _ _ w h, fun w => rright_no _ _ _ w h, fun w => sym_no _ _ _ w h, fun w => rsym_no _ _ _ w h, fun w => blocks_no _ _ _ w h, fun w => rblocks_no _ _ _ w h, fun w => ?_, fun w => ?_⟩
    · by_cases h0 : i < 0
      · exact k_neg _ _ _ i w h0
      · exact k_wrong _ _ _ i w h (by omega)
    · by_cases h0 : i < 0
      · exact rk_neg _ _ _ i w h0
      · exact rk_wrong _ _ _ i w h (by omega)
end Go.Proofs.YtpfmmfapdcbnkaaGreatDoor
namespace Go.Proofs.YtpfmmfapdcbnkaaGreatDoor
set_option maxRecDepth 20000
open Go.RowKit Go.Deep
set_option linter.unusedVariables false
theorem seed_exists (n : Nat) : ∃ r er, SM.SeedIs n r er := by
  by_cases h : ∃ r, r < 256 ∧ SM.Good n r ∧ ∀ i, i < r → ¬ SM.Good n i
  · obtain ⟨r, h1, h2, h3⟩ := h
    exact ⟨r, 0, .inl ⟨rfl, h1, h2, h3⟩⟩
  · refine ⟨0, 5, .inr ⟨rfl, rfl, fun i => ?_⟩⟩
    induction i using Nat.strongRecOn with
    | ind i ih => exact fun hi hg => h ⟨i, hi, hg, fun m hm => ih m hm (by omega)⟩
end Go.Proofs.YtpfmmfapdcbnkaaGreatDoor
namespace Go.Proofs.YtpfmmfapdcbnkaaGreatDoor
set_option maxRecDepth 20000
open Go.RowKit Go.Deep
set_option linter.unusedVariables false
/-- A block there is. -/
structure B10 (size : Int) (src : List (List Nat)) (k j sz : Nat) (c : List (List Nat)) : Prop where
  hs : size = (sz : Int)
  s1 : 1 ≤ sz
  s2 : sz ≤ 64
  hk : src.length = k
  k1 : 1 ≤ k
  k2 : k ≤ 40
  all : AllB size src
  seed : SM.SeedIs k j 0
  parts : BM.PartsIs k j sz src c
theorem B10.j {size : Int} {src c : List (List Nat)} {k j sz : Nat} (h : B10 size src k j sz c) : j ≤ 255 := by have := h.seed.lt; omega
theorem B10.len {size : Int} {src c : List (List Nat)} {k j sz : Nat} (h : B10 size src k j sz c) : c.length = PM.l k := h.parts.len
theorem B10.new {size : Int} {src c : List (List Nat)} {k j sz : Nat} (h : B10 size src k j sz c) (v : Value) (w : World) (hv : Rws w v src) (hT : Tab w) :
    Calls Tryz.prog 44 #[.int .i64 size, v] w (BNew w k j sz c) := by
  rw [h.hs]; exact new_some sz v src k w h.s1 h.s2 h.hk h.k1 h.k2 hv (h.hs ▸ h.all) hT j h.seed c h.parts
theorem B10.refNew {size : Int} {src c : List (List Nat)} {k j sz : Nat} (h : B10 size src k j sz c) (v : Value) (w : World) (hv : Rws w v src) :
    Calls Tryz.prog 30 #[.int .i64 size, v] w (RNew w k j sz c) := by
  rw [h.hs]; exact refNew_some sz v src k w h.s1 h.s2 h.hk h.k1 h.k2 hv (h.hs ▸ h.all) j h.seed c h.parts
theorem B10.symbol {size : Int} {src c : List (List Nat)} {k j sz : Nat} (h : B10 size src k j sz c) (b : Nat) (esi : Int) (v : Value) (w : World) (hb : BAt w b k (PM.s k) 2 j sz v) (hv : Rws w v c) (hT : Tab w) :
    Calls Tryz.prog 45 #[.pointer (some ⟨b, 0, none⟩), .int .i64 esi] w (SymOut w (symOf k j sz c esi) (symErr esi)) :=
  symbol_any b k j sz esi v c w h.k1 h.k2 h.j h.s1 h.s2 h.len hb hv hT
theorem B10.refSymbol {size : Int} {src c : List (List Nat)} {k j sz : Nat} (h : B10 size src k j sz c) (b : Nat) (esi : Int) (v : Value) (w : World) (hb : RAt w b k j sz v) (hv : Rws w v c) :
    Calls Tryz.prog 32 #[.pointer (some ⟨b, 0, none⟩), .int .i64 esi] w (SymOut w (symOf k j sz c esi) (symErr esi)) :=
  refSymbol_any b k j sz esi v c w h.k1 h.k2 h.j h.s1 h.s2 h.len hb hv
end Go.Proofs.YtpfmmfapdcbnkaaGreatDoor
