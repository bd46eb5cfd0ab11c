/- In one text: ObjRec, OpenRec, Append3, Says, SeeFirst, RndLaid, SeeFind. -/
import Derived.Lib.SmallJoins
import Derived.Lib.LaidTab
import Derived.MakeChecks
import Derived.Stop.Joined
import Derived.OpenShut
import Derived.Test.YtippckajlghimaaGreatDoorM1
import Derived.Test.YtippckajlghimaaGreatDoorM2
import Derived.Test.YtippckajlghimaaGreatDoorM3
import Derived.Test.YtippckajlghimaaGreatDoorM8
import Derived.Test.YtippckajlghimaaGreatDoorM10
import Derived.Test.YtippckajlghimaaGreatDoorM11
import Derived.Test.YtippckajlghimaaGreatDoorM12
/- Records: what a slice of them reads as; such a slice that a call has appended together. -/
namespace Go.Proofs.YtippckajlghimaaGreatDoor
set_option maxRecDepth 20000
open Go.RowKit Go.Deep
set_option linter.unusedVariables false
/-- A record: id, shape, block, number, gone, until, data. -/
structure Rc where
  p : Int
  n : Int
  b : Int
  s : Int
  m : Int
  k : Int
  e : Int
  g : Bool
  u : Int
  d : List Nat
def Rc.zero : Rc := ⟨0, 0, 0, 0, 0, 0, 0, false, 0, []⟩
/-- Its cells, and the record as a value; v: its data. -/
def Rc.cells (r : Rc) (v : Value) : List Value := [.int .i64 r.p, .int .i64 r.n, .int .i64 r.b, .int .i64 r.s, .int .i64 r.m, .int .i64 r.k, .int .i64 r.e, .bool r.g, .int .i64 r.u, v]
def Rc.val (r : Rc) (v : Value) : Value := .agg #[.int .i64 r.p, .int .i64 r.n, .int .i64 r.b, .int .i64 r.s, .int .i64 r.m, .int .i64 r.k, .int .i64 r.e, .bool r.g, .int .i64 r.u, v]
theorem recinfo : (Tryz.prog.info? 49).map (fun i => (i.zero, i.size, i.bytes)) = some (some (Rc.zero.val (.slice none 0 0)), 10, 96) := by kernel_rfl
/-- The record whose cells begin at b, off. -/
def RCell (w : World) (b off : Nat) (r : Rc) : Prop := ∃ a c, w.rangeAt b off (r.cells (.slice a r.d.length c)) ∧ U8s w (.slice a r.d.length c) r.d
theorem rangeAt_ext {w w' : World} {b off : Nat} {l : List Value} (h : w.rangeAt b off l) (hx : w.Extends w') : w'.rangeAt b off l := fun j v hv => hx.cell_of (h j v hv)
theorem RCell.ext {w w' : World} {b off : Nat} {r : Rc} (h : RCell w b off r) (hx : w.Extends w') : RCell w' b off r := by
  obtain ⟨a, c, h1, h2⟩ := h
  exact ⟨a, c, rangeAt_ext h1 hx, h2.ext hx⟩
/-- All of its cells, one by one. -/
theorem RCell.ten {w : World} {b off : Nat} {r : Rc} {v : Value} (h : w.rangeAt b off (r.cells v)) :
    w.cell? ⟨b, off, none⟩ = some (.int .i64 r.p) ∧ w.cell? ⟨b, off + 1, none⟩ = some (.int .i64 r.n) ∧ w.cell? ⟨b, off + 2, none⟩ = some (.int .i64 r.b) ∧ w.cell? ⟨b, off + 3, none⟩ = some (.int .i64 r.s) ∧ w.cell? ⟨b, off + 4, none⟩ = some (.int .i64 r.m) ∧
    w.cell? ⟨b, off + 5, none⟩ = some (.int .i64 r.k) ∧ w.cell? ⟨b, off + 6, none⟩ = some (.int .i64 r.e) ∧ w.cell? ⟨b, off + 7, none⟩ = some (.bool r.g) ∧ w.cell? ⟨b, off + 8, none⟩ = some (.int .i64 r.u) ∧ w.cell? ⟨b, off + 9, none⟩ = some v :=
  ⟨h 0 _ rfl, h 1 _ rfl, h 2 _ rfl, h 3 _ rfl, h 4 _ rfl, h 5 _ rfl, h 6 _ rfl, h 7 _ rfl, h 8 _ rfl, h 9 _ rfl⟩
/-- v is a slice of the records l in w. -/
def Recs (w : World) (v : Value) (l : List Rc) : Prop :=
  (l = [] ∧ ∃ a cap, v = .slice a 0 cap) ∨
  ∃ b off cap, v = .slice (some ⟨b, off, none⟩) l.length cap ∧ l.length ≤ cap ∧ l.length ≤ maxLen ∧ b < w.heap.size ∧ ∀ k, k < l.length → RCell w b (off + k * 10) (l.getD k Rc.zero)
theorem Recs.ext {w w' : World} {v : Value} {l : List Rc} (h : Recs w v l) (hx : w.Extends w') : Recs w' v l := by
  rcases h with h | ⟨b, off, cap, h1, h2, h3, h4, h5⟩
  · exact .inl h
  · exact .inr ⟨b, off, cap, h1, h2, h3, Nat.lt_of_lt_of_le h4 hx.size, fun k hk => (h5 k hk).ext hx⟩
theorem Recs.slice {w : World} {v : Value} {l : List Rc} (h : Recs w v l) : ∃ a cap, v = .slice a l.length cap := by
  rcases h with ⟨rfl, a, cap, rfl⟩ | ⟨b, off, cap, rfl, _⟩
  · exact ⟨a, cap, rfl⟩
  · exact ⟨_, cap, rfl⟩
theorem Recs.len {w : World} {v : Value} {l : List Rc} (h : Recs w v l) : l.length ≤ maxLen := by
  rcases h with ⟨rfl, _⟩ | ⟨b, off, cap, _, _, h, _⟩
  · exact Nat.zero_le _
  · exact h
theorem Recs.at {w : World} {a : Option Addr} {n cap : Nat} {l : List Rc} (h : Recs w (.slice a n cap) l) : n = l.length ∧ (0 < n → ∃ b off, a = some ⟨b, off, none⟩ ∧ b < w.heap.size ∧ ∀ k, k < n → RCell w b (off + k * 10) (l.getD k Rc.zero)) := by
  rcases h with ⟨rfl, a', cap', hv⟩ | ⟨b, off, cap', hv, h2, h3, h4, h5⟩
  · cases hv; exact ⟨rfl, fun h => absurd h (Nat.lt_irrefl _)⟩
  · cases hv; exact ⟨rfl, fun _ => ⟨b, off, rfl, h4, h5⟩⟩
theorem Recs.all_lt {w : World} {v : Value} {l : List Rc} (h : Recs w v l) : ∀ r ∈ l, ∀ x ∈ r.d, x < 256 := by
  rcases h with ⟨rfl, _⟩ | ⟨b, off, cap, _, _, _, _, h5⟩
  · intro p hp; cases hp
  · intro p hp
    obtain ⟨k, hk, rfl⟩ := List.mem_iff_getElem.1 hp
    obtain ⟨_, _, _, h⟩ := h5 k hk
    rw [show l.getD k Rc.zero = l[k] by simp [hk]] at h
    exact h.lt
theorem Recs.nil (w : World) (a : Option Addr) (cap : Nat) : Recs w (.slice a 0 cap) [] := .inl ⟨rfl, a, cap, rfl⟩
/-- v is the call's own slice (in memory from B on) of the first k records of l, their data in memory from before R or in blocks of bytes. -/
def RMats (w : World) (B R : Nat) (v : Value) (k : Nat) (l : List Rc) : Prop := ∃ vs, w.ownsRow B 49 10 v k vs ∧ ∀ j, j < k → ∃ u, (∀ i, i < 10 → vs[j * 10 + i]? = ((l.getD j Rc.zero).cells u)[i]?) ∧ RowOk w R u (l.getD j Rc.zero).d
theorem RMats.nil (w : World) (B R : Nat) (l : List Rc) : RMats w B R (.slice none 0 0) 0 l := ⟨[], World.ownsRow_nil _ _ _ _, fun j hj => absurd hj (Nat.not_lt_zero _)⟩
theorem RMats.slice {w : World} {B R : Nat} {v : Value} {k : Nat} {l : List Rc} (h : RMats w B R v k l) : ∃ a cap, v = .slice a k cap := by
  obtain ⟨vs, ho, hr⟩ := h
  rcases ho.2 with ⟨rfl, rfl⟩ | ⟨g, cap, cur, rfl, _⟩
  · exact ⟨_, _, rfl⟩
  · exact ⟨_, _, rfl⟩
theorem RMats.ext {w w' : World} {B R : Nat} {v : Value} {k : Nat} {l : List Rc} (h : RMats w B R v k l) (hx : w.Extends w') : RMats w' B R v k l := by
  obtain ⟨vs, ho, hr⟩ := h
  have hg : w.grownBy w' none := ⟨hx.os, hx.tape, hx.output, hx.size, fun i hi _ => hx.block i hi⟩
  refine ⟨vs, ho.kept hg (by cases v.ownBlock <;> simp), fun j hj => ?_⟩
  obtain ⟨u, h1, h2⟩ := hr j hj
  exact ⟨u, h1, h2.ext hx⟩
theorem Rc.cells_lt (r : Rc) (u : Value) {i : Nat} {v : Value} (h : (r.cells u)[i]? = some v) : i < 10 := by
  rcases Nat.lt_or_ge i 10 with h' | h'
  · exact h'
  · rw [List.getElem?_eq_none (show (r.cells u).length ≤ i from h')] at h; cases h
theorem RMats.recs {w : World} {B R : Nat} {v : Value} {k : Nat} {l : List Rc} (h : RMats w B R v k l) (hk : k = l.length) : Recs w v l := by
  subst hk
  obtain ⟨vs, hown, hrow⟩ := h
  rcases hown.2 with ⟨rfl, h0⟩ | ⟨g, cap, cur, rfl, hbg, hg, hnc, hcm, hcs, htake⟩
  · exact .inl ⟨List.eq_nil_of_length_eq_zero h0, none, 0, rfl⟩
  · refine .inr ⟨g, 0, cap, rfl, hnc, Nat.le_trans hnc hcm, (Array.getElem?_eq_some_iff.1 hg).1, fun j hj => ?_⟩
    obtain ⟨u, hu, ho⟩ := hrow j hj
    obtain ⟨a, c, rfl, _⟩ := ho.1.slice
    refine ⟨a, c, fun i v hv => ?_, ho.1⟩
    have e := hown.cells (g := g) rfl (j * 10 + i) v (by rw [hu i (Rc.cells_lt _ _ hv)]; exact hv)
    rw [Addr.add_mid] at e
    rw [Nat.add_assoc]; exact e
theorem RMats.snoc {w w' : World} {B R : Nat} {v v' u : Value} {k : Nat} {l : List Rc} {vs : List Value} {p : Rc} (hR : R ≤ B) (hk : k = l.length) (hown : w.ownsRow B 49 10 v k vs)
    (hr : ∀ j, j < k → ∃ u, (∀ i, i < 10 → vs[j * 10 + i]? = ((l.getD j Rc.zero).cells u)[i]?) ∧ RowOk w R u (l.getD j Rc.zero).d) (hu : RowOk w R u p.d)
    (hg : w.grownBy w' v.ownBlock) (ho : w'.ownsRow B 49 10 v' (k + 1) (vs ++ p.cells u)) : RMats w' B R v' (k + 1) (l ++ [p]) := by
  have hl : vs.length = k * 10 := hown.1
  have keep : ∀ {x : Value} {xs : List Nat}, RowOk w R x xs → RowOk w' R x xs := fun {x xs} h => by
    by_cases hn : v.ownBlock = none
    · rw [hn] at hg
      exact h.ext (ext_below ⟨hg.os, hg.tape, hg.output, hg.size, fun i hi => hg.block i hi (by simp)⟩ rfl)
    · refine h.grown hg ?_
      rcases (h.mono hR).2 with h0 | h0
      · exact .inl h0
      · refine .inr fun e => ?_
        cases hv : v.ownBlock with
        | none => exact hn hv
        | some g =>
          rw [hv] at e
          obtain ⟨_, h1⟩ := h0 g e
          have hb := (hown.lt g hv).1
          rcases h1 with h1 | ⟨cs, hcs⟩
          · omega
          · rcases hown.2 with ⟨rfl, _⟩ | ⟨g', cap, cur, rfl, hbg, hg', _⟩
            · cases hv
            · simp only [Value.ownBlock, Option.some.injEq] at hv
              subst hv
              rw [hg'] at hcs
              simp only [Option.some.injEq, Obj.cells.injEq] at hcs
              exact absurd hcs.2.1 (by decide)
  refine ⟨_, ho, fun j hj => ?_⟩
  by_cases hjk : j < k
  · obtain ⟨u', hu', ho'⟩ := hr j hjk
    have e : (l ++ [p]).getD j Rc.zero = l.getD j Rc.zero := by rw [List.getD_eq_getElem?_getD, List.getElem?_append_left (by omega), List.getD_eq_getElem?_getD]
    rw [e]
    exact ⟨u', fun i hi => by rw [List.getElem?_append_left (by omega)]; exact hu' i hi, keep ho'⟩
  · obtain rfl : j = k := by omega
    have e : (l ++ [p]).getD j Rc.zero = p := by rw [List.getD_eq_getElem?_getD, List.getElem?_append_right (by omega), hk]; simp
    rw [e]
    exact ⟨u, fun i hi => by rw [List.getElem?_append_right (by omega), hl, show j * 10 + i - j * 10 = i by omega], keep hu⟩
/-- The literal of one record that append(s, x) makes. -/
theorem src_rec {P : Program} {W : World} {T tx e' : TypeId} {r : Rc} {u : Value} (hk : P.underlying tx = some (.slice e')) (s c : Nat) (hs : s = W.heap.size) (h1 : u.oneCell' = true) :
    Src P 10 tx (.slice (some ⟨s, 0, none⟩) 1 c) 1 (r.cells u) (W.alloc (.cells (r.cells u).toArray T)) := by
  subst hs
  refine Src.ofSlice _ hk ⟨W.heap.size, 0, none⟩ 1 c (r.cells u) rfl (fun j v hv => ?_) (fun v hv => ?_)
  · have h0 := heap_alloc_new W (.cells (r.cells u).toArray T)
    rw [Addr.add_mid, cell_of_row _ _ _ _ _ _ h0, List.getElem?_toArray, Nat.zero_add]
    exact hv
  · simp only [Rc.cells, List.mem_cons, List.not_mem_nil, or_false] at hv
    rcases hv with rfl | rfl | rfl | rfl | rfl | rfl | rfl | rfl | rfl | rfl
    all_goals first | exact h1 | rfl
/-- A variable that holds a record, just made. -/
theorem box_rec (w : World) (T : TypeId) (r : Rc) (u : Value) : (w.alloc (.cells (r.cells u).toArray T)).rangeAt w.heap.size 0 (r.cells u) := fun j v hv => by
  have h0 := heap_alloc_new w (.cells (r.cells u).toArray T)
  rw [cell_of_row _ _ _ _ _ _ h0, List.getElem?_toArray, Nat.zero_add]
  exact hv
/-- The record appended to nothing: a slice of one. -/
theorem recs_one (w : World) (T : TypeId) (r : Rc) (a : Option Addr) (c : Nat) (hu : U8s w (.slice a r.d.length c) r.d) : Recs (w.alloc (.cells (r.cells (.slice a r.d.length c)).toArray T)) (.slice (some ⟨w.heap.size, 0, none⟩) 1 1) [r] :=
  .inr ⟨w.heap.size, 0, 1, rfl, Nat.le_refl _, by show 1 ≤ maxLen; decide, by simp, fun k hk => by
    obtain rfl : k = 0 := by simp at hk; omega
    exact ⟨a, c, box_rec w T r _, hu.ext (ext_alloc _ _)⟩⟩
/-- A slice of records from before as a source of append in a later world. -/
theorem Recs.srcs_old {P : Program} {w0 w : World} {v : Value} {l : List Rc} (h : Recs w0 v l) (hx : w0.Extends w) {tx e' : TypeId} (hk : P.underlying tx = some (.slice e')) :
    ∃ vs, Src P 10 tx v l.length vs w ∧ vs.length = l.length * 10 ∧ ∀ j, j < l.length → ∃ u, (∀ i, i < 10 → vs[j * 10 + i]? = ((l.getD j Rc.zero).cells u)[i]?) ∧ RowOk w w0.heap.size u (l.getD j Rc.zero).d := by
  have hn : ∀ (m : Nat), m ≤ l.length → ∃ vs : List Value, vs.length = m * 10 ∧ (∀ j, j < m → ∃ u, (∀ i, i < 10 → vs[j * 10 + i]? = ((l.getD j Rc.zero).cells u)[i]?) ∧ RowOk w w0.heap.size u (l.getD j Rc.zero).d) ∧
      ∀ (a : Option Addr) (cap b off : Nat), v = .slice (some ⟨b, off, none⟩) l.length cap → ∀ q x, vs[q]? = some x → w.cell? ⟨b, off + q, none⟩ = some x := by
    intro m
    induction m with
    | zero => exact fun _ => ⟨[], rfl, fun j hj => absurd hj (Nat.not_lt_zero _), fun _ _ _ _ _ q x hq => by cases hq⟩
    | succ m ih =>
      intro hm
      obtain ⟨vs, hl, hr, hc⟩ := ih (by omega)
      rcases h with ⟨rfl, _⟩ | ⟨b, off, cap, hv, h2, h3, h4, h5⟩
      · simp at hm
      · obtain ⟨a, c, hcell, hu⟩ := h5 m (by omega)
        refine ⟨vs ++ (l.getD m Rc.zero).cells (.slice a (l.getD m Rc.zero).d.length c), by rw [List.length_append, hl]; show m * 10 + 10 = _; omega, fun j hj => ?_, fun a' cap' b' off' hv' q x hq => ?_⟩
        · by_cases hjm : j < m
          · obtain ⟨u, h6, h7⟩ := hr j hjm
            exact ⟨u, fun i hi => by rw [List.getElem?_append_left (by omega)]; exact h6 i hi, h7⟩
          · obtain rfl : j = m := by omega
            exact ⟨_, fun i hi => by rw [List.getElem?_append_right (by omega), hl, show j * 10 + i - j * 10 = i by omega], (RowOk.old hu (Nat.le_refl _)).ext hx⟩
        · by_cases hqm : q < m * 10
          · rw [List.getElem?_append_left (by omega)] at hq
            exact hc a' cap' b' off' hv' q x hq
          · rw [List.getElem?_append_right (by omega), hl] at hq
            rw [hv] at hv'
            simp only [Value.slice.injEq, Option.some.injEq, Addr.mk.injEq, and_true, true_and] at hv'
            obtain ⟨⟨rfl, rfl⟩, _⟩ := hv'
            have := hx.cell_of (hcell (q - m * 10) x hq)
            rw [show off + q = off + m * 10 + (q - m * 10) by omega]
            exact this
  obtain ⟨vs, hl, hr, hc⟩ := hn l.length (Nat.le_refl _)
  refine ⟨vs, ?_, hl, hr⟩
  have hone : ∀ u ∈ vs, u.oneCell' = true := fun u hu => by
    obtain ⟨q, hq, rfl⟩ := List.mem_iff_getElem.1 hu
    obtain ⟨u', h6, h7⟩ := hr (q / 10) (by rw [hl] at hq; omega)
    have e := h6 (q % 10) (Nat.mod_lt _ (by omega))
    rw [show q / 10 * 10 + q % 10 = q by omega, List.getElem?_eq_getElem hq] at e
    have hm := List.mem_of_getElem? e.symm
    simp only [Rc.cells, List.mem_cons, List.not_mem_nil, or_false] at hm
    have hu1 := u8s_one h7.1
    rcases hm with h | h | h | h | h | h | h | h | h | h
    all_goals rw [h]
    all_goals first | exact hu1 | rfl
  rcases h with ⟨rfl, a, cap, rfl⟩ | ⟨b, off, cap, rfl, h2, h3, h4, h5⟩
  · obtain rfl : vs = [] := List.eq_nil_of_length_eq_zero hl
    cases a with
    | none => exact Src.ofNil w hk cap
    | some a => exact Src.ofSlice w hk a 0 cap [] rfl (by simp) (by simp)
  · exact Src.ofSlice w hk ⟨b, off, none⟩ l.length cap vs hl (fun j u hu => by rw [Addr.add_mid]; exact hc none cap b off rfl j u hu) hone
end Go.Proofs.YtippckajlghimaaGreatDoor
/- How arguments that are a struct of two ints, and slices of records, read. -/
namespace Go.Proofs.YtippckajlghimaaGreatDoor
set_option maxRecDepth 20000
open Go.RowKit Go.Deep Go.ChangeShapes Go.WideShapes
set_option linter.unusedVariables false
instance : Inhabited Rc := ⟨Rc.zero⟩
theorem list10 {α : Type} {l : List α} (h : l.length = 10) : ∃ c0 c1 c2 c3 c4 c5 c6 c7 c8 c9, l = [c0, c1, c2, c3, c4, c5, c6, c7, c8, c9] := by
  match l, h with
  | [c0, c1, c2, c3, c4, c5, c6, c7, c8, c9], _ => exact ⟨c0, c1, c2, c3, c4, c5, c6, c7, c8, c9, rfl⟩
theorem list7 {α : Type} {l : List α} (h : l.length = 7) : ∃ c0 c1 c2 c3 c4 c5 c6, l = [c0, c1, c2, c3, c4, c5, c6] := by
  match l, h with
  | [c0, c1, c2, c3, c4, c5, c6], _ => exact ⟨c0, c1, c2, c3, c4, c5, c6, rfl⟩
section
variable {H : Type} {enc : TypeId × Value → H} {P : Program} {w : World} {base : Nat} {held : Bool}
theorem open_two {r : Reach} {b0 : Nat} {t : TypeId} {f0 f1 : Field} {v : Value} {d : DataW H} {p : List MemPlace} {spare : Nat → Bool} (hs : P.underlying t = some (.struct #[f0, f1])) (hone : oneCellFields P #[f0, f1] = true) (hC : P.cellsOf t = 2)
    (k0 : P.underlying f0.type = some (.int .i64)) (k1 : P.underlying f1.type = some (.int .i64))
    (hv : Value.okWide P w r b0 t v) (h : DataW.Trod enc P w base spare held t v d p) :
    ∃ a b : Int, v = .agg #[.int .i64 a, .int .i64 b] ∧ (Lit.int .i64 a).wf = true ∧ (Lit.int .i64 b).wf = true := by
  obtain ⟨v0, v1, y0, y1, n, rfl, _, _, h0, h1⟩ := Joins.open_agg2 hs hone hC hv h
  obtain ⟨a, ha, _, wa⟩ := DataW.trod_int k0 h0
  obtain ⟨b, hb, _, wb⟩ := DataW.trod_int k1 h1
  simp only [List.cons.injEq, and_true] at ha hb
  subst ha; subst hb
  exact ⟨a, b, rfl, wa, wb⟩
/-- Fields at these offsets, of so many cells. -/
def layB (P : Program) (fs : Array Field) (l : List (Nat × Nat)) : Bool := fs.size == l.length && (List.range l.length).all fun i => match fs[i]?, l[i]? with
  | some f, some p => f.offset == p.1 && P.cellsOf f.type == p.2
  | _, _ => false
theorem lay_of {fs : Array Field} {l : List (Nat × Nat)} (h : layB P fs l = true) {i : Nat} {f : Field} {p : Nat × Nat} (hf : fs[i]? = some f) (hp : l[i]? = some p) : f.offset = p.1 ∧ P.cellsOf f.type = p.2 := by
  unfold layB at h
  rw [Bool.and_eq_true] at h
  have hlt : i < l.length := (List.getElem?_eq_some_iff.1 hp).1
  have := List.all_eq_true.1 h.2 i (List.mem_range.2 hlt)
  simp only [hf, hp, Bool.and_eq_true, beq_iff_eq] at this
  exact this
theorem lay_at {fs : Array Field} {l : List (Nat × Nat)} (h : layB P fs l = true) (i : Nat) (f : Field) (o n : Nat) (hf : fs[i]? = some f) (hp : l[i]? = some (o, n)) : f.offset = o ∧ P.cellsOf f.type = n := lay_of h hf hp
theorem ints2 {t : TypeId} {a0 a1 : Field} {fuel : Nat} {c0 c1 : Value} {x : DataW H × List MemPlace} {spare : Nat → Bool} (hs : P.underlying t = some (.struct #[a0, a1])) (hl : layB P #[a0, a1] [(0, 1), (1, 1)] = true) (k0 : P.underlying a0.type = some (.int .i64)) (k1 : P.underlying a1.type = some (.int .i64))
    (h : DataW.trod enc P w base spare held fuel t [c0, c1] = some x) : ∃ p n : Int, c0 = .int .i64 p ∧ c1 = .int .i64 n := by
  obtain ⟨y0, y1, n, _, _, h0, h1⟩ := trod_struct2 hs h
  obtain ⟨o0, n0⟩ := lay_at hl 0 a0 0 1 rfl rfl
  obtain ⟨o1, n1⟩ := lay_at hl 1 a1 1 1 rfl rfl
  rw [o0, n0] at h0
  rw [o1, n1] at h1
  obtain ⟨p, e0, _, _⟩ := DataW.trod_int k0 h0
  obtain ⟨q, e1, _, _⟩ := DataW.trod_int k1 h1
  simp at e0 e1
  exact ⟨p, q, e0, e1⟩
theorem ints3 {t : TypeId} {a0 a1 a2 : Field} {fuel : Nat} {c0 c1 c2 : Value} {x : DataW H × List MemPlace} {spare : Nat → Bool} (hs : P.underlying t = some (.struct #[a0, a1, a2])) (hl : layB P #[a0, a1, a2] [(0, 1), (1, 1), (2, 1)] = true) (k0 : P.underlying a0.type = some (.int .i64)) (k1 : P.underlying a1.type = some (.int .i64)) (k2 : P.underlying a2.type = some (.int .i64))
    (h : DataW.trod enc P w base spare held fuel t [c0, c1, c2] = some x) : ∃ p n m : Int, c0 = .int .i64 p ∧ c1 = .int .i64 n ∧ c2 = .int .i64 m := by
  obtain ⟨y0, y1, y2, n, _, _, h0, h1, h2⟩ := trod_struct3 hs h
  obtain ⟨o0, n0⟩ := lay_at hl 0 a0 0 1 rfl rfl
  obtain ⟨o1, n1⟩ := lay_at hl 1 a1 1 1 rfl rfl
  obtain ⟨o2, n2⟩ := lay_at hl 2 a2 2 1 rfl rfl
  rw [o0, n0] at h0
  rw [o1, n1] at h1
  rw [o2, n2] at h2
  obtain ⟨p, e0, _, _⟩ := DataW.trod_int k0 h0
  obtain ⟨q, e1, _, _⟩ := DataW.trod_int k1 h1
  obtain ⟨r, e2, _, _⟩ := DataW.trod_int k2 h2
  simp at e0 e1 e2
  exact ⟨p, q, r, e0, e1, e2⟩
theorem open_recs {t e : TypeId} {f0 f1 f2 f3 f4 f5 f6 a0 a1 b0 b1 b2 : Field} {q : TypeId} {fuel : Nat} {v : Value} {x : DataW H × List MemPlace} (ht : P.underlying t = some (.slice e)) (he : P.underlying e = some (.struct #[f0, f1, f2, f3, f4, f5, f6])) (hC : P.cellsOf e = 10)
    (hl : layB P #[f0, f1, f2, f3, f4, f5, f6] [(0, 2), (2, 3), (5, 1), (6, 1), (7, 1), (8, 1), (9, 1)] = true)
    (s0 : P.underlying f0.type = some (.struct #[a0, a1])) (l0 : layB P #[a0, a1] [(0, 1), (1, 1)] = true) (ka0 : P.underlying a0.type = some (.int .i64)) (ka1 : P.underlying a1.type = some (.int .i64))
    (s1 : P.underlying f1.type = some (.struct #[b0, b1, b2])) (l1 : layB P #[b0, b1, b2] [(0, 1), (1, 1), (2, 1)] = true) (kb0 : P.underlying b0.type = some (.int .i64)) (kb1 : P.underlying b1.type = some (.int .i64)) (kb2 : P.underlying b2.type = some (.int .i64))
    (k2 : P.underlying f2.type = some (.int .i64)) (k3 : P.underlying f3.type = some (.int .i64)) (k4 : P.underlying f4.type = some .bool) (k5 : P.underlying f5.type = some (.int .i64)) (k6 : P.underlying f6.type = some (.slice q)) (kq : P.underlying q = some (.int .u8)) (cq : P.cellsOf q = 1)
    (hv : ∃ a len cap, v = .slice a len cap) (h : DataW.trod enc P w base (fun _ => true) held fuel t v.cells.toList = some x) : ∃ l, Recs w v l := by
  obtain ⟨a, len, cap, rfl⟩ := hv
  rcases open_slice ht h with ⟨hcs, _⟩ | ⟨a', len', cap', m, n, D, Pl, hcs, _, hlc, hm, hmm, _, hx⟩
  · simp [Value.cells] at hcs
    obtain ⟨rfl, rfl, rfl⟩ := hcs
    exact ⟨[], .inl ⟨rfl, none, 0, rfl⟩⟩
  · simp [Value.cells] at hcs
    obtain ⟨rfl, rfl, rfl⟩ := hcs
    simp only [if_true] at hmm
    subst hmm
    rw [hC] at hx
    by_cases h0 : len = 0
    · subst h0; exact ⟨[], .inl ⟨rfl, _, _, rfl⟩⟩
    obtain ⟨b, off, spot⟩ := a'
    have hspot : spot = none := by
      obtain ⟨cs', hc, _⟩ := hx 0 (by omega)
      obtain ⟨_, hcl, hat⟩ := World.cells?_some hc
      have h1 := hat 0 (by omega)
      rw [List.getElem?_eq_getElem (by omega)] at h1
      simpa [Addr.add] using World.cell?_spot h1
    subst hspot
    have each : ∀ i, i < len → ∃ r : Rc, RCell w b (off + i * 10) r := fun i hi => by
      obtain ⟨cs', hc, hd⟩ := hx i (by omega)
      obtain ⟨_, hcl, hat⟩ := World.cells?_some hc
      obtain ⟨c0, c1, c2, c3, c4, c5, c6, c7, c8, c9, rfl⟩ := list10 hcl
      obtain ⟨xs, n', _, _, _, hxl, hf⟩ := DataW.trod_struct he hd
      obtain ⟨y0, y1, y2, y3, y4, y5, y6, rfl⟩ := list7 hxl
      have g0 := hf 0 f0 rfl
      have g1 := hf 1 f1 rfl
      have g2 := hf 2 f2 rfl
      have g3 := hf 3 f3 rfl
      have g4 := hf 4 f4 rfl
      have g5 := hf 5 f5 rfl
      have g6 := hf 6 f6 rfl
      rw [(lay_at hl 0 f0 0 2 rfl rfl).1, (lay_at hl 0 f0 0 2 rfl rfl).2] at g0
      rw [(lay_at hl 1 f1 2 3 rfl rfl).1, (lay_at hl 1 f1 2 3 rfl rfl).2] at g1
      rw [(lay_at hl 2 f2 5 1 rfl rfl).1, (lay_at hl 2 f2 5 1 rfl rfl).2] at g2
      rw [(lay_at hl 3 f3 6 1 rfl rfl).1, (lay_at hl 3 f3 6 1 rfl rfl).2] at g3
      rw [(lay_at hl 4 f4 7 1 rfl rfl).1, (lay_at hl 4 f4 7 1 rfl rfl).2] at g4
      rw [(lay_at hl 5 f5 8 1 rfl rfl).1, (lay_at hl 5 f5 8 1 rfl rfl).2] at g5
      rw [(lay_at hl 6 f6 9 1 rfl rfl).1, (lay_at hl 6 f6 9 1 rfl rfl).2] at g6
      obtain ⟨p, nn, rfl, rfl⟩ := ints2 s0 l0 ka0 ka1 (show DataW.trod enc P w base (fun _ => true) held n' f0.type [c0, c1] = some y0 from g0)
      obtain ⟨bb, ss, mm, rfl, rfl, rfl⟩ := ints3 s1 l1 kb0 kb1 kb2 (show DataW.trod enc P w base (fun _ => true) held n' f1.type [c2, c3, c4] = some y1 from g1)
      obtain ⟨kk, e5, _, _⟩ := DataW.trod_int k2 (show DataW.trod enc P w base (fun _ => true) held n' f2.type [c5] = some y2 from g2)
      obtain ⟨ee, e6, _, _⟩ := DataW.trod_int k3 (show DataW.trod enc P w base (fun _ => true) held n' f3.type [c6] = some y3 from g3)
      obtain ⟨gg, e7, _⟩ := DataW.trod_bool k4 (show DataW.trod enc P w base (fun _ => true) held n' f4.type [c7] = some y4 from g4)
      obtain ⟨uu, e8, _, _⟩ := DataW.trod_int k5 (show DataW.trod enc P w base (fun _ => true) held n' f5.type [c8] = some y5 from g5)
      have g6' := show DataW.trod enc P w base (fun _ => true) held n' f6.type [c9] = some y6 from g6
      obtain ⟨da, dl, dc, e9⟩ := Joins.slice_form k6 g6'
      simp only [List.cons.injEq, and_true] at e5 e6 e7 e8 e9
      subst e5; subst e6; subst e7; subst e8; subst e9
      obtain ⟨ds, hu⟩ := open_u8s (v := .slice da dl dc) k6 kq cq ⟨_, _, _, rfl⟩ (by simpa [Value.cells] using g6')
      obtain ⟨da', dc', e, _, _⟩ := hu.slice
      simp only [Value.slice.injEq] at e
      obtain ⟨rfl, rfl, rfl⟩ := e
      refine ⟨⟨p, nn, bb, ss, mm, kk, ee, gg, uu, ds⟩, da, dc, fun j v hj => ?_, hu⟩
      have hj10 : j < 10 := Rc.cells_lt _ _ hj
      have h1 := hat j hj10
      rw [Addr.add_mid, Addr.add_mid] at h1
      rw [h1]; exact hj
    obtain ⟨f, hf⟩ := choose_lt each
    have hat : ∀ k, k < len → ((List.range len).map f).getD k Rc.zero = f k := fun k hk => by simp [List.getD_eq_getElem?_getD, hk]
    refine ⟨(List.range len).map f, .inr ⟨b, off, m, by simp, by simpa using hlc, by simp; omega, ?_, fun k hk => ?_⟩⟩
    · obtain ⟨_, _, _, hr, _⟩ := each 0 (by omega)
      exact World.block_lt_of_cell? w _ (hr 0 _ rfl)
    · have hk' : k < len := by simpa using hk
      rw [hat k hk']
      exact hf k hk'
end
end Go.Proofs.YtippckajlghimaaGreatDoor
/- append(s, x...) onto a slice that the call itself made: besides, the array is the old one or a new one, and holds nothing but what is of one kind, its spare room too. -/
namespace Go.Proofs.YtippckajlghimaaGreatDoor
set_option maxRecDepth 20000
open Go.RowKit Go.Deep
set_option linter.unusedVariables false
/-- All cells of the array are C. -/
def CleanBlk (C : Value → Prop) (w : World) (v : Value) : Prop := ∀ (g : Nat) (cs : Array Value) (T : TypeId) (f : Nat × Nat), v.ownBlock = some g → w.heap[g]? = some (.cells cs T f) → ∀ y ∈ cs.toList, C y
theorem CleanBlk.nil (C : Value → Prop) (w : World) : CleanBlk C w (.slice none 0 0) := fun g cs T f hg => by cases hg
theorem CleanBlk.kept {C : Value → Prop} {w w' : World} {v : Value} (h : CleanBlk C w v) (hb : ∀ g, v.ownBlock = some g → w'.heap[g]? = w.heap[g]?) : CleanBlk C w' v := fun g cs T f hg hc => h g cs T f hg (by rw [← hb g hg]; exact hc)
theorem zero_mem {zc : Array Value} {k : Nat} {y : Value} (h : y ∈ (Builtin.zeroCells zc k).toList) : y ∈ zc.toList := by
  unfold Builtin.zeroCells at h
  simp only [Array.toList_map, Array.toList_range, List.mem_map, List.mem_range] at h
  obtain ⟨i, hi, rfl⟩ := h
  have hz : 0 < zc.size := by
    rcases Nat.eq_zero_or_pos zc.size with h0 | h0
    · rw [h0, Nat.mul_zero] at hi; omega
    · exact h0
  have hm := Nat.mod_lt i hz
  rw [getElem!_pos zc (i % zc.size) hm]
  exact Array.getElem_mem_toList hm
section
variable {P : Program} (w : World)
theorem run_append_own_src3 (base : Nat) (t tx ty e : TypeId) (i : TypeInfo) (z : Value) (size bytes : Nat) (ht : P.underlying t = some (.slice e)) (hi : P.info? e = some i) (hz : i.zero = some z)
    (hsize : i.size = size) (hby : i.bytes = bytes) (hzs : z.cells.size = size)
    (v : Value) (n : Nat) (xs : List Value) (hown : w.ownsRow base e size v n xs) (x : Value) (m : Nat) (news : List Value) (hs : Src P size tx x m news w)
    (h63 : n + m ≤ maxLen) (hbytes : (n + m) * bytes ≤ 140737488355328) (hbase : base ≤ w.heap.size) (C : Value → Prop) (hC : CleanBlk C w v) (hCn : ∀ y ∈ news, C y) (hCz : ∀ y ∈ z.cells.toList, C y) :
    ∃ v' w', (Builtin.append_ #[t, tx] ty #[v, x]).run P w = .ok v' w' ∧ w'.ownsRow base e size v' (n + m) (xs ++ news) ∧ w.grownBy w' v.ownBlock ∧
      (v'.ownBlock = v.ownBlock ∨ ∃ g, v'.ownBlock = some g ∧ w.heap.size ≤ g) ∧ CleanBlk C w' v' := by
  subst hsize
  subst hby
  have hsmall : n + m ≤ 9223372036854775807 := by simp only [maxLen] at h63; omega
  have hl := hs.newsLen
  have hlen : (xs ++ news).length = (n + m) * i.size := by rw [List.length_append, hown.1, hl, Nat.add_mul]
  have hCx : ∀ y ∈ xs, C y := fun y hy => by
    rcases hown.2 with ⟨rfl, rfl⟩ | ⟨g, cap, cur, rfl, hbg, hg, hnc, hcm, hcs, htake⟩
    · obtain rfl : xs = [] := List.eq_nil_of_length_eq_zero (by simpa using hown.1)
      cases hy
    · rw [← htake] at hy
      exact hC g cur _ _ rfl hg y (List.mem_of_mem_take hy)
  have fresh : ∀ (k cap' : Nat) (n' : Nat), CleanBlk C (w.drew.alloc (.cells ((xs ++ news).toArray ++ Builtin.zeroCells z.cells k) e)) (.slice (some ⟨w.heap.size, 0, none⟩) n' cap') := fun k cap' n' g cs T f hg hc y hy => by
    simp only [Value.ownBlock, Option.some.injEq] at hg
    subst hg
    rw [show w.heap.size = w.drew.heap.size from rfl, heap_alloc_new] at hc
    simp only [Option.some.injEq, Obj.cells.injEq] at hc
    rw [← hc.1, Array.toList_append, List.mem_append] at hy
    rcases hy with hy | hy
    · rcases List.mem_append.1 (by simpa using hy) with hy | hy
      · exact hCx y hy
      · exact hCn y hy
    · exact hCz y (zero_mem hy)
  have grown : ∀ (old : Nat), old < n + m → ∀ (row : Option Nat),
      (w.drew.alloc (.cells ((xs ++ news).toArray ++ Builtin.zeroCells z.cells (grownCap w (n + m) old e - (n + m))) e)).ownsRow base e i.size
        (.slice (some ⟨w.heap.size, 0, none⟩) (n + m) (grownCap w (n + m) old e)) (n + m) (xs ++ news) ∧
      w.grownBy (w.drew.alloc (.cells ((xs ++ news).toArray ++ Builtin.zeroCells z.cells (grownCap w (n + m) old e - (n + m))) e)) row := by
    intro old ho row
    have hge := grownCap_ge w (n + m) old e
    have hcm : grownCap w (n + m) old e ≤ maxLen := grownCap_le_maxLen w (n + m) old e h63
    refine ⟨⟨hlen, .inr ⟨w.heap.size, _, _, rfl, hbase, heap_alloc_new w.drew _, hge, hcm, ?_, ?_⟩⟩, ⟨rfl, rfl, rfl, by simp, fun k hk _ => Below.heap_alloc w.drew _ k hk⟩⟩
    · simp only [Array.size_append, List.size_toArray, size_zeroCells, hzs, hlen, ← Nat.add_mul]
      congr 1
      omega
    · simp only [Array.toList_append]
      rw [← hlen]
      exact List.take_left
  rcases hown.2 with ⟨rfl, rfl⟩ | ⟨g, cap, cur, rfl, hbg, hg, hnc, hcm, hcs, htake⟩
  · have hx : xs = [] := List.eq_nil_of_length_eq_zero (by simpa using hown.1)
    subst hx
    by_cases hm : m = 0
    · subst hm
      have hn : news = [] := List.eq_nil_of_length_eq_zero (by simpa using hl)
      subst hn
      refine ⟨.slice none 0 0, w, ?_, World.ownsRow_nil w base e i.size, ⟨rfl, rfl, rfl, Nat.le_refl _, fun _ _ _ => rfl⟩, .inl rfl, fun g cs T f hg => by cases hg⟩
      rcases hs.kind with ⟨e', hk⟩ | hk <;> simp [Builtin.append_, run_underlying ht, run_underlying hk, sizeOf, typeInfo, hi, hs.len, hs.cells]
    · have hr := run_append_grow_src (P := P) w t tx ty e i z ht hi hz none 0 0 [] (by simp [Builtin.firstCells]) x m news hs (by omega) (by omega) (growslice_fits (by omega) (by have hb := hbytes; simp only [Nat.zero_add] at hb ⊢; exact hb))
      have hgr := grown 0 (by omega) (Value.ownBlock (.slice none 0 0))
      simp only [Nat.zero_add, List.nil_append] at hgr hr ⊢
      refine ⟨_, _, hr, hgr.1, hgr.2, .inr ⟨_, rfl, Nat.le_refl _⟩, ?_⟩
      first | exact fresh _ _ _ | (have := fresh; simpa using fresh _ _ _)
  · by_cases hroom : n + m ≤ cap
    · have hfit : n * i.size + news.length ≤ cur.size := by rw [hl, hcs, ← Nat.add_mul]; exact Nat.mul_le_mul_right _ hroom
      have hst := run_storeCells_at P g (n * i.size) e news 0 cur w hg (by simpa using hfit) hs.one
      simp only [Nat.add_zero] at hst
      have hr : (Builtin.append_ #[t, tx] ty #[.slice (some ⟨g, 0, none⟩) n cap, x]).run P w =
          .ok (.slice (some ⟨g, 0, none⟩) (n + m) cap) (w.setRow g (cur.toList.take (n * i.size) ++ news ++ cur.toList.drop (n * i.size + news.length)).toArray) := by
        rcases hs.kind with ⟨e', hk⟩ | hk <;> simp [Builtin.append_, run_underlying ht, run_underlying hk, sizeOf, typeInfo, hi, hs.len, hroom, hs.cells, Addr.add_lit, hst]
      refine ⟨_, _, hr, ⟨hlen, .inr ⟨g, cap, _, rfl, hbg, setRow_heap w g cur _ e _ hg, hroom, hcm, ?_, ?_⟩⟩, ⟨rfl, rfl, rfl, by simp, fun k _ hk => setRow_other w g k _ (fun e => hk (by simp [Value.ownBlock, e]))⟩, .inl rfl, fun g' cs T f hg' hc y hy => ?_⟩
      · simp only [List.size_toArray, List.length_append, List.length_take, List.length_drop, Array.length_toList]
        omega
      · rw [htake, ← hlen]
        exact List.take_left
      · simp only [Value.ownBlock, Option.some.injEq] at hg'
        subst hg'
        rw [setRow_heap w g cur _ e _ hg] at hc
        simp only [Option.some.injEq, Obj.cells.injEq] at hc
        rw [← hc.1] at hy
        rcases List.mem_append.1 hy with hy | hy
        · rcases List.mem_append.1 hy with hy | hy
          · exact hC g cur _ _ rfl hg y (List.mem_of_mem_take hy)
          · exact hCn y hy
        · exact hC g cur _ _ rfl hg y (List.mem_of_mem_drop hy)
    · have holds : ∀ j u, xs[j]? = some u → w.cell? ((⟨g, 0, none⟩ : Addr).add j) = some u := hown.cells (g := g) rfl
      have hold := run_firstCells_some (P := P) w.drew i.size n ⟨g, 0, none⟩ n cap xs hown.1 (by simpa using holds)
      have hr := run_append_grow_src (P := P) w t tx ty e i z ht hi hz (some ⟨g, 0, none⟩) n cap xs hold x m news hs (by omega) (by omega) (growslice_fits (by omega) hbytes)
      have hgr := grown cap (by omega) (Value.ownBlock (.slice (some ⟨g, 0, none⟩) n cap))
      refine ⟨_, _, hr, hgr.1, hgr.2, .inr ⟨_, rfl, Nat.le_refl _⟩, ?_⟩
      first | exact fresh _ _ _ | (have := fresh; simpa using fresh _ _ _)
theorem wp_append_own_src3 {o : Oper} {a : Act} {K : Act → World → Prop} {Q : Exit → Act → World → Prop} (s x : Operand) (t tx : TypeId)
    (ho : o.op = .call { callee := .builtin .append, args := #[s, x], argTypes := #[t, tx] })
    (base : Nat) (e : TypeId) (i : TypeInfo) (z : Value) (size bytes : Nat) (ht : P.underlying t = some (.slice e)) (hi : P.info? e = some i) (hz : i.zero = some z)
    (hsize : i.size = size) (hby : i.bytes = bytes) (hzs : z.cells.size = size)
    (v : Value) (n : Nat) (xs : List Value) (hs : a.eval s = v) (hown : w.ownsRow base e size v n xs) (y : Value) (m : Nat) (news : List Value) (hx : a.eval x = y) (hsrc : Src P size tx y m news w)
    (h63 : n + m ≤ maxLen) (hbytes : (n + m) * bytes ≤ 140737488355328) (hbase : base ≤ w.heap.size) (C : Value → Prop) (hC : CleanBlk C w v) (hCn : ∀ y ∈ news, C y) (hCz : ∀ y ∈ z.cells.toList, C y)
    (h : ∀ v' w', w'.ownsRow base e size v' (n + m) (xs ++ news) → w.grownBy w' v.ownBlock → (v'.ownBlock = v.ownBlock ∨ ∃ g, v'.ownBlock = some g ∧ w.heap.size ≤ g) → CleanBlk C w' v' → K (a.put o.dst v') w') : o.wp P a w K Q := by
  obtain ⟨v', w', hr, h2, h3, h4, h5⟩ := run_append_own_src3 (P := P) w base t tx o.type e i z size bytes ht hi hz hsize hby hzs v n xs hown y m news hsrc h63 hbytes hbase C hC hCn hCz
  unfold Oper.wp execOp
  simp only [ho, resolve, invoke, builtin, Sem.run_bind, Sem.run_pure, Result.andThen_ok, List.map_toArray, List.map_cons, List.map_nil, hs, hx, hr]
  exact h v' w' h2 h3 h4 h5
theorem wpList_append_own_src3 {ops : Array Oper} {rest : List Oper} {o : Oper} {a : Act} {Q : Exit → Act → World → Prop} (hgd : o.guard = none) (s x : Operand) (t tx : TypeId)
    (ho : o.op = .call { callee := .builtin .append, args := #[s, x], argTypes := #[t, tx] })
    (base : Nat) (e : TypeId) (i : TypeInfo) (z : Value) (size bytes : Nat) (ht : P.underlying t = some (.slice e)) (hi : P.info? e = some i) (hz : i.zero = some z)
    (hsize : i.size = size) (hby : i.bytes = bytes) (hzs : z.cells.size = size)
    (v : Value) (n : Nat) (xs : List Value) (hs : a.eval s = v) (hown : w.ownsRow base e size v n xs) (y : Value) (m : Nat) (news : List Value) (hx : a.eval x = y) (hsrc : Src P size tx y m news w)
    (h63 : n + m ≤ maxLen) (hbytes : (n + m) * bytes ≤ 140737488355328) (hbase : base ≤ w.heap.size) (C : Value → Prop) (hC : CleanBlk C w v) (hCn : ∀ y ∈ news, C y) (hCz : ∀ y ∈ z.cells.toList, C y)
    (h : ∀ v' w', w'.ownsRow base e size v' (n + m) (xs ++ news) → w.grownBy w' v.ownBlock → (v'.ownBlock = v.ownBlock ∨ ∃ g, v'.ownBlock = some g ∧ w.heap.size ≤ g) → CleanBlk C w' v' → wpList P ops Q rest (a.put o.dst v') w') : wpList P ops Q (o :: rest) a w :=
  wpList_plain hgd fun _ hK => wp_append_own_src3 w s x t tx ho base e i z size bytes ht hi hz hsize hby hzs v n xs hs hown y m news hx hsrc h63 hbytes hbase C hC hCn hCz fun v' w' h2 h3 h4 h5 => hK _ _ (h v' w' h2 h3 h4 h5)
end
end Go.Proofs.YtippckajlghimaaGreatDoor
/- An answer that tells whether something holds. -/
namespace Go.Proofs.YtippckajlghimaaGreatDoor
set_option maxRecDepth 20000
open Go.RowKit
set_option linter.unusedVariables false
/-- Does each row have size elements? -/
def AllB (size : Int) (l : List (List Nat)) : Prop := ∀ k, k < l.length → ((l.getD k []).length : Int) = size
/-- The answer tells whether P. -/
def Says (P : Prop) (w : World) (e : Ending) (w' : World) : Prop := (∃ b : Bool, e = .returned (.bool b) ∧ (b = true ↔ P)) ∧ w.Extends w'
theorem Says.yes {P : Prop} {w w' : World} (h : P) (hx : w.Extends w') : Says P w (.returned (.bool true)) w' := ⟨⟨true, rfl, fun _ => h, fun _ => rfl⟩, hx⟩
theorem Says.no {P : Prop} {w w' : World} (h : ¬ P) (hx : w.Extends w') : Says P w (.returned (.bool false)) w' := ⟨⟨false, rfl, fun h' => (by cases h'), fun h' => absurd h' h⟩, hx⟩
end Go.Proofs.YtippckajlghimaaGreatDoor
/- The numbers from 0 on: the program's and the reference's. -/
namespace Go.Proofs.YtippckajlghimaaGreatDoor
set_option maxRecDepth 20000
open Go.RowKit Go.Deep
set_option linter.unusedVariables false
/-- A slice of the call's own of these ints. -/
def OwnInts (w : World) (l : List Int) (e : Ending) (w' : World) : Prop := ∃ v, e = .returned v ∧ w.Extends w' ∧ Ints w' v l
theorem mkInts (k : Nat) (hk : k ≤ 1000) (w : World) : (Instr.makeSlice 53 (.int .i64 (k : Int)) (.int .i64 (k : Int))).run Tryz.prog w = .ok (.slice (some ⟨w.heap.size, 0, none⟩) k k) (w.alloc (.cells (madeCells #[.int .i64 0] k) 3)) :=
  run_make_row' (P := Tryz.prog) 53 3 (.int .i64 0) 8 Tryz.underlying53 intinfo rfl .i64 .i64 k (by omega) (by omega) w
/-- Block g holds n ints, the first k of them their own places. -/
def Upto (w : World) (g n k : Nat) : Prop := w.rowIs g 3 n (fun i => .int .i64 (if i < k then (i : Nat) else 0 : Nat))
theorem Upto.made (w : World) (n : Nat) : Upto (w.alloc (.cells (madeCells #[.int .i64 0] n) 3)) w.heap.size n 0 :=
  (World.rowIs_made w (.int .i64 0) n 3).congr fun i hi => by simp
theorem Upto.set {w : World} {g n k : Nat} (h : Upto w g n k) : Upto (w.setCell ⟨g, k, none⟩ (.int .i64 (k : Nat))) g n (k + 1) :=
  (World.rowIs.set h k (.int .i64 (k : Nat))).congr fun i hi => by
    by_cases e : i = k
    · subst e; simp
    · by_cases e2 : i < k
      · simp [e, e2, show i < k + 1 by omega]
      · simp [e, e2, show ¬ i < k + 1 by omega]
theorem Upto.ints {w : World} {g n : Nat} (h : Upto w g n n) (hn : n ≤ 1000) : Ints w (.slice (some ⟨g, 0, none⟩) n n) (SM.iota n) := by
  refine .inr ⟨g, 0, n, by rw [SM.iota_length], by rw [SM.iota_length]; exact Nat.le_refl _, by unfold maxLen; omega, h.lt, fun k hk => ?_⟩
  rw [SM.iota_length] at hk
  rw [SM.iota_at n k hk, Nat.zero_add, h.cell hk, if_pos hk]
theorem firstEsis_any (n : Nat) (w : World) (hn : n ≤ 1000) :
    Calls Tryz.prog 60 #[.int .i64 n] w (OwnInts w (SM.iota n)) := by
  obtain ⟨i0, hi, hz0, hz1, hz2⟩ := info_parts intinfo
  have HI := Lib.hid hi; clear hi
  have HZ0 := Lib.hid hz0; clear hz0
  have HZ1 := Lib.hid hz1; clear hz1
  have HZ2 := Lib.hid hz2; clear hz2
  go_enter Tryz.func60, Tryz.ntmps60
  go_wp2_with fail
  go_loopw [3, 6] (fun v i wr => ∃ k : Nat, k ≤ n ∧ i = .int .i64 k ∧ Hid (w.Extends wr) ∧ Hid (wr.ownsRow w.heap.size 3 1 v k (i64vs (SM.iota k)))) (fun _ i _ => (n - intOf i).toNat)
  case atStart => exact ⟨0, by omega, rfl, Lib.hid (Gr.ext_refl _), Lib.hid (World.ownsRow_nil _ _ _ _)⟩
  case round =>
    obtain ⟨k, hk, rfl, HX, HOWN⟩ := hrel
    by_cases h1 : k < n
    · have HOB : Hid (∀ g, u3.ownBlock = some g → w.heap.size ≤ g) := fun g hg => (HOWN.out.lt g hg).1
      have hbs := HX.out.size
      have HSN : Hid (i64vs (SM.iota k) ++ [.int .i64 (k : Nat)] = i64vs (SM.iota (k + 1))) := by show _ = _; rw [← SM.iota_snoc, i64vs_snoc]
      go_wp2_with (at_builtin; refine wpList_append_own_src _ rfl _ _ 53 53 rfl w.heap.size 3 i0 (.int .i64 0) 1 8 Tryz.underlying53 HI.out HZ0.out HZ1.out HZ2.out rfl _ _ _ rfl (HOWN.out.alloc _) _ 1 [.int .i64 k] rfl (src_one Tryz.underlying53 _ _ rfl rfl) (by unfold maxLen; omega) (by omega) (by simp; omega) ?_)
      intro v' w3 ho3 hg3 _
      have HP1 : Hid (w.Extends w3) := Gr.ext_of (((Gr.below_of HX.out).alloc hbs _).grown hg3 (by simp; omega) HOB.out)
      rw [HSN.out] at ho3
      have HP2 := Lib.hid ho3
      clear ho3 hg3
      go_wp2
      go_roundw
      case rel => exact ⟨k + 1, by omega, by go_num, HP1, HP2⟩
      case measure => simp [intOf]; omega
    · obtain rfl : k = n := by omega
      have HP : Hid (OwnInts w (SM.iota k) (.returned u3) wr) := ⟨_, rfl, HX.out, owns_ints HOWN.out⟩
      go_wp2
      go_ret
      exact HP.out
theorem refFirst_any (n : Nat) (w : World) (hn : n ≤ 1000) :
    Calls Tryz.prog 49 #[.int .i64 n] w (OwnInts w (SM.iota n)) := by
  obtain ⟨i0, hi, hz0, hz1, hz2⟩ := info_parts intinfo
  have HI := Lib.hid hi; clear hi
  have HZ0 := Lib.hid hz0; clear hz0
  have HZ1 := Lib.hid hz1; clear hz1
  have HZ2 := Lib.hid hz2; clear hz2
  go_enter Tryz.func49, Tryz.ntmps49
  go_wp2_with fail
  go_loopw [3, 4] (fun v i wr => ∃ k : Nat, k ≤ n ∧ i = .int .i64 k ∧ Hid (w.Extends wr) ∧ Hid (wr.ownsRow w.heap.size 3 1 v k (i64vs (SM.iota k)))) (fun _ i _ => (n - intOf i).toNat)
  case atStart => exact ⟨0, by omega, rfl, Lib.hid (Gr.ext_refl _), Lib.hid (World.ownsRow_nil _ _ _ _)⟩
  case round =>
    obtain ⟨k, hk, rfl, HX, HOWN⟩ := hrel
    by_cases h1 : k < n
    · have HOB : Hid (∀ g, u3.ownBlock = some g → w.heap.size ≤ g) := fun g hg => (HOWN.out.lt g hg).1
      have hbs := HX.out.size
      have HSN : Hid (i64vs (SM.iota k) ++ [.int .i64 (k : Nat)] = i64vs (SM.iota (k + 1))) := by show _ = _; rw [← SM.iota_snoc, i64vs_snoc]
      go_wp2_with (at_builtin; refine wpList_append_own_src _ rfl _ _ 53 53 rfl w.heap.size 3 i0 (.int .i64 0) 1 8 Tryz.underlying53 HI.out HZ0.out HZ1.out HZ2.out rfl _ _ _ rfl (HOWN.out.alloc _) _ 1 [.int .i64 k] rfl (src_one Tryz.underlying53 _ _ rfl rfl) (by unfold maxLen; omega) (by omega) (by simp; omega) ?_)
      intro v' w3 ho3 hg3 _
      have HP1 : Hid (w.Extends w3) := Gr.ext_of (((Gr.below_of HX.out).alloc hbs _).grown hg3 (by simp; omega) HOB.out)
      rw [HSN.out] at ho3
      have HP2 := Lib.hid ho3
      clear ho3 hg3
      go_wp2
      go_roundw
      case rel => exact ⟨k + 1, by omega, by go_num, HP1, HP2⟩
      case measure => simp [intOf]; omega
    · obtain rfl : k = n := by omega
      have HP : Hid (OwnInts w (SM.iota k) (.returned u3) wr) := ⟨_, rfl, HX.out, owns_ints HOWN.out⟩
      go_wp2
      go_ret
      exact HP.out
end Go.Proofs.YtippckajlghimaaGreatDoor
/- How the arguments open; what the listed variable's reading gives the walks. -/
namespace Go.Proofs.YtippckajlghimaaGreatDoor
set_option maxRecDepth 20000
open Go.RowKit Go.ChangeShapes Go.WideShapes
theorem u32_nat {a : Int} (h : (Lit.int .u32 a).wf = true) : ∃ n : Nat, a = n ∧ n < 4294967296 := by
  obtain ⟨h0, h1⟩ := bounds_u32 h
  exact ⟨a.toNat, by omega, by omega⟩
theorem i64_bounds {a : Int} (h : (Lit.int .i64 a).wf = true) : -9223372036854775808 ≤ a ∧ a ≤ 9223372036854775807 := by
  simp [Lit.wf, IntKind.min, IntKind.max, IntKind.signed, IntKind.bits] at h
  omega
theorem gN : Tryz.prog.globalNamed "fountain/random.degreeBounds" = some 0 := by kernel_rfl
theorem gNType : (Tryz.prog.globals[0]?).map (·.type) = some 175 := by kernel_rfl
theorem of_laid {W : World} (h : laidMetH Tryz.prog [("fountain/random.degreeBounds", Rows.laid_fountain_random_degreeBounds)] W) : Tab W := by
  rw [MakeChecks.laidMetH_plain _ _ _ (by kernel_rfl)] at h
  have hT : Lib.TabIs Tryz.prog W "fountain/random.degreeBounds" .i64 RM.bounds :=
    Lib.tabIs_of_head (rest := []) gN gNType Tryz.underlying175 Tryz.underlying3 (by kernel_rfl) (by kernel_rfl) h
  exact fun i hi => hT.cell gN i hi
end Go.Proofs.YtippckajlghimaaGreatDoor
/- seed.Find. -/
namespace Go.Proofs.YtippckajlghimaaGreatDoor
set_option maxRecDepth 20000
open Go.RowKit Go.Deep
set_option linter.unusedVariables false
/-- The answer tells whether j is good. -/
def GoodOut (w : World) (k j : Nat) (e : Ending) (w' : World) : Prop := (∃ b : Bool, e = .returned (.bool b) ∧ (b = true ↔ SM.Good k j)) ∧ w.Extends w'
theorem wid_l (k : Nat) (h : k ≤ 40) : wid (PM.l k : Int) = PM.l k := by have := PM.l_le k h; unfold wid; omega
theorem mats_rows {w : World} {B : Nat} {T : TypeId} {v : Value} {l : List (List Nat)} (h : Mats w B 0 T v l.length l) : Rws w v l := Mats.rws h rfl
theorem eq_good {k j r : Nat} (h : LA.RankIs (PM.l k) (· < (SM.rows k j).length) (rowsF (PM.l k) 0 (SM.rows k j) []) r) : ((r : Int) == (PM.l k : Int)) = true ↔ SM.Good k j := by
  rw [beq_iff_eq, ← SM.good_iff h]; omega
theorem settled_any (k j : Nat) (v : Value) (w : World) (h1 : 1 ≤ k) (h2 : k ≤ 40) (hv : Rws w v (SM.rows k j)) :
    Calls Tryz.prog 69 #[PV k (PM.s k) 2, v] w (GoodOut w k j) := by
  have hs7 := PM.s_le k h2
  have HL := Lib.hid (fun w => prmL_any k (PM.s k) 2 w (by omega) (by omega))
  have hlk : (k : Int) + (PM.s k : Int) + 2 = (PM.l k : Int) := by unfold PM.l PM.w; omega
  simp only [hlk] at HL
  have HR : Hid (∀ w, Rws w v (SM.rows k j) → Calls Tryz.prog 84 #[.int .i64 (PM.l k), v] w (RankOut w (PM.l k) (· < (SM.rows k j).length) (rowsF (PM.l k) 0 (SM.rows k j) []))) := fun w hv => by
    have := rank_any (PM.l k) v (SM.rows k j) w hv
    rwa [wid_l k h2] at this
  have HE : Hid (∀ r : Nat, LA.RankIs (PM.l k) (· < (SM.rows k j).length) (rowsF (PM.l k) 0 (SM.rows k j) []) r → (((r : Int) == (PM.l k : Int)) = true ↔ SM.Good k j)) := fun r h => eq_good h
  have hl49 := PM.l_le k h2
  have HV := Lib.hid hv
  obtain ⟨a, cap, rfl, _⟩ := hv.slice
  clear hv hlk hs7
  generalize hF : rowsF (PM.l k) 0 (SM.rows k j) [] = F at *
  clear hF
  generalize SM.rows k j = rs at *
  generalize PM.l k = L at *
  generalize PM.s k = S at *
  go_enter Tryz.func69, Tryz.ntmps69
  go_wp2_with fail
  generalize hw1 : World.alloc w _ = w1
  have hx1 : w.Extends w1 := by subst hw1; exact prm_ext_alloc _ _
  have hp : PAt w1 w.heap.size k S 2 := by subst hw1; exact PAt.new w 82 k S 2
  obtain ⟨b, hb⟩ : ∃ b, b = w.heap.size := ⟨_, rfl⟩
  rw [← hb] at hp ⊢
  clear hw1 hb
  have HX1 := Lib.hid (Gr.ext_drew hx1)
  have HP1 := Lib.hid (hp.ext (Gr.ext_drew (Gr.ext_refl w1)))
  clear hx1 hp
  refine Gr.region 7 [(false,0),(false,2),(false,4),(true,1),(true,3),(true,5),(false,6)] (by kernel_rfl) (by kernel_rfl) (fun d _ _ _ _ h => by cases d <;> exact h) ?_
  simp only [Gr.pick, List.getElem?_cons_zero, List.getElem?_cons_succ, List.drop_succ_cons, List.drop_zero]
  generalize w1.drew = w2 at *
  iterate 3
    refine Gr.walk_t ?_ (Or.inl ⟨by rfl, ?_⟩) ?_
    rotate_left
    · intro w' hw'
      obtain ⟨p0, p1, p2⟩ := HP1.out.ext hw'
      clear hw'
      go_simp
      try with_reducible rfl
    simp only [Act.put, List.setIfInBounds_toArray, List.set_cons_zero, List.set_cons_succ]
  refine Gr.walk_c (fun K hK => ?_)
  go_simp
  refine (HL.out w2).mono ?_
  rintro e w3 ⟨rfl, hx3⟩
  have HX3 := Lib.hid (Gr.ext_trans HX1.out hx3)
  try go_simp
  refine hK.out _ _ (hx3) ?_
  clear hK K
  clear hx3 HX1
  refine Gr.walk_c (fun K hK => ?_)
  go_simp
  refine (HR.out w3 (HV.out.ext HX3.out)).mono ?_
  rintro e w4 ⟨r, rfl, hr, hb4⟩
  have hx4 := Gr.ext_of hb4
  have HX4 := Lib.hid (Gr.ext_trans HX3.out hx4)
  have HEQ := Lib.hid (HE.out r hr)
  try go_simp
  refine hK.out _ _ (hx4) ?_
  clear hK K
  clear hx4 hb4 hr HX3
  refine Gr.walk_c (fun K hK => ?_)
  go_simp
  refine (HL.out w4).mono ?_
  rintro e w5 ⟨rfl, hx5⟩
  have HX5 := Lib.hid (Gr.ext_trans HX4.out hx5)
  try go_simp
  refine hK.out _ _ (hx5) ?_
  clear hK K
  clear hx5 HX4
  refine Gr.walk_t ?_ (Or.inl ⟨by rfl, ?_⟩) ?_
  rotate_left
  · intro w' hw'
    clear hw'
    go_simp
    try with_reducible rfl
  simp only [Act.put, List.setIfInBounds_toArray, List.set_cons_zero, List.set_cons_succ]
  refine Gr.walk_nil ?_
  go_wp2
  go_ret
  exact ⟨⟨_, rfl, HEQ.out⟩, HX5.out⟩
/-- The closure: what it captured are the block's numbers and the symbols' numbers. -/
theorem can_any (k j p q : Nat) (v : Value) (w : World) (h1 : 1 ≤ k) (h2 : k ≤ 40) (hj : j ≤ 255) (hp : PAt w p k (PM.s k) 2) (hq : w.cell? ⟨q, 0, none⟩ = some v) (hv : Ints w v (SM.iota k)) (hT : Tab w) :
    Calls Tryz.prog 68 #[.int .i64 j, .pointer (some ⟨p, 0, none⟩), .pointer (some ⟨q, 0, none⟩)] w (GoodOut w k j) := by
  have HM : Hid (∀ w, Ints w v (SM.iota k) → Tab w → Calls Tryz.prog 70 #[PV k (PM.s k) 2, .int .i64 j, v] w (MadeRws w (SM.rows k j))) := fun w hv hT => mat_some k j v (SM.iota k) w h1 h2 hj (SM.iota_ok k (by omega)) (by rw [SM.iota_length]; omega) hv hT
  have HS := Lib.hid (fun u w hu => settled_any k j u w h1 h2 hu)
  have HP := Lib.hid hp
  have HV := Lib.hid hv
  have HTB := Lib.hid hT
  have HQ := Lib.hid hq
  obtain ⟨a, cap, rfl, _⟩ := hv.slice
  clear hp hv hT hq
  generalize (SM.iota k).length = n at *
  generalize SM.rows k j = rs at *
  generalize PM.s k = S at *
  go_enter Tryz.func68, Tryz.ntmps68
  go_wp2_with fail
  have HX0 : Hid (w.Extends w.drew) := Gr.ext_drew (Gr.ext_refl w)
  refine Gr.region 6 [(false,0),(false,1),(false,2),(false,3),(true,4),(true,5)] (by kernel_rfl) (by kernel_rfl) (fun d _ _ _ _ h => by cases d <;> exact h) ?_
  simp only [Gr.pick, List.getElem?_cons_zero, List.getElem?_cons_succ, List.drop_succ_cons, List.drop_zero]
  generalize w.drew = w1 at *
  iterate 2
    refine Gr.walk_t ?_ (Or.inl ⟨by rfl, ?_⟩) ?_
    rotate_left
    · intro w' hw'
      obtain ⟨p0, p1, p2⟩ := HP.out.ext (Gr.ext_trans HX0.out hw')
      clear hw'
      go_simp
      try with_reducible rfl
    simp only [Act.put, List.setIfInBounds_toArray, List.set_cons_zero, List.set_cons_succ]
  iterate 2
    refine Gr.walk_t ?_ (Or.inl ⟨by rfl, ?_⟩) ?_
    rotate_left
    · intro w' hw'
      have hq := (Gr.ext_trans HX0.out hw').cell_of HQ.out
      clear hw'
      go_simp
      try with_reducible rfl
    simp only [Act.put, List.setIfInBounds_toArray, List.set_cons_zero, List.set_cons_succ]
  refine Gr.walk_c (fun K hK => ?_)
  go_simp
  refine (HM.out w1 (HV.out.ext HX0.out) (HTB.out.ext HX0.out)).mono ?_
  rintro e w2 ⟨u, rfl, hx2, hu⟩
  have HX2 := Lib.hid (Gr.ext_trans HX0.out hx2)
  have HU := Lib.hid (mats_rows hu)
  try go_simp
  refine hK.out _ _ (hx2) ?_
  clear hK K
  clear hx2 hu HX0 HM
  refine Gr.walk_c (fun K hK => ?_)
  go_simp
  refine (HS.out u w2 HU.out).mono ?_
  rintro e w3 ⟨⟨b, rfl, hb⟩, hx3⟩
  have HX3 := Lib.hid (Gr.ext_trans HX2.out hx3)
  have HB := Lib.hid hb
  try go_simp
  refine hK.out _ _ (hx3) ?_
  clear hK K
  clear hx3 HX2 hb
  refine Gr.walk_nil ?_
  go_wp2
  go_ret
  exact ⟨⟨_, rfl, HB.out⟩, HX3.out⟩
/-- The least number, as both programs answer it. -/
def SeedOut (w : World) (k : Nat) (e : Ending) (w' : World) : Prop := ∃ r er : Nat, e = .returned (.tuple #[.int .i64 r, .int .i64 er]) ∧ SM.SeedIs k r er ∧ w.Extends w'
theorem least_any (k p q : Nat) (w : World)
    (H : ∀ (j : Nat) w', j ≤ 255 → w.Extends w' → Calls Tryz.prog 68 #[.int .i64 j, .pointer (some ⟨p, 0, none⟩), .pointer (some ⟨q, 0, none⟩)] w' (GoodOut w' k j)) :
    Calls Tryz.prog 67 #[.func (.func 68) #[] #[.pointer (some ⟨p, 0, none⟩), .pointer (some ⟨q, 0, none⟩)]] w (SeedOut w k) := by
  have HH := Lib.hid H
  clear H
  go_enter Tryz.func67, Tryz.ntmps67
  go_wp2_with fail
  go_loopw [5] (fun i wr => ∃ j : Nat, j ≤ 256 ∧ i = .int .i64 j ∧ Hid (w.Extends wr) ∧ Hid (∀ i, i < j → ¬ SM.Good k i)) (fun i _ => (256 - intOf i).toNat)
  case atStart => exact ⟨0, by omega, rfl, Lib.hid (Gr.ext_refl _), Lib.hid (fun i hi => absurd hi (Nat.not_lt_zero _))⟩
  case round =>
    obtain ⟨j, hj, rfl, HX, HN⟩ := hrel
    by_cases h1 : j < 256
    · have HC := Lib.hid (HH.out j wr (by omega) HX.out)
      go_wp2_with fail
      refine HC.out.mono ?_
      rintro e w2 ⟨⟨b, rfl, hb⟩, hx2⟩
      have HX2 := Lib.hid (Gr.ext_trans HX.out hx2)
      have HB := Lib.hid hb
      clear hx2 hb HC
      cases b with
      | true =>
        have HP : Hid (SeedOut w k (.returned (.tuple #[.int .i64 (j : Nat), .int .i64 ((0 : Nat) : Int)])) w2) := ⟨j, 0, rfl, .inl ⟨rfl, h1, HB.out.1 rfl, HN.out⟩, HX2.out⟩
        go_wp2
        go_returns
        exact HP.out
      | false =>
        have HN2 : Hid (∀ i, i < j + 1 → ¬ SM.Good k i) := fun i hi => by
          by_cases e : i = j
          · subst e; exact fun hg => absurd (HB.out.2 hg) (by decide)
          · exact HN.out i (by omega)
        go_wp2
        go_roundw
        case rel => exact ⟨j + 1, by omega, by go_num, HX2, HN2⟩
        case measure => simp [intOf]; omega
    · obtain rfl : j = 256 := by omega
      have HP : Hid (SeedOut w k (.returned (.tuple #[.int .i64 ((0 : Nat) : Int), .int .i64 ((5 : Nat) : Int)])) wr) := ⟨0, 5, rfl, .inr ⟨rfl, rfl, HN.out⟩, HX.out⟩
      go_wp2
      go_returns
      exact HP.out
/-- Find of a block's number. -/
theorem find_some (k : Nat) (w : World) (h1 : 1 ≤ k) (h2 : k ≤ 40) (hT : Tab w) :
    Calls Tryz.prog 45 #[.int .i64 k] w (SeedOut w k) := by
  have HO := Lib.hid (fun w => prmOf_good k w h1 h2)
  have HF := Lib.hid (fun w => firstEsis_any k w (by omega))
  have HC : Hid (∀ (j p q : Nat) v w, j ≤ 255 → PAt w p k (PM.s k) 2 → w.cell? ⟨q, 0, none⟩ = some v → Ints w v (SM.iota k) → Tab w → Calls Tryz.prog 68 #[.int .i64 j, .pointer (some ⟨p, 0, none⟩), .pointer (some ⟨q, 0, none⟩)] w (GoodOut w k j)) := fun j p q v w hj hp hq hv hT => can_any k j p q v w h1 h2 hj hp hq hv hT
  have HTB := Lib.hid hT
  clear hT
  generalize PM.s k = S at *
  go_enter Tryz.func45, Tryz.ntmps45
  go_wp2_with fail
  refine (HO.out w).mono ?_
  rintro e w1 ⟨rfl, hx1⟩
  have HX1 := Lib.hid hx1
  clear hx1 HO
  go_wp2_with fail
  generalize hw2 : World.alloc w1 _ = w2
  have hx2 : w1.Extends w2 := by subst hw2; exact prm_ext_alloc _ _
  have hp : PAt w2 w1.heap.size k S 2 := by subst hw2; exact PAt.new w1 82 k S 2
  generalize w1.heap.size = p at hp ⊢
  clear hw2
  have HX2 := Lib.hid (Gr.ext_trans HX1.out hx2)
  have HP2 := Lib.hid hp
  clear hx2 hp HX1
  refine (HF.out w2).mono ?_
  rintro e w3 ⟨v, rfl, hx3, hv3⟩
  have HX3 := Lib.hid (Gr.ext_trans HX2.out hx3)
  have HP3 := Lib.hid (HP2.out.ext hx3)
  have HV3 := Lib.hid hv3
  obtain ⟨a, cap, rfl, _⟩ := hv3.slice
  clear hx3 hv3 HX2 HP2 HF
  go_wp2_with fail
  generalize hw4 : World.alloc w3 _ = w4
  have hx4 : w3.Extends w4 := by subst hw4; exact ext_alloc _ _
  have hq : w4.cell? ⟨w3.heap.size, 0, none⟩ = some (.slice a (SM.iota k).length cap) := by subst hw4; rw [cell_of_row _ _ _ _ _ _ (heap_alloc_new w3 _)]; rfl
  generalize w3.heap.size = q at hq ⊢
  clear hw4
  have HX4 := Lib.hid (Gr.ext_trans HX3.out hx4)
  have HP4 := Lib.hid (HP3.out.ext hx4)
  have HV4 := Lib.hid (HV3.out.ext hx4)
  have HQ4 := Lib.hid hq
  clear hx4 HX3 HP3 HV3 hq
  refine (least_any k p q w4 (fun j w' hj hx => HC.out j p q _ w' hj (HP4.out.ext hx) (hx.cell_of HQ4.out) (HV4.out.ext hx) (HTB.out.ext (Gr.ext_trans HX4.out hx)))).mono ?_
  rintro e w5 ⟨r, er, rfl, hr, hx5⟩
  have HP : Hid (SeedOut w k (.returned (.tuple #[.int .i64 r, .int .i64 er])) w5) := ⟨r, er, rfl, hr, Gr.ext_trans HX4.out hx5⟩
  clear hr hx5
  go_wp2
  go_returns
  exact HP.out
/-- Find of a number of no block. -/
theorem find_none (k : Int) (w : World) (h : k < 1 ∨ 40 < k) :
    Calls Tryz.prog 45 #[.int .i64 k] w fun e w' => e = .returned (.tuple #[.int .i64 0, .int .i64 1]) ∧ w.Extends w' := by
  have HO := Lib.hid (fun w => prmOf_bad k w h)
  clear h
  go_enter Tryz.func45, Tryz.ntmps45
  go_wp2_with fail
  refine (HO.out w).mono ?_
  rintro e w1 ⟨rfl, hx1⟩
  have HX1 := Lib.hid hx1
  clear hx1 HO
  go_wp2_with fail
  generalize hw2 : World.alloc w1 _ = w2
  have HX2 : Hid (w.Extends w2) := by subst hw2; exact Gr.ext_trans HX1.out (prm_ext_alloc _ _)
  clear hw2
  go_returns
  exact ⟨rfl, HX2.out⟩
end Go.Proofs.YtippckajlghimaaGreatDoor
