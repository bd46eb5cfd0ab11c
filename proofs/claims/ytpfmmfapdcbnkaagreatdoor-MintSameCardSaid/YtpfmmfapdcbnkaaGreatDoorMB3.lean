/- In one text: ToFew, MatsBy, RwsL, Prm, PrmAt, OpenL, Rec, OpenR, Open2, Recs, FldTimesP, FldTimes, FldMany. -/
import Derived.Test.YtpfmmfapdcbnkaaGreatDoorRows
import Derived.WalkKit
import Derived.Handy
import Derived.Lib.Hide
import Derived.IntWalk
import Derived.Lib.SmallJoins
import Derived.Deep.MidRow
import Derived.WalkSpells
import Derived.WalkLawsBesides
import Derived.Test.YtpfmmfapdcbnkaaGreatDoorMB1
import Derived.Test.YtpfmmfapdcbnkaaGreatDoorMB2
namespace Go.Proofs.YtpfmmfapdcbnkaaGreatDoor
set_option maxRecDepth 20000
open Go.RowKit
/-- v is the call's own slice of the first k rows of l, each the call's own. -/
def ToInv (B : Nat) (TR : TypeId) (w : World) (v : Value) (k : Nat) (l : List (List Nat)) : Prop :=
  ∃ vs : List Value, w.ownsRow B TR 1 v k vs ∧ ∀ j, j < k → ∃ u, vs[j]? = some u ∧ w.ownsRow B 5 1 u (l.getD j []).length (u8vs (l.getD j []))
theorem ToInv.rws {B : Nat} {TR : TypeId} {w : World} {v : Value} {k : Nat} {l : List (List Nat)} (h : ToInv B TR w v k l) (hk : k = l.length) (hlt : ∀ r ∈ l, ∀ x ∈ r, x < 256) : Rws w v l := by
  subst hk
  obtain ⟨vs, hown, hrow⟩ := h
  rcases hown.2 with ⟨rfl, h0⟩ | ⟨g, cap, cur, rfl, hbg, hg, hnc, hcm, hcs, htake⟩
  · exact .inl ⟨List.eq_nil_of_length_eq_zero h0, none, 0, rfl⟩
  · refine .inr ⟨g, 0, cap, rfl, hnc, hcm, (Array.getElem?_eq_some_iff.1 hg).1, fun j hj => ?_⟩
    obtain ⟨u, hu, ho⟩ := hrow j hj
    refine ⟨u, ?_, owns_u8s ho fun x hx => ?_⟩
    · have := hown.cells (g := g) rfl j u hu
      rw [Addr.add_mid] at this
      exact this
    · refine hlt (l.getD j []) ?_ x hx
      rw [List.getD_eq_getElem?_getD, List.getElem?_eq_getElem hj]; exact List.getElem_mem hj
/-- Rows of two kinds lie apart. -/
theorem owns_apart {w : World} {B B' : Nat} {e e' : TypeId} {s s' : Nat} {v v' : Value} {n n' : Nat} {xs xs' : List Value} (h : w.ownsRow B e s v n xs) (h' : w.ownsRow B' e' s' v' n' xs') (he : e ≠ e') : v.ownBlock = none ∨ v.ownBlock ≠ v'.ownBlock := by
  rcases h.2 with ⟨rfl, h0⟩ | ⟨g, cap, cur, rfl, hbg, hg, _⟩
  · exact .inl rfl
  · rcases h'.2 with ⟨rfl, h0⟩ | ⟨g', cap', cur', rfl, hbg', hg', _⟩
    · exact .inr (by simp [Value.ownBlock])
    · refine .inr fun hgg => ?_
      simp only [Value.ownBlock, Option.some.injEq] at hgg
      subst hgg
      rw [hg] at hg'
      simp only [Option.some.injEq, Obj.cells.injEq] at hg'
      exact he hg'.2.1
theorem ToInv.kept {B : Nat} {TR : TypeId} {w w' : World} {v : Value} {k : Nat} {l : List (List Nat)} (h : ToInv B TR w v k l) (hx : w.Extends w') : ToInv B TR w' v k l := by
  obtain ⟨vs, ho, hr⟩ := h
  have hg : w.grownBy w' none := ⟨hx.os, hx.tape, hx.output, hx.size, fun i hi _ => hx.block i hi⟩
  have hne : ∀ u : Value, u.ownBlock = none ∨ u.ownBlock ≠ none := fun u => by cases u.ownBlock <;> simp
  refine ⟨vs, ho.kept hg (hne v), fun j hj => ?_⟩
  obtain ⟨u, hu, hou⟩ := hr j hj
  exact ⟨u, hu, hou.kept hg (hne u)⟩
theorem ToInv.snoc {B : Nat} {TR : TypeId} {w w' : World} {v v' u : Value} {k : Nat} {l : List (List Nat)} {vs : List Value} (hT : (5 : Nat) ≠ TR) (hown : w.ownsRow B TR 1 v k vs)
    (hr : ∀ j, j < k → ∃ u, vs[j]? = some u ∧ w.ownsRow B 5 1 u (l.getD j []).length (u8vs (l.getD j []))) (hu : w.ownsRow B 5 1 u (l.getD k []).length (u8vs (l.getD k [])))
    (hg : w.grownBy w' v.ownBlock) (ho : w'.ownsRow B TR 1 v' (k + 1) (vs ++ [u])) : ToInv B TR w' v' (k + 1) l := by
  have hl : vs.length = k := by have := hown.1; omega
  refine ⟨vs ++ [u], ho, fun j hj => ?_⟩
  by_cases hjk : j < k
  · obtain ⟨u', hu', ho'⟩ := hr j hjk
    exact ⟨u', by rw [List.getElem?_append_left (by omega)]; exact hu', ho'.kept hg (owns_apart ho' hown hT)⟩
  · obtain rfl : j = k := by omega
    exact ⟨u, by rw [List.getElem?_append_right (by omega), hl]; simp, hu.kept hg (owns_apart hu hown hT)⟩
theorem Rws.all_lt {w : World} {v : Value} {l : List (List Nat)} (h : Rws w v l) : ∀ r ∈ l, ∀ x ∈ r, x < 256 := by
  rcases h with ⟨rfl, _⟩ | ⟨b, off, cap, rfl, _, _, _, h4⟩
  · intro r hr; cases hr
  · intro r hr x hx
    obtain ⟨k, hk, rfl⟩ := List.mem_iff_getElem.1 hr
    obtain ⟨u, _, hs⟩ := h4 k hk
    rw [show l.getD k [] = l[k] by simp [hk]] at hs
    exact hs.lt x hx
/-- How many rows and bytes: below the bound? -/
def fewTo (l : List (List Nat)) : Nat → Nat
  | 0 => 0
  | k + 1 => if fewTo l k ≤ 4000 then fewTo l k + 1 + (l.getD k []).length else fewTo l k
def few (l : List (List Nat)) : Bool := decide (fewTo l l.length ≤ 4000)
end Go.Proofs.YtpfmmfapdcbnkaaGreatDoor
namespace Go.Proofs.YtpfmmfapdcbnkaaGreatDoor
set_option maxRecDepth 20000
open Go.RowKit Go.Deep
set_option linter.unusedVariables false
theorem owns_rowok {w : World} {B n : Nat} {u : Value} {xs : List Nat} (h : w.ownsRow B 5 1 u n (u8vs xs)) (hlt : ∀ x ∈ xs, x < 256) : RowOk w 0 u xs := by
  refine ⟨owns_u8s h hlt, ?_⟩
  rcases h.2 with ⟨rfl, rfl⟩ | ⟨g, cap, cur, rfl, hbg, hg, _⟩
  · refine .inl ?_
    have := h.1
    rw [u8vs_length] at this
    exact List.eq_nil_of_length_eq_zero (by omega)
  · refine .inr fun g' hg' => ?_
    simp only [Value.ownBlock, Option.some.injEq] at hg'
    subst hg'
    exact ⟨(Array.getElem?_eq_some_iff.1 hg).1, .inr ⟨cur, hg⟩⟩
theorem RowOk.by_row {w w' : World} {R B' n : Nat} {T' : TypeId} {u x : Value} {xs : List Nat} {ys : List Value} (h : RowOk w R x xs) (ho : w.ownsRow B' T' 1 u n ys) (hT : T' ≠ 5) (hR : R ≤ B') (hg : w.grownBy w' u.ownBlock) : RowOk w' R x xs := by
  by_cases hn : u.ownBlock = none
  · rw [hn] at hg
    exact h.ext (ext_below ⟨hg.os, hg.tape, hg.output, hg.size, fun i hi => hg.block i hi (by simp)⟩ rfl)
  · exact h.grown hg ((h.mono hR).apart (B' := B') ho hT hn)
/-- Rows appended together stay while a slice of elements of another type grows. -/
theorem Mats.by_row {w w' : World} {B R B' n k : Nat} {T T' : TypeId} {u v : Value} {ys : List Value} {l : List (List Nat)} (h : Mats w B R T v k l) (ho : w.ownsRow B' T' 1 u n ys) (hT : T ≠ T') (hT' : T' ≠ 5) (hR : R ≤ B') (hg : w.grownBy w' u.ownBlock) : Mats w' B R T v k l := by
  obtain ⟨vs, hown, hr⟩ := h
  refine ⟨vs, hown.kept hg (owns_apart hown ho hT), fun j hj => ?_⟩
  obtain ⟨x, h1, h2⟩ := hr j hj
  exact ⟨x, h1, h2.by_row ho hT' hR hg⟩
end Go.Proofs.YtpfmmfapdcbnkaaGreatDoor
namespace Go.Proofs.YtpfmmfapdcbnkaaGreatDoor
set_option maxRecDepth 20000
open Go.RowKit Go.Deep
set_option linter.unusedVariables false
def RwsL (w : World) (v : Value) (L : List (List (List Nat))) : Prop :=
  (L = [] ∧ ∃ a cap, v = .slice a 0 cap) ∨
  ∃ b off cap, v = .slice (some ⟨b, off, none⟩) L.length cap ∧ L.length ≤ cap ∧ cap ≤ maxLen ∧ b < w.heap.size ∧ ∀ k, k < L.length → ∃ u, w.cell? ⟨b, off + k, none⟩ = some u ∧ Rws w u (L.getD k [])
theorem RwsL.nil (w : World) (a : Option Addr) (cap : Nat) : RwsL w (.slice a 0 cap) [] := .inl ⟨rfl, a, cap, rfl⟩
theorem RwsL.ext {w w' : World} {v : Value} {L : List (List (List Nat))} (h : RwsL w v L) (hb : w.Extends w') : RwsL w' v L := by
  rcases h with h | ⟨b, off, cap, h1, h2, h2', h3, h4⟩
  · exact .inl h
  · refine .inr ⟨b, off, cap, h1, h2, h2', Nat.lt_of_lt_of_le h3 hb.size, fun k hk => ?_⟩
    obtain ⟨u, hu, hv⟩ := h4 k hk
    exact ⟨u, (hb.cell ⟨b, off + k, none⟩ h3).trans hu, hv.ext hb⟩
theorem RwsL.slice {w : World} {v : Value} {L : List (List (List Nat))} (h : RwsL w v L) : ∃ a cap, v = .slice a L.length cap ∧ L.length ≤ cap := by
  rcases h with ⟨rfl, a, cap, rfl⟩ | ⟨b, off, cap, rfl, h1, _⟩
  · exact ⟨a, cap, rfl, Nat.zero_le _⟩
  · exact ⟨_, cap, rfl, h1⟩
theorem RwsL.len {w : World} {v : Value} {L : List (List (List Nat))} (h : RwsL w v L) : L.length ≤ maxLen := by
  rcases h with ⟨rfl, _⟩ | ⟨b, off, cap, rfl, h1, h2, _⟩
  · simp [maxLen]
  · exact Nat.le_trans h1 h2
theorem RwsL.at {w : World} {a : Option Addr} {n cap : Nat} {L : List (List (List Nat))} (h : RwsL w (.slice a n cap) L) : n = L.length ∧ (0 < n → ∃ b off, a = some ⟨b, off, none⟩ ∧ b < w.heap.size ∧ ∀ k, k < n → ∃ a' c', w.cell? ⟨b, off + k, none⟩ = some (.slice a' (L.getD k []).length c') ∧ Rws w (.slice a' (L.getD k []).length c') (L.getD k [])) := by
  rcases h with ⟨rfl, a', cap', hv⟩ | ⟨b, off, cap', hv, h2, h2', h3, h4⟩
  · cases hv; exact ⟨rfl, fun h => absurd h (Nat.lt_irrefl _)⟩
  · cases hv
    refine ⟨rfl, fun _ => ⟨b, off, rfl, h3, fun k hk => ?_⟩⟩
    obtain ⟨u, hu, hs⟩ := h4 k hk
    obtain ⟨a', c', rfl, _⟩ := hs.slice
    exact ⟨a', c', hu, hs⟩
/-- A row of slices of rows. -/
theorem RwsL.row {w : World} {g n : Nat} {T : TypeId} {f : Nat → Value} {L : List (List (List Nat))} (h : w.rowIs g T n f) (hn : n ≤ maxLen) (hL : L.length = n) (hr : ∀ k, k < n → Rws w (f k) (L.getD k [])) : RwsL w (.slice (some ⟨g, 0, none⟩) n n) L := by
  subst hL
  exact .inr ⟨g, 0, L.length, rfl, Nat.le_refl _, hn, h.lt, fun k hk => ⟨f k, by rw [Nat.zero_add]; exact h.cell hk, hr k hk⟩⟩
/-- v is the call's own slice of slices of rows, all in memory of the call's own. -/
def Mts (w : World) (B : Nat) (T2 T1 : TypeId) (v : Value) (k : Nat) (L : List (List (List Nat))) : Prop :=
  ∃ vs, w.ownsRow B T2 1 v k vs ∧ ∀ j, j < k → ∃ u, vs[j]? = some u ∧ Mats w B B T1 u (L.getD j []).length (L.getD j [])
theorem Mts.nil (w : World) (B : Nat) (T2 T1 : TypeId) : Mts w B T2 T1 (.slice none 0 0) 0 [] := ⟨[], World.ownsRow_nil _ _ _ _, fun j hj => absurd hj (Nat.not_lt_zero _)⟩
theorem Mts.ext {w w' : World} {B : Nat} {T2 T1 : TypeId} {v : Value} {k : Nat} {L : List (List (List Nat))} (h : Mts w B T2 T1 v k L) (hx : w.Extends w') : Mts w' B T2 T1 v k L := by
  obtain ⟨vs, ho, hr⟩ := h
  have hg : w.grownBy w' none := ⟨hx.os, hx.tape, hx.output, hx.size, fun i hi _ => hx.block i hi⟩
  refine ⟨vs, ho.kept hg (by cases v.ownBlock <;> simp), fun j hj => ?_⟩
  obtain ⟨u, h1, h2⟩ := hr j hj
  exact ⟨u, h1, h2.ext hx⟩
theorem Mts.slice {w : World} {B : Nat} {T2 T1 : TypeId} {v : Value} {k : Nat} {L : List (List (List Nat))} (h : Mts w B T2 T1 v k L) : ∃ a cap, v = .slice a k cap := by
  obtain ⟨vs, ho, hr⟩ := h
  exact owns_slice ho
theorem Mts.rws {w : World} {B : Nat} {T2 T1 : TypeId} {v : Value} {k : Nat} {L : List (List (List Nat))} (h : Mts w B T2 T1 v k L) (hk : k = L.length) : RwsL w v L := by
  subst hk
  obtain ⟨vs, hown, hrow⟩ := h
  rcases hown.2 with ⟨rfl, h0⟩ | ⟨g, cap, cur, rfl, hbg, hg, hnc, hcm, hcs, htake⟩
  · exact .inl ⟨List.eq_nil_of_length_eq_zero h0, none, 0, rfl⟩
  · refine .inr ⟨g, 0, cap, rfl, hnc, hcm, (Array.getElem?_eq_some_iff.1 hg).1, fun j hj => ?_⟩
    obtain ⟨u, hu, ho⟩ := hrow j hj
    refine ⟨u, ?_, ho.rws rfl⟩
    have := hown.cells (g := g) rfl j u hu
    rw [Addr.add_mid] at this
    exact this
theorem Mts.snoc {w w' : World} {B : Nat} {T2 T1 : TypeId} {v v' u : Value} {k : Nat} {L : List (List (List Nat))} {vs : List Value} {r : List (List Nat)} (hT : T1 ≠ T2) (hT2 : T2 ≠ 5) (hk : k = L.length) (hown : w.ownsRow B T2 1 v k vs)
    (hr : ∀ j, j < k → ∃ u, vs[j]? = some u ∧ Mats w B B T1 u (L.getD j []).length (L.getD j [])) (hu : Mats w B B T1 u r.length r)
    (hg : w.grownBy w' v.ownBlock) (ho : w'.ownsRow B T2 1 v' (k + 1) (vs ++ [u])) : Mts w' B T2 T1 v' (k + 1) (L ++ [r]) := by
  have hl : vs.length = k := by have := hown.1; omega
  refine ⟨vs ++ [u], ho, fun j hj => ?_⟩
  by_cases hjk : j < k
  · obtain ⟨u', hu', ho'⟩ := hr j hjk
    refine ⟨u', by rw [List.getElem?_append_left (by omega)]; exact hu', ?_⟩
    rw [show (L ++ [r]).getD j [] = L.getD j [] by simp [List.getD_eq_getElem?_getD, List.getElem?_append_left (show j < L.length by omega)]]
    exact ho'.by_row hown hT hT2 (Nat.le_refl _) hg
  · obtain rfl : j = k := by omega
    refine ⟨u, by rw [List.getElem?_append_right (by omega), hl]; simp, ?_⟩
    rw [show (L ++ [r]).getD j [] = r by simp [hk]]
    exact hu.by_row hown hT hT2 (Nat.le_refl _) hg
end Go.Proofs.YtpfmmfapdcbnkaaGreatDoor
namespace Go.Proofs.YtpfmmfapdcbnkaaGreatDoor
set_option maxRecDepth 20000
open Go.RowKit
namespace PM
/-- How many low rows a block of k source symbols has. -/
def s (k : Nat) : Nat := 2 + k / 8
def w (k : Nat) : Nat := k + s k
def l (k : Nat) : Nat := w k + 2
theorem s_le (k : Nat) (h : k ≤ 40) : s k ≤ 7 := by unfold s; omega
theorem w_le (k : Nat) (h : k ≤ 40) : w k ≤ 47 := by have := s_le k h; unfold w; omega
theorem l_le (k : Nat) (h : k ≤ 40) : l k ≤ 49 := by have := w_le k h; unfold l; omega
end PM
/-- Params as a value. -/
abbrev PV (k s h : Int) : Value := .agg #[.int .i64 k, .int .i64 s, .int .i64 h]
theorem pret64 {a b : Int} (h : a = b) : Ending.returned (.int .i64 a) = .returned (.int .i64 b) := by rw [h]
theorem prm_ext_alloc (w : World) (o : Obj) : w.Extends (w.alloc o) := Gr.ext_of ((Below.refl _ _).alloc (Nat.le_refl _) _)
theorem prm_cells (w : World) (T : TypeId) (k s h : Int) : (w.alloc (.cells #[.int .i64 k, .int .i64 s, .int .i64 h] T)).cell? ⟨w.heap.size, 0, none⟩ = some (.int .i64 k) ∧
    (w.alloc (.cells #[.int .i64 k, .int .i64 s, .int .i64 h] T)).cell? ⟨w.heap.size, 1, none⟩ = some (.int .i64 s) ∧ (w.alloc (.cells #[.int .i64 k, .int .i64 s, .int .i64 h] T)).cell? ⟨w.heap.size, 2, none⟩ = some (.int .i64 h) := by
  have h0 := heap_alloc_new w (.cells #[.int .i64 k, .int .i64 s, .int .i64 h] T)
  exact ⟨by rw [cell_of_row _ _ _ _ _ _ h0]; rfl, by rw [cell_of_row _ _ _ _ _ _ h0]; rfl, by rw [cell_of_row _ _ _ _ _ _ h0]; rfl⟩
theorem prmOf_bad (k : Int) (w : World) (h : k < 1 ∨ 40 < k) :
    Calls Tryz.prog 63 #[.int .i64 k] w fun e w' => e = .returned (.tuple #[PV 0 0 0, .int .i64 1]) ∧ w.Extends w' := by
  go_enter Tryz.func63, Tryz.ntmps63
  go_wp2
  all_goals (go_returns; exact ⟨rfl, prm_ext_alloc _ _⟩)
theorem prmOf_good (k : Nat) (w : World) (h1 : 1 ≤ k) (h2 : k ≤ 40) :
    Calls Tryz.prog 63 #[.int .i64 k] w fun e w' => e = .returned (.tuple #[PV k (PM.s k) 2, .int .i64 0]) ∧ w.Extends w' := by
  go_enter Tryz.func63, Tryz.ntmps63
  go_wp2
  go_returns
  exact ⟨rfl, prm_ext_alloc _ _⟩
theorem prmW_any (k s h : Int) (w : World) (hb : -9223372036854775808 ≤ k + s ∧ k + s ≤ 9223372036854775807) :
    Calls Tryz.prog 101 #[PV k s h] w fun e w' => e = .returned (.int .i64 (k + s)) ∧ w.Extends w' := by
  go_enter Tryz.func101, Tryz.ntmps101
  go_wp2
  go_ret
  exact ⟨rfl, prm_ext_alloc _ _⟩
theorem prmL_any (k s h : Int) (w : World) (hb : -9223372036854775808 ≤ k + s ∧ k + s ≤ 9223372036854775807) (hb2 : -9223372036854775808 ≤ k + s + h ∧ k + s + h ≤ 9223372036854775807) :
    Calls Tryz.prog 86 #[PV k s h] w fun e w' => e = .returned (.int .i64 (k + s + h)) ∧ w.Extends w' := by
  go_enter Tryz.func86, Tryz.ntmps86
  go_wp2_with fail
  generalize hw1 : World.alloc w _ = w1
  have hx1 : w.Extends w1 := by subst hw1; exact prm_ext_alloc _ _
  have hc := prm_cells w 118 k s h
  rw [hw1] at hc
  clear hw1
  obtain ⟨b, hb0⟩ : ∃ b, b = w.heap.size := ⟨_, rfl⟩
  rw [← hb0] at hc ⊢
  clear hb0
  have hC : ∀ w', w1.drew.Extends w' → w'.cell? ⟨b, 0, none⟩ = some (.int .i64 k) ∧ w'.cell? ⟨b, 1, none⟩ = some (.int .i64 s) ∧ w'.cell? ⟨b, 2, none⟩ = some (.int .i64 h) :=
    fun w' hw' => ⟨(Gr.of_drew hw').cell_of hc.1, (Gr.of_drew hw').cell_of hc.2.1, (Gr.of_drew hw').cell_of hc.2.2⟩
  have HC := Lib.hid hC
  have HX1 := Lib.hid (Gr.ext_drew hx1)
  clear hC hc hx1
  refine Gr.region 5 [(false,0),(false,2),(false,3),(true,1),(false,4)] (by kernel_rfl) (by kernel_rfl) (fun d _ _ _ _ h => by cases d <;> exact h) ?_
  simp only [Gr.pick, List.getElem?_cons_zero, List.getElem?_cons_succ, List.drop_succ_cons, List.drop_zero]
  generalize w1.drew = w2 at *
  iterate 3
    refine Gr.walk_t ?_ (Or.inl ⟨by rfl, ?_⟩) ?_
    rotate_left
    · intro w' hw'
      obtain ⟨c0, c1, c2⟩ := HC.out w' hw'
      clear hw'
      go_simp
      try with_reducible rfl
    simp only [Act.put, List.setIfInBounds_toArray, List.set_cons_zero, List.set_cons_succ]
  refine Gr.walk_c (fun K hK => ?_)
  go_simp
  refine (prmW_any k s h w2 hb).mono ?_
  rintro e w3 ⟨rfl, hx⟩
  have HX3 := Lib.hid (Gr.ext_trans HX1.out hx)
  try go_simp
  refine hK.out _ _ (hx) ?_
  clear hK K
  refine Gr.walk_t ?_ (Or.inl ⟨by rfl, ?_⟩) ?_
  rotate_left
  · intro w' hw'
    clear hw'
    go_simp
    try with_reducible rfl
  simp only [Act.put, List.setIfInBounds_toArray, List.set_cons_zero, List.set_cons_succ]
  refine Gr.walk_nil ?_
  go_wp2
  go_ret
  exact ⟨pret64 (IntWalk.i64_in _ hb2), HX3.out⟩
theorem refS_any (k : Nat) (w : World) (hk : k ≤ 1000) :
    Calls Tryz.prog 75 #[.int .i64 k] w fun e w' => e = .returned (.int .i64 (PM.s k)) ∧ w = w' := by
  go_enter Tryz.func75, Tryz.ntmps75
  go_wp2
  go_ret
  exact ⟨rfl, rfl⟩
theorem refW_any (k : Nat) (w : World) (hk : k ≤ 1000) :
    Calls Tryz.prog 59 #[.int .i64 k] w fun e w' => e = .returned (.int .i64 (PM.w k)) ∧ w = w' := by
  have hs := refS_any k w hk
  have hle : PM.s k ≤ 1000 := by unfold PM.s; omega
  have hw : (PM.w k : Int) = k + PM.s k := by unfold PM.w; omega
  rw [hw]
  clear hw
  generalize PM.s k = s at *
  go_enter Tryz.func59, Tryz.ntmps59
  go_wp2_with fail
  refine hs.mono ?_
  rintro e w' ⟨rfl, rfl⟩
  go_wp2
  go_ret
  exact ⟨rfl, rfl⟩
theorem refL_any (k : Nat) (w : World) (hk : k ≤ 1000) :
    Calls Tryz.prog 36 #[.int .i64 k] w fun e w' => e = .returned (.int .i64 (PM.l k)) ∧ w = w' := by
  have hs := refW_any k w hk
  have hle : PM.w k ≤ 2000 := by unfold PM.w PM.s; omega
  have hw : (PM.l k : Int) = PM.w k + 2 := by unfold PM.l; omega
  rw [hw]
  clear hw
  generalize PM.w k = s at *
  go_enter Tryz.func36, Tryz.ntmps36
  go_wp2_with fail
  refine hs.mono ?_
  rintro e w' ⟨rfl, rfl⟩
  go_wp2
  go_ret
  exact ⟨rfl, rfl⟩
end Go.Proofs.YtpfmmfapdcbnkaaGreatDoor
namespace Go.Proofs.YtpfmmfapdcbnkaaGreatDoor
set_option maxRecDepth 20000
open Go.RowKit
/-- Params laid at block b. -/
def PAt (w : World) (b : Nat) (k s h : Int) : Prop := w.cell? ⟨b, 0, none⟩ = some (.int .i64 k) ∧ w.cell? ⟨b, 1, none⟩ = some (.int .i64 s) ∧ w.cell? ⟨b, 2, none⟩ = some (.int .i64 h)
theorem PAt.ext {w w' : World} {b : Nat} {k s h : Int} (hp : PAt w b k s h) (hx : w.Extends w') : PAt w' b k s h := ⟨hx.cell_of hp.1, hx.cell_of hp.2.1, hx.cell_of hp.2.2⟩
theorem PAt.lt {w : World} {b : Nat} {k s h : Int} (hp : PAt w b k s h) : b < w.heap.size := World.block_lt_of_cell? w _ hp.1
theorem PAt.new (w : World) (T : TypeId) (k s h : Int) : PAt (w.alloc (.cells #[.int .i64 k, .int .i64 s, .int .i64 h] T)) w.heap.size k s h := prm_cells w T k s h
end Go.Proofs.YtpfmmfapdcbnkaaGreatDoor
namespace Go.Proofs.YtpfmmfapdcbnkaaGreatDoor
set_option maxRecDepth 20000
open Go.RowKit Go.Deep Go.ChangeShapes Go.WideShapes
section
variable {H : Type} {enc : TypeId × Value → H} {P : Program} {w : World} {base : Nat} {held : Bool}
theorem open_three {r : Reach} {b0 : Nat} {t : TypeId} {f0 f1 f2 : Field} {v : Value} {d : DataW H} {p : List MemPlace} {spare : Nat → Bool} (hs : P.underlying t = some (.struct #[f0, f1, f2])) (hone : oneCellFields P #[f0, f1, f2] = true) (hC : P.cellsOf t = 3)
    (k0 : P.underlying f0.type = some (.int .i64)) (k1 : P.underlying f1.type = some (.int .i64)) (k2 : P.underlying f2.type = some (.int .i64))
    (hv : Value.okWide P w r b0 t v) (h : DataW.Trod enc P w base spare held t v d p) :
    ∃ a b c : Int, v = PV a b c ∧ (Lit.int .i64 a).wf = true ∧ (Lit.int .i64 b).wf = true ∧ (Lit.int .i64 c).wf = true := by
  obtain ⟨v0, v1, v2, y0, y1, y2, n, rfl, _, _, h0, h1, h2⟩ := Joins.open_agg3 hs hone hC hv h
  obtain ⟨a, ha, _, wa⟩ := DataW.trod_int k0 h0
  obtain ⟨b, hb, _, wb⟩ := DataW.trod_int k1 h1
  obtain ⟨c, hc, _, wc⟩ := DataW.trod_int k2 h2
  simp only [List.cons.injEq, and_true] at ha hb hc
  subst ha; subst hb; subst hc
  exact ⟨a, b, c, rfl, wa, wb, wc⟩
end
end Go.Proofs.YtpfmmfapdcbnkaaGreatDoor
namespace Go.Proofs.YtpfmmfapdcbnkaaGreatDoor
set_option maxRecDepth 20000
open Go.RowKit Go.Deep
set_option linter.unusedVariables false
/-- A record: id, shape, block, number, gone, until, data. -/
structure Rc where
  p : Int
  n : Int
  b : Int
  s : Int
  m : Int
  k : Int
  e : Int
  g : Bool
  u : Int
  d : List Nat
def Rc.zero : Rc := ⟨0, 0, 0, 0, 0, 0, 0, false, 0, []⟩
/-- Its cells, and the record as a value; v: its data. -/
def Rc.cells (r : Rc) (v : Value) : List Value := [.int .i64 r.p, .int .i64 r.n, .int .i64 r.b, .int .i64 r.s, .int .i64 r.m, .int .i64 r.k, .int .i64 r.e, .bool r.g, .int .i64 r.u, v]
def Rc.val (r : Rc) (v : Value) : Value := .agg #[.int .i64 r.p, .int .i64 r.n, .int .i64 r.b, .int .i64 r.s, .int .i64 r.m, .int .i64 r.k, .int .i64 r.e, .bool r.g, .int .i64 r.u, v]
theorem recinfo : (Tryz.prog.info? 32).map (fun i => (i.zero, i.size, i.bytes)) = some (some (Rc.zero.val (.slice none 0 0)), 10, 96) := by kernel_rfl
/-- The record whose cells begin at b, off. -/
def RCell (w : World) (b off : Nat) (r : Rc) : Prop := ∃ a c, w.rangeAt b off (r.cells (.slice a r.d.length c)) ∧ U8s w (.slice a r.d.length c) r.d
theorem rangeAt_ext {w w' : World} {b off : Nat} {l : List Value} (h : w.rangeAt b off l) (hx : w.Extends w') : w'.rangeAt b off l := fun j v hv => hx.cell_of (h j v hv)
theorem RCell.ext {w w' : World} {b off : Nat} {r : Rc} (h : RCell w b off r) (hx : w.Extends w') : RCell w' b off r := by
  obtain ⟨a, c, h1, h2⟩ := h
  exact ⟨a, c, rangeAt_ext h1 hx, h2.ext hx⟩
/-- All of its cells, one by one. -/
theorem RCell.ten {w : World} {b off : Nat} {r : Rc} {v : Value} (h : w.rangeAt b off (r.cells v)) :
    w.cell? ⟨b, off, none⟩ = some (.int .i64 r.p) ∧ w.cell? ⟨b, off + 1, none⟩ = some (.int .i64 r.n) ∧ w.cell? ⟨b, off + 2, none⟩ = some (.int .i64 r.b) ∧ w.cell? ⟨b, off + 3, none⟩ = some (.int .i64 r.s) ∧ w.cell? ⟨b, off + 4, none⟩ = some (.int .i64 r.m) ∧
    w.cell? ⟨b, off + 5, none⟩ = some (.int .i64 r.k) ∧ w.cell? ⟨b, off + 6, none⟩ = some (.int .i64 r.e) ∧ w.cell? ⟨b, off + 7, none⟩ = some (.bool r.g) ∧ w.cell? ⟨b, off + 8, none⟩ = some (.int .i64 r.u) ∧ w.cell? ⟨b, off + 9, none⟩ = some v :=
  ⟨h 0 _ rfl, h 1 _ rfl, h 2 _ rfl, h 3 _ rfl, h 4 _ rfl, h 5 _ rfl, h 6 _ rfl, h 7 _ rfl, h 8 _ rfl, h 9 _ rfl⟩
theorem Rc.cells_lt (r : Rc) (u : Value) {i : Nat} {v : Value} (h : (r.cells u)[i]? = some v) : i < 10 := by
  rcases Nat.lt_or_ge i 10 with h' | h'
  · exact h'
  · rw [List.getElem?_eq_none (show (r.cells u).length ≤ i from h')] at h; cases h
/-- A variable that holds a record, just made. -/
theorem box_rec (w : World) (T : TypeId) (r : Rc) (u : Value) : (w.alloc (.cells (r.cells u).toArray T)).rangeAt w.heap.size 0 (r.cells u) := fun j v hv => by
  have h0 := heap_alloc_new w (.cells (r.cells u).toArray T)
  rw [cell_of_row _ _ _ _ _ _ h0, List.getElem?_toArray, Nat.zero_add]
  exact hv
end Go.Proofs.YtpfmmfapdcbnkaaGreatDoor
namespace Go.Proofs.YtpfmmfapdcbnkaaGreatDoor
set_option maxRecDepth 20000
open Go.RowKit Go.Deep Go.ChangeShapes Go.WideShapes
set_option linter.unusedVariables false
instance : Inhabited Rc := ⟨Rc.zero⟩
section
variable {H : Type} {enc : TypeId × Value → H} {P : Program} {w : World} {base : Nat} {held : Bool}
end
end Go.Proofs.YtpfmmfapdcbnkaaGreatDoor
namespace Go.Proofs.YtpfmmfapdcbnkaaGreatDoor
set_option maxRecDepth 20000
open Go.RowKit Go.Deep Go.ChangeShapes Go.WideShapes
set_option linter.unusedVariables false
section
variable {H : Type} {enc : TypeId × Value → H} {P : Program} {w : World} {base : Nat} {held : Bool}
theorem open_two {r : Reach} {b0 : Nat} {t : TypeId} {f0 f1 : Field} {v : Value} {d : DataW H} {p : List MemPlace} {spare : Nat → Bool} (hs : P.underlying t = some (.struct #[f0, f1])) (hone : oneCellFields P #[f0, f1] = true) (hC : P.cellsOf t = 2)
    (k0 : P.underlying f0.type = some (.int .i64)) (k1 : P.underlying f1.type = some (.int .i64))
    (hv : Value.okWide P w r b0 t v) (h : DataW.Trod enc P w base spare held t v d p) :
    ∃ a b : Int, v = .agg #[.int .i64 a, .int .i64 b] ∧ (Lit.int .i64 a).wf = true ∧ (Lit.int .i64 b).wf = true := by
  obtain ⟨v0, v1, y0, y1, n, rfl, _, _, h0, h1⟩ := Joins.open_agg2 hs hone hC hv h
  obtain ⟨a, ha, _, wa⟩ := DataW.trod_int k0 h0
  obtain ⟨b, hb, _, wb⟩ := DataW.trod_int k1 h1
  simp only [List.cons.injEq, and_true] at ha hb
  subst ha; subst hb
  exact ⟨a, b, rfl, wa, wb⟩
end
end Go.Proofs.YtpfmmfapdcbnkaaGreatDoor
namespace Go.Proofs.YtpfmmfapdcbnkaaGreatDoor
set_option maxRecDepth 20000
open Go.RowKit Go.Deep
set_option linter.unusedVariables false
/-- v is a slice of the records l in w. -/
def Recs (w : World) (v : Value) (l : List Rc) : Prop :=
  (l = [] ∧ ∃ a cap, v = .slice a 0 cap) ∨
  ∃ b off cap, v = .slice (some ⟨b, off, none⟩) l.length cap ∧ l.length ≤ cap ∧ l.length ≤ maxLen ∧ b < w.heap.size ∧ ∀ k, k < l.length → RCell w b (off + k * 10) (l.getD k Rc.zero)
theorem Recs.ext {w w' : World} {v : Value} {l : List Rc} (h : Recs w v l) (hx : w.Extends w') : Recs w' v l := by
  rcases h with h | ⟨b, off, cap, h1, h2, h3, h4, h5⟩
  · exact .inl h
  · exact .inr ⟨b, off, cap, h1, h2, h3, Nat.lt_of_lt_of_le h4 hx.size, fun k hk => (h5 k hk).ext hx⟩
theorem Recs.slice {w : World} {v : Value} {l : List Rc} (h : Recs w v l) : ∃ a cap, v = .slice a l.length cap := by
  rcases h with ⟨rfl, a, cap, rfl⟩ | ⟨b, off, cap, rfl, _⟩
  · exact ⟨a, cap, rfl⟩
  · exact ⟨_, cap, rfl⟩
theorem Recs.len {w : World} {v : Value} {l : List Rc} (h : Recs w v l) : l.length ≤ maxLen := by
  rcases h with ⟨rfl, _⟩ | ⟨b, off, cap, _, _, h, _⟩
  · exact Nat.zero_le _
  · exact h
theorem Recs.at {w : World} {a : Option Addr} {n cap : Nat} {l : List Rc} (h : Recs w (.slice a n cap) l) : n = l.length ∧ (0 < n → ∃ b off, a = some ⟨b, off, none⟩ ∧ b < w.heap.size ∧ ∀ k, k < n → RCell w b (off + k * 10) (l.getD k Rc.zero)) := by
  rcases h with ⟨rfl, a', cap', hv⟩ | ⟨b, off, cap', hv, h2, h3, h4, h5⟩
  · cases hv; exact ⟨rfl, fun h => absurd h (Nat.lt_irrefl _)⟩
  · cases hv; exact ⟨rfl, fun _ => ⟨b, off, rfl, h4, h5⟩⟩
theorem Recs.all_lt {w : World} {v : Value} {l : List Rc} (h : Recs w v l) : ∀ r ∈ l, ∀ x ∈ r.d, x < 256 := by
  rcases h with ⟨rfl, _⟩ | ⟨b, off, cap, _, _, _, _, h5⟩
  · intro p hp; cases hp
  · intro p hp
    obtain ⟨k, hk, rfl⟩ := List.mem_iff_getElem.1 hp
    obtain ⟨_, _, _, h⟩ := h5 k hk
    rw [show l.getD k Rc.zero = l[k] by simp [hk]] at h
    exact h.lt
theorem Recs.nil (w : World) (a : Option Addr) (cap : Nat) : Recs w (.slice a 0 cap) [] := .inl ⟨rfl, a, cap, rfl⟩
/-- v is the call's own slice (in memory from B on) of the first k records of l, their data in memory from before R or in blocks of bytes. -/
def RMats (w : World) (B R : Nat) (v : Value) (k : Nat) (l : List Rc) : Prop := ∃ vs, w.ownsRow B 32 10 v k vs ∧ ∀ j, j < k → ∃ u, (∀ i, i < 10 → vs[j * 10 + i]? = ((l.getD j Rc.zero).cells u)[i]?) ∧ RowOk w R u (l.getD j Rc.zero).d
theorem RMats.nil (w : World) (B R : Nat) (l : List Rc) : RMats w B R (.slice none 0 0) 0 l := ⟨[], World.ownsRow_nil _ _ _ _, fun j hj => absurd hj (Nat.not_lt_zero _)⟩
theorem RMats.slice {w : World} {B R : Nat} {v : Value} {k : Nat} {l : List Rc} (h : RMats w B R v k l) : ∃ a cap, v = .slice a k cap := by
  obtain ⟨vs, ho, hr⟩ := h
  rcases ho.2 with ⟨rfl, rfl⟩ | ⟨g, cap, cur, rfl, _⟩
  · exact ⟨_, _, rfl⟩
  · exact ⟨_, _, rfl⟩
theorem RMats.ext {w w' : World} {B R : Nat} {v : Value} {k : Nat} {l : List Rc} (h : RMats w B R v k l) (hx : w.Extends w') : RMats w' B R v k l := by
  obtain ⟨vs, ho, hr⟩ := h
  have hg : w.grownBy w' none := ⟨hx.os, hx.tape, hx.output, hx.size, fun i hi _ => hx.block i hi⟩
  refine ⟨vs, ho.kept hg (by cases v.ownBlock <;> simp), fun j hj => ?_⟩
  obtain ⟨u, h1, h2⟩ := hr j hj
  exact ⟨u, h1, h2.ext hx⟩
theorem RMats.recs {w : World} {B R : Nat} {v : Value} {k : Nat} {l : List Rc} (h : RMats w B R v k l) (hk : k = l.length) : Recs w v l := by
  subst hk
  obtain ⟨vs, hown, hrow⟩ := h
  rcases hown.2 with ⟨rfl, h0⟩ | ⟨g, cap, cur, rfl, hbg, hg, hnc, hcm, hcs, htake⟩
  · exact .inl ⟨List.eq_nil_of_length_eq_zero h0, none, 0, rfl⟩
  · refine .inr ⟨g, 0, cap, rfl, hnc, Nat.le_trans hnc hcm, (Array.getElem?_eq_some_iff.1 hg).1, fun j hj => ?_⟩
    obtain ⟨u, hu, ho⟩ := hrow j hj
    obtain ⟨a, c, rfl, _⟩ := ho.1.slice
    refine ⟨a, c, fun i v hv => ?_, ho.1⟩
    have e := hown.cells (g := g) rfl (j * 10 + i) v (by rw [hu i (Rc.cells_lt _ _ hv)]; exact hv)
    rw [Addr.add_mid] at e
    rw [Nat.add_assoc]; exact e
theorem RMats.snoc {w w' : World} {B R : Nat} {v v' u : Value} {k : Nat} {l : List Rc} {vs : List Value} {p : Rc} (hR : R ≤ B) (hk : k = l.length) (hown : w.ownsRow B 32 10 v k vs)
    (hr : ∀ j, j < k → ∃ u, (∀ i, i < 10 → vs[j * 10 + i]? = ((l.getD j Rc.zero).cells u)[i]?) ∧ RowOk w R u (l.getD j Rc.zero).d) (hu : RowOk w R u p.d)
    (hg : w.grownBy w' v.ownBlock) (ho : w'.ownsRow B 32 10 v' (k + 1) (vs ++ p.cells u)) : RMats w' B R v' (k + 1) (l ++ [p]) := by
  have hl : vs.length = k * 10 := hown.1
  have keep : ∀ {x : Value} {xs : List Nat}, RowOk w R x xs → RowOk w' R x xs := fun {x xs} h => by
    by_cases hn : v.ownBlock = none
    · rw [hn] at hg
      exact h.ext (ext_below ⟨hg.os, hg.tape, hg.output, hg.size, fun i hi => hg.block i hi (by simp)⟩ rfl)
    · refine h.grown hg ?_
      rcases (h.mono hR).2 with h0 | h0
      · exact .inl h0
      · refine .inr fun e => ?_
        cases hv : v.ownBlock with
        | none => exact hn hv
        | some g =>
          rw [hv] at e
          obtain ⟨_, h1⟩ := h0 g e
          have hb := (hown.lt g hv).1
          rcases h1 with h1 | ⟨cs, hcs⟩
          · omega
          · rcases hown.2 with ⟨rfl, _⟩ | ⟨g', cap, cur, rfl, hbg, hg', _⟩
            · cases hv
            · simp only [Value.ownBlock, Option.some.injEq] at hv
              subst hv
              rw [hg'] at hcs
              simp only [Option.some.injEq, Obj.cells.injEq] at hcs
              exact absurd hcs.2.1 (by decide)
  refine ⟨_, ho, fun j hj => ?_⟩
  by_cases hjk : j < k
  · obtain ⟨u', hu', ho'⟩ := hr j hjk
    have e : (l ++ [p]).getD j Rc.zero = l.getD j Rc.zero := by rw [List.getD_eq_getElem?_getD, List.getElem?_append_left (by omega), List.getD_eq_getElem?_getD]
    rw [e]
    exact ⟨u', fun i hi => by rw [List.getElem?_append_left (by omega)]; exact hu' i hi, keep ho'⟩
  · obtain rfl : j = k := by omega
    have e : (l ++ [p]).getD j Rc.zero = p := by rw [List.getD_eq_getElem?_getD, List.getElem?_append_right (by omega), hk]; simp
    rw [e]
    exact ⟨u, fun i hi => by rw [List.getElem?_append_right (by omega), hl, show j * 10 + i - j * 10 = i by omega], keep hu⟩
/-- The literal of one record that append(s, x) makes. -/
theorem src_rec {P : Program} {W : World} {T tx e' : TypeId} {r : Rc} {u : Value} (hk : P.underlying tx = some (.slice e')) (s c : Nat) (hs : s = W.heap.size) (h1 : u.oneCell' = true) :
    Src P 10 tx (.slice (some ⟨s, 0, none⟩) 1 c) 1 (r.cells u) (W.alloc (.cells (r.cells u).toArray T)) := by
  subst hs
  refine Src.ofSlice _ hk ⟨W.heap.size, 0, none⟩ 1 c (r.cells u) rfl (fun j v hv => ?_) (fun v hv => ?_)
  · have h0 := heap_alloc_new W (.cells (r.cells u).toArray T)
    rw [Addr.add_mid, cell_of_row _ _ _ _ _ _ h0, List.getElem?_toArray, Nat.zero_add]
    exact hv
  · simp only [Rc.cells, List.mem_cons, List.not_mem_nil, or_false] at hv
    rcases hv with rfl | rfl | rfl | rfl | rfl | rfl | rfl | rfl | rfl | rfl
    all_goals first | exact h1 | rfl
/-- A slice of records from before as a source of append in a later world. -/
theorem Recs.srcs_old {P : Program} {w0 w : World} {v : Value} {l : List Rc} (h : Recs w0 v l) (hx : w0.Extends w) {tx e' : TypeId} (hk : P.underlying tx = some (.slice e')) :
    ∃ vs, Src P 10 tx v l.length vs w ∧ vs.length = l.length * 10 ∧ ∀ j, j < l.length → ∃ u, (∀ i, i < 10 → vs[j * 10 + i]? = ((l.getD j Rc.zero).cells u)[i]?) ∧ RowOk w w0.heap.size u (l.getD j Rc.zero).d := by
  have hn : ∀ (m : Nat), m ≤ l.length → ∃ vs : List Value, vs.length = m * 10 ∧ (∀ j, j < m → ∃ u, (∀ i, i < 10 → vs[j * 10 + i]? = ((l.getD j Rc.zero).cells u)[i]?) ∧ RowOk w w0.heap.size u (l.getD j Rc.zero).d) ∧
      ∀ (a : Option Addr) (cap b off : Nat), v = .slice (some ⟨b, off, none⟩) l.length cap → ∀ q x, vs[q]? = some x → w.cell? ⟨b, off + q, none⟩ = some x := by
    intro m
    induction m with
    | zero => exact fun _ => ⟨[], rfl, fun j hj => absurd hj (Nat.not_lt_zero _), fun _ _ _ _ _ q x hq => by cases hq⟩
    | succ m ih =>
      intro hm
      obtain ⟨vs, hl, hr, hc⟩ := ih (by omega)
      rcases h with ⟨rfl, _⟩ | ⟨b, off, cap, hv, h2, h3, h4, h5⟩
      · simp at hm
      · obtain ⟨a, c, hcell, hu⟩ := h5 m (by omega)
        refine ⟨vs ++ (l.getD m Rc.zero).cells (.slice a (l.getD m Rc.zero).d.length c), by rw [List.length_append, hl]; show m * 10 + 10 = _; omega, fun j hj => ?_, fun a' cap' b' off' hv' q x hq => ?_⟩
        · by_cases hjm : j < m
          · obtain ⟨u, h6, h7⟩ := hr j hjm
            exact ⟨u, fun i hi => by rw [List.getElem?_append_left (by omega)]; exact h6 i hi, h7⟩
          · obtain rfl : j = m := by omega
            exact ⟨_, fun i hi => by rw [List.getElem?_append_right (by omega), hl, show j * 10 + i - j * 10 = i by omega], (RowOk.old hu (Nat.le_refl _)).ext hx⟩
        · by_cases hqm : q < m * 10
          · rw [List.getElem?_append_left (by omega)] at hq
            exact hc a' cap' b' off' hv' q x hq
          · rw [List.getElem?_append_right (by omega), hl] at hq
            rw [hv] at hv'
            simp only [Value.slice.injEq, Option.some.injEq, Addr.mk.injEq, and_true, true_and] at hv'
            obtain ⟨⟨rfl, rfl⟩, _⟩ := hv'
            have := hx.cell_of (hcell (q - m * 10) x hq)
            rw [show off + q = off + m * 10 + (q - m * 10) by omega]
            exact this
  obtain ⟨vs, hl, hr, hc⟩ := hn l.length (Nat.le_refl _)
  refine ⟨vs, ?_, hl, hr⟩
  have hone : ∀ u ∈ vs, u.oneCell' = true := fun u hu => by
    obtain ⟨q, hq, rfl⟩ := List.mem_iff_getElem.1 hu
    obtain ⟨u', h6, h7⟩ := hr (q / 10) (by rw [hl] at hq; omega)
    have e := h6 (q % 10) (Nat.mod_lt _ (by omega))
    rw [show q / 10 * 10 + q % 10 = q by omega, List.getElem?_eq_getElem hq] at e
    have hm := List.mem_of_getElem? e.symm
    simp only [Rc.cells, List.mem_cons, List.not_mem_nil, or_false] at hm
    have hu1 := u8s_one h7.1
    rcases hm with h | h | h | h | h | h | h | h | h | h
    all_goals rw [h]
    all_goals first | exact hu1 | rfl
  rcases h with ⟨rfl, a, cap, rfl⟩ | ⟨b, off, cap, rfl, h2, h3, h4, h5⟩
  · obtain rfl : vs = [] := List.eq_nil_of_length_eq_zero hl
    cases a with
    | none => exact Src.ofNil w hk cap
    | some a => exact Src.ofSlice w hk a 0 cap [] rfl (by simp) (by simp)
  · exact Src.ofSlice w hk ⟨b, off, none⟩ l.length cap vs hl (fun j u hu => by rw [Addr.add_mid]; exact hc none cap b off rfl j u hu) hone
end Go.Proofs.YtpfmmfapdcbnkaaGreatDoor
namespace Go.Proofs.YtpfmmfapdcbnkaaGreatDoor
set_option maxRecDepth 20000
open Go.RowKit
set_option maxHeartbeats 400000 in
theorem double_any (a : Nat) (h : a < 256) (w : World) :
    Calls Tryz.prog 125 #[.int .u8 a] w fun e w' => e = .returned (.int .u8 (FM.dbl a : Nat)) ∧ w = w' := by
  by_cases h1 : a < 128
  · have e := and128_lt a h1
    go_enter Tryz.func125, Tryz.ntmps125
    go_wp2
    go_ret
    exact ⟨retu8 (by unfold FM.dbl; rw [if_pos h1]; omega), rfl⟩
  · have e := and128_ge a h1 h
    go_enter Tryz.func125, Tryz.ntmps125
    go_wp2
    go_ret
    refine ⟨retu8 ?_, rfl⟩
    have := u8_xor_nat (a * 2 % 256) 29 (by omega) (by omega)
    unfold FM.dbl; rw [if_neg h1]
    rw [← this]; rfl
set_option maxHeartbeats 400000 in
theorem times_any (a b : Nat) (ha : a < 256) (hb : b < 256) (w : World) :
    Calls Tryz.prog 121 #[.int .u8 a, .int .u8 b] w fun e w' => e = .returned (.int .u8 (FM.tm a b : Nat)) ∧ w = w' := by
  go_enter Tryz.func121, Tryz.ntmps121
  go_wp2
  go_loop [0, 1, 5] (fun x y z => ∃ k p a' b' : Nat, k ≤ 8 ∧ p < 256 ∧ a' < 256 ∧ b' < 2 ^ k ∧ x = .int .u8 a' ∧ y = .int .u8 b' ∧ z = .int .u8 p ∧ Hid (FM.tloop k p a' b' = FM.tm a b)) (fun _ y _ => (intOf y).toNat)
  case atStart => exact ⟨8, 0, a, b, by omega, by omega, ha, hb, rfl, rfl, rfl, rfl⟩
  case round =>
    obtain ⟨k, p, a', b', hk, hp, ha', hb', rfl, rfl, rfl, H⟩ := hrel
    by_cases h0 : b' = 0
    · subst h0
      go_wp2
      go_ret
      exact ⟨retu8 (by rw [← H.out, FM.tloop_zero]), rfl⟩
    · have e0 : ((b' : Int) != 0) = true := by simp; omega
      obtain ⟨k, rfl⟩ : ∃ j, k = j + 1 := ⟨k - 1, by
        have : k ≠ 0 := by intro h; subst h; simp at hb'; omega
        omega⟩
      have hb256 : b' < 256 := Nat.lt_of_lt_of_le hb' (Nat.pow_le_pow_right (by omega) hk)
      have hb2 : Hid (b' / 2 < 2 ^ k) := by rw [Nat.pow_succ] at hb'; show _ < _; omega
      have e1 := u8_and1 b' hb256
      have hd := FM.dbl_lt a' ha'
      have hx := Lib.hid (u8_xor_nat p a' hp ha')
      have hpx : p ^^^ a' < 256 := Nat.xor_lt_two_pow (n := 8) (by omega) (by omega)
      clear hb'
      by_cases h1 : b' % 2 = 1
      · rw [h1] at e1
        go_wp2_with fail
        refine (double_any _ ha' _).mono ?_
        rintro e w' ⟨rfl, rfl⟩
        go_wp2
        go_round
        case rel => exact ⟨k, p ^^^ a', FM.dbl a', b' / 2, by omega, hpx, hd, hb2.out, rfl, by go_num, by rw [hx.out], by rw [← H.out]; simp [FM.tloop, h1, Hid]⟩
        case measure => simp [intOf]; omega
      · have h2 : b' % 2 = 0 := by omega
        rw [h2] at e1
        go_wp2_with fail
        refine (double_any _ ha' _).mono ?_
        rintro e w' ⟨rfl, rfl⟩
        go_wp2
        go_round
        case rel => exact ⟨k, p, FM.dbl a', b' / 2, by omega, hp, hd, hb2.out, rfl, by go_num, rfl, by rw [← H.out]; simp [FM.tloop, h1, Hid]⟩
        case measure => simp [intOf]; omega
end Go.Proofs.YtpfmmfapdcbnkaaGreatDoor
namespace Go.Proofs.YtpfmmfapdcbnkaaGreatDoor
set_option maxRecDepth 20000
open Go.RowKit
theorem rx_lt (a b : Nat) (ha : a < 256) : ∀ n, n ≤ 8 → FM.rx a b n < 32768 := by
  intro n
  induction n with
  | zero => intro _; rw [FM.rx]; omega
  | succ n ih =>
    intro hn
    have h1 := ih (by omega)
    have h2 : a * 2 ^ n < 2 ^ 15 := by
      have : a * 2 ^ n < 256 * 2 ^ n := Nat.mul_lt_mul_of_pos_right ha (Nat.two_pow_pos n)
      have h3 : 2 ^ n ≤ 2 ^ 7 := Nat.pow_le_pow_right (by omega) (by omega)
      omega
    rw [FM.rx]; split
    · exact Nat.xor_lt_two_pow (n := 15) h1 h2
    · exact h1
theorem rred_lt (x : Nat) (hx : x < 32768) : ∀ n, n ≤ 7 → FM.rred x n < 32768 := by
  intro n
  induction n with
  | zero => intro _; exact hx
  | succ n ih =>
    intro hn
    have h1 := ih (by omega)
    have h2 : 285 * 2 ^ (6 - n) < 2 ^ 15 := by
      have h3 : 2 ^ (6 - n) ≤ 2 ^ 6 := Nat.pow_le_pow_right (by omega) (by omega)
      omega
    rw [FM.rred]; split
    · exact Nat.xor_lt_two_pow (n := 15) h1 h2
    · exact h1
theorem castdiv (b k : Nat) : ((b : Int) / 2 ^ k) = ((b / 2 ^ k : Nat) : Int) := by
  rw [Int.natCast_ediv, Int.natCast_pow]; rfl
theorem castmul (b k : Nat) : ((b : Int) * 2 ^ k) = ((b * 2 ^ k : Nat) : Int) := by
  rw [Int.natCast_mul, Int.natCast_pow]; rfl
set_option maxHeartbeats 400000 in
theorem rtimes_any (a b : Nat) (ha : a < 256) (hb : b < 256) (w : World) :
    Calls Tryz.prog 80 #[.int .u8 a, .int .u8 b] w fun e w' => e = .returned (.int .u8 (FM.rtm a b : Nat)) ∧ w = w' := by
  go_enter Tryz.func80, Tryz.ntmps80
  go_wp2
  go_loop [5,6] (fun x i => ∃ k : Nat, k ≤ 8 ∧ i = .int .i64 k ∧ x = .int .i64 (FM.rx a b k : Nat)) (fun _ i => (8 - (intOf i)).toNat)
  case atStart => exact ⟨0, by omega, rfl, by simp [FM.rx]⟩
  case round =>
    obtain ⟨k, hk, rfl, rfl⟩ := hrel
    by_cases h0 : k < 8
    · have hX := rx_lt a b ha k hk
      have hp : 2 ^ k ≤ 2 ^ 7 := Nat.pow_le_pow_right (by omega) (by omega)
      have hA : a * 2 ^ k < 32768 := by
        have : a * 2 ^ k < 256 * 2 ^ k := Nat.mul_lt_mul_of_pos_right ha (Nat.two_pow_pos k)
        omega
      have e1 := u8_and1 (b / 2 ^ k) (Nat.lt_of_le_of_lt (Nat.div_le_self _ _) hb)
      rw [← castdiv] at e1
      have e2 := Lib.hid (i64_xor_nat (FM.rx a b k) (a * 2 ^ k) (by omega) (by omega))
      have e3 := Lib.hid (IntWalk.wrap64_in ((a : Int) * 2 ^ k) (by rw [castmul]; omega))
      have es := Lib.hid (castmul a k)
      have er : Hid (FM.rx a b (k + 1) = if (b / 2^k) % 2 = 1 then FM.rx a b k ^^^ (a * 2^k) else FM.rx a b k) := rfl
      clear hp hA
      by_cases h1 : (b / 2 ^ k) % 2 = 1
      · rw [h1] at e1
        rw [if_pos h1] at er
        clear h1
        go_wp2
        go_round
        case rel => exact ⟨k + 1, by omega, by go_num, by rw [er.out, e3.out, es.out, e2.out]⟩
        case measure => simp [intOf]; omega
      · rw [if_neg h1] at er
        have h2 : (b / 2 ^ k) % 2 = 0 := by omega
        rw [h2] at e1
        clear h1 h2
        go_wp2
        go_round
        case rel => exact ⟨k + 1, by omega, by go_num, by rw [er.out]⟩
        case measure => simp [intOf]; omega
    · obtain rfl : k = 8 := by omega
      have hX8 := rx_lt a b ha 8 hk
      go_wp2
      go_loop [5,7] (fun x i => ∃ j : Nat, j ≤ 7 ∧ i = .int .i64 ((14 - j : Nat) : Int) ∧ x = .int .i64 (FM.rred (FM.rx a b 8) j : Nat)) (fun _ i => (intOf i).toNat)
      case atStart => exact ⟨0, by omega, rfl, by simp [FM.rred]⟩
      case round =>
        obtain ⟨j, hj, rfl, rfl⟩ := hrel
        by_cases h0 : j < 7
        · have hX := rred_lt _ hX8 j hj
          have hp : 2 ^ (6 - j) ≤ 2 ^ 6 := Nat.pow_le_pow_right (by omega) (by omega)
          have e1 := i64_and1 (FM.rred (FM.rx a b 8) j / 2 ^ (14 - j)) (Nat.lt_of_le_of_lt (Nat.div_le_self _ _) (by omega))
          rw [← castdiv] at e1
          have e2 := Lib.hid (i64_xor_nat (FM.rred (FM.rx a b 8) j) (285 * 2 ^ (6 - j)) (by omega) (by omega))
          have es := Lib.hid (castmul 285 (6 - j))
          have e3 := Lib.hid (IntWalk.wrap64_in (((285 * 2 ^ (6 - j) : Nat) : Int)) (by omega))
          have er : Hid (FM.rred (FM.rx a b 8) (j + 1) = if (FM.rred (FM.rx a b 8) j / 2^(14-j)) % 2 = 1 then FM.rred (FM.rx a b 8) j ^^^ (285 * 2^(6-j)) else FM.rred (FM.rx a b 8) j) := rfl
          have hm : 8 ≤ 14 - j := by omega
          have hm2 : 14 - j ≤ 14 := by omega
          have hs : Hid (14 - j - 8 = 6 - j) := by show _ = _; omega
          have hs2 : Hid (((14 - j : Nat) : Int) - 1 = ((14 - (j + 1) : Nat) : Int)) := by show _ = _; omega
          clear hp
          generalize FM.rred (FM.rx a b 8) j = R at *
          generalize hq : 14 - j = q at *
          have Hq := Lib.hid hq; clear hq
          by_cases h1 : (R / 2 ^ q) % 2 = 1
          · rw [h1] at e1
            rw [if_pos h1] at er
            clear h1
            go_wp2
            go_round
            case rel => exact ⟨j + 1, by omega, by rw [hs2.out], by rw [er.out, hs.out, show ((285 : Int) * 2 ^ (6 - j)) = ((285 * 2 ^ (6 - j) : Nat) : Int) from es.out, e3.out, e2.out]⟩
            case measure => simp [intOf]; omega
          · rw [if_neg h1] at er
            have h2 : (R / 2 ^ q) % 2 = 0 := by omega
            rw [h2] at e1
            clear h1 h2
            go_wp2
            go_round
            case rel => exact ⟨j + 1, by omega, by rw [hs2.out], by rw [er.out]⟩
            case measure => simp [intOf]; omega
        · obtain rfl : j = 7 := by omega
          go_wp2
          go_ret
          refine ⟨retu8 ?_, rfl⟩
          unfold FM.rtm
          omega

end Go.Proofs.YtpfmmfapdcbnkaaGreatDoor
namespace Go.Proofs.YtpfmmfapdcbnkaaGreatDoor
set_option maxRecDepth 20000
open Go.RowKit
set_option maxHeartbeats 400000 in
theorem mul_any (v : Value) (xs : List Nat) (w : World) (hv : U8s w v xs) :
    Calls Tryz.prog 122 #[v] w fun e w' => e = .returned (.int .u8 (FM.prod xs : Nat)) ∧ w = w' := by
  rcases hv with ⟨rfl, a, cap, rfl, _⟩ | ⟨b, off, cap, rfl, hm1, hm2, hb, hx, hl⟩
  · go_enter Tryz.func122, Tryz.ntmps122
    go_wp2
    refine wp_loop_rounds 1 ?_; rw [rounds_succ]
    go_wp2
    go_ret
    exact ⟨rfl, rfl⟩
  · have hm := Nat.le_trans hm1 hm2; unfold maxLen at hm; clear hm1 hm2
    go_enter Tryz.func122, Tryz.ntmps122
    go_wp2
    generalize hn : xs.length = n at *
    have HN := Lib.hid hn; clear hn
    have HX := Lib.hid hx; clear hx
    have HL := Lib.hid hl; clear hl
    go_loop [3, 8] (fun s i => ∃ k : Nat, k ≤ n ∧ i = .int .i64 k ∧ s = .int .u8 (FM.prod (xs.take k) : Nat)) (fun _ i => (n - intOf i).toNat)
    case atStart => exact ⟨0, by omega, rfl, rfl⟩
    case round =>
      obtain ⟨k, hk, rfl, rfl⟩ := hrel
      by_cases h0 : k < n
      · have hc := HX.out k h0
        have hs := Lib.hid (FM.prod_snoc xs k (by rw [HN.out]; exact h0))
        have hp := FM.prod_lt (xs.take k)
        have hy := getD_lt xs HL.out k
        go_wp2_with fail
        refine (times_any _ _ hp (by simpa using hy) _).mono ?_
        rintro e w' ⟨rfl, rfl⟩
        go_wp2
        go_round
        case rel => exact ⟨k + 1, by omega, by go_num, by rw [hs.out]; simp⟩
        case measure => simp [intOf]; omega
      · obtain rfl : k = n := by omega
        go_wp2
        go_ret
        exact ⟨retu8 (by rw [← HN.out, List.take_length]), rfl⟩
end Go.Proofs.YtpfmmfapdcbnkaaGreatDoor
