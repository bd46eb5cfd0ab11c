/- In one text: LogRows, LogRefCrash, RefAt, RefExp, StoSure, LogAll, RecReader. -/
import Derived.Deep.DeepCutAuto
import Derived.Laws.IdiomRangeMap
import Derived.BigRegion
import Derived.WalkKit
import Derived.Handy
import Derived.Lib.Hide
import Derived.Test.YtdbdnfjgmdkneaaMB1
import Derived.Test.YtdbdnfjgmdkneaaMB3
import Derived.Test.YtdbdnfjgmdkneaaMB5
import Derived.Test.YtdbdnfjgmdkneaaMB6
import Derived.Test.YtdbdnfjgmdkneaaMB8
import Derived.Test.YtdbdnfjgmdkneaaMB12
import Derived.Test.YtdbdnfjgmdkneaaMB13
namespace Go.Proofs.Ytdbdnfjgmdkneaa
set_option maxRecDepth 20000
open Go.RowKit Go.Deep
set_option linter.unusedVariables false
/-- v reads as l; its array in memory from B on, the rows in blocks of bytes. -/
def RwsB (w : World) (B : Nat) (v : Value) (l : List (List Nat)) : Prop :=
  (l = [] ∧ ∃ a cap, v = .slice a 0 cap) ∨
  ∃ b off cap, v = .slice (some ⟨b, off, none⟩) l.length cap ∧ l.length ≤ cap ∧ cap ≤ maxLen ∧ B ≤ b ∧ b < w.heap.size ∧ ∀ k, k < l.length → ∃ u, w.cell? ⟨b, off + k, none⟩ = some u ∧ RowB w u (l.getD k [])
theorem RwsB.old {w : World} {B : Nat} {v : Value} {l : List (List Nat)} (h : RwsB w B v l) : Rws w v l := by
  rcases h with h | ⟨b, off, cap, h1, h2, h3, _, h4, h5⟩
  · exact .inl h
  · exact .inr ⟨b, off, cap, h1, h2, h3, h4, fun k hk => by obtain ⟨u, h6, h7⟩ := h5 k hk; exact ⟨u, h6, h7.1⟩⟩
/-- Rows that a call answers, in memory of its own. -/
def LMade (w : World) (l : List (List Nat)) (e : Ending) (w' : World) : Prop := ∃ v, e = .returned v ∧ w.Extends w' ∧ RwsB w' w.heap.size v l
theorem LMade.old {w w' : World} {l : List (List Nat)} {e : Ending} (h : LMade w l e w') : MadeList w l e w' := by
  obtain ⟨v, h1, h2, h3⟩ := h
  exact ⟨v, h1, h2, h3.old⟩
theorem RwsB.ext {w w' : World} {B : Nat} {v : Value} {l : List (List Nat)} (h : RwsB w B v l) (hx : w.Extends w') : RwsB w' B v l := by
  rcases h with h | ⟨b, off, cap, h1, h2, h3, h6, h4, h5⟩
  · exact .inl h
  · exact .inr ⟨b, off, cap, h1, h2, h3, h6, Nat.lt_of_lt_of_le h4 hx.size, fun k hk => by obtain ⟨u, h7, h8⟩ := h5 k hk; exact ⟨u, hx.cell_of h7, h8.ext hx⟩⟩
/-- The rows of such a slice lie in memory from B on. -/
def LocN (w : World) (B : Nat) (v : Value) (k : Nat) : Prop := ∃ vs, w.ownsRow B 26 1 v k vs ∧ ∀ u ∈ vs, ∀ g, u.ownBlock = some g → B ≤ g
theorem LocN.nil (w : World) (B : Nat) : LocN w B (.slice none 0 0) 0 := ⟨[], World.ownsRow_nil _ _ _ _, fun u hu => by cases hu⟩
theorem LocN.ext {w w' : World} {B k : Nat} {v : Value} (h : LocN w B v k) (hx : w.Extends w') : LocN w' B v k := by
  obtain ⟨vs, ho, hr⟩ := h
  have hg : w.grownBy w' none := ⟨hx.os, hx.tape, hx.output, hx.size, fun i hi _ => hx.block i hi⟩
  exact ⟨vs, ho.kept hg (by cases v.ownBlock <;> simp), hr⟩
theorem owns_uniq {w : World} {B B' k : Nat} {T : TypeId} {v : Value} {vs vs' : List Value} (h : w.ownsRow B T 1 v k vs) (h' : w.ownsRow B' T 1 v k vs') : vs = vs' := by
  rcases h.2 with ⟨rfl, rfl⟩ | ⟨g, cap, cur, rfl, _, hg, _, _, _, ht⟩
  · have h1 := h.1
    have h2 := h'.1
    have e1 : vs = [] := List.eq_nil_of_length_eq_zero (by simpa using h1)
    have e2 : vs' = [] := List.eq_nil_of_length_eq_zero (by simpa using h2)
    rw [e1, e2]
  · rcases h'.2 with ⟨e, _⟩ | ⟨g', cap', cur', e, _, hg', _, _, _, ht'⟩
    · cases e
    · cases e
      rw [hg] at hg'
      simp only [Option.some.injEq, Obj.cells.injEq, and_true] at hg'
      rw [← ht, ← ht', hg']
theorem LocN.snoc {w w' : World} {B B' k : Nat} {v v' u : Value} {vs : List Value} (h : LocN w B v k) (ho : w.ownsRow B' 26 1 v k vs) (ho' : w'.ownsRow B 26 1 v' (k + 1) (vs ++ [u])) (hu : ∀ g, u.ownBlock = some g → B ≤ g) : LocN w' B v' (k + 1) := by
  obtain ⟨vs', h1, h2⟩ := h
  refine ⟨_, ho', fun x hx => ?_⟩
  rcases List.mem_append.1 hx with hx | hx
  · rw [owns_uniq ho h1] at hx; exact h2 x hx
  · rw [List.mem_singleton] at hx; subst hx; exact hu
theorem LocN.at_ {w : World} {B k b off n cap j : Nat} {u : Value} (h : LocN w B (.slice (some ⟨b, off, none⟩) n cap) k) (hj : j < k) (hc : w.cell? ⟨b, off + j, none⟩ = some u) : ∀ g, u.ownBlock = some g → B ≤ g := by
  obtain ⟨vs, ho, hr⟩ := h
  have hl : vs.length = k := by have := ho.1; simpa using this
  rcases ho.2 with ⟨e, _⟩ | ⟨g, cap', cur, e, _⟩
  · cases e
  · have e1 := e
    simp only [Value.slice.injEq, Option.some.injEq, Addr.mk.injEq, and_true] at e1
    obtain ⟨⟨e2, e3⟩, _⟩ := e1
    subst e2 e3
    have h1 := ho.cells (g := b) rfl j vs[j] (List.getElem?_eq_getElem (by omega))
    rw [Addr.add_mid] at h1
    rw [hc] at h1
    have e4 : u = vs[j] := by simpa using h1
    rw [e4]
    exact hr _ (List.getElem_mem _)
end Go.Proofs.Ytdbdnfjgmdkneaa
namespace Go.Proofs.Ytdbdnfjgmdkneaa
set_option maxRecDepth 20000
open Go.RowKit Go.Deep
set_option linter.unusedVariables false
theorem cut15_any (k : Int) (u : Nat) (w : World) (hk : -9223372036854775808 ≤ k ∧ k ≤ 9223372036854775807) (hu : u ≤ 1000000000) :
    Calls Try.prog 66 #[.int .i64 k, .int .i64 0, .int .i64 ((u : Nat) : Int)] w fun e w' => e = .returned (.int .i64 ((min k.toNat u : Nat) : Int)) ∧ w = w' := by
  by_cases h1 : k < 0
  · rw [show min k.toNat u = 0 by omega]
    go_enter Try.func66, Try.ntmps66
    go_wp2
    go_ret
    exact ⟨rfl, rfl⟩
  · obtain ⟨j, rfl⟩ := Int.eq_ofNat_of_zero_le (show 0 ≤ k by omega)
    rw [Int.toNat_natCast]
    by_cases h2 : u < j
    · rw [Nat.min_eq_right (by omega)]
      go_enter Try.func66, Try.ntmps66
      go_wp2
      go_ret
      exact ⟨rfl, rfl⟩
    · rw [Nat.min_eq_left (by omega)]
      go_enter Try.func66, Try.ntmps66
      go_wp2
      go_ret
      exact ⟨rfl, rfl⟩
end Go.Proofs.Ytdbdnfjgmdkneaa
namespace Go.Proofs.Ytdbdnfjgmdkneaa
set_option maxRecDepth 20000
open Go.RowKit Go.Deep Go.Maps
set_option linter.unusedVariables false
theorem RAt.least {w : World} {t o s : Nat} {L : List Value} {T : TypeId} {D : Nat → Prop} {bs : List Nat} (h : RAt w t o L T D bs s) : ∃ DB : Nat → Prop, RAt w t o L T DB bs s ∧ ∀ g, DB g → D g ∧ ∃ cs, w.heap[g]? = some (.cells cs 5 (0, 0)) := by
  obtain ⟨a, c, h1, h2, h3, h4, h5⟩ := h
  exact ⟨fun g => (Value.slice a bs.length c).ownBlock = some g, ⟨a, c, h1, h2, h3, h4, fun g hg => hg⟩, fun g hg => ⟨h5 g hg, owns_at h4 hg⟩⟩
/-- A store of the reference lies at block t, in blocks of D; DB: the block of its log's bytes; v1, v2: its symbols' and its tombstones' slices; ps, qs: these and their data. -/
structure RSX (w : World) (t : Nat) (D DB : Nat → Prop) (st : Sto) (v1 v2 : Value) (ps qs : List Pr) : Prop where
  log : RAt w t 3 [.int .i64 ((st.m : Nat) : Int), v1, v2] 64 DB (LM.spell st.lg) st.s
  here : D t
  own1 : OwnR w v1 ps
  own2 : OwnR w v2 qs
  recs1 : recs ps = st.l
  recs2 : recs qs = st.t
  in1 : ∀ g, v1.ownBlock = some g → D g
  in2 : ∀ g, v2.ownBlock = some g → D g
  inB : ∀ g, DB g → D g ∧ ∃ cs, w.heap[g]? = some (.cells cs 5 (0, 0))
  apart : ∀ g, v1.ownBlock = some g → v2.ownBlock ≠ some g
  data : Reads w D ps
  dataB : ∀ p ∈ ps, p.1.d = [] ∨ ∀ g, p.2.ownBlock = some g → ¬ DB g
def RSt (w : World) (t : Nat) (D : Nat → Prop) (st : Sto) : Prop := ∃ DB v1 v2 ps qs, RSX w t D DB st v1 v2 ps qs
theorem OwnR.at_ {w : World} {v : Value} {ps : List Pr} (h : OwnR w v ps) : ∀ k, k < ps.length → ∃ g, (∃ cap, v = .slice (some ⟨g, 0, none⟩) ps.length cap) ∧ w.rangeAt g (k * 10) ((ps.getD k zp).1.cells (ps.getD k zp).2) := fun k hk => by
  rcases h.kinds with ⟨rfl, rfl⟩ | ⟨g, cap, rfl⟩
  · simp at hk
  · exact ⟨g, ⟨cap, rfl⟩, h.arr.1.range hk⟩
theorem OwnR.block {w : World} {v : Value} {ps : List Pr} (h : OwnR w v ps) : ∀ g, v.ownBlock = some g → ∃ cs, w.heap[g]? = some (.cells cs 28 (0, 0)) := fun g hg => by
  rcases h.1.2 with ⟨rfl, _⟩ | ⟨g', cap, cur, rfl, _, hh, _⟩
  · cases hg
  · simp only [Value.ownBlock, Option.some.injEq] at hg
    subst hg
    exact ⟨cur, hh⟩
theorem OwnR.same {w w' : World} {v : Value} {ps : List Pr} (h : OwnR w v ps) (hb : ∀ g cs, v.ownBlock = some g → w.heap[g]? = some (.cells cs 28 (0, 0)) → w'.heap[g]? = w.heap[g]?) : OwnR w' v ps := by
  refine ⟨⟨h.1.1, ?_⟩, h.2⟩
  rcases h.1.2 with h4 | ⟨g, cap, cur, rfl, h1, hh, hrest⟩
  · exact .inl h4
  · exact .inr ⟨g, cap, cur, rfl, h1, (hb g cur rfl hh).trans hh, hrest⟩
section
variable {w w' : World} {t : Nat} {D D' DB : Nat → Prop} {st : Sto} {v1 v2 : Value} {ps qs : List Pr}
theorem RSX.lt (h : RSX w t D DB st v1 v2 ps qs) : t < w.heap.size := h.log.lt
theorem RSX.len1 (h : RSX w t D DB st v1 v2 ps qs) : ps.length = st.l.length := by rw [← h.recs1, recs_length]
theorem RSX.len2 (h : RSX w t D DB st v1 v2 ps qs) : qs.length = st.t.length := by rw [← h.recs2, recs_length]
theorem RSX.mono (h : RSX w t D DB st v1 v2 ps qs) (hD : ∀ i, D i → D' i) : RSX w t D' DB st v1 v2 ps qs :=
  ⟨h.log, hD _ h.here, h.own1, h.own2, h.recs1, h.recs2, fun g hg => hD g (h.in1 g hg), fun g hg => hD g (h.in2 g hg), fun g hg => ⟨hD g (h.inB g hg).1, (h.inB g hg).2⟩, h.apart, h.data.mono hD, h.dataB⟩
theorem RSt.mono (h : RSt w t D st) (hD : ∀ i, D i → D' i) : RSt w t D' st := by
  obtain ⟨DB, v1, v2, ps, qs, h⟩ := h
  exact ⟨DB, v1, v2, ps, qs, h.mono hD⟩
/-- It stays where none of its blocks is written. -/
theorem RSX.away (h : RSX w t D DB st v1 v2 ps qs) (hs : w.heap.size ≤ w'.heap.size) (hb : ∀ g, D g → g < w.heap.size → w'.heap[g]? = w.heap[g]?) : RSX w' t D DB st v1 v2 ps qs := by
  have hlt : ∀ g cs (T : TypeId) f, w.heap[g]? = some (.cells cs T f) → g < w.heap.size := fun g cs T f hg => (Array.getElem?_eq_some_iff.1 hg).1
  refine ⟨h.log.keep (hb t h.here h.lt) (fun g cs hg hc => hb g (h.inB g hg).1 (hlt g _ _ _ hc)), h.here, h.own1.same (fun g cs hg hc => hb g (h.in1 g hg) (hlt g _ _ _ hc)), h.own2.same (fun g cs hg hc => hb g (h.in2 g hg) (hlt g _ _ _ hc)), h.recs1, h.recs2, h.in1, h.in2, fun g hg => ?_, h.apart, fun p hp' => (h.data p hp').same hs fun g cs f hg hc => hb g hg (hlt g _ _ _ hc), h.dataB⟩
  obtain ⟨h1, cs, h2⟩ := h.inB g hg
  exact ⟨h1, cs, (hb g h1 (hlt g _ _ _ h2)).trans h2⟩
theorem RSt.away (h : RSt w t D st) (hs : w.heap.size ≤ w'.heap.size) (hb : ∀ g, D g → g < w.heap.size → w'.heap[g]? = w.heap[g]?) : RSt w' t D st := by
  obtain ⟨DB, v1, v2, ps, qs, h⟩ := h
  exact ⟨DB, v1, v2, ps, qs, h.away hs hb⟩
theorem RSX.ext (h : RSX w t D DB st v1 v2 ps qs) (hx : w.Extends w') : RSX w' t D DB st v1 v2 ps qs := h.away hx.size fun g _ hg => hx.block g hg
theorem RSt.ext (h : RSt w t D st) (hx : w.Extends w') : RSt w' t D st := by
  obtain ⟨DB, v1, v2, ps, qs, h⟩ := h
  exact ⟨DB, v1, v2, ps, qs, h.ext hx⟩
theorem RSX.cells (h : RSX w t D DB st v1 v2 ps qs) : ∃ a c, w.heap[t]? = some (.cells #[.int .i64 ((st.m : Nat) : Int), v1, v2, .slice a (LM.spell st.lg).length c, .int .i64 ((st.s : Nat) : Int)] 64 (0, 0)) ∧ w.cell? ⟨t, 0, none⟩ = some (.int .i64 ((st.m : Nat) : Int)) ∧ w.cell? ⟨t, 1, none⟩ = some v1 ∧ w.cell? ⟨t, 2, none⟩ = some v2 ∧ w.cell? ⟨t, 3, none⟩ = some (.slice a (LM.spell st.lg).length c) ∧ w.frozen? ⟨t, 1, none⟩ = false ∧ w.frozen? ⟨t, 2, none⟩ = false := by
  obtain ⟨a, c, h1, _⟩ := h.log
  exact ⟨a, c, h1, by rw [cell_of_row _ _ _ _ _ _ h1]; rfl, by rw [cell_of_row _ _ _ _ _ _ h1]; rfl, by rw [cell_of_row _ _ _ _ _ _ h1]; rfl, by rw [cell_of_row _ _ _ _ _ _ h1]; rfl, frozen_of_row _ _ _ _ _ h1, frozen_of_row _ _ _ _ _ h1⟩
/-- Another slice of symbols, or of tombstones. -/
theorem RAt.front {w w' : World} {t s i : Nat} {a b c x : Value} {T : TypeId} {DB : Nat → Prop} {bs : List Nat} (h : RAt w t 3 [a, b, c] T DB bs s) (hi : i < 3) (hw : w' = w.setCell ⟨t, i, none⟩ x) : RAt w' t 3 ([a, b, c].set i x) T DB bs s ∧ w.grownBy w' (some t) := by
  obtain ⟨sa, sc, h1, h2, h3, h4, h5⟩ := h
  have hg : w.grownBy w' (some t) := by subst hw; exact grown_set _ _ _ _
  refine ⟨⟨sa, sc, ?_, by simp, h3, h4.kept hg ?_, h5⟩, hg⟩
  · subst hw
    rw [heap_setCell_same _ _ _ _ _ _ h1]
    obtain rfl | rfl | rfl : i = 0 ∨ i = 1 ∨ i = 2 := by omega
    all_goals rfl
  · cases hv : (Value.slice sa bs.length sc).ownBlock with
    | none => exact .inl rfl
    | some g =>
      refine .inr fun e => ?_
      obtain ⟨cs, hc⟩ := owns_at h4 hv
      have e' := Option.some.inj e
      subst e'
      rw [h1] at hc
      simp only [Option.some.injEq, Obj.cells.injEq] at hc
      exact absurd hc.2.1 h3
end
theorem cut1000_any (k : Int) (w : World) (hk : -9223372036854775808 ≤ k ∧ k ≤ 9223372036854775807) :
    Calls Try.prog 66 #[.int .i64 k, .int .i64 0, .int .i64 1000] w fun e w' => e = .returned (.int .i64 ((SM.cut k : Nat) : Int)) ∧ w = w' := by
  refine (cut15_any k 1000 w hk (by omega)).mono ?_
  rintro e w' ⟨rfl, rfl⟩
  refine ⟨?_, rfl⟩
  have : min k.toNat 1000 = SM.cut k := by unfold SM.cut; split <;> (try split) <;> omega
  rw [this]
theorem rnew16_any (x : Int) (w : World) (hx : -9223372036854775808 ≤ x ∧ x ≤ 9223372036854775807) :
    Calls Try.prog 24 #[.int .i64 x] w fun e w' => ∃ t, e = .returned (.pointer (some ⟨t, 0, none⟩)) ∧ w.Extends w' ∧ RSt w' t (fun i => w.heap.size ≤ i ∧ i < w'.heap.size) (SM.new x) := by
  have HC : Hid (∀ w', Calls Try.prog 66 #[.int .i64 x, .int .i64 0, .int .i64 1000] w' fun e w2 => e = .returned (.int .i64 ((SM.cut x : Nat) : Int)) ∧ w' = w2) := fun w' => cut1000_any x w' hx
  have HP : Hid (∀ w', w' = w.alloc (.cells #[.int .i64 ((SM.cut x : Nat) : Int), .slice none 0 0, .slice none 0 0, .slice none 0 0, .int .i64 0] 64) → w.Extends w' ∧ RSt w' w.heap.size (fun i => w.heap.size ≤ i ∧ i < w'.heap.size) (SM.new x)) := fun w' e => by
    subst e
    exact ⟨ext_alloc _ _, fun _ => False, .slice none 0 0, .slice none 0 0, [], [], ⟨⟨none, 0, heap_alloc_new _ _, rfl, by decide, World.ownsRow_nil _ _ _ _, fun g hg => (nomatch hg)⟩, by simp, OwnR.nil _, OwnR.nil _, rfl, rfl, fun g hg => (nomatch hg), fun g hg => (nomatch hg), fun g hg => hg.elim, fun g hg => (nomatch hg), fun p hp => (nomatch hp), fun p hp => (nomatch hp)⟩⟩
  generalize SM.cut x = q at *
  go_enter Try.func24, Try.ntmps24
  go_wp2_with fail
  refine (HC.out w).mono ?_
  rintro e w2 ⟨rfl, rfl⟩
  go_wp2
  go_ret
  exact ⟨_, rfl, HP.out _ rfl⟩
end Go.Proofs.Ytdbdnfjgmdkneaa
namespace Go.Proofs.Ytdbdnfjgmdkneaa
set_option maxRecDepth 20000
open Go.RowKit Go.Deep Go.Maps
set_option linter.unusedVariables false
/-- What a call leaves of a store of the reference. -/
def RLeft (w : World) (t : Nat) (D : Nat → Prop) (st : Sto) (w' : World) : Prop := RSt w' t (Nx D w w') st ∧ Fr D w w'
theorem RLeft.ext {w w' : World} {t : Nat} {D : Nat → Prop} {st : Sto} (h : RSt w t D st) (hx : w.Extends w') : RLeft w t D st w' := ⟨(h.ext hx).mono fun i hi => .inl hi, Fr.ext hx⟩
theorem RLeft.next {a b c : World} {t : Nat} {D : Nat → Prop} {st st' : Sto} (h : RLeft a t D st b) (k : RLeft b t (Nx D a b) st' c) : RLeft a t D st' c := ⟨k.1.mono fun i hi => Nx.next h.2.size k.2.size hi, h.2.next k.2⟩
/-- A slice of records of a call's own, in memory from B on. -/
def OwnB (w : World) (B : Nat) (v : Value) (ps : List Pr) : Prop := w.ownsRow B 28 10 v ps.length (flat ps) ∧ ∀ p ∈ ps, Slc p
theorem OwnB.nil (w : World) (B : Nat) : OwnB w B (.slice none 0 0) [] := ⟨World.ownsRow_nil _ _ _ _, fun p hp => by cases hp⟩
theorem OwnB.own {w : World} {B : Nat} {v : Value} {ps : List Pr} (h : OwnB w B v ps) : OwnR w v ps := by
  refine ⟨⟨h.1.1, ?_⟩, h.2⟩
  rcases h.1.2 with h4 | ⟨g, cap, cur, e, _, hrest⟩
  · exact .inl h4
  · exact .inr ⟨g, cap, cur, e, Nat.zero_le _, hrest⟩
theorem OwnB.ext {w w' : World} {B : Nat} {v : Value} {ps : List Pr} (h : OwnB w B v ps) (hx : w.Extends w') : OwnB w' B v ps := by
  have hg : w.grownBy w' none := ⟨hx.os, hx.tape, hx.output, hx.size, fun i hi _ => hx.block i hi⟩
  exact ⟨h.1.kept hg (by cases v.ownBlock <;> simp), h.2⟩
theorem OwnB.slice {w : World} {B : Nat} {v : Value} {ps : List Pr} (h : OwnB w B v ps) : ∃ a cap, v = .slice a ps.length cap := h.own.slice
theorem OwnB.snoc {w' : World} {B : Nat} {v' : Value} {ps : List Pr} {p : Pr} (hs : ∀ q ∈ ps, Slc q) (hp : Slc p) (ho : w'.ownsRow B 28 10 v' (ps.length + 1) (flat ps ++ p.1.cells p.2)) : OwnB w' B v' (ps ++ [p]) := by
  refine ⟨?_, fun q hq => ?_⟩
  · rw [flat_append, List.length_append]
    have e : flat [p] = p.1.cells p.2 := by rw [flat_cons, flat_nil, List.append_nil]
    rw [e]
    exact ho
  · rcases List.mem_append.1 hq with hq | hq
    · exact hs q hq
    · rw [List.mem_singleton] at hq; subst hq; exact hp
theorem fl_mem {q : Rc → Bool} {ps : List Pr} : ∀ p ∈ ps.filter (fun p => !q p.1), p ∈ ps := fun p hp => (List.mem_filter.1 hp).1
end Go.Proofs.Ytdbdnfjgmdkneaa
namespace Go.Proofs.Ytdbdnfjgmdkneaa
set_option maxRecDepth 20000
open Go.RowKit Go.Deep Go.Maps
set_option linter.unusedVariables false
namespace SM
def sure (st : Sto) : Sto := { st with s := LM.size st.lg }
theorem sure_inv {st : Sto} (h : Inv st) : Inv (sure st) := ⟨h.sorted, h.sym, h.tomb, h.apart, h.alive, h.most, h.room, h.fine, Nat.le_refl _⟩
end SM
theorem ssure_any (t : Nat) (D : Nat → Prop) (st : Sto) (w : World) (h : SAt w t D st) :
    Calls Try.prog 32 #[.pointer (some ⟨t, 0, none⟩)] w fun e w' => e = .returned (.tuple #[]) ∧ Left w t D (SM.sure st) w' := by
  obtain ⟨v, mp, ps, h⟩ := h
  refine (sure15_any t st.s st.lg w h.log).mono ?_
  rintro e w2 ⟨rfl, hl, hg⟩
  obtain ⟨h1, h2⟩ := h.logged hl hg
  exact ⟨rfl, ⟨_, _, _, h1.mono fun i hi => .inl hi⟩, h2⟩
theorem slen_any (t : Nat) (D : Nat → Prop) (st : Sto) (w : World) (h : SAt w t D st) :
    Calls Try.prog 37 #[.pointer (some ⟨t, 0, none⟩)] w fun e w' => e = .returned (.int .i64 ((LM.size st.lg : Nat) : Int)) ∧ w = w' := by
  obtain ⟨v, mp, ps, h⟩ := h
  exact len15_any t st.s st.lg w h.log
/-- A store of the reference whose log is another one, or has another block. -/
theorem RSX.logged {w w2 : World} {t : Nat} {D DB DB' : Nat → Prop} {st : Sto} {v1 v2 : Value} {ps qs : List Pr} {lg : List (List Nat)} {s : Nat} (h : RSX w t D DB st v1 v2 ps qs) (hl : RAt w2 t 3 [.int .i64 ((st.m : Nat) : Int), v1, v2] 64 DB' (LM.spell lg) s) (hs : w.heap.size ≤ w2.heap.size) (hrec : Still 28 w w2)
    (hB : ∀ g, DB' g → (DB g ∨ w.heap.size ≤ g) ∧ ∃ cs, w2.heap[g]? = some (.cells cs 5 (0, 0))) (hd : ∀ g, g < w.heap.size → D g → ¬ DB g → (∃ cs f, w.heap[g]? = some (.cells cs 5 f)) → w2.heap[g]? = w.heap[g]?) : RSt w2 t (Nx D w w2) { st with lg := lg, s := s } := by
  have hdl : ∀ p ∈ ps, p.1.d = [] ∨ ∀ g, p.2.ownBlock = some g → g < w.heap.size ∧ D g ∧ ¬ DB g ∧ ∃ cs f, w.heap[g]? = some (.cells cs 5 f) := fun p hp => by
    obtain ⟨k1, k2⟩ := h.data p hp
    rcases k2 with k2 | k2
    · exact .inl k2
    · rcases h.dataB p hp with k3 | k3
      · exact .inl k3
      · refine .inr fun g hg => ?_
        obtain ⟨k4, cs, f, k5⟩ := k2 g hg
        exact ⟨(Array.getElem?_eq_some_iff.1 k5).1, k4, k3 g hg, cs, f, k5⟩
  refine ⟨DB', v1, v2, ps, qs, ⟨hl, .inl h.here, h.own1.same fun g cs _ hc => hrec g cs _ hc, h.own2.same fun g cs _ hc => hrec g cs _ hc, h.recs1, h.recs2, fun g hg => .inl (h.in1 g hg), fun g hg => .inl (h.in2 g hg), fun g hg => ?_, h.apart, fun p hp => ?_, fun p hp => ?_⟩⟩
  · obtain ⟨k1, cs, k2⟩ := hB g hg
    refine ⟨?_, cs, k2⟩
    rcases k1 with k1 | k1
    · exact .inl (h.inB g k1).1
    · exact .inr ⟨k1, (Array.getElem?_eq_some_iff.1 k2).1⟩
  · obtain ⟨k1, _⟩ := h.data p hp
    rcases hdl p hp with k2 | k2
    · exact ⟨k1.same hs (.inl k2), .inl k2⟩
    · refine ⟨k1.same hs (.inr fun g hg => ?_), .inr fun g hg => ?_⟩
      · obtain ⟨a1, a2, a3, a4⟩ := k2 g hg
        exact hd g a1 a2 a3 a4
      · obtain ⟨a1, a2, a3, cs, f, a4⟩ := k2 g hg
        exact ⟨.inl a2, cs, f, (hd g a1 a2 a3 ⟨cs, f, a4⟩).trans a4⟩
  · rcases hdl p hp with k2 | k2
    · exact .inl k2
    · refine .inr fun g hg hB2 => ?_
      obtain ⟨a1, a2, a3, _⟩ := k2 g hg
      rcases (hB g hB2).1 with k3 | k3
      · exact a3 k3
      · omega
end Go.Proofs.Ytdbdnfjgmdkneaa
namespace Go.Proofs.Ytdbdnfjgmdkneaa
set_option maxRecDepth 20000
open Go.RowKit Go.Deep
set_option linter.unusedVariables false
/-- The first i and the last i of n exchanged. -/
def turned (n i : Nat) (f : Nat → Value) : Nat → Value := fun m => if m < n ∧ (m < i ∨ n - i ≤ m) then f (n - 1 - m) else f m
theorem turned_zero (n : Nat) (f : Nat → Value) : turned n 0 f = f := by
  funext m; unfold turned; rw [if_neg (by omega)]
theorem turned_mid {n i : Nat} (f : Nat → Value) (m : Nat) (h1 : i ≤ m) (h2 : m < n - i) : turned n i f m = f m := by
  unfold turned; rw [if_neg (by omega)]
theorem turned_next {n i : Nat} (f : Nat → Value) (h : i + 1 < n - i) : (fun m => if m = n - 1 - i then f i else if m = i then f (n - 1 - i) else turned n i f m) = turned n (i + 1) f := by
  funext m
  unfold turned
  by_cases h1 : m = n - 1 - i
  · subst h1; rw [if_pos rfl, if_pos (by omega)]; congr 1; omega
  · rw [if_neg h1]
    by_cases h2 : m = i
    · subst h2; rw [if_pos rfl, if_pos (by omega)]
    · rw [if_neg h2]
      by_cases h3 : m < n ∧ (m < i ∨ n - i ≤ m)
      · rw [if_pos h3, if_pos (by omega)]
      · rw [if_neg h3, if_neg (by omega)]
theorem turned_all {n i : Nat} (f : Nat → Value) (h : n - i ≤ i + 1) (m : Nat) (hm : m < n) : turned n i f m = f (n - 1 - m) := by
  unfold turned
  by_cases h3 : m < n ∧ (m < i ∨ n - i ≤ m)
  · rw [if_pos h3]
  · rw [if_neg h3]; congr 1; omega
theorem reverse15_nil (w : World) : Calls Try.prog 95 #[.slice none 0 0] w fun e w' => e = .returned (.tuple #[]) ∧ w = w' := by
  go_enter Try.func95, Try.ntmps95
  go_wp2_with fail
  go_loopw [2, 3] (fun s2 s3 wr => s2 = .int .i64 0 ∧ s3 = .int .i64 (-1) ∧ w = wr) (fun _ _ _ => 0)
  case atStart => exact ⟨rfl, by rfl, rfl⟩
  case round =>
    obtain ⟨rfl, rfl, rfl⟩ := hrel
    go_wp2
    go_end0
    exact ⟨rfl, rfl⟩
theorem reverse15_any (g n c cap : Nat) (T : TypeId) (f : Nat → Value) (w : World) (h : w.rowIs g T cap f) (hn : n ≤ cap) (hm : cap ≤ maxLen) (hs : ∀ m, m < n → ∃ a k d, f m = .slice a k d) :
    Calls Try.prog 95 #[.slice (some ⟨g, 0, none⟩) n c] w fun e w' => e = .returned (.tuple #[]) ∧ (∃ f', w'.rowIs g T cap f' ∧ ∀ m, m < n → f' m = f (n - 1 - m)) ∧ w.grownBy w' (some g) := by
  have HS := Lib.hid hs
  have HR : Hid (w.rowIs g T cap (turned n 0 f)) := by rw [turned_zero]; exact h
  unfold maxLen at hm
  clear h hs
  go_enter Try.func95, Try.ntmps95
  go_wp2_with fail
  go_loopw [2, 3] (fun s2 s3 wr => ∃ i : Nat, i ≤ n ∧ s2 = .int .i64 (i : Nat) ∧ s3 = .int .i64 ((n : Int) - 1 - (i : Int)) ∧ Hid (wr.rowIs g T cap (turned n i f)) ∧ Hid (w.grownBy wr (some g))) (fun s2 _ _ => n - (intOf s2).toNat)
  case atStart => exact ⟨0, by omega, rfl, by simp, HR, grown_refl _ _⟩
  case round =>
    obtain ⟨i, hi, rfl, rfl, HW, HG⟩ := hrel
    by_cases h1 : i + 1 < n - i
    · obtain ⟨j, hj⟩ : ∃ j, j = n - 1 - i := ⟨_, rfl⟩
      have ej : (n : Int) - 1 - (i : Int) = (j : Int) := by omega
      rw [ej]
      obtain ⟨a1, k1, d1, e1⟩ := HS.out i (by omega)
      obtain ⟨a2, k2, d2, e2⟩ := HS.out j (by omega)
      have c1 := HW.out.cell (i := i) (by omega)
      have c2 := HW.out.cell (i := j) (by omega)
      rw [turned_mid f i (Nat.le_refl _) (by omega), e1] at c1
      rw [turned_mid f j (by omega) (by omega), e2] at c2
      have z1 := HW.out.frozen i
      have z2 := HW.out.frozen j
      have hij : i ≠ j := by omega
      have HP : Hid (∀ w2, w2 = (wr.drew.setCell ⟨g, i, none⟩ (.slice a2 k2 d2)).setCell ⟨g, j, none⟩ (.slice a1 k1 d1) → w2.rowIs g T cap (turned n (i + 1) f) ∧ w.grownBy w2 (some g)) := fun w2 e => by
        subst e
        refine ⟨?_, grown_setCell (grown_setCell (grown_drew HG.out) _ _) _ _⟩
        have hr := ((HW.out.drew.set i (.slice a2 k2 d2)).set j (.slice a1 k1 d1))
        refine hr.congr fun m _ => ?_
        rw [← turned_next f h1, ← hj, e1, e2]
      have hj1 : i + j + 1 ≤ n := by omega
      have hj2 : n ≤ i + j + 1 := by omega
      have hj3 : i < j := by omega
      have ek : (j : Int) - 1 = (n : Int) - 1 - ((i + 1 : Nat) : Int) := by omega
      have HE := Lib.hid ek
      clear HW HG HR HS e1 e2 hj ek ej hij h1
      go_wp2_with fail
      go_region
      all_goals
        go_wp2
        go_roundw
        case rel => exact ⟨i + 1, by omega, by go_num, by rw [← HE.out], Lib.hid (HP.out _ rfl).1, Lib.hid (HP.out _ rfl).2⟩
        case measure => simp [intOf]; omega
    · have HP : Hid ((∃ f', wr.rowIs g T cap f' ∧ ∀ m, m < n → f' m = f (n - 1 - m)) ∧ w.grownBy wr (some g)) := ⟨⟨_, HW.out, fun m hm => turned_all f (by omega) m hm⟩, HG.out⟩
      clear HW HG HR HS
      go_wp2
      go_end0
      exact ⟨rfl, HP.out⟩
/-- Such a slice, turned round in place. -/
theorem LRows.turned {w : World} {B : Nat} {v : Value} {l : List (List Nat)} (h : LRows w B v l) (hB : B ≤ w.heap.size) :
    Calls Try.prog 95 #[v] w fun e w' => e = .returned (.tuple #[]) ∧ RwsB w' B v l.reverse ∧ Below B w w' := by
  obtain ⟨vs, ho, hr⟩ := h
  have hl : vs.length = l.length := by have := ho.1; omega
  rcases id ho.2 with ⟨rfl, h0⟩ | ⟨g, cap, cur, rfl, hbg, hg, hnc, hcm, hcs, htake⟩
  · obtain rfl : l = [] := List.eq_nil_of_length_eq_zero h0
    refine (reverse15_nil w).mono ?_
    rintro e w2 ⟨rfl, rfl⟩
    exact ⟨rfl, .inl ⟨rfl, none, 0, rfl⟩, Below.refl _ _⟩
  · have hcell : ∀ j, j < l.length → ∃ u, cur[j]? = some u ∧ RowB w u (l.getD j []) := fun j hj => by
      obtain ⟨u, h1, h2⟩ := hr j hj
      refine ⟨u, ?_, h2⟩
      rw [← htake, List.getElem?_take, if_pos (by omega)] at h1
      simpa using h1
    have hrow : w.rowIs g 26 cap (fun i => (cur[i]?).getD (.slice none 0 0)) := ⟨cur, hg, by omega, fun i hi => by
      show cur[i]? = some ((cur[i]?).getD _)
      rw [Array.getElem?_eq_getElem (by omega)]; rfl⟩
    refine (reverse15_any g l.length cap cap 26 _ w hrow hnc hcm (fun m hm => ?_)).mono ?_
    · obtain ⟨u, h1, h2⟩ := hcell m hm
      obtain ⟨a, k, rfl, _⟩ := h2.1.slice
      exact ⟨a, _, k, by rw [h1]; rfl⟩
    · rintro e w2 ⟨rfl, ⟨f', hf, hff⟩, hgr⟩
      refine ⟨rfl, .inr ⟨g, 0, cap, by rw [List.length_reverse], by rw [List.length_reverse]; exact hnc, hcm, hbg, hf.lt, fun k hk => ?_⟩, below_grown hgr hbg hB⟩
      rw [List.length_reverse] at hk
      obtain ⟨u, h1, h2⟩ := hcell (l.length - 1 - k) (by omega)
      refine ⟨u, ?_, ?_⟩
      · rw [Nat.zero_add, hf.cell (by omega), hff k hk, h1]; rfl
      · have := h2.grown (v := .slice (some ⟨g, 0, none⟩) l.length cap) ho (by decide) hgr
        rw [show l.reverse.getD k [] = l.getD (l.length - 1 - k) [] by simp [List.getD_eq_getElem?_getD, List.getElem?_reverse hk]]
        exact this
def sliceLen : Value → Nat
  | .slice _ n _ => n
  | _ => 0
set_option maxHeartbeats 1000000 in
theorem all15_new (t s : Nat) {R : List Value} {T : TypeId} (l : List (List Nat)) (w : World) (h : LAt w t R T l s) (hl : l.length ≤ 1000000) :
    Calls Try.prog 74 #[.pointer (some ⟨t, 0, none⟩)] w (LMade w l) := by
  obtain ⟨p, h0, h1, f0, f1, hc, hf, hb, hT⟩ := h.cells
  obtain ⟨r, hr⟩ : ∃ r, r = l.reverse := ⟨_, rfl⟩
  have HRL : Hid (l = r.reverse) := by rw [hr, List.reverse_reverse]; rfl
  have hrl : r.length ≤ 1000000 := by rw [hr, List.length_reverse]; exact hl
  have HF : Hid (∀ j, j < r.length → (r.getD j []).length ≤ 65535 ∧ ∀ y ∈ r.getD j [], y < 256) := fun j hj => by
    have hm : r.getD j [] ∈ l := by
      rw [← List.mem_reverse, ← hr, List.getD_eq_getElem?_getD, List.getElem?_eq_getElem hj]; exact List.getElem_mem _
    exact hf _ hm
  rw [← hr] at hc
  have HSN := Lib.hid (take_snoc r)
  have HTL : Hid (∀ k, k ≤ r.length → (r.take k).length = k) := fun k hk => by rw [List.length_take]; omega
  have HST : Hid (∀ k p, Chain w p (r.drop k) → k ≤ r.length → (p = none ∧ k = r.length) ∨ (k < r.length ∧ ∃ b q, p = some ⟨b, 0, none⟩ ∧ w.cell? ⟨b, 0, none⟩ = some (.pointer q) ∧ w.cell? ⟨b, 1, none⟩ = some (.string (strOf (r.getD k []))) ∧ Chain w q (r.drop (k + 1)))) := fun k p hcp hk => by
    by_cases e : k = r.length
    · rw [e, List.drop_length] at hcp
      exact .inl ⟨hcp, e⟩
    · have hlt : k < r.length := by omega
      rw [List.drop_eq_getElem_cons hlt] at hcp
      obtain ⟨b, q, hp, c0, c1, c2, hc2⟩ := hcp.cells
      refine .inr ⟨hlt, b, q, hp, c0, ?_, hc2⟩
      rw [c1, List.getD_eq_getElem?_getD, List.getElem?_eq_getElem hlt]; rfl
  have HC : Hid (Chain w p (r.drop 0)) := by rw [List.drop_zero]; exact hc
  obtain ⟨n, hn⟩ : ∃ n, n = r.length := ⟨_, rfl⟩
  rw [← hn] at HF HTL HST hrl
  have HN := Lib.hid hn
  clear h1 f0 f1 hc hf hb h hr hl hn
  obtain ⟨i1, hi', hz0', hz1', hz2'⟩ := info_parts bytesinfo
  have HI' := Lib.hid hi'; clear hi'
  have HZ0' := Lib.hid hz0'; clear hz0'
  have HZ1' := Lib.hid hz1'; clear hz1'
  have HZ2' := Lib.hid hz2'; clear hz2'
  go_enter Try.func74, Try.ntmps74
  go_wp2_with fail
  clear h0
  go_loopw [3, 4] (fun s3 s4 wr => ∃ (k : Nat) (p : Option Addr), k ≤ n ∧ s4 = .pointer p ∧ Hid (Chain w p (r.drop k)) ∧ Hid (w.Extends wr) ∧ Hid (LRows wr w.heap.size s3 (r.take k)) ∧ sliceLen s3 = k) (fun s3 _ _ => n - sliceLen s3)
  case atStart => exact ⟨0, p, by omega, rfl, HC, Gr.ext_refl _, LRows.nil _ _, rfl⟩
  case round =>
    obtain ⟨k, p, hk, rfl, HCH, HX, HR, hsl⟩ := hrel
    have HSL := Lib.hid hsl
    clear hsl
    rcases HST.out k p HCH.out hk with ⟨rfl, hkn⟩ | ⟨hlt, b, q, rfl, c0, c1, hcq⟩
    · have hRev := LRows.turned HR.out HX.out.size
      rw [show r.take k = r by rw [hkn, HN.out, List.take_length], ← HRL.out] at hRev
      have HREV := Lib.hid hRev
      clear hRev
      go_wp2_with fail
      refine HREV.out.mono ?_
      rintro e w2 ⟨rfl, hrw, hbl⟩
      have HP : Hid (LMade w l (.returned u3) w2) := ⟨u3, rfl, Gr.ext_of ((Gr.below_of HX.out).trans hbl), hrw⟩
      clear hrw hbl HREV
      go_wp2
      go_ret
      exact HP.out
    · have HC0 := Lib.hid c0
      have hd1 := HX.out.cell_of c1
      have hfk := HF.out k hlt
      obtain ⟨v, w2, hcv, hx2, hrow⟩ := bytes_of_string (r.getD k []) wr (by unfold maxLen; omega) hfk.2
      obtain ⟨va, vc, rfl, _⟩ := hrow.1.slice
      have HX2 := Lib.hid (Gr.ext_trans HX.out hx2)
      have hbs := HX2.out.size
      obtain ⟨vs, hown, hrows⟩ := HR.out.ext hx2
      rw [HTL.out k hk] at hown
      have HOWN := Lib.hid hown
      have HROWS := Lib.hid hrows
      have HROW := Lib.hid hrow
      have HCQ := Lib.hid hcq
      have HS := Lib.hid (HSN.out k (by have := HN.out; omega))
      have HOB : Hid (∀ g, u3.ownBlock = some g → w.heap.size ≤ g) := fun g hg => (HOWN.out.lt g hg).1
      have h0n : (r.getD k []).length ≤ 65535 := hfk.1
      clear hown hrows hrow hcq hfk hx2 c0 c1 HR
      generalize hqq : (r.getD k []).length = ql at *
      have HQQ := Lib.hid hqq
      clear hqq
      generalize strOf (r.getD k []) = sx at *
      go_wp2_with (at_builtin; refine wpList_append_own_src _ rfl _ _ 113 113 rfl w.heap.size 26 i1 (.slice none 0 0) 1 24 Try.underlying113 HI'.out HZ0'.out HZ1'.out HZ2'.out rfl _ _ _ rfl (HOWN.out.alloc _) _ 1 [.slice va ql vc] rfl (src_one Try.underlying113 _ _ rfl rfl) (by unfold maxLen; omega) (by omega) (by simp; omega) ?_)
      intro v' w3 ho3 hg3 _
      obtain ⟨ya, yc, rfl⟩ := owns_slice ho3
      have HP : Hid (w.Extends w3 ∧ LRows w3 w.heap.size (.slice ya (k + 1) yc) (r.take (k + 1))) := by
        refine ⟨Gr.ext_of (((Gr.below_of HX2.out).alloc hbs _).grown hg3 (by simp; omega) HOB.out), ?_⟩
        rw [← HS.out]
        have e := HTL.out k hk
        exact LRows.snoc (w := w2.alloc _) (by rw [e]; exact HOWN.out.alloc _) (fun j hj => by obtain ⟨u, h1, h2⟩ := HROWS.out j hj; exact ⟨u, h1, h2.ext (ext_alloc _ _)⟩) (HROW.out.ext (ext_alloc _ _)) hg3 (by rw [e]; exact ho3)
      clear ho3 hg3
      have hd0 := HP.out.1.cell_of HC0.out
      clear hd1
      go_wp2
      go_roundw
      case rel => exact ⟨k + 1, q, by omega, by rfl, HCQ, Lib.hid HP.out.1, Lib.hid HP.out.2, by rfl⟩
      case measure => rw [HSL.out]; simp [sliceLen]; omega
end Go.Proofs.Ytdbdnfjgmdkneaa
namespace Go.Proofs.Ytdbdnfjgmdkneaa
set_option maxRecDepth 20000
open Go.RowKit Go.Deep
set_option linter.unusedVariables false
/-- A cut with a bound of its own: x[:n:n]. -/
theorem wpList_slice3 {P : Program} {w : World} {ops : Array Oper} {rest : List Oper} {o : Oper} {a : Act} {Q : Exit → Act → World → Prop} (hgd : o.guard = none) (t : TypeId) (x : Operand) (lo hi mx : Option Operand) (ho : o.op = .slice t x lo hi mx)
    (ht : P.underlying t = some (.slice (P.elem t))) (v : Value) (l h m : Option Value) (hx : a.eval x = v) (hl : lo.map a.eval = l) (hh : hi.map a.eval = h) (hm : mx.map a.eval = m) {v' : Value}
    (hr : (Instr.slice t v l h m).run P w = .ok v' w) (hk : wpList P ops Q rest (a.put o.dst v') w) : wpList P ops Q (o :: rest) a w := by
  refine wpList_plain hgd fun K hK => ?_
  have hr' : (Instr.sliceAt t v l h m).run P w = .ok v' w := by rw [run_sliceAt_slice (P := P) w t v l h m ht]; exact hr
  unfold Oper.wp
  simp [execOp, ho, hx, hl, hh, hm, hr', Result.andThen]
  exact hK _ _ hk
theorem cut_top {w : World} {v : Value} {xs : List Nat} (h : U8s w v xs) (n : Nat) (hn : n ≤ xs.length) :
    ∃ a c, (∀ w', (Instr.slice 26 v none (some (.int .i64 (n : Nat))) (some (.int .i64 (n : Nat)))).run Try.prog w' = .ok (.slice a n c) w') ∧ U8s w (.slice a n c) (xs.take n) := by
  obtain ⟨a, cap, rfl, hc, hm⟩ := h.slice
  have hlen : (xs.take n).length = n := by rw [List.length_take]; omega
  have hlt : ∀ x ∈ xs.take n, x < 256 := fun x hx => h.lt x (List.mem_of_mem_take hx)
  refine ⟨if n = 0 then a else a.map (·.add 0), n, fun w' => ?_, ?_⟩
  · rw [run_slice_hm (P := Try.prog) w' 26 a xs.length cap elemBytes .i64 .i64 n n (by omega) (by omega) (by omega), sizeByte]
    simp only [Result.andThen_ok, Int.toNat_natCast, Go.sliced, Nat.sub_zero, Nat.zero_mul]
  · by_cases h0 : n = 0
    · subst h0
      exact .inl ⟨by simp, _, 0, rfl, Nat.zero_le _⟩
    · rw [if_neg h0]
      obtain ⟨b, off, rfl, hb, hcell⟩ := h.cell.2 (by omega)
      refine .inr ⟨b, off, n, by rw [hlen]; simp [Addr.add_mid], by rw [hlen]; exact Nat.le_refl _, by omega, hb, fun k hk => ?_, hlt⟩
      rw [hlen] at hk
      rw [hcell k (by omega)]
      have e : (xs.take n).getD k 0 = xs.getD k 0 := by
        rw [List.getD_eq_getElem?_getD, List.getElem?_take, if_pos (by omega), ← List.getD_eq_getElem?_getD]
      rw [e]
/-- Taking a piece of so many bytes. -/
def KM.pc (n : Nat) (s : List Nat × Bool) : List Nat := if s.2 = true ∨ s.1.length < n then [] else s.1.take n
theorem KM.gn_pc (n : Nat) (s : List Nat × Bool) : KM.gn n s = KM.num (KM.pc n s) := by
  unfold KM.gn KM.pc
  split <;> rfl
theorem KM.pc_len (n : Nat) (s : List Nat × Bool) : (KM.pc n s).length ≤ n := by
  unfold KM.pc
  split
  · exact Nat.zero_le _
  · rw [List.length_take]; omega
/-- What taking a piece answers. -/
def PieceOut (T : TypeId) (w : World) (t n : Nat) (s : List Nat × Bool) (e : Ending) (w' : World) : Prop := ∃ a c, e = .returned (.slice a (KM.pc n s).length c) ∧ U8s w' (.slice a (KM.pc n s).length c) (KM.pc n s) ∧ CurAt T w' t (KM.gs n s) ∧ w.grownBy w' (some t)
theorem piece_any (t n : Nat) (s : List Nat × Bool) (w : World) (hn : n ≤ 1000000) (h : CurAt 126 w t s) :
    Calls Try.prog 101 #[.pointer (some ⟨t, 0, none⟩), .int .i64 n] w (PieceOut 126 w t n s) := by
  obtain ⟨a, c, h0, h1, f0, f1, hu, hh⟩ := h.cells
  obtain ⟨xs, b⟩ := s
  simp only at h0 h1 hu hh
  have hlen := hu.len
  unfold maxLen at hlen
  have HPB : (b = true ∨ xs.length < n) → Hid (PieceOut 126 w t n (xs, b) (.returned (.slice none 0 0)) (w.setCell ⟨t, 1, none⟩ (.bool true))) := fun hc => by
    have e : KM.pc n (xs, b) = [] := by unfold KM.pc; rw [if_pos hc]
    refine ⟨none, 0, by rw [e]; rfl, by rw [e]; exact nil_u8s _ _ _, ?_, grown_set _ _ _ _⟩
    unfold KM.gs; rw [if_pos hc]
    exact CurAt.short hh hu
  cases b with
  | true =>
    have HP := HPB (Or.inl rfl)
    clear hu hh HPB hlen
    go_enter Try.func101, Try.ntmps101
    go_wp2
    go_ret
    exact HP.out
  | false =>
    by_cases hl : xs.length < n
    · have HP := HPB (Or.inr hl)
      clear hu hh HPB
      generalize xs.length = m at *
      go_enter Try.func101, Try.ntmps101
      go_wp2
      go_ret
      exact HP.out
    · obtain ⟨a2, c2, hsl, hd2⟩ := cut_from hu n (by omega)
      obtain ⟨a3, c3, hsl3, hd3⟩ := cut_top hu n (by omega)
      have HSL := Lib.hid hsl
      have HSL3 := Lib.hid hsl3
      have HP : Hid (PieceOut 126 w t n (xs, false) (.returned (.slice a3 n c3)) (w.setCell ⟨t, 0, none⟩ (.slice a2 (xs.length - n) c2))) := by
        have c : ¬ ((xs, false).2 = true ∨ (xs, false).1.length < n) := by simp; omega
        have e : KM.pc n (xs, false) = xs.take n := by unfold KM.pc; rw [if_neg c]
        have el : (KM.pc n (xs, false)).length = n := by rw [e, List.length_take]; omega
        refine ⟨a3, c3, by rw [el], by rw [el, e]; exact hd3.beside hh (cur_cells _ _ _ _) (grown_set _ _ _ _), ?_, grown_set _ _ _ _⟩
        unfold KM.gs; rw [if_neg c]
        exact CurAt.left hh (by rw [List.length_drop]) hd2
      clear hu hh hsl hd2 hsl3 hd3 HPB
      generalize xs.length = m at *
      go_enter Try.func101, Try.ntmps101
      go_wp2_with (first | refine wpList_slice3 rfl 26 (.tmp 25) none (some (.tmp 26)) (some (.tmp 27)) rfl elemBytes _ _ _ _ rfl rfl rfl rfl (HSL3.out _) ?_ | refine wpList_slice rfl 26 (.tmp 33) (some (.tmp 34)) none rfl elemBytes _ _ _ rfl rfl rfl (HSL.out _) ?_)
      go_ret
      exact HP.out
theorem number_any (t W : Nat) (s : List Nat × Bool) (w : World) (hW : W ≤ 4) (h : CurAt 126 w t s) :
    Calls Try.prog 83 #[.pointer (some ⟨t, 0, none⟩), .int .i64 W] w (TakeOut 126 w t W s) := by
  have HPI := Lib.hid (piece_any t W s w (by omega) h)
  clear h
  go_enter Try.func83, Try.ntmps83
  go_wp2_with fail
  refine HPI.out.mono ?_
  rintro e w1 ⟨a, c, rfl, hu, hc, hg⟩
  have HP : Hid (TakeOut 126 w t W s (.returned (.int .i64 (KM.num (KM.pc W s) : Nat))) w1) := ⟨by rw [KM.gn_pc], hc, hg⟩
  have hl := KM.pc_len W s
  clear HPI hc hg
  generalize KM.pc W s = ys at *
  have HC := Lib.hid hu.cell.2
  have HLT := Lib.hid hu.lt
  have HNT := Lib.hid (KM.num_take_succ ys)
  have HNL : Hid (KM.num ys = KM.num (ys.take ys.length)) := by show _ = _; rw [List.take_length]
  clear hu
  generalize ys.length = n at *
  go_wp2_with fail
  go_loopw [5, 12] (fun s5 s12 wr => ∃ q : Nat, q ≤ n ∧ s5 = .int .i64 (KM.num (ys.take q) : Nat) ∧ s12 = .int .i64 (q : Nat) ∧ wr = w1) (fun _ s12 _ => (n - intOf s12).toNat)
  case atStart => exact ⟨0, by omega, by rfl, by rfl, rfl⟩
  case round =>
    obtain ⟨q, hq, rfl, rfl, rfl⟩ := hrel
    by_cases h : q < n
    · have hb := KM.num_take_lt ys HLT.out q (by omega)
      have HS := Lib.hid (HNT.out q h)
      obtain ⟨g, off, rfl, hg, hcell⟩ := HC.out (by omega)
      have hc := hcell q (by omega)
      have hx : ys.getD q 0 < 256 := getD_lt ys HLT.out q
      generalize ys.getD q 0 = x at *
      generalize KM.num (ys.take q) = m at *
      have hor := i64_or_byte m x (by omega) hx
      clear hcell
      go_wp2
      go_roundw
      case rel => exact ⟨q + 1, by omega, by rw [HS.out]; go_num, by go_num, trivial⟩
      case measure => simp [intOf]; omega
    · obtain rfl : q = n := by omega
      rw [← HNL.out]
      go_wp2
      go_ret
      exact HP.out
theorem of_any (v : Value) (xs : List Nat) (w : World) (h : U8s w v xs) :
    Calls Try.prog 61 #[v] w fun e w' => ∃ t, e = .returned (.pointer (some ⟨t, 0, none⟩)) ∧ CurAt 126 w' t (xs, false) ∧ w.Extends w' ∧ w.heap.size ≤ t := by
  obtain ⟨a, c, rfl, _, _⟩ := h.slice
  have HP : Hid (∃ t, Ending.returned (.pointer (some ⟨w.heap.size, 0, none⟩)) = .returned (.pointer (some ⟨t, 0, none⟩)) ∧ CurAt 126 (w.alloc (.cells #[.slice a xs.length c, .bool false] 126)) t (xs, false) ∧ w.Extends (w.alloc (.cells #[.slice a xs.length c, .bool false] 126)) ∧ w.heap.size ≤ t) :=
    ⟨_, rfl, CurAt.new h, ext_alloc _ _, Nat.le_refl _⟩
  clear h
  go_enter Try.func61, Try.ntmps61
  go_wp2
  go_ret
  exact HP.out
theorem short_any (t : Nat) (s : List Nat × Bool) (w : World) (h : CurAt 126 w t s) :
    Calls Try.prog 85 #[.pointer (some ⟨t, 0, none⟩)] w fun e w' => e = .returned (.bool s.2) ∧ w = w' := by
  obtain ⟨a, c, h0, h1, f0, f1, hu, hh⟩ := h.cells
  clear hu hh
  go_enter Try.func85, Try.ntmps85
  go_wp2
  go_ret
  exact ⟨rfl, rfl⟩
theorem rest_any (t : Nat) (s : List Nat × Bool) (w : World) (h : CurAt 126 w t s) :
    Calls Try.prog 84 #[.pointer (some ⟨t, 0, none⟩)] w fun e w' => ∃ a c, e = .returned (.slice a s.1.length c) ∧ U8s w' (.slice a s.1.length c) s.1 ∧ CurAt 126 w' t ([], s.2) ∧ w.grownBy w' (some t) := by
  obtain ⟨a, c, h0, h1, f0, f1, hu, hh⟩ := h.cells
  have HP : Hid (∃ a' c', Ending.returned (.slice a s.1.length c) = .returned (.slice a' s.1.length c') ∧ U8s (w.setCell ⟨t, 0, none⟩ (.slice none 0 0)) (.slice a' s.1.length c') s.1 ∧ CurAt 126 (w.setCell ⟨t, 0, none⟩ (.slice none 0 0)) t ([], s.2) ∧ w.grownBy (w.setCell ⟨t, 0, none⟩ (.slice none 0 0)) (some t)) :=
    ⟨a, c, rfl, hu.beside hh (cur_cells _ _ _ _) (grown_set _ _ _ _), CurAt.left hh rfl (nil_u8s _ _ _), grown_set _ _ _ _⟩
  clear hu hh h
  go_enter Try.func84, Try.ntmps84
  go_wp2
  go_ret
  exact HP.out
end Go.Proofs.Ytdbdnfjgmdkneaa
