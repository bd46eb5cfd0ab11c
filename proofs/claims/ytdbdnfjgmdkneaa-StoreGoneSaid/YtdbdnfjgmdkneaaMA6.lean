/- In one text: StoAt, StoRoom, StoMake, StoClone. -/
import Derived.Deep.DeepCutAuto
import Derived.Handy
import Derived.Test.YtdbdnfjgmdkneaaMA3
import Derived.Test.YtdbdnfjgmdkneaaMA4
import Derived.Test.YtdbdnfjgmdkneaaMA5
namespace Go.Proofs.Ytdbdnfjgmdkneaa
set_option maxRecDepth 20000
open Go.RowKit Go.Deep Go.Maps
set_option linter.unusedVariables false
/-- u reads as xs, and lies in a block of bytes of D. -/
def RowIn (w : World) (D : Nat → Prop) (u : Value) (xs : List Nat) : Prop := U8s w u xs ∧ (xs = [] ∨ ∀ g, u.ownBlock = some g → D g ∧ ∃ cs f, w.heap[g]? = some (.cells cs 5 f))
theorem U8s.same {w w' : World} {u : Value} {xs : List Nat} (h : U8s w u xs) (hs : w.heap.size ≤ w'.heap.size) (hb : xs = [] ∨ ∀ g, u.ownBlock = some g → w'.heap[g]? = w.heap[g]?) : U8s w' u xs := by
  rcases h with h | ⟨b, off, cap, rfl, h1, h2, h3, h4, h5⟩
  · exact .inl h
  · rcases hb with rfl | hb
    · exact .inl ⟨rfl, _, _, rfl, by simpa using h2⟩
    · refine .inr ⟨b, off, cap, rfl, h1, h2, Nat.lt_of_lt_of_le h3 hs, fun k hk => ?_, h5⟩
      rw [World.cell?_of_block (w := w) (w' := w') (a := ⟨b, off + k, none⟩) (hb b rfl)]
      exact h4 k hk
theorem RowIn.same {w w' : World} {D : Nat → Prop} {u : Value} {xs : List Nat} (h : RowIn w D u xs) (hs : w.heap.size ≤ w'.heap.size) (hb : ∀ g cs f, D g → w.heap[g]? = some (.cells cs 5 f) → w'.heap[g]? = w.heap[g]?) : RowIn w' D u xs := by
  obtain ⟨h1, h2⟩ := h
  rcases h2 with h2 | h2
  · exact ⟨h1.same hs (.inl h2), .inl h2⟩
  · refine ⟨h1.same hs (.inr fun g hg => ?_), .inr fun g hg => ?_⟩
    · obtain ⟨h3, cs, f, h4⟩ := h2 g hg
      exact hb g cs f h3 h4
    · obtain ⟨h3, cs, f, h4⟩ := h2 g hg
      exact ⟨h3, cs, f, (hb g cs f h3 h4).trans h4⟩
theorem RowIn.mono {w : World} {D D' : Nat → Prop} {u : Value} {xs : List Nat} (h : RowIn w D u xs) (hD : ∀ i, D i → D' i) : RowIn w D' u xs := ⟨h.1, h.2.imp id fun h2 g hg => ⟨hD g (h2 g hg).1, (h2 g hg).2⟩⟩
theorem RowIn.still {w w' : World} {D : Nat → Prop} {u : Value} {xs : List Nat} (h : RowIn w D u xs) (hs : w.heap.size ≤ w'.heap.size) (hb : Still 5 w w') : RowIn w' D u xs := h.same hs fun g cs f _ hg => hb g cs f hg
/-- All data read, in blocks of D. -/
def Reads (w : World) (D : Nat → Prop) (ps : List Pr) : Prop := ∀ p ∈ ps, RowIn w D p.2 p.1.d
theorem Reads.still {w w' : World} {D : Nat → Prop} {ps : List Pr} (h : Reads w D ps) (hs : w.heap.size ≤ w'.heap.size) (hb : Still 5 w w') : Reads w' D ps := fun p hp => (h p hp).still hs hb
theorem Reads.mono {w : World} {D D' : Nat → Prop} {ps : List Pr} (h : Reads w D ps) (hD : ∀ i, D i → D' i) : Reads w D' ps := fun p hp => (h p hp).mono hD
/-- The tombstones' map. -/
def MapAt (w : World) (D : Nat → Prop) (m : Option Nat) (t : List Rc) : Prop := (m = none ∧ t = []) ∨ ∃ b E, m = some b ∧ D b ∧ w.ownsMap Try.prog 23 (plainElem Try.prog 3) b t.length E ∧ Ties E t
theorem tight {w : World} {b n : Nat} {E : DataW Unit} (h : w.ownsMap Try.prog 23 (plainElem Try.prog 3) b n E) : w.ownsMap Try.prog 23 (plainElem Try.prog 3) b (Maps.size E) E := by
  obtain ⟨es, clock, hb, F, hs, rfl⟩ := h
  refine ⟨es, clock, hb, F, ?_, rfl⟩
  rw [size_eq, length_sorted]; simp
theorem MapAt.same {w w' : World} {D : Nat → Prop} {m : Option Nat} {t : List Rc} (h : MapAt w D m t) (hb : ∀ b, m = some b → w'.heap[b]? = w.heap[b]?) : MapAt w' D m t := by
  rcases h with h | ⟨b, E, h1, h2, h3, h4⟩
  · exact .inl h
  · obtain ⟨es, clock, hh, h5⟩ := h3
    exact .inr ⟨b, E, h1, h2, ⟨es, clock, (hb b h1).trans hh, h5⟩, h4⟩
theorem MapAt.mono {w : World} {D D' : Nat → Prop} {m : Option Nat} {t : List Rc} (h : MapAt w D m t) (hD : ∀ i, D i → D' i) : MapAt w D' m t := by
  rcases h with h | ⟨b, E, h1, h2, h3, h4⟩
  · exact .inl h
  · exact .inr ⟨b, E, h1, hD b h2, h3, h4⟩
theorem MapAt.block {w : World} {D : Nat → Prop} {b : Nat} {t : List Rc} (h : MapAt w D (some b) t) : D b ∧ ∃ es c, w.heap[b]? = some (.map es c) := by
  rcases h with ⟨h, _⟩ | ⟨b', E, h1, h2, ⟨es, clock, hh, _⟩, h4⟩
  · cases h
  · cases h1; exact ⟨h2, es, clock, hh⟩
/-- A store of the program lies at block t, in blocks of D; v: its symbols' slice; mp: its map; ps: the symbols and their data. -/
structure SAtX (w : World) (t : Nat) (D : Nat → Prop) (st : Sto) (v : Value) (mp : Option Nat) (ps : List Pr) : Prop where
  log : LAt w t [.int .i64 ((st.m : Nat) : Int), v, .map mp] 60 st.lg st.s
  here : D t
  own : OwnR w v ps
  recs : recs ps = st.l
  inD : ∀ g, v.ownBlock = some g → D g
  data : Reads w D ps
  tombs : MapAt w D mp st.t
def SAt (w : World) (t : Nat) (D : Nat → Prop) (st : Sto) : Prop := ∃ v mp ps, SAtX w t D st v mp ps
section
variable {w w' : World} {t : Nat} {D D' : Nat → Prop} {st : Sto} {v : Value} {mp : Option Nat} {ps : List Pr}
theorem SAtX.mono (h : SAtX w t D st v mp ps) (hD : ∀ i, D i → D' i) : SAtX w t D' st v mp ps :=
  ⟨h.log, hD _ h.here, h.own, h.recs, fun g hg => hD g (h.inD g hg), h.data.mono hD, h.tombs.mono hD⟩
theorem SAt.mono (h : SAt w t D st) (hD : ∀ i, D i → D' i) : SAt w t D' st := by
  obtain ⟨v, mp, ps, h⟩ := h
  exact ⟨v, mp, ps, h.mono hD⟩
/-- It stays where none of its blocks, and no piece of a log, is written. -/
theorem SAtX.away (h : SAtX w t D st v mp ps) (hf : Fr D' w w') (hn : ∀ i, D i → ¬ D' i) (hp : Still 116 w w') : SAtX w' t D st v mp ps := by
  have hb : ∀ g, D g → g < w.heap.size → w'.heap[g]? = w.heap[g]? := fun g hg hl => hf.away g hl (hn g hg)
  refine ⟨h.log.keep (fun k cs hk => hp k cs _ hk) (hb t h.here h.log.lt), h.here, ?_, h.recs, h.inD, fun p hp' => (h.data p hp').same hf.size fun g cs f hg hc => hb g hg (Array.getElem?_eq_some_iff.1 hc).1, h.tombs.same fun b e => ?_⟩
  · refine ⟨?_, h.own.2⟩
    refine ⟨h.own.1.1, ?_⟩
    rcases h.own.1.2 with h4 | ⟨g, cap, cur, hv, h1, hh, hrest⟩
    · exact .inl h4
    · exact .inr ⟨g, cap, cur, hv, h1, (hb g (h.inD g (by rw [hv]; rfl)) (Array.getElem?_eq_some_iff.1 hh).1).trans hh, hrest⟩
  · subst e
    obtain ⟨h1, es, c, h2⟩ := h.tombs.block
    exact hb b h1 (Array.getElem?_eq_some_iff.1 h2).1
theorem SAt.away (h : SAt w t D st) (hf : Fr D' w w') (hn : ∀ i, D i → ¬ D' i) (hp : Still 116 w w') : SAt w' t D st := by
  obtain ⟨v, mp, ps, h⟩ := h
  exact ⟨v, mp, ps, h.away hf hn hp⟩
theorem SAtX.ext (h : SAtX w t D st v mp ps) (hx : w.Extends w') : SAtX w' t D st v mp ps := h.away (D' := fun _ => False) (Fr.ext hx) (fun _ _ h => h) (Still.ext hx)
theorem SAt.ext (h : SAt w t D st) (hx : w.Extends w') : SAt w' t D st := by
  obtain ⟨v, mp, ps, h⟩ := h
  exact ⟨v, mp, ps, h.ext hx⟩
theorem SAtX.cells (h : SAtX w t D st v mp ps) : ∃ p, w.heap[t]? = some (.cells #[.pointer p, .int .i64 ((st.s : Nat) : Int), .int .i64 ((st.m : Nat) : Int), v, .map mp] 60 (0, 0)) ∧ w.cell? ⟨t, 2, none⟩ = some (.int .i64 ((st.m : Nat) : Int)) ∧ w.cell? ⟨t, 3, none⟩ = some v ∧ w.cell? ⟨t, 4, none⟩ = some (.map mp) ∧ w.frozen? ⟨t, 3, none⟩ = false ∧ w.frozen? ⟨t, 4, none⟩ = false := by
  obtain ⟨p, h1, _⟩ := h.log
  exact ⟨p, h1, by rw [cell_of_row _ _ _ _ _ _ h1]; rfl, by rw [cell_of_row _ _ _ _ _ _ h1]; rfl, by rw [cell_of_row _ _ _ _ _ _ h1]; rfl, frozen_of_row _ _ _ _ _ h1, frozen_of_row _ _ _ _ _ h1⟩
theorem SAtX.lt (h : SAtX w t D st v mp ps) : t < w.heap.size := h.log.lt
theorem SAtX.len (h : SAtX w t D st v mp ps) : ps.length = st.l.length := by rw [← h.recs, recs_length]
/-- The slice's array, and the map, are not the store's own block, nor each other. -/
theorem SAtX.apart (h : SAtX w t D st v mp ps) : (∀ g, v.ownBlock = some g → g ≠ t ∧ ∃ cs, w.heap[g]? = some (.cells cs 28 (0, 0))) ∧ ∀ b, mp = some b → b ≠ t ∧ v.ownBlock ≠ some b := by
  obtain ⟨p, h1, _⟩ := h.cells
  have hv : ∀ g, v.ownBlock = some g → ∃ cs, w.heap[g]? = some (.cells cs 28 (0, 0)) := fun g hg => by
    rcases h.own.1.2 with ⟨rfl, _⟩ | ⟨g', cap, cur, rfl, _, hh, _⟩
    · cases hg
    · simp only [Value.ownBlock, Option.some.injEq] at hg
      subst hg
      exact ⟨cur, hh⟩
  refine ⟨fun g hg => ⟨fun e => ?_, hv g hg⟩, fun b hb => ⟨fun e => ?_, fun e => ?_⟩⟩
  · subst e
    obtain ⟨cs, hc⟩ := hv g hg
    rw [h1] at hc
    simp only [Option.some.injEq, Obj.cells.injEq] at hc
    exact absurd hc.2.1 (by decide)
  · subst hb; subst e
    obtain ⟨_, es, c, h2⟩ := h.tombs.block
    rw [h1] at h2; cases h2
  · subst hb
    obtain ⟨_, es, c, h2⟩ := h.tombs.block
    obtain ⟨cs, hc⟩ := hv b e
    rw [h2] at hc; cases hc
end
namespace SM
def cut (x : Int) : Nat := if x < 0 then 0 else if 1000 < x then 1000 else x.toNat
def new (x : Int) : Sto := ⟨cut x, [], [], [], 0⟩
theorem inv_new (x : Int) : Inv (new x) := ⟨List.Pairwise.nil, fun r hr => (nomatch hr), fun r hr => (nomatch hr), List.Pairwise.nil, fun r hr => (nomatch hr), by show cut x ≤ 1000; unfold cut; split <;> (try split) <;> omega, Nat.zero_le _, LM.Fine.nil, Nat.zero_le _⟩
end SM
theorem new16_any (x : Int) (w : World) (hx : -9223372036854775808 ≤ x ∧ x ≤ 9223372036854775807) :
    Calls Try.prog 23 #[.int .i64 x] w fun e w' => e = .returned (.pointer (some ⟨w.heap.size, 0, none⟩)) ∧ w.Extends w' ∧ SAt w' w.heap.size (fun i => i = w.heap.size) (SM.new x) ∧ w'.heap.size = w.heap.size + 1 := by
  have HP : Hid (∀ w', w' = w.alloc (.cells #[.pointer none, .int .i64 0, .int .i64 ((SM.cut x : Nat) : Int), .slice none 0 0, .map none] 60) → w.Extends w' ∧ SAt w' w.heap.size (fun i => i = w.heap.size) (SM.new x) ∧ w'.heap.size = w.heap.size + 1) := fun w' e => by
    subst e
    refine ⟨ext_alloc _ _, ⟨.slice none 0 0, none, [], ⟨none, heap_alloc_new _ _, rfl, LM.Fine.nil, by decide⟩, rfl, OwnR.nil _, rfl, fun g hg => (nomatch hg), fun p hp => (nomatch hp), .inl ⟨rfl, rfl⟩⟩, by simp⟩
  unfold SM.cut at HP
  rcases Int.lt_or_le x 0 with h1 | h1
  · rw [if_pos h1] at HP
    have e1 : max x 0 = 0 := by omega
    go_enter Try.func23, Try.ntmps23
    go_wp2
    go_ret
    exact ⟨rfl, HP.out _ rfl⟩
  · rcases Int.lt_or_le 1000 x with h2 | h2
    · rw [if_neg (by omega), if_pos h2] at HP
      go_enter Try.func23, Try.ntmps23
      go_wp2
      go_ret
      exact ⟨rfl, HP.out _ rfl⟩
    · rw [if_neg (by omega), if_neg (by omega), Int.toNat_of_nonneg h1] at HP
      go_enter Try.func23, Try.ntmps23
      go_wp2
      go_ret
      exact ⟨rfl, HP.out _ rfl⟩
theorem count_any (t : Nat) (D : Nat → Prop) (st : Sto) (w : World) (h : SAt w t D st) :
    Calls Try.prog 36 #[.pointer (some ⟨t, 0, none⟩)] w fun e w' => e = .returned (.int .i64 ((st.l.length : Nat) : Int)) ∧ w = w' := by
  obtain ⟨v, mp, ps, h⟩ := h
  obtain ⟨p, hb, c2, c3, c4, f3, f4⟩ := h.cells
  rw [← h.len]
  obtain ⟨a, cap, rfl⟩ := h.own.slice
  clear h hb c2 c4
  generalize ps.length = n at *
  go_enter Try.func36, Try.ntmps36
  go_wp2
  go_ret
  exact ⟨rfl, rfl⟩
end Go.Proofs.Ytdbdnfjgmdkneaa
namespace Go.Proofs.Ytdbdnfjgmdkneaa
set_option maxRecDepth 20000
open Go.RowKit Go.Deep Go.Maps
set_option linter.unusedVariables false
theorem intZero (w : World) : (zeroValue 3).run Try.prog w = .ok (.int .i64 0) w := by kernel_rfl
/-- The Until of an id's tombstone; 0: there is none. -/
def goneU (t : List Rc) (r : Rc) : Int := if SM.Has t r then (t.getD (SM.tat r t) Rc.zero).u else 0
/-- Looked up: the tombstone of an id. -/
theorem MapAt.look {w : World} {D : Nat → Prop} {m : Option Nat} {t : List Rc} (h : MapAt w D m t) (r : Rc) (hr : IdOk r) : (Instr.lookup 58 (.map m) (.agg #[.int .i64 r.p, .int .i64 r.n]) true).run Try.prog w = .ok (.tuple #[.int .i64 (goneU t r), .bool (decide (SM.Has t r))]) w := by
  show (Instr.lookup 58 (.map m) (idVal r.p r.n) true).run Try.prog w = _
  rcases h with ⟨rfl, rfl⟩ | ⟨b, E, rfl, _, h3, h4⟩
  · have hf : decide (SM.Has [] r) = false := by simp [SM.Has]
    have hg : goneU [] r = 0 := by simp [goneU, SM.Has]
    rw [hf, hg]
    have hck := idKeyed.check w true (key_of hr.1 hr.2)
    have hfk : (Instr.findKey 23 (idVal r.p r.n) []).run Try.prog w = .ok none w := by
      rcases idKeyed.find w (key_of hr.1 hr.2) [] (fun e he => nomatch he) with ⟨h, _⟩ | ⟨j, e, _, he, _⟩
      · exact h
      · simp at he
    simp [Instr.lookup, run_underlying Try.underlying58, hck, hfk]
  · obtain ⟨v, ps, hrun, hv⟩ := h3.look_ok idKeyed Try.underlying58 (intZero w) (plainElem_int Try.underlying3 (wf_i64 (by omega))) (key_of hr.1 hr.2)
    obtain ⟨c, rfl, hc, _⟩ := plainElem_int_inv Try.underlying3 hv
    simp only [Prod.mk.injEq] at hc
    rw [show idKey r.p r.n = idLit r from rfl] at hc
    have hcc : c = goneU t r := by
      unfold goneU
      by_cases hh : SM.Has t r
      · rw [if_pos hh]
        rw [h4.until hh] at hc
        simpa using hc.1.symm
      · rw [if_neg hh]
        rw [atKey_of_not_has (by rw [h4.has_iff hr]; simpa using hh)] at hc
        simpa using hc.1.symm
    rw [hrun, show idKey r.p r.n = idLit r from rfl, h4.has_iff hr, hcc]
theorem box_id (w : World) (T : TypeId) (p n : Int) : (w.alloc (.cells #[.int .i64 p, .int .i64 n] T)).cell? ⟨w.heap.size, 0, none⟩ = some (.int .i64 p) ∧ (w.alloc (.cells #[.int .i64 p, .int .i64 n] T)).cell? ⟨w.heap.size, 1, none⟩ = some (.int .i64 n) := by
  have h := heap_alloc_new w (.cells #[.int .i64 p, .int .i64 n] T)
  exact ⟨by rw [cell_of_row _ _ _ _ _ _ h]; rfl, by rw [cell_of_row _ _ _ _ _ _ h]; rfl⟩
theorem gone_any (t : Nat) (D : Nat → Prop) (st : Sto) (r : Rc) (w : World) (h : SAt w t D st) (hr : IdOk r) :
    Calls Try.prog 45 #[.pointer (some ⟨t, 0, none⟩), .agg #[.int .i64 r.p, .int .i64 r.n]] w fun e w' => e = .returned (.bool (decide (SM.Has st.t r))) ∧ w.Extends w' := by
  obtain ⟨v, mp, ps, h⟩ := h
  have HL : Hid (∀ w', w.Extends w' → (Instr.lookup 58 (.map mp) (.agg #[.int .i64 r.p, .int .i64 r.n]) true).run Try.prog w' = .ok (.tuple #[.int .i64 (goneU st.t r), .bool (decide (SM.Has st.t r))]) w') := fun w' hx => (h.ext hx).tombs.look r hr
  obtain ⟨p, hb, c2, c3, c4, f3, f4⟩ := h.cells
  have HC := Lib.hid c4
  clear h hb c2 c3 c4 f3 f4 hr
  generalize decide (SM.Has st.t r) = x at *
  generalize goneU st.t r = c at *
  generalize r.p = rp at *
  generalize r.n = rn at *
  go_enter Try.func45, Try.ntmps45
  go_wp2_with fail
  generalize hw1 : World.alloc w _ = w1
  have hx1 : w.Extends w1 := by subst hw1; exact ext_alloc _ _
  have hid1 : w1.cell? ⟨w.heap.size, 0, none⟩ = some (.int .i64 rp) ∧ w1.cell? ⟨w.heap.size, 1, none⟩ = some (.int .i64 rn) := by subst hw1; exact box_id w 23 rp rn
  have HX1 := Lib.hid (Gr.ext_drew hx1)
  obtain ⟨d0, d1⟩ := hid1
  have HD : Hid (∀ w', w1.drew.Extends w' → w'.cell? ⟨w.heap.size, 0, none⟩ = some (.int .i64 rp) ∧ w'.cell? ⟨w.heap.size, 1, none⟩ = some (.int .i64 rn) ∧ w'.cell? ⟨t, 4, none⟩ = some (.map mp) ∧ w.Extends w') := fun w' hw' =>
    ⟨(Gr.of_drew hw').cell_of d0, (Gr.of_drew hw').cell_of d1, (Gr.ext_trans HX1.out hw').cell_of HC.out, Gr.ext_trans HX1.out hw'⟩
  clear hw1 hx1 d0 d1 HC
  generalize w.heap.size = y at *
  refine Gr.region 10 [(false,0),(false,1),(false,2),(false,3),(false,4),(false,5),(false,6),(false,7),(false,8),(false,9)] (by kernel_rfl) (by kernel_rfl) (fun d _ _ _ _ h => by cases d <;> exact h) ?_
  simp only [Gr.pick, List.getElem?_cons_zero, List.getElem?_cons_succ, List.drop_succ_cons, List.drop_zero]
  generalize w1.drew = wd at *
  iterate 5
    refine Gr.walk_t ?_ (Or.inl ⟨by rfl, ?_⟩) ?_
    rotate_left
    · intro w' hw'
      obtain ⟨e0, e1, e2, _⟩ := HD.out w' hw'
      clear hw'
      go_simp
      try with_reducible rfl
    simp only [Act.put, List.setIfInBounds_toArray, List.set_cons_zero, List.set_cons_succ]
  refine Gr.walk_t ?_ (Or.inl ⟨by rfl, ?_⟩) ?_
  rotate_left
  · intro w' hw'
    have hl := HL.out w' (HD.out w' hw').2.2.2
    clear hw'
    go_simp
    try with_reducible rfl
  simp only [Act.put, List.setIfInBounds_toArray, List.set_cons_zero, List.set_cons_succ]
  iterate 4
    refine Gr.walk_t ?_ (Or.inl ⟨by rfl, ?_⟩) ?_
    rotate_left
    · intro w' hw'
      clear hw'
      go_simp
      try with_reducible rfl
    simp only [Act.put, List.setIfInBounds_toArray, List.set_cons_zero, List.set_cons_succ]
  refine Gr.walk_nil ?_
  go_wp2
  go_ret
  exact ⟨rfl, HX1.out⟩
/-- Where the one stands that would be forgotten first. -/
theorem SAtX.range {w : World} {t : Nat} {D : Nat → Prop} {st : Sto} {v : Value} {mp : Option Nat} {ps : List Pr} (h : SAtX w t D st v mp ps) : ∀ k, k < ps.length → ∃ g, (∃ cap, v = .slice (some ⟨g, 0, none⟩) ps.length cap) ∧ w.rangeAt g (k * 10) ((ps.getD k zp).1.cells (ps.getD k zp).2) := fun k hk => by
  rcases h.own.kinds with ⟨rfl, rfl⟩ | ⟨g, cap, rfl⟩
  · simp at hk
  · exact ⟨g, ⟨cap, rfl⟩, h.own.arr.1.range hk⟩
set_option maxHeartbeats 1000000 in
theorem least_any (t : Nat) (D : Nat → Prop) (st : Sto) (w : World) (h : SAt w t D st) (hl : st.l.length ≤ 1000) :
    Calls Try.prog 110 #[.pointer (some ⟨t, 0, none⟩)] w fun e w' => e = .returned (.int .i64 (SM.least st.l)) ∧ w.Extends w' := by
  obtain ⟨v, mp, ps, h⟩ := h
  obtain ⟨p, hb, c2, c3, c4, f3, f4⟩ := h.cells
  have HAT := Lib.hid h.range
  have HSL : Hid (∀ k, k < ps.length → Slc (ps.getD k zp)) := fun k hk => h.own.2 _ (getD_mem hk)
  have HC := Lib.hid c3
  have HB : Hid (∀ k, -1 ≤ SM.leastTo st.l k ∧ SM.leastTo st.l k < (k : Int)) := fun k => ⟨(SM.leastTo_bounds st.l k).1, (SM.leastTo_bounds st.l k).2.1⟩
  have HN : Hid (∀ k, SM.leastTo st.l (k + 1) = if SM.leastTo st.l k < 0 ∨ (ps.getD k zp).1.u < (ps.getD (SM.leastTo st.l k).toNat zp).1.u then (k : Int) else SM.leastTo st.l k) := fun k => by
    rw [← recs_at ps k, ← recs_at ps (SM.leastTo st.l k).toNat, h.recs]; rfl
  have HE : Hid (SM.leastTo st.l ps.length = SM.least st.l) := by rw [h.len]; rfl
  have HZ : Hid (SM.leastTo st.l 0 = -1) := rfl
  rw [← h.len] at hl
  obtain ⟨a, cap, rfl⟩ := h.own.slice
  clear h hb c2 c4 f3 f4
  generalize SM.leastTo st.l = lt at *
  generalize SM.least st.l = L at *
  generalize ps.length = n at *
  go_enter Try.func110, Try.ntmps110
  go_wp2_with fail
  go_loopw [3, 11] (fun s3 s11 wr => ∃ k : Nat, k ≤ n ∧ s3 = .int .i64 (lt k) ∧ s11 = .int .i64 k ∧ Hid (w.Extends wr)) (fun _ s11 _ => n - (intOf s11).toNat)
  case atStart => exact ⟨0, by omega, by rw [HZ.out], rfl, Gr.ext_refl _⟩
  case round =>
    obtain ⟨k, hk, rfl, rfl, HX⟩ := hrel
    by_cases h1 : k < n
    · obtain ⟨g, ⟨cap', e⟩, hr⟩ := HAT.out k h1
      cases e
      have hr := rangeAt_ext hr HX.out
      obtain ⟨c0, c1, c2, c3, c4, c5, c6, c7, c8, c9⟩ := RCell.ten hr
      have HSK := Lib.hid (HSL.out k h1)
      have hbd := HB.out k
      have hnx := Lib.hid (HN.out k)
      -- the one that is the least so far
      have HL : Hid (∀ m : Nat, lt k = (m : Int) → m < n ∧ w.rangeAt g (m * 10) ((ps.getD m zp).1.cells (ps.getD m zp).2)) := fun m hm => by
        have hmn : m < n := by omega
        obtain ⟨g', ⟨cap', e⟩, hr⟩ := HAT.out m hmn
        cases e
        exact ⟨hmn, hr⟩
      clear hr
      generalize hp : ps.getD k zp = p at *
      clear hp
      obtain ⟨⟨xp, xn, xb, xs, xm, xk, xe, xg, xu, xd⟩, u⟩ := p
      obtain ⟨ua, uc, hu⟩ := HSK.out
      simp only at hu
      subst hu
      simp only at c0 c1 c2 c3 c4 c5 c6 c7 c8 c9 hnx
      go_wp2_with fail
      generalize hwb : World.alloc wr _ = wb
      have hxb : wr.Extends wb := by subst hwb; exact ext_alloc _ _
      have hbx : wb.rangeAt wr.heap.size 0 (Rc.cells ⟨xp, xn, xb, xs, xm, xk, xe, xg, xu, xd⟩ (.slice ua xd.length uc)) := by subst hwb; exact box_rec wr 28 ⟨xp, xn, xb, xs, xm, xk, xe, xg, xu, xd⟩ _
      clear hwb c0 c1 c2 c3 c4 c5 c6 c7 c8 c9
      generalize wr.heap.size = y at *
      have HXW := Lib.hid (Gr.ext_trans HX.out (Gr.ext_drew hxb))
      have HBX : Hid (wb.drew.rangeAt y 0 (Rc.cells ⟨xp, xn, xb, xs, xm, xk, xe, xg, xu, xd⟩ (.slice ua xd.length uc))) := hbx
      clear hxb hbx HX
      by_cases h2 : lt k < 0
      · have hd : decide (lt k < 0) = true := decide_eq_true h2
        have hnk : lt (k + 1) = (k : Int) := by rw [hnx.out, if_pos (.inl h2)]
        have HNK := Lib.hid hnk
        clear hnx hnk
        generalize lt k = q at *
        refine Gr.region 14 [(false,0),(false,1),(false,2),(false,3),(false,4),(false,5),(false,6),(false,7),(false,8),(false,9),(false,10),(false,11),(false,12),(false,13)] (by kernel_rfl) (by kernel_rfl) (fun d _ _ _ _ h => by cases d <;> exact h) ?_
        simp only [Gr.pick, List.getElem?_cons_zero, List.getElem?_cons_succ, List.drop_succ_cons, List.drop_zero]
        generalize wb.drew = wd at *
        iterate 3
          refine Gr.walk_t ?_ (Or.inl ⟨by rfl, ?_⟩) ?_
          rotate_left
          · intro w' hw'
            clear hw'
            go_simp
            try with_reducible rfl
          simp only [Act.put, List.setIfInBounds_toArray, List.set_cons_zero, List.set_cons_succ]
        refine Gr.walk_t _ (Or.inr ⟨by rfl, rfl⟩) ?_
        simp only [Act.put, List.setIfInBounds_toArray, List.set_cons_zero, List.set_cons_succ]
        refine Gr.walk_t _ (Or.inr ⟨by rfl, rfl⟩) ?_
        simp only [Act.put, List.setIfInBounds_toArray, List.set_cons_zero, List.set_cons_succ]
        refine Gr.walk_t _ (Or.inr ⟨by rfl, rfl⟩) ?_
        simp only [Act.put, List.setIfInBounds_toArray, List.set_cons_zero, List.set_cons_succ]
        refine Gr.walk_t _ (Or.inr ⟨by rfl, rfl⟩) ?_
        simp only [Act.put, List.setIfInBounds_toArray, List.set_cons_zero, List.set_cons_succ]
        refine Gr.walk_t _ (Or.inr ⟨by rfl, rfl⟩) ?_
        simp only [Act.put, List.setIfInBounds_toArray, List.set_cons_zero, List.set_cons_succ]
        refine Gr.walk_t _ (Or.inr ⟨by rfl, rfl⟩) ?_
        simp only [Act.put, List.setIfInBounds_toArray, List.set_cons_zero, List.set_cons_succ]
        refine Gr.walk_t _ (Or.inr ⟨by rfl, rfl⟩) ?_
        simp only [Act.put, List.setIfInBounds_toArray, List.set_cons_zero, List.set_cons_succ]
        refine Gr.walk_t _ (Or.inr ⟨by rfl, rfl⟩) ?_
        simp only [Act.put, List.setIfInBounds_toArray, List.set_cons_zero, List.set_cons_succ]
        refine Gr.walk_t _ (Or.inr ⟨by rfl, rfl⟩) ?_
        simp only [Act.put, List.setIfInBounds_toArray, List.set_cons_zero, List.set_cons_succ]
        refine Gr.walk_t _ (Or.inr ⟨by rfl, rfl⟩) ?_
        simp only [Act.put, List.setIfInBounds_toArray, List.set_cons_zero, List.set_cons_succ]
        refine Gr.walk_t _ (Or.inr ⟨by rfl, rfl⟩) ?_
        simp only [Act.put, List.setIfInBounds_toArray, List.set_cons_zero, List.set_cons_succ]
        refine Gr.walk_nil ?_
        go_wp2
        go_roundw
        case rel => exact ⟨k + 1, by omega, by rw [HNK.out], by go_num, HXW⟩
        case measure => simp [intOf]; omega
      · obtain ⟨m, hm⟩ : ∃ m : Nat, lt k = (m : Int) := ⟨(lt k).toNat, by omega⟩
        obtain ⟨hmn, hrm⟩ := HL.out m hm
        have hnk := hnx.out
        rw [hm, Int.toNat_natCast] at hnk
        rw [hm] at h2
        have hd : decide (((m : Nat) : Int) < 0) = false := decide_eq_false h2
        have HNK := Lib.hid hnk
        have HRM : Hid (∀ w', wb.drew.Extends w' → w'.cell? ⟨g, m * 10 + 8, none⟩ = some (.int .i64 (ps.getD m zp).1.u) ∧ w'.cell? ⟨y, 8, none⟩ = some (.int .i64 xu) ∧ w'.cell? ⟨t, 3, none⟩ = some (.slice (some ⟨g, 0, none⟩) n cap)) := fun w' hw' => by
          have h1 := rangeAt_ext (rangeAt_ext hrm HXW.out) hw'
          have h2 := rangeAt_ext HBX.out hw'
          exact ⟨h1 8 _ rfl, by simpa using h2 8 _ rfl, (Gr.ext_trans HXW.out hw').cell_of HC.out⟩
        clear hnx hnk HL HBX hrm
        rw [hm]
        clear hm hbd
        generalize (ps.getD m zp).1.u = mu at *
        refine Gr.region 14 [(false,0),(false,1),(false,2),(false,3),(false,4),(false,5),(false,6),(false,7),(false,8),(false,9),(false,10),(false,11),(false,12),(false,13)] (by kernel_rfl) (by kernel_rfl) (fun d _ _ _ _ h => by cases d <;> exact h) ?_
        simp only [Gr.pick, List.getElem?_cons_zero, List.getElem?_cons_succ, List.drop_succ_cons, List.drop_zero]
        generalize wb.drew = wd at *
        iterate 14
          refine Gr.walk_t ?_ (Or.inl ⟨by rfl, ?_⟩) ?_
          rotate_left
          · intro w' hw'
            obtain ⟨e0, e1, e2⟩ := HRM.out w' hw'
            clear hw'
            go_simp
            try with_reducible rfl
          simp only [Act.put, List.setIfInBounds_toArray, List.set_cons_zero, List.set_cons_succ]
        refine Gr.walk_nil ?_
        by_cases h3 : xu < mu
        · have hnk : lt (k + 1) = (k : Int) := by rw [HNK.out, if_pos (.inr h3)]
          have HNK2 := Lib.hid hnk
          clear hnk HNK
          go_wp2
          go_roundw
          case rel => exact ⟨k + 1, by omega, by rw [HNK2.out], by go_num, HXW⟩
          case measure => simp [intOf]; omega
        · have hnk : lt (k + 1) = (m : Int) := by rw [HNK.out, if_neg (by omega)]
          have HNK2 := Lib.hid hnk
          clear hnk HNK
          go_wp2
          go_roundw
          case rel => exact ⟨k + 1, by omega, by rw [HNK2.out], by go_num, HXW⟩
          case measure => simp [intOf]; omega
    · obtain rfl : k = n := by omega
      rw [HE.out]
      go_wp2
      go_ret
      exact ⟨rfl, HX.out⟩
end Go.Proofs.Ytdbdnfjgmdkneaa
namespace Go.Proofs.Ytdbdnfjgmdkneaa
set_option maxRecDepth 20000
open Go.RowKit Go.Deep Go.Maps
set_option linter.unusedVariables false
/-- What a call of the program may turn: blocks of D; no bytes, no pieces of a log. -/
structure PFr (D : Nat → Prop) (w w' : World) : Prop where
  fr : Fr D w w'
  piece : Still 116 w w'
  bytes : Still 5 w w'
theorem PFr.refl (D : Nat → Prop) (w : World) : PFr D w w := ⟨Fr.refl _ _, Still.refl _ _, Still.refl _ _⟩
theorem PFr.ext {D : Nat → Prop} {w w' : World} (h : w.Extends w') : PFr D w w' := ⟨Fr.ext h, Still.ext h, Still.ext h⟩
theorem PFr.next {D : Nat → Prop} {a b c : World} (h : PFr D a b) (k : PFr (Nx D a b) b c) : PFr D a c := ⟨h.fr.next k.fr, h.piece.trans k.piece, h.bytes.trans k.bytes⟩
theorem PFr.trans {D : Nat → Prop} {a b c : World} (h : PFr D a b) (k : PFr D b c) : PFr D a c := ⟨h.fr.trans k.fr fun _ _ h => h, h.piece.trans k.piece, h.bytes.trans k.bytes⟩
theorem LAt.rest {w w' : World} {t s i : Nat} {R : List Value} {T : TypeId} {l : List (List Nat)} (h : LAt w t R T l s) (x : Value) (hw : w' = w.setCell ⟨t, i + 2, none⟩ x) : LAt w' t (R.set i x) T l s ∧ w.grownBy w' (some t) := by
  obtain ⟨p, h1, h2, h3, h4⟩ := h
  have hg : w.grownBy w' (some t) := by subst hw; exact grown_set _ _ _ _
  refine ⟨⟨p, ?_, h2.own h1 h4 hg, h3, h4⟩, hg⟩
  subst hw
  rw [heap_setCell_same _ _ _ _ _ _ h1]
  simp
theorem grown_two {a b c : World} {r : Option Nat} {t : Nat} {D : Nat → Prop} (h : a.grownBy b r) (k : b.grownBy c (some t)) (hr : ∀ g, r = some g → D g) (ht : D t) : Fr D a c :=
  (Fr.grown h hr).trans (Fr.grown k (fun g hg => by have := Option.some.inj hg; subst this; exact ht)) fun _ _ h => h
theorem SAtX.put_slice {w w2 w3 : World} {t : Nat} {D : Nat → Prop} {st : Sto} {v v' : Value} {mp : Option Nat} {ps qs : List Pr} (h : SAtX w t D st v mp ps) (hg : w.grownBy w2 v.ownBlock) (ho : OwnR w2 v' qs) (hn : v'.ownBlock = v.ownBlock ∨ ∃ g, v'.ownBlock = some g ∧ w.heap.size ≤ g)
    (hd : Reads w2 (Nx D w w2) qs) (hw : w3 = w2.setCell ⟨t, 3, none⟩ v') : SAtX w3 t (Nx D w w3) { st with l := Go.Proofs.Ytdbdnfjgmdkneaa.recs qs } v' mp qs ∧ PFr D w w3 := by
  obtain ⟨ha, hb⟩ := h.apart
  have hvt : v.ownBlock ≠ some t := fun e => (ha t e).1 rfl
  have hlog2 : LAt w2 t [.int .i64 ((st.m : Nat) : Int), v, .map mp] 60 st.lg st.s := h.log.keep (fun k cs hk => hg.block k (Array.getElem?_eq_some_iff.1 hk).1 (fun e => by
    obtain ⟨_, cs', hc'⟩ := ha k e.symm
    rw [hk] at hc'
    simp only [Option.some.injEq, Obj.cells.injEq] at hc'
    exact absurd hc'.2.1 (by decide))) (hg.block t h.lt (fun e => hvt e.symm))
  obtain ⟨hl3, hg3⟩ := hlog2.rest (i := 1) v' hw
  have hs3 : w2.heap.size ≤ w3.heap.size := hg3.size
  have hsame : w3.heap.size = w2.heap.size := by subst hw; simp
  have hv't : v'.ownBlock ≠ some t := by
    rcases hn with e | ⟨g, e, hge⟩
    · rw [e]; exact hvt
    · rw [e]; intro e2; have := Option.some.inj e2; have := h.lt; omega
  have hnx : ∀ i, Nx D w w2 i → Nx D w w3 i := fun i hi => by
    rcases hi with hi | hi
    · exact .inl hi
    · exact .inr (by omega)
  have hst : ∀ T, T ≠ 60 → Still T w2 w3 := fun T hT => by
    obtain ⟨p, h1, _⟩ := hlog2
    exact Still.grown hg3 h1 (Ne.symm hT)
  have hst1 : ∀ T, T ≠ 28 → Still T w w2 := fun T hT i cs f hi => hg.block i (Array.getElem?_eq_some_iff.1 hi).1 (fun e => by
    obtain ⟨_, cs', hc'⟩ := ha i e.symm
    rw [hi] at hc'
    simp only [Option.some.injEq, Obj.cells.injEq] at hc'
    exact hT hc'.2.1)
  refine ⟨⟨hl3, .inl h.here, ho.kept hg3 (.inr hv't), rfl, fun g hgo => ?_, (hd.mono hnx).still hs3 (hst _ (by decide)), ?_⟩, grown_two hg hg3 h.inD h.here, (hst1 _ (by decide)).trans (hst _ (by decide)), (hst1 _ (by decide)).trans (hst _ (by decide))⟩
  · rcases hn with e | ⟨g', e, hge⟩
    · exact .inl (h.inD g (e.symm.trans hgo))
    · have e2 := e.symm.trans hgo
      have := Option.some.inj e2
      subst this
      refine .inr ⟨hge, ?_⟩
      rw [hsame]
      exact (ho.1.lt _ hgo).2
  · refine MapAt.mono (D := D) (h.tombs.same fun b e => ?_) (fun i hi => .inl hi)
    obtain ⟨h1, h2⟩ := hb b e
    subst e
    have hbl : b < w.heap.size := by
      obtain ⟨_, es, c, hh⟩ := h.tombs.block
      exact (Array.getElem?_eq_some_iff.1 hh).1
    exact (hg3.block b (Nat.lt_of_lt_of_le hbl hg.size) (by simpa using h1)).trans (hg.block b hbl (fun e => h2 e.symm))
namespace SM
/-- Room for one that is kept till u. -/
def roomOf (st : Sto) (u : Int) : Sto × Bool :=
  if st.l.length < st.m then (st, true) else if least st.l < 0 ∨ u ≤ (st.l.getD (least st.l).toNat Rc.zero).u then (st, false) else ({ st with l := st.l.eraseIdx (least st.l).toNat }, true)
end SM
/-- What a call leaves of a store. -/
def Left (w : World) (t : Nat) (D : Nat → Prop) (st : Sto) (w' : World) : Prop := SAt w' t (Nx D w w') st ∧ PFr D w w'
theorem Left.ext {w w' : World} {t : Nat} {D : Nat → Prop} {st : Sto} (h : SAt w t D st) (hx : w.Extends w') : Left w t D st w' := ⟨(h.ext hx).mono fun i hi => .inl hi, PFr.ext hx⟩
theorem Left.next {a b c : World} {t : Nat} {D : Nat → Prop} {st st' : Sto} (h : Left a t D st b) (k : Left b t (Nx D a b) st' c) : Left a t D st' c := ⟨k.1.mono fun i hi => Nx.next h.2.fr.size k.2.fr.size hi, h.2.next k.2⟩
theorem recs_erase (ps : List Pr) (i : Nat) : recs (ps.eraseIdx i) = (recs ps).eraseIdx i := by
  unfold recs
  apply List.ext_getElem?
  intro j
  rw [List.getElem?_map, List.getElem?_eraseIdx, List.getElem?_eraseIdx, List.getElem?_map, List.getElem?_map]
  split <;> rfl
set_option maxHeartbeats 1000000 in
theorem room_any (t : Nat) (D : Nat → Prop) (st : Sto) (u : Int) (w : World) (h : SAt w t D st) (hl : st.l.length ≤ 1000) (hm : st.m ≤ 1000) :
    Calls Try.prog 105 #[.pointer (some ⟨t, 0, none⟩), .int .i64 u] w fun e w' => e = .returned (.bool (SM.roomOf st u).2) ∧ Left w t D (SM.roomOf st u).1 w' := by
  have HLE : Hid (∀ w', w.Extends w' → Calls Try.prog 110 #[.pointer (some ⟨t, 0, none⟩)] w' fun e w2 => e = .returned (.int .i64 (SM.least st.l)) ∧ w'.Extends w2) := fun w' hx => least_any t D st w' (h.ext hx) hl
  have HS := Lib.hid h
  obtain ⟨v, mp, ps, h⟩ := h
  obtain ⟨p, hb, c2, c3, c4, f3, f4⟩ := h.cells
  have HX := Lib.hid h
  have HC : Hid (∀ w', w.Extends w' → w'.cell? ⟨t, 2, none⟩ = some (.int .i64 ((st.m : Nat) : Int)) ∧ w'.cell? ⟨t, 3, none⟩ = some v ∧ w'.frozen? ⟨t, 3, none⟩ = false) := fun w' hx => ⟨hx.cell_of c2, hx.cell_of c3, (hx.frozen ⟨t, 3, none⟩ h.lt).trans f3⟩
  have HLN : Hid (st.l.length = ps.length) := h.len.symm
  obtain ⟨a, cap, rfl⟩ := h.own.slice
  have hl' := hl
  rw [← h.len] at hl'
  unfold SM.roomOf
  by_cases h1 : st.l.length < st.m
  · have h1' : ps.length < st.m := by rw [← HLN.out]; exact h1
    rw [if_pos h1]
    have HP : Hid (Left w t D st w.drew) := Left.ext HS.out (Gr.ext_drew (Gr.ext_refl w))
    clear h hb c2 c3 c4 f3 f4 HLE HS HX HLN hl h1
    generalize ps.length = n at *
    generalize st.m = m at *
    go_enter Try.func105, Try.ntmps105
    go_wp2_with fail
    refine Gr.region 9 [(false,0),(false,1),(false,2),(false,3),(false,4),(false,5),(false,6),(false,7),(false,8)] (by kernel_rfl) (by kernel_rfl) (fun d _ _ _ _ h => by cases d <;> exact h) ?_
    simp only [Gr.pick, List.getElem?_cons_zero, List.getElem?_cons_succ, List.drop_succ_cons, List.drop_zero]
    have hdx : w.Extends w.drew := Gr.ext_drew (Gr.ext_refl w)
    generalize w.drew = wd at *
    iterate 9
      refine Gr.walk_t ?_ (Or.inl ⟨by rfl, ?_⟩) ?_
      rotate_left
      · intro w' hw'
        obtain ⟨e0, e1, e2⟩ := HC.out w' (Gr.ext_trans hdx hw')
        clear hw'
        go_simp
        try with_reducible rfl
      simp only [Act.put, List.setIfInBounds_toArray, List.set_cons_zero, List.set_cons_succ]
    refine Gr.walk_nil ?_
    go_wp2
    go_ret
    exact ⟨rfl, HP.out⟩
  · have h1' : ¬ ps.length < st.m := by rw [← HLN.out]; exact h1
    rw [if_neg h1]
    by_cases h2 : SM.least st.l < 0
    · rw [if_pos (.inl h2)]
      have HPE : Hid (∀ w', w.Extends w' → Left w t D st w') := fun w' hx => Left.ext HS.out hx
      have hd : decide (SM.least st.l < 0) = true := decide_eq_true h2
      clear h hb c2 c3 c4 f3 f4 HS HX HLN hl h1
      generalize ps.length = n at *
      generalize st.m = m at *
      generalize SM.least st.l = q at *
      go_enter Try.func105, Try.ntmps105
      go_wp2_with fail
      refine Gr.region 9 [(false,0),(false,1),(false,2),(false,3),(false,4),(false,5),(false,6),(false,7),(false,8)] (by kernel_rfl) (by kernel_rfl) (fun d _ _ _ _ h => by cases d <;> exact h) ?_
      simp only [Gr.pick, List.getElem?_cons_zero, List.getElem?_cons_succ, List.drop_succ_cons, List.drop_zero]
      have hdx : w.Extends w.drew := Gr.ext_drew (Gr.ext_refl w)
      generalize w.drew = wd at *
      iterate 9
        refine Gr.walk_t ?_ (Or.inl ⟨by rfl, ?_⟩) ?_
        rotate_left
        · intro w' hw'
          obtain ⟨e0, e1, e2⟩ := HC.out w' (Gr.ext_trans hdx hw')
          clear hw'
          go_simp
          try with_reducible rfl
        simp only [Act.put, List.setIfInBounds_toArray, List.set_cons_zero, List.set_cons_succ]
      refine Gr.walk_nil ?_
      go_wp2_with fail
      refine (HLE.out wd hdx).mono ?_
      rintro e w2 ⟨rfl, hx2⟩
      have HP := Lib.hid (HPE.out w2 (Gr.ext_trans hdx hx2))
      clear hx2 HLE HPE
      go_wp2
      go_ret
      exact ⟨rfl, HP.out⟩
    · obtain ⟨k, hk⟩ : ∃ k : Nat, SM.least st.l = (k : Int) := ⟨(SM.least st.l).toNat, by omega⟩
      have hkn : k < ps.length := by
        have := SM.least_lt h2
        rw [hk, Int.toNat_natCast] at this
        rw [← HLN.out]; exact this
      rw [hk, Int.toNat_natCast]
      rw [hk] at h2 HLE
      have hd : decide (((k : Nat) : Int) < 0) = false := decide_eq_false h2
      obtain ⟨g, ⟨cap', e⟩, hr⟩ := h.range k hkn
      cases e
      have HU : Hid (∀ w', w.Extends w' → w'.cell? ⟨g, k * 10 + 8, none⟩ = some (.int .i64 (st.l.getD k Rc.zero).u)) := fun w' hx => by
        have := hx.cell_of (hr 8 _ rfl)
        rw [this, ← h.recs, recs_at]
      by_cases h3 : u ≤ (st.l.getD k Rc.zero).u
      · rw [if_pos (.inr h3)]
        have HPE : Hid (∀ w', w.Extends w' → Left w t D st w') := fun w' hx => Left.ext HS.out hx
        clear h hb c2 c3 c4 f3 f4 HS HX HLN hl h1 hr hk
        generalize ps.length = n at *
        generalize st.m = m at *
        generalize (st.l.getD k Rc.zero).u = lu at *
        go_enter Try.func105, Try.ntmps105
        go_wp2_with fail
        refine Gr.region 9 [(false,0),(false,1),(false,2),(false,3),(false,4),(false,5),(false,6),(false,7),(false,8)] (by kernel_rfl) (by kernel_rfl) (fun d _ _ _ _ h => by cases d <;> exact h) ?_
        simp only [Gr.pick, List.getElem?_cons_zero, List.getElem?_cons_succ, List.drop_succ_cons, List.drop_zero]
        have hdx : w.Extends w.drew := Gr.ext_drew (Gr.ext_refl w)
        generalize w.drew = wd at *
        iterate 9
          refine Gr.walk_t ?_ (Or.inl ⟨by rfl, ?_⟩) ?_
          rotate_left
          · intro w' hw'
            obtain ⟨e0, e1, e2⟩ := HC.out w' (Gr.ext_trans hdx hw')
            clear hw'
            go_simp
            try with_reducible rfl
          simp only [Act.put, List.setIfInBounds_toArray, List.set_cons_zero, List.set_cons_succ]
        refine Gr.walk_nil ?_
        go_wp2_with fail
        refine (HLE.out wd hdx).mono ?_
        rintro e w2 ⟨rfl, hx2⟩
        have hx := Gr.ext_trans hdx hx2
        have HP := Lib.hid (HPE.out w2 hx)
        obtain ⟨e0, e1, e2⟩ := HC.out w2 hx
        have e8 := HU.out w2 hx
        clear hx2 HLE HPE hx HU HC
        go_wp2
        go_ret
        exact ⟨rfl, HP.out⟩
      · rw [if_neg (by omega)]
        obtain ⟨m1, hm1⟩ : ∃ m1, ps.length = m1 + 1 := ⟨ps.length - 1, by omega⟩
        have HREM : Hid (∀ w', w.Extends w' → Calls Try.prog 111 #[.slice (some ⟨g, 0, none⟩) ps.length cap, .int .i64 k, .int .i64 ((k : Int) + 1)] w' (DelOut w' (.slice (some ⟨g, 0, none⟩) ps.length cap) (ps.eraseIdx k))) := fun w' hx => by
          have ho := h.own.ext hx
          rw [hm1] at ho ⊢
          exact rem_any g cap m1 k ps w' ho (by omega) (by omega)
        have HFIN : Hid (∀ w1 w2 w3 a' c', w.Extends w1 → OwnR w2 (.slice a' (ps.eraseIdx k).length c') (ps.eraseIdx k) → w1.grownBy w2 (Value.slice (some ⟨g, 0, none⟩) ps.length cap).ownBlock → (Value.slice a' (ps.eraseIdx k).length c').ownBlock = (Value.slice (some ⟨g, 0, none⟩) ps.length cap).ownBlock → w3 = w2.setCell ⟨t, 3, none⟩ (.slice a' (ps.eraseIdx k).length c') →
            Left w t D { st with l := st.l.eraseIdx k } w3) := fun w1 w2 w3 a' c' hx1 ho hg hn hw3 => by
          have h1 := h.ext hx1
          have hst8 : Still 5 w1 w2 := by
            obtain ⟨ha, _⟩ := h1.apart
            obtain ⟨_, cs, hc⟩ := ha g rfl
            exact Still.grown hg hc (by decide)
          have := h1.put_slice hg ho (.inl hn) (Reads.still (Reads.mono (D := D) (fun p hp => h1.data p (List.mem_of_mem_eraseIdx hp)) fun i hi => .inl hi) hg.size hst8) hw3
          rw [recs_erase, h1.recs] at this
          have hL : Left w1 t D { st with l := st.l.eraseIdx k } w3 := ⟨⟨_, _, _, this.1⟩, this.2⟩
          refine ⟨hL.1.mono fun i hi => ?_, (PFr.ext hx1).trans hL.2⟩
          rcases hi with hi | hi
          · exact .inl hi
          · have := hx1.size; exact .inr (by omega)
        have HST : Hid (∀ w1 w2 : World, w.Extends w1 → w1.grownBy w2 (some g) → w2.frozen? ⟨t, 3, none⟩ = false ∧ w2.cell? ⟨t, 3, none⟩ = some (.slice (some ⟨g, 0, none⟩) ps.length cap)) := fun w1 w2 hx hg => by
          have h1 := h.ext hx
          have e : w2.heap[t]? = w1.heap[t]? := hg.block t h1.lt (fun e => by have := Option.some.inj e; exact (h1.apart.1 g rfl).1 this.symm)
          obtain ⟨e0, e1, e2⟩ := HC.out w1 hx
          exact ⟨by rw [World.frozen?_of_block (w := w1) (w' := w2) (a := ⟨t, 3, none⟩) e]; exact e2, by rw [World.cell?_of_block (w := w1) (w' := w2) (a := ⟨t, 3, none⟩) e]; exact e1⟩
        clear h hb c2 c3 c4 f3 f4 HS HX HLN hl h1 hr hk hm1
        unfold DelOut at HREM
        generalize (ps.eraseIdx k).length = n1 at *
        generalize { st with l := st.l.eraseIdx k } = st' at *
        generalize ps.length = n at *
        generalize st.m = m at *
        generalize (st.l.getD k Rc.zero).u = lu at *
        have hw1 : IntKind.i64.wrap ((k : Int) + 1) = (k : Int) + 1 := by rw [IntKind.wrap_i64]; omega
        go_enter Try.func105, Try.ntmps105
        go_wp2_with fail
        refine Gr.region 9 [(false,0),(false,1),(false,2),(false,3),(false,4),(false,5),(false,6),(false,7),(false,8)] (by kernel_rfl) (by kernel_rfl) (fun d _ _ _ _ h => by cases d <;> exact h) ?_
        simp only [Gr.pick, List.getElem?_cons_zero, List.getElem?_cons_succ, List.drop_succ_cons, List.drop_zero]
        have hdx : w.Extends w.drew := Gr.ext_drew (Gr.ext_refl w)
        generalize w.drew = wd at *
        iterate 9
          refine Gr.walk_t ?_ (Or.inl ⟨by rfl, ?_⟩) ?_
          rotate_left
          · intro w' hw'
            obtain ⟨e0, e1, e2⟩ := HC.out w' (Gr.ext_trans hdx hw')
            clear hw'
            go_simp
            try with_reducible rfl
          simp only [Act.put, List.setIfInBounds_toArray, List.set_cons_zero, List.set_cons_succ]
        refine Gr.walk_nil ?_
        go_wp2_with fail
        refine (HLE.out wd hdx).mono ?_
        rintro e w2 ⟨rfl, hx2⟩
        have hx := Gr.ext_trans hdx hx2
        obtain ⟨e0, e1, e2⟩ := HC.out w2 hx
        have e8 := HU.out w2 hx
        have HX2 := Lib.hid hx
        clear hx2 HLE hx HU HC
        go_wp2_with fail
        refine (HREM.out w2 HX2.out).mono ?_
        rintro e w3 ⟨a', c', rfl, ho, hg, hn⟩
        obtain ⟨f3, g3⟩ := HST.out w2 w3 HX2.out hg
        have HP := Lib.hid (fun w4 => HFIN.out w2 w3 w4 a' c' HX2.out ho hg hn)
        clear ho hg hn HREM HFIN HST e0 e1 e2 e8
        go_wp2
        go_ret
        exact ⟨rfl, HP.out _ rfl⟩
end Go.Proofs.Ytdbdnfjgmdkneaa
namespace Go.Proofs.Ytdbdnfjgmdkneaa
set_option maxRecDepth 20000
open Go.RowKit Go.Deep
set_option linter.unusedVariables false
/-- A copy in a block of bytes of its own. -/
def CopyOut (w : World) (xs : List Nat) (e : Ending) (w' : World) : Prop := ∃ a c, e = .returned (.slice a xs.length c) ∧ w.Extends w' ∧ U8s w' (.slice a xs.length c) xs ∧ ∀ g, (Value.slice a xs.length c).ownBlock = some g → (w.heap.size ≤ g ∧ g < w'.heap.size) ∧ ∃ cs, w'.heap[g]? = some (.cells cs 5 (0, 0))
theorem copy_of {w w' : World} {v : Value} {xs : List Nat} (hx : w.Extends w') (ho : w'.ownsRow w.heap.size 5 1 v xs.length (u8vs xs)) (hlt : ∀ x ∈ xs, x < 256) : ∃ a c, v = .slice a xs.length c ∧ CopyOut w xs (.returned v) w' := by
  obtain ⟨a, c, rfl⟩ := owns_slice ho
  refine ⟨a, c, rfl, a, c, rfl, hx, owns_u8s ho hlt, fun g hg => ⟨ho.lt g hg, ?_⟩⟩
  rcases ho.2 with ⟨e, _⟩ | ⟨g', cap, cur, e, _, hh, _⟩
  · rw [e] at hg; cases hg
  · rw [e] at hg
    simp only [Value.ownBlock, Option.some.injEq] at hg
    subst hg
    exact ⟨_, hh⟩
theorem eql_bytes_nil (a : Option Addr) (n c : Nat) (w : World) : (binOp .eql 26 (.slice a n c) (.slice none 0 0)).run Try.prog w = .ok (.bool a.isNone) w := by
  have h : ∀ d, (Op.equalIn (d + 1) 26 (.slice a n c) (.slice none 0 0)).run Try.prog w = .ok a.isNone w := fun d => by
    cases a <;> simp [Op.equalIn, run_underlying Try.underlying26]
  simp only [binOp]
  simp [Op.equal, Op.maxDepth, h 9999]
theorem clone_any (v : Value) (xs : List Nat) (w : World) (hv : U8s w v xs) (hx : xs ≠ []) (hl : xs.length ≤ 1000000) : Calls Try.prog 78 #[v] w (CopyOut w xs) := by
  obtain ⟨iu, hiu, hz0, hz1, hz2⟩ := info_parts byteinfo
  have HI := Lib.hid hiu
  have HZ0 := Lib.hid hz0
  have HZ1 := Lib.hid hz1
  have HZ2 := Lib.hid hz2
  have hlt := hv.lt
  have HSRC : Hid (∀ w', w.Extends w' → Src Try.prog 1 26 v xs.length (u8vs xs) w') := fun w' hx => (hv.ext hx).src Try.underlying26
  have HEND : Hid (∀ v' w1 w', w.Extends w1 → w1.heap.size = w.heap.size + 1 → w1.heap[w.heap.size]? = some (.cells #[] 5 (0, 0)) → w'.ownsRow w.heap.size 5 1 v' xs.length (u8vs xs) → w1.grownBy w' (some w.heap.size) → ∃ a c, v' = .slice a xs.length c ∧ CopyOut w xs (.returned v') w') := fun v' w1 w' h1 h2 h3 ho hg => by
    exact copy_of (h1.grown hg (fun k hk => by have := Option.some.inj hk; omega)) ho hlt
  rcases hv with ⟨e, _⟩ | ⟨b, off, cap, rfl, h1, h2, h3, h4, h5⟩
  · exact absurd e hx
  · clear h1 h2 h3 h4 h5 hx hlt hiu hz0 hz1 hz2
    unfold CopyOut at *
    generalize hn : xs.length = n at *
    clear hn
    go_enter Try.func78, Try.ntmps78
    have hnil := fun w => eql_bytes_nil (some ⟨b, off, none⟩) n cap w
    rw [show (some (⟨b, off, none⟩ : Addr)).isNone = false from rfl] at hnil
    have hmk : (w.alloc (.cells #[] 5)).ownsRow w.heap.size 5 1 (.slice (some ⟨w.heap.size, 0, none⟩) 0 0) 0 [] := World.ownsRow_made w #[] 0 (Nat.le_refl _) (by decide) rfl
    have HMK := Lib.hid hmk
    have HSR := Lib.hid (HSRC.out _ (ext_alloc w (.cells #[] 5)))
    have HX1 := Lib.hid (ext_alloc w (.cells #[] 5))
    have HA1 : Hid ((w.alloc (.cells #[] 5)).heap[w.heap.size]? = some (.cells #[] 5 (0, 0))) := heap_alloc_new w _
    clear hmk
    go_wp2_with (at_builtin; refine wpList_append_own_src _ rfl _ _ 26 26 rfl w.heap.size 5 iu (.int .u8 0) 1 1 Try.underlying26 HI.out HZ0.out HZ1.out HZ2.out rfl _ _ _ rfl HMK.out _ n (u8vs xs) rfl HSR.out (by unfold maxLen; omega) (by omega) (by simp) ?_)
    intro v' w' ho hg _
    obtain ⟨a, c, rfl, HP⟩ := HEND.out v' _ w' HX1.out (by simp) HA1.out ho hg
    have HP := Lib.hid HP
    clear ho hg HEND HSRC HMK HSR HX1 HA1
    go_wp2
    go_ret
    exact HP.out
/-- slices.Insert of one record, wherever. -/
theorem ins_any (v : Value) (ps : List Pr) (i b : Nat) (p : Pr) (T : TypeId) (w : World) (hv : OwnR w v ps) (hl : ps.length ≤ 1000) (hi : i ≤ ps.length) (hb : w.heap[b]? = some (.cells (p.1.cells p.2).toArray T (0, 0))) (hbv : v.ownBlock ≠ some b) (hp : Slc p) :
    Calls Try.prog 106 #[v, .int .i64 i, .slice (some ⟨b, 0, none⟩) 1 1] w (InsOut w v (insAt ps i p)) := by
  have hrb : w.rangeAt b 0 (p.1.cells p.2) := fun j c hj => by
    rw [cell_of_row _ _ _ _ _ _ hb, List.getElem?_toArray, Nat.zero_add]; exact hj
  rcases Nat.eq_or_lt_of_le hi with e | hlt
  · subst e; exact ins_end v ps b p w hv hl hrb hp
  · rcases hv.kinds with ⟨rfl, rfl⟩ | ⟨g, cap, rfl⟩
    · simp at hlt
    · have hbg : b ≠ g := fun e => hbv (by rw [e]; rfl)
      obtain ⟨⟨cur, _, _, h3, _, _⟩, _⟩ := hv.arr
      rcases Nat.eq_or_lt_of_le h3 with e | h4
      · rw [← e] at hv ⊢
        exact ins_grow g ps.length i ps b p T w hv hl hlt hb hp
      · exact ins_room g cap ps.length i ps b p T w hv hl hlt h4 hb hbg hp
/-- A record alone in a block. -/
theorem Arr.box (w : World) (r : Rc) (u : Value) : Arr (w.alloc (.cells (r.cells u).toArray 28)) w.heap.size 1 1 (fun _ => (r, u)) :=
  ⟨r.cells u, heap_alloc_new w _, rfl, Nat.le_refl _, by decide, fun k hk i hi => by
    obtain rfl : k = 0 := by omega
    rw [Nat.zero_mul, Nat.zero_add]⟩
theorem Arr.datum {w w' : World} {g cap n i : Nat} {f : Nat → Pr} (h : Arr w g cap n f) (hi : i < n) (u : Value) (hw : w' = w.setCell ⟨g, i * 10 + 9, none⟩ u) : Arr w' g cap n (upd f i ((f i).1, u)) ∧ w.grownBy w' (some g) := by
  subst hw
  refine ⟨?_, grown_set _ _ _ _⟩
  obtain ⟨cur, h1, h2, h3, h4, h5⟩ := h
  refine ⟨cur.set (i * 10 + 9) u, ?_, by rw [List.length_set]; exact h2, h3, h4, fun k hk j hj => ?_⟩
  · rw [heap_setCell_same _ _ _ _ _ _ h1]; simp
  · unfold upd
    rw [List.getElem?_set]
    by_cases hki : k = i
    · subst hki
      rw [if_pos rfl]
      by_cases hj9 : j = 9
      · subst hj9
        rw [if_pos rfl, if_pos (by omega)]; rfl
      · rw [if_neg (by omega), h5 k hk j hj]
        obtain rfl | rfl | rfl | rfl | rfl | rfl | rfl | rfl | rfl : j = 0 ∨ j = 1 ∨ j = 2 ∨ j = 3 ∨ j = 4 ∨ j = 5 ∨ j = 6 ∨ j = 7 ∨ j = 8 := by omega
        all_goals rfl
    · rw [if_neg hki, if_neg (by omega)]
      exact h5 k hk j hj
theorem Arr.one {w : World} {g : Nat} {f : Nat → Pr} {p : Pr} (h : Arr w g 1 1 f) (hp : f 0 = p) : w.rangeAt g 0 (p.1.cells p.2) := by
  have := h.range (k := 0) (by omega)
  rw [hp, Nat.zero_mul] at this
  exact this
end Go.Proofs.Ytdbdnfjgmdkneaa
