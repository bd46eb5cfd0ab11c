/- Calls: in memory; Len, Add. -/
import Derived.Test.YtiiidbomfkjfgaaCalAdd
import Derived.Test.YtiiidbomfkjfgaaCalOver
namespace Go.Proofs.Ytiiidbomfkjfgaa
set_option maxRecDepth 20000
open Go.RowKit Go.Deep Go.Maps
set_option linter.unusedVariables false
/-- At offset o of block c lie calls: those of cs are not over, in blocks of D; last: the tag of the one that was added last. -/
def CsAt (w : World) (c o : Nat) (D : Nat → Prop) (last : Nat) (cs : List Cl) : Prop :=
  ¬ D c ∧ ∃ row T y, w.heap[c]? = some (.cells row T (0, 0)) ∧ row[o]? = some y ∧ ((y = .pointer none ∧ last = 0 ∧ cs = []) ∨ ∃ t, y = pv t ∧ OAt w t D last cs)
section
variable {w w' : World} {c o last : Nat} {D D' : Nat → Prop} {cs cs' : List Cl}
theorem CsAt.lt (h : CsAt w c o D last cs) : c < w.heap.size := by
  obtain ⟨_, row, T, y, h1, _⟩ := h
  exact (Array.getElem?_eq_some_iff.1 h1).1
theorem CsAt.away (h : CsAt w c o D last cs) (hf : Fr D' w w') (hn : ∀ i, D i → ¬ D' i) (hc : ¬ D' c) : CsAt w' c o D last cs := by
  have hl := h.lt
  obtain ⟨h0, row, T, y, h1, h2, h3⟩ := h
  exact ⟨h0, row, T, y, (hf.away c hl hc).trans h1, h2, h3.imp id fun ⟨t, e, h⟩ => ⟨t, e, h.away hf hn⟩⟩
theorem CsAt.ext (h : CsAt w c o D last cs) (hx : w.Extends w') : CsAt w' c o D last cs := h.away (D' := fun _ => False) (Fr.ext hx) (fun _ _ h => h) (fun h => h)
theorem CsAt.mono (h : CsAt w c o D last cs) (hD : ∀ i, D i → D' i) (hc : ¬ D' c) : CsAt w c o D' last cs := by
  obtain ⟨h0, row, T, y, h1, h2, h3⟩ := h
  exact ⟨hc, row, T, y, h1, h2, h3.imp id fun ⟨t, e, h⟩ => ⟨t, e, h.mono hD⟩⟩
theorem CsAt.perm (h : CsAt w c o D last cs) (hp : cs.Perm cs') : CsAt w c o D last cs' := by
  obtain ⟨h0, row, T, y, h1, h2, h3⟩ := h
  refine ⟨h0, row, T, y, h1, h2, h3.imp (fun ⟨e1, e2, e3⟩ => ⟨e1, e2, ?_⟩) fun ⟨t, e, mt, mo, v, q, ft, fo, sl, h4, h5⟩ => ⟨t, e, mt, mo, v, q, ft, fo, sl, h4, h5.trans hp⟩⟩
  subst e3
  exact List.nil_perm.1 hp
theorem CsAt.cell (h : CsAt w c o D last cs) : ∃ y, w.cell? ⟨c, o, none⟩ = some y ∧ w.frozen? ⟨c, o, none⟩ = false ∧ ((y = .pointer none ∧ last = 0 ∧ cs = []) ∨ ∃ t, y = pv t ∧ OAt w t D last cs) := by
  obtain ⟨h0, row, T, y, h1, h2, h3⟩ := h
  exact ⟨y, by rw [cell_of_row _ _ _ _ _ _ h1]; exact h2, frozen_of_row _ _ _ _ _ h1, h3⟩
theorem OAt.facts {t : Nat} (h : OAt w t D last cs) : cs.Nodup ∧ (∀ x ∈ cs, ∀ y ∈ cs, x.t = y.t → x = y) ∧ (∀ x ∈ cs, 1 ≤ x.t ∧ x.t ≤ last) ∧ last ≤ 8000 ∧ cs.length ≤ last := by
  obtain ⟨mt, mo, v, q, ft, fo, sl, h1, h2⟩ := h
  have hm : ∀ x, x ∈ cs ↔ ∃ y ∈ q, y.c = x := fun x => by rw [← h2.mem_iff, List.mem_map]
  refine ⟨(h2.nodup_iff).1 ?_, fun x hx y hy e => ?_, fun x hx => ?_, h1.r.big, ?_⟩
  · have hq := h1.r.nq
    have ht := h1.r.tags
    clear h1 h2 hm
    induction q with
    | nil => exact List.nodup_nil
    | cons a l ih =>
      rw [List.nodup_cons] at hq
      rw [List.map_cons, List.nodup_cons]
      refine ⟨fun e => ?_, ih hq.2 fun y hy y' hy' => ht y (List.mem_cons_of_mem _ hy) y' (List.mem_cons_of_mem _ hy')⟩
      obtain ⟨b, hb, e⟩ := List.mem_map.1 e
      have := ht b (List.mem_cons_of_mem _ hb) a List.mem_cons_self (by rw [e])
      exact hq.1 (this ▸ hb)
  · obtain ⟨a, ha, rfl⟩ := (hm x).1 hx
    obtain ⟨b, hb, rfl⟩ := (hm y).1 hy
    rw [h1.r.tags a ha b hb e]
  · obtain ⟨a, ha, rfl⟩ := (hm x).1 hx
    exact h1.r.rng a ha
  · have := h2.length_eq
    rw [List.length_map] at this
    rw [← this]; exact h1.r.len
theorem CsAt.facts (h : CsAt w c o D last cs) : cs.Nodup ∧ (∀ x ∈ cs, ∀ y ∈ cs, x.t = y.t → x = y) ∧ (∀ x ∈ cs, 1 ≤ x.t ∧ x.t ≤ last) ∧ last ≤ 8000 ∧ cs.length ≤ last := by
  obtain ⟨y, _, _, ⟨_, rfl, rfl⟩ | ⟨t, _, h⟩⟩ := h.cell
  · exact ⟨List.nodup_nil, fun x hx => (nomatch hx), fun x hx => (nomatch hx), by omega, Nat.le_refl _⟩
  · exact h.facts
end
theorem clen_any (c o : Nat) (D : Nat → Prop) (last : Nat) (cs : List Cl) (w : World) (h : CsAt w c o D last cs) :
    Calls Try.prog 8 #[.pointer (some ⟨c, o, none⟩)] w fun e w' => e = .returned (.int .i64 ((cs.length : Nat) : Int)) ∧ w = w' := by
  obtain ⟨y, hc, hf, ⟨rfl, rfl, rfl⟩ | ⟨t, rfl, ho⟩⟩ := h.cell
  · clear h hf
    go_enter Try.func8, Try.ntmps8
    go_wp2
    go_ret
    exact ⟨rfl, rfl⟩
  · obtain ⟨mt, mo, v, q, ft, fo, sl, h1, h2⟩ := ho
    have hc3 := h1.p.cells.2.2.2
    obtain ⟨va, vc, rfl⟩ := h1.p.que.own.slice
    have hl := h2.length_eq
    rw [List.length_map] at hl
    rw [hl] at hc3
    clear h h1 h2 hl hf
    generalize cs.length = n at *
    go_enter Try.func8, Try.ntmps8
    go_wp2
    go_ret
    exact ⟨rfl, rfl⟩
end Go.Proofs.Ytiiidbomfkjfgaa
