/- How arguments that are a struct of three ints, and slices of slices of rows of bytes, read. -/
import Derived.Test.YtomfgkgdlpajeaaOpen
import Derived.Test.YtomfgkgdlpajeaaRwsL
import Derived.Test.YtomfgkgdlpajeaaPrmAt
import Derived.Lib.SmallJoins
namespace Go.Proofs.Ytomfgkgdlpajeaa
open Go.RowKit Go.Deep Go.ChangeShapes Go.WideShapes
section
variable {H : Type} {enc : TypeId × Value → H} {P : Program} {w : World} {base : Nat} {held : Bool}
theorem open_three {r : Reach} {b0 : Nat} {t : TypeId} {f0 f1 f2 : Field} {v : Value} {d : DataW H} {p : List MemPlace} {spare : Nat → Bool} (hs : P.underlying t = some (.struct #[f0, f1, f2])) (hone : oneCellFields P #[f0, f1, f2] = true) (hC : P.cellsOf t = 3)
    (k0 : P.underlying f0.type = some (.int .i64)) (k1 : P.underlying f1.type = some (.int .i64)) (k2 : P.underlying f2.type = some (.int .i64))
    (hv : Value.okWide P w r b0 t v) (h : DataW.Trod enc P w base spare held t v d p) :
    ∃ a b c : Int, v = PV a b c ∧ (Lit.int .i64 a).wf = true ∧ (Lit.int .i64 b).wf = true ∧ (Lit.int .i64 c).wf = true := by
  obtain ⟨v0, v1, v2, y0, y1, y2, n, rfl, _, _, h0, h1, h2⟩ := Joins.open_agg3 hs hone hC hv h
  obtain ⟨a, ha, _, wa⟩ := DataW.trod_int k0 h0
  obtain ⟨b, hb, _, wb⟩ := DataW.trod_int k1 h1
  obtain ⟨c, hc, _, wc⟩ := DataW.trod_int k2 h2
  simp only [List.cons.injEq, and_true] at ha hb hc
  subst ha; subst hb; subst hc
  exact ⟨a, b, c, rfl, wa, wb, wc⟩
theorem open_rwsl {t e q r : TypeId} {fuel : Nat} {v : Value} {x : DataW H × List MemPlace} (ht : P.underlying t = some (.slice e)) (he : P.underlying e = some (.slice q)) (hq : P.underlying q = some (.slice r)) (hr : P.underlying r = some (.int .u8))
    (ce : P.cellsOf e = 1) (cq : P.cellsOf q = 1) (cr : P.cellsOf r = 1) (br : P.bytesOf r = 1)
    (hv : ∃ a len cap, v = .slice a len cap) (h : DataW.trod enc P w base (fun _ => true) held fuel t v.cells.toList = some x) (hw : ∀ n ∈ x.1.weights P t, n ≤ reachBytes) :
    ∃ L, RwsL w v L ∧ ∀ i k, ((L.getD i []).getD k []).length ≤ 140737488351232 := by
  obtain ⟨a, len, cap, rfl⟩ := hv
  rcases open_slice1 ht ce h with ⟨hcs, _⟩ | ⟨a', len', cap', m, n, V, D, Pl, hcs, _, hl, hm, hmm, rfl, hx⟩
  · simp [Value.cells] at hcs
    obtain ⟨rfl, rfl, rfl⟩ := hcs
    exact ⟨[], .inl ⟨rfl, none, 0, rfl⟩, fun i k => by simp⟩
  · simp [Value.cells] at hcs
    obtain ⟨rfl, rfl, rfl⟩ := hcs
    simp only [if_true] at hmm
    subst hmm
    have each : ∀ i, i < len → ∃ l : List (List Nat), Rws w (V i) l ∧ ∀ k, (l.getD k []).length ≤ 140737488351232 := fun i hi => by
      obtain ⟨hc, hd⟩ := hx i (by omega)
      have hform : ∃ a l c, V i = .slice a l c := by
        rcases open_slice1 he cq hd with ⟨h0, _⟩ | ⟨a2, l2, c2, _, _, _, _, _, h0, _⟩
        · exact ⟨none, 0, 0, by simpa using h0⟩
        · exact ⟨some a2, l2, c2, by simpa using h0⟩
      refine open_rws (enc := enc) (base := base) (held := held) he hq hr cq cr br hform (x := (D i, Pl i)) (fuel := n) ?_ (fun k hk => hw k ?_)
      · obtain ⟨a2, l2, c2, e2⟩ := hform
        rw [e2] at hd ⊢
        exact hd
      · simp only [DataW.weights, ht]
        refine List.mem_cons_of_mem _ (List.mem_append.2 (.inl ?_))
        exact weightsAll_mem hk (List.mem_map.2 ⟨i, List.mem_range.2 hi, rfl⟩)
    obtain ⟨f, hf⟩ := choose_lt each
    have hat : ∀ k, k < len → ((List.range len).map f).getD k [] = f k := fun k hk => by simp [List.getD_eq_getElem?_getD, hk]
    refine ⟨(List.range len).map f, ?_, fun i k => ?_⟩
    · by_cases h0 : len = 0
      · subst h0; exact .inl ⟨rfl, _, _, rfl⟩
      · obtain ⟨b, off, spot⟩ := a'
        have hspot : spot = none := by simpa [Addr.add] using World.cell?_spot (hx 0 (by omega)).1
        subst hspot
        refine .inr ⟨b, off, m, by simp, by simpa using hl, hm, ?_, fun k hk => ?_⟩
        · exact World.block_lt_of_cell? w _ (by simpa [Addr.add] using (hx 0 (by omega)).1)
        · have hk' : k < len := by simpa using hk
          have hc := (hx k (by omega)).1
          rw [Addr.add_mid] at hc
          exact ⟨_, hc, by rw [hat k hk']; exact (hf k hk').1⟩
    · by_cases hi : i < len
      · rw [hat i hi]; exact (hf i hi).2 k
      · rw [List.getD_eq_getElem?_getD (l := (List.range len).map f), List.getElem?_eq_none (by simp; omega)]; simp
end
end Go.Proofs.Ytomfgkgdlpajeaa
