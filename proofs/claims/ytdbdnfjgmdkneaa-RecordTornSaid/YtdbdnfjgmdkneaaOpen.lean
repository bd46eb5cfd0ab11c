/- How arguments that are slices of bytes, and slices of those, read. -/
import Derived.Test.YtdbdnfjgmdkneaaRws
import Derived.OpenShut
import Derived.Deep.Matrix
import Derived.SizedLaws
namespace Go.Proofs.Ytdbdnfjgmdkneaa
set_option maxRecDepth 20000
open Go.RowKit Go.Deep Go.ChangeShapes Go.WideShapes
theorem u8wf {z : Int} (h : (Lit.int .u8 z).wf = true) : 0 ≤ z ∧ z ≤ 255 := by simpa [Lit.wf, IntKind.min, IntKind.max, IntKind.bits, IntKind.signed] using h
theorem getD_toNat (zs : List Int) (n k : Nat) (hk : k < n) (hn : n ≤ zs.length) (hw : ∀ z ∈ zs, (Lit.int .u8 z).wf = true) : ((((zs.take n).map Int.toNat).getD k 0 : Nat) : Int) = zs.getD k 0 := by
  have hmem : zs.getD k 0 ∈ zs := by
    rw [List.getD_eq_getElem?_getD, List.getElem?_eq_getElem (by omega)]; exact List.getElem_mem _
  have hb := u8wf (hw _ hmem)
  simp [List.getD_eq_getElem?_getD, hk] at hb ⊢
  rw [List.getElem?_eq_getElem (by omega)] at *
  simp at hb ⊢; omega
theorem toNat_lt (zs : List Int) (n : Nat) (hw : ∀ z ∈ zs, (Lit.int .u8 z).wf = true) : ∀ x ∈ (zs.take n).map Int.toNat, x < 256 := fun y hy => by
  obtain ⟨z, hz1, rfl⟩ := List.mem_map.1 hy
  have := u8wf (hw _ (List.mem_of_mem_take hz1))
  omega
section
variable {H : Type} {enc : TypeId × Value → H} {P : Program} {w : World} {base : Nat} {held : Bool}
theorem open_u8s {t e : TypeId} {fuel : Nat} {v : Value} {x : DataW H × List MemPlace} (ht : P.underlying t = some (.slice e)) (he : P.underlying e = some (.int .u8)) (hc : P.cellsOf e = 1)
    (hv : ∃ a len cap, v = .slice a len cap) (h : DataW.trod enc P w base (fun _ => true) held fuel t v.cells.toList = some x) : ∃ xs, U8s w v xs := by
  obtain ⟨a, len, cap, rfl⟩ := hv
  rcases open_ints ht he hc h with ⟨hcs, _⟩ | ⟨a', len', cap', zs, hcs, _, hl, hm, hz, _, hcell, hwz⟩
  · simp [Value.cells] at hcs
    obtain ⟨rfl, rfl, rfl⟩ := hcs
    exact ⟨[], .inl ⟨rfl, none, 0, rfl, Nat.zero_le _⟩⟩
  · simp [Value.cells] at hcs
    obtain ⟨rfl, rfl, rfl⟩ := hcs
    simp only [if_true] at hz
    have := (IsRow.u8s (w := w) (a := some a') (len := len) (cap := cap) (zs := zs) (.inr ⟨a', rfl, hl, hm, hz, hcell, hwz⟩))
    exact ⟨_, this.1⟩
theorem weightsAll_mem {e : TypeId} {d : DataW H} {n : Nat} (hn : n ∈ d.weights P e) : ∀ {l : List (DataW H)}, d ∈ l → n ∈ DataW.weightsAll P e l
  | [], h => by cases h
  | c :: r, h => by
    rw [DataW.weightsAll, List.mem_append]
    rcases List.mem_cons.1 h with rfl | h
    · exact .inl hn
    · exact .inr (weightsAll_mem hn h)
theorem open_rws {t e q : TypeId} {fuel : Nat} {v : Value} {x : DataW H × List MemPlace} (ht : P.underlying t = some (.slice e)) (he : P.underlying e = some (.slice q)) (hq : P.underlying q = some (.int .u8)) (ce : P.cellsOf e = 1) (cq : P.cellsOf q = 1) (bq : P.bytesOf q = 1)
    (hv : ∃ a len cap, v = .slice a len cap) (h : DataW.trod enc P w base (fun _ => true) held fuel t v.cells.toList = some x) (hw : ∀ n ∈ x.1.weights P t, n ≤ reachBytes) :
    ∃ l, Rws w v l ∧ ∀ k, (l.getD k []).length ≤ 140737488351232 := by
  obtain ⟨a, len, cap, rfl⟩ := hv
  rcases open_int_rows ht he hq ce cq h with ⟨hcs, rfl⟩ | ⟨a', len', cap', A, L, C, Z, hcs, _, hl, hm, rfl, hrow⟩
  · simp [Value.cells] at hcs
    obtain ⟨rfl, rfl, rfl⟩ := hcs
    exact ⟨[], .inl ⟨rfl, none, 0, rfl⟩, fun k => by simp⟩
  · simp [Value.cells] at hcs
    obtain ⟨rfl, rfl, rfl⟩ := hcs
    have hlk : ∀ k, k < len → ((List.range len).map fun r => ((Z r).take (L r)).map Int.toNat).getD k [] = ((Z k).take (L k)).map Int.toNat := fun k hk => by
      simp [List.getD_eq_getElem?_getD, hk]
    have hread : ∀ r, r < cap → U8s w (.slice (A r) (L r) (C r)) (((Z r).take (L r)).map Int.toNat) ∧ (((Z r).take (L r)).map Int.toNat).length = L r := fun r hr => by
      obtain ⟨_, h1, h2, h3, h4, h5, h6⟩ := hrow r hr
      refine IsRow.u8s ?_
      cases hA : A r with
      | none =>
        have hC := h5 hA
        exact .inl ⟨rfl, by omega, hC, List.eq_nil_of_length_eq_zero (by omega)⟩
      | some a'' => exact .inr ⟨a'', rfl, h1, h2, h3, fun i hi => (h6 a'' hA).2 i (by omega), h4⟩
    refine ⟨(List.range len).map fun r => ((Z r).take (L r)).map Int.toNat, ?_, fun k => ?_⟩
    · by_cases h0 : len = 0
      · subst h0; exact .inl ⟨rfl, _, _, rfl⟩
      · obtain ⟨b, off, spot⟩ := a'
        have hspot : spot = none := by simpa [Addr.add] using World.cell?_spot (hrow 0 (by omega)).1
        subst hspot
        refine .inr ⟨b, off, cap, by simp, by simpa using hl, hm, ?_, fun k hk => ?_⟩
        · exact World.block_lt_of_cell? w _ (by simpa [Addr.add] using (hrow 0 (by omega)).1)
        · have hk' : k < len := by simpa using hk
          have hc := (hrow k (by omega)).1
          rw [Addr.add_mid] at hc
          exact ⟨_, hc, by rw [hlk k hk']; exact (hread k (by omega)).1⟩
    · by_cases hk : k < len
      · rw [hlk k hk, (hread k (by omega)).2]
        obtain ⟨_, h1, h2, h3, h4, h5, h6⟩ := hrow k (by omega)
        cases hA : A k with
        | none => have := h5 hA; omega
        | some a'' =>
          have := hw ((Z k).length) (by
            simp only [DataW.weights, ht]
            refine List.mem_cons_of_mem _ (List.mem_append.2 (.inl ?_))
            refine weightsAll_mem (d := intRow .u8 (A k) (L k) (Z k)) ?_ (List.mem_map.2 ⟨k, List.mem_range.2 hk, rfl⟩)
            simp only [intRow, hA, DataW.weights, he, bq]
            refine List.mem_cons.2 (.inl ?_)
            simp only [lits, List.length_map, List.length_take, List.length_drop]
            omega)
          simp only [reachBytes] at this
          omega
      · rw [List.getD_eq_getElem?_getD, List.getElem?_eq_none (by simp; omega)]; simp
end
end Go.Proofs.Ytdbdnfjgmdkneaa
