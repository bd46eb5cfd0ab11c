/- How an argument that is a key reads. -/
import Derived.Test.YtmbbhmmciidfnaaKeyAt
import Derived.OpenShut
import Derived.WideShapes
import Derived.WalkKit
import Derived.ProofKit
namespace Go.Proofs.Ytmbbhmmciidfnaa
set_option maxRecDepth 20000
open Go.RowKit Go.ChangeShapes Go.WideShapes
set_option linter.unusedVariables false
section
variable {H : Type} {enc : TypeId × Value → H} {P : Program} {w : World} {base : Nat} {held : Bool}
theorem key_of_cells {l : List Value} (hl : l.length = 20) (h : ∀ i (hi : i < l.length), ∃ x : Nat, l[i] = .int .u8 x ∧ x < 256) : ∃ k, KY.Ok k ∧ l.toArray = KC k := by
  have ex : ∀ i, ∃ x : Nat, x < 256 ∧ ∀ hi : i < l.length, l[i] = .int .u8 x := fun i => by
    by_cases hi : i < l.length
    · obtain ⟨x, h1, h2⟩ := h i hi
      exact ⟨x, h2, fun _ => h1⟩
    · exact ⟨0, by decide, fun h' => absurd h' hi⟩
  refine ⟨(List.range 20).map fun i => (ex i).choose, ⟨by simp, fun x hx => ?_⟩, ?_⟩
  · obtain ⟨i, _, rfl⟩ := List.mem_map.1 hx
    exact (ex i).choose_spec.1
  · refine KC_of (by simp) (by simpa using hl) fun i hi => ?_
    have h20 : i < ((List.range 20).map fun i => (ex i).choose).length := by rw [List.length_map, List.length_range]; exact hi
    rw [KY.get_in _ _ h20, List.getElem_map, List.getElem_range, List.getElem?_toArray, List.getElem?_eq_getElem (show i < l.length by omega), (ex i).choose_spec.2 (by omega)]
theorem open_key_cells {t e : TypeId} {fuel : Nat} {spare : Nat → Bool} {l : List Value} {x : DataW H × List MemPlace} (ht : P.underlying t = some (.array 20 e)) (he : P.underlying e = some (.int .u8)) (ce : P.cellsOf e = 1) (hl : l.length = 20)
    (h : DataW.trod enc P w base spare held fuel t l = some x) : ∃ k, KY.Ok k ∧ l.toArray = KC k := by
  obtain ⟨xs, m, _, _, _, hx, hf⟩ := DataW.trod_array ht h
  refine key_of_cells hl fun i hi => ?_
  have h1 := hf i (by omega)
  rw [ce, Nat.mul_one, List.getElem?_eq_getElem (show i < xs.length by omega)] at h1
  obtain ⟨n, e1, _, hw⟩ := DataW.trod_int he h1
  obtain ⟨y, rfl, hy⟩ := u8_nat hw
  refine ⟨y, ?_, hy⟩
  rw [List.drop_eq_getElem_cons hi, List.take_succ_cons, List.take_zero] at e1
  exact (List.cons.inj e1).1
theorem open_key {r : Reach} {b0 : Nat} {t e : TypeId} {v : Value} {d : DataW H} {p : List MemPlace} (ht : P.underlying t = some (.array 20 e)) (he : P.underlying e = some (.int .u8)) (ce : P.cellsOf e = 1) (ct : P.cellsOf t = 20)
    (hv : Value.okWide P w r b0 t v) (h : DataW.Trod enc P w base (fun _ => true) held t v d p) : ∃ k, v = KV k ∧ KY.Ok k := by
  simp only [Value.okWide, ht] at hv
  obtain ⟨cs, rfl, hs, _⟩ := hv
  obtain ⟨fuel, hf⟩ := h
  obtain ⟨l⟩ := cs
  obtain ⟨k, h1, h2⟩ := open_key_cells ht he ce (by have := hs.trans ct; simpa using this) (show DataW.trod enc P w base (fun _ => true) held fuel t l = some (d, p) from hf)
  exact ⟨k, by show Value.agg l.toArray = _; rw [h2], h1⟩
end
end Go.Proofs.Ytmbbhmmciidfnaa
