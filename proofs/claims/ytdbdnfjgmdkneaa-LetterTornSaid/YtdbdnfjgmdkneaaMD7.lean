/- In one text: Conv. -/
import Derived.Laws.BytesArg
import Derived.Laws.StructEq
import Derived.Test.YtdbdnfjgmdkneaaMD1
namespace Go.Proofs.Ytdbdnfjgmdkneaa
set_option maxRecDepth 20000
open Go.RowKit
/-- Bytes as a string. -/
def strOf (xs : List Nat) : ByteArray := strOfNums (xs.map fun (x : Nat) => (x : Int))
theorem conv_none {P : Program} (w : World) (a : Option Addr) (cap : Nat) (src e dst : TypeId) (hs : P.underlying src = some (.slice e)) (he : P.underlying e = some (.int .u8)) (hd : P.underlying dst = some .string) :
    (convert src dst (.slice a 0 cap)).run P w = .ok (.string (strOf [])) w := by
  rw [run_convert_bytes_string w src dst e a 0 cap hs he hd]
  cases a with
  | none => simp [Conv.bytesToString]; rfl
  | some a =>
    rw [run_bytesToString w a 0 cap [] (by simp [loadCells, loadCellsFrom])]
    rfl
theorem conv_any {P : Program} {w : World} {v : Value} {xs : List Nat} (h : U8s w v xs) (src e dst : TypeId) (hs : P.underlying src = some (.slice e)) (he : P.underlying e = some (.int .u8)) (hd : P.underlying dst = some .string) :
    (convert src dst v).run P w = .ok (.string (strOf xs)) w := by
  obtain ⟨a, cap, rfl, _, _⟩ := h.slice
  by_cases h0 : xs.length = 0
  · have : xs = [] := List.eq_nil_of_length_eq_zero h0
    subst this
    exact conv_none w a cap src e dst hs he hd
  · obtain ⟨b, off, rfl, _, hc⟩ := h.cell.2 (by omega)
    refine run_convert_bytes_arg w src e hs he b off xs.length cap (xs.map fun (x : Nat) => (x : Int)) (by simp) (fun i hi => ?_) dst hd
    rw [hc i hi]
    simp [hi]
theorem strOf_inj {xs ys : List Nat} (hx : ∀ x ∈ xs, x < 256) (hy : ∀ y ∈ ys, y < 256) (h : strOf xs = strOf ys) : xs = ys := by
  have h1 : (xs.map fun (x : Nat) => UInt8.ofNat x) = ys.map fun (x : Nat) => UInt8.ofNat x := by
    have := congrArg (fun b : ByteArray => b.data.toList) h
    simpa [strOf, strOfNums, Function.comp_def] using this
  have h2 := congrArg (List.map UInt8.toNat) h1
  rw [List.map_map, List.map_map] at h2
  have e : ∀ l : List Nat, (∀ x ∈ l, x < 256) → l.map (UInt8.toNat ∘ fun (x : Nat) => UInt8.ofNat x) = l := fun l hl => by
    conv => rhs; rw [← List.map_id l]
    refine List.map_congr_left fun x hx => ?_
    simp [Nat.mod_eq_of_lt (hl x hx)]
  rwa [e xs hx, e ys hy] at h2
theorem str_eq_no {a b : ByteArray} (h : a ≠ b) : (a == b) = false := by
  obtain ⟨x⟩ := a; obtain ⟨y⟩ := b
  show (x == y) = false
  cases e : (x == y) with
  | false => rfl
  | true => exact absurd (congrArg ByteArray.mk (eq_of_beq e)) h
theorem str_list_ne {a b : ByteArray} (h : a ≠ b) : (a.toList == b.toList) = false := by
  rw [← beq_toListBytes]; exact str_eq_no h
end Go.Proofs.Ytdbdnfjgmdkneaa
