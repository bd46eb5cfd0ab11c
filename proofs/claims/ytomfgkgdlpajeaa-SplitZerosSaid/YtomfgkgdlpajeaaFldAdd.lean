/- field.Add of many elements. -/
import Derived.Test.YtomfgkgdlpajeaaRows
import Derived.Test.YtomfgkgdlpajeaaFldMath
import Derived.Test.YtomfgkgdlpajeaaFldBits
import Derived.Test.YtomfgkgdlpajeaaBytes
namespace Go.Proofs.Ytomfgkgdlpajeaa
set_option maxRecDepth 20000
open Go.RowKit
/-- the sum of all -/
def FM.sum (xs : List Nat) : Nat := xs.foldl (fun s x => s ^^^ x) 0
def FM.prod (xs : List Nat) : Nat := xs.foldl FM.tm 1
theorem FM.sum_snoc (xs : List Nat) (k : Nat) (h : k < xs.length) : FM.sum (xs.take (k + 1)) = FM.sum (xs.take k) ^^^ xs.getD k 0 := by
  rw [List.take_succ_eq_append_getElem h, FM.sum, List.foldl_append]; simp [FM.sum, h]
theorem FM.prod_snoc (xs : List Nat) (k : Nat) (h : k < xs.length) : FM.prod (xs.take (k + 1)) = FM.tm (FM.prod (xs.take k)) (xs.getD k 0) := by
  rw [List.take_succ_eq_append_getElem h, FM.prod, List.foldl_append]; simp [FM.prod, h]
theorem FM.sum_lt (xs : List Nat) (h : ∀ x ∈ xs, x < 256) : FM.sum xs < 256 := by
  have : ∀ (xs : List Nat) (s : Nat), s < 256 → (∀ x ∈ xs, x < 256) → xs.foldl (fun s x => s ^^^ x) s < 256 := by
    intro xs
    induction xs with
    | nil => intro s hs _; exact hs
    | cons x xs ih => intro s hs h; exact ih _ (FM.xor_lt hs (h x (by simp))) (fun y hy => h y (by simp [hy]))
  exact this xs 0 (by omega) h
theorem FM.prod_lt (xs : List Nat) : FM.prod xs < 256 := by
  have : ∀ (xs : List Nat) (s : Nat), s < 256 → xs.foldl FM.tm s < 256 := by
    intro xs
    induction xs with
    | nil => intro s hs; exact hs
    | cons x xs ih => intro s hs; exact ih _ (FM.tm_lt _ _ hs)
  exact this xs 1 (by omega)
end Go.Proofs.Ytomfgkgdlpajeaa
