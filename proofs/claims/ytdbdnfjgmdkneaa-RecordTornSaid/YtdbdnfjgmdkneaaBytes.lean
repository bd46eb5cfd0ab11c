/- Slices of bytes: what a slice value reads as. -/
import Derived.WalkKit
import Derived.Below
import Derived.OpenShut
import Derived.Laws.NewBlocks
import Derived.Deep.OwnRows
import Derived.Deep.MidRow
namespace Go.Proofs.Ytdbdnfjgmdkneaa
set_option maxRecDepth 20000
open Go.RowKit
/-- v is a slice of the bytes xs in w: empty; or its cells hold them. -/
def U8s (w : World) (v : Value) (xs : List Nat) : Prop :=
  (xs = [] ∧ ∃ a cap, v = .slice a 0 cap ∧ cap ≤ maxLen) ∨
  ∃ b off cap, v = .slice (some ⟨b, off, none⟩) xs.length cap ∧ xs.length ≤ cap ∧ cap ≤ maxLen ∧ b < w.heap.size ∧ (∀ k, k < xs.length → w.cell? ⟨b, off + k, none⟩ = some (.int .u8 (xs.getD k 0 : Nat))) ∧ ∀ x ∈ xs, x < 256
theorem U8s.below {w w' : World} {v : Value} {xs : List Nat} {B : Nat} (h : U8s w v xs) (hb : Below B w w') (hB : B = w.heap.size) : U8s w' v xs := by
  rcases h with h | ⟨b, off, cap, h1, h2, h2', h3, h4, h5⟩
  · exact .inl h
  · refine .inr ⟨b, off, cap, h1, h2, h2', Nat.lt_of_lt_of_le h3 hb.size, fun k hk => ?_, h5⟩
    rw [hb.cell (p := ⟨b, off + k, none⟩) (by show b < B; omega)]
    exact h4 k hk
theorem getD_lt (xs : List Nat) (h : ∀ x ∈ xs, x < 256) (k : Nat) : xs.getD k 0 < 256 := by
  by_cases hk : k < xs.length
  · rw [List.getD_eq_getElem?_getD, List.getElem?_eq_getElem hk]; exact h _ (List.getElem_mem hk)
  · rw [List.getD_eq_getElem?_getD, List.getElem?_eq_none (by omega)]; decide
theorem take_lt (xs : List Nat) (h : ∀ x ∈ xs, x < 256) (k : Nat) : ∀ x ∈ xs.take k, x < 256 := fun x hx => h x (List.mem_of_mem_take hx)
theorem u8s_new (W : World) (s n c : Nat) (T : TypeId) (cs : Array Value) (xs : List Nat) (hs : s = W.heap.size) (hn : n = xs.length) (hc : cs = (xs.map fun (x : Nat) => Value.int .u8 (x : Int)).toArray) (hm : xs.length ≤ maxLen) (hl : ∀ x ∈ xs, x < 256) (hcn : c = n := by rfl) :
    U8s (W.alloc (.cells cs T)) (.slice (some ⟨s, 0, none⟩) n c) xs := by
  subst hcn; subst hs; subst hn; subst hc
  refine .inr ⟨W.heap.size, 0, xs.length, rfl, Nat.le_refl _, hm, by simp, fun k hk => ?_, hl⟩
  have := cell_of_row (W.alloc (.cells (xs.map fun (x : Nat) => Value.int .u8 (x : Int)).toArray T)) W.heap.size k _ T (0, 0) (heap_alloc_new W _)
  rw [Nat.zero_add, this]
  simp [hk]
theorem nil_u8s (w : World) (a : Option Addr) (cap : Nat) (h : cap ≤ maxLen := by decide) : U8s w (.slice a 0 cap) [] := .inl ⟨rfl, a, cap, rfl, h⟩
theorem balloc {w w' : World} (h : Below w.heap.size w w') (o : Obj) : Below w.heap.size w (w'.alloc o) := h.alloc h.size o
/-- WHAT THE WALK IS TOLD OF A SLICE OF INTEGERS THAT CAME IN: nil; or a row of 'cap' cells, the numbers 'zs', the first 'len' its elements. -/
def IsRow (k : IntKind) (w : World) (a : Option Addr) (len cap : Nat) (zs : List Int) : Prop :=
  (a = none ∧ len = 0 ∧ cap = 0 ∧ zs = []) ∨
  ∃ x, a = some x ∧ len ≤ cap ∧ cap ≤ maxLen ∧ zs.length = cap ∧ (∀ i, i < zs.length → w.cell? (x.add i) = some (.int k (zs.getD i 0))) ∧ ∀ n ∈ zs, (Lit.int k n).wf = true
theorem IsRow.u8s {w : World} {a : Option Addr} {len cap : Nat} {zs : List Int} (h : IsRow .u8 w a len cap zs) : U8s w (.slice a len cap) ((zs.take len).map Int.toNat) ∧ ((zs.take len).map Int.toNat).length = len := by
  rcases h with ⟨rfl, rfl, rfl, rfl⟩ | ⟨x, rfl, hl, hm, hz, hc, hw⟩
  · exact ⟨.inl ⟨rfl, none, 0, rfl, Nat.zero_le _⟩, rfl⟩
  · by_cases h0 : len = 0
    · subst h0; exact ⟨.inl ⟨rfl, some x, cap, rfl, hm⟩, rfl⟩
    · have hlen : ((zs.take len).map Int.toNat).length = len := by simp; omega
      refine ⟨.inr ?_, hlen⟩
      obtain ⟨b, off, rfl, hc'⟩ := ints_at hc (by omega)
      refine ⟨b, off, cap, by rw [hlen], by omega, hm, ?_, fun k hk => ?_, fun y hy => ?_⟩
      · have := hc' 0 (by omega)
        exact World.block_lt_of_cell? w _ this
      · rw [hlen] at hk
        rw [hc' k (by omega)]
        have hmem : zs.getD k 0 ∈ zs := by
          rw [List.getD_eq_getElem?_getD, List.getElem?_eq_getElem (by omega)]; exact List.getElem_mem _
        have hwf := hw _ hmem
        have hb : 0 ≤ zs.getD k 0 ∧ zs.getD k 0 ≤ 255 := by simpa [Lit.wf, IntKind.min, IntKind.max, IntKind.bits, IntKind.signed] using hwf
        have : (((zs.take len).map Int.toNat).getD k 0 : Int) = zs.getD k 0 := by
          simp [List.getD_eq_getElem?_getD, hk] at hb ⊢
          rw [List.getElem?_eq_getElem (by omega)] at *
          simp at hb ⊢; omega
        rw [this]
      · obtain ⟨z, hz1, rfl⟩ := List.mem_map.1 hy
        have hwf := hw _ (List.mem_of_mem_take hz1)
        have hb : 0 ≤ z ∧ z ≤ 255 := by simpa [Lit.wf, IntKind.min, IntKind.max, IntKind.bits, IntKind.signed] using hwf
        omega

theorem u8_nat {a : Int} (h : (Lit.int .u8 a).wf = true) : ∃ n : Nat, a = n ∧ n < 256 := by
  have := bounds_u8 h
  obtain ⟨n, rfl⟩ := Int.eq_ofNat_of_zero_le this.1
  exact ⟨n, rfl, by omega⟩
end Go.Proofs.Ytdbdnfjgmdkneaa
