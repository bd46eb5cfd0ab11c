/- In one text: TabInts. -/
import Derived.Test.YtffcjnabhblbaaaMA4
import Derived.Test.YtffcjnabhblbaaaMA9
namespace Go.Proofs.Ytffcjnabhblbaaa
set_option maxRecDepth 20000
open Go.RowKit Go.Deep
set_option linter.unusedVariables false
/-- v is a slice of the call's own, in memory from B on, of the ints xs. -/
def OwnI (w : World) (B : Nat) (v : Value) (xs : List Int) : Prop := w.ownsRow B 3 1 v xs.length (i64vs xs)
theorem OwnI.nil (w : World) (B : Nat) : OwnI w B (.slice none 0 0) [] := World.ownsRow_nil _ _ _ _
theorem OwnI.ints {w : World} {B : Nat} {v : Value} {xs : List Int} (h : OwnI w B v xs) : Ints w v xs := owns_ints h
theorem OwnI.ext {w w' : World} {B : Nat} {v : Value} {xs : List Int} (h : OwnI w B v xs) (hx : w.Extends w') : OwnI w' B v xs := owns_ext h hx
theorem OwnI.mono {w : World} {B B' : Nat} {v : Value} {xs : List Int} (h : OwnI w B v xs) (hB : B' ≤ B) : OwnI w B' v xs := owns_base h hB
theorem OwnI.lt {w : World} {B : Nat} {v : Value} {xs : List Int} (h : OwnI w B v xs) : ∀ g, v.ownBlock = some g → B ≤ g ∧ g < w.heap.size := fun g hg => World.ownsRow.lt h g hg
theorem OwnI.lts {w : World} {B C : Nat} {v : Value} {xs : List Int} (h : OwnI w B v xs) (hC : C = w.heap.size) : ∀ g, v.ownBlock = some g → g < C := fun g hg => by rw [hC]; exact (h.lt g hg).2
theorem OwnI.below {w w' : World} {B C : Nat} {v : Value} {xs : List Int} (h : OwnI w B v xs) (hv : ∀ g, v.ownBlock = some g → g < C) (hb : Below C w w') : OwnI w' B v xs := by
  refine ⟨h.1, ?_⟩
  rcases h.2 with hn | ⟨g, cap, cur, rfl, hbg, hg, rest⟩
  · exact .inl hn
  · exact .inr ⟨g, cap, cur, rfl, hbg, (hb.block g (hv g rfl)).trans hg, rest⟩
theorem OwnI.kinds {w : World} {B : Nat} {v : Value} {xs : List Int} (h : OwnI w B v xs) : (v = .slice none 0 0 ∧ xs = []) ∨ ∃ g cap, v = .slice (some ⟨g, 0, none⟩) xs.length cap ∧ xs.length ≤ cap := by
  rcases h.2 with ⟨rfl, h0⟩ | ⟨g, cap, cur, rfl, _, _, hc, _⟩
  · exact .inl ⟨rfl, List.eq_nil_of_length_eq_zero h0⟩
  · exact .inr ⟨g, cap, rfl, hc⟩
theorem OwnI.slice {w : World} {B : Nat} {v : Value} {xs : List Int} (h : OwnI w B v xs) : ∃ a cap, v = .slice a xs.length cap := by
  rcases h.kinds with ⟨rfl, rfl⟩ | ⟨g, cap, rfl, _⟩
  · exact ⟨_, _, rfl⟩
  · exact ⟨_, _, rfl⟩
theorem i64vs_one (xs : List Int) : ∀ u ∈ i64vs xs, u.oneCell' = true := fun u hu => by
  obtain ⟨x, _, rfl⟩ := List.mem_map.1 hu; rfl
theorem i64vs_app (xs ys : List Int) : i64vs (xs ++ ys) = i64vs xs ++ i64vs ys := by simp [i64vs]
theorem wp_app_ints {o : Oper} {a : Act} {K : Act → World → Prop} {Q : Exit → Act → World → Prop} {w : World} (s x : Operand)
    (ho : o.op = .call { callee := .builtin .append, args := #[s, x], argTypes := #[36, 36] })
    (B : Nat) (v : Value) (l : List Int) (hs : a.eval s = v) (hown : OwnI w B v l) (y : Value) (m : Nat) (r : List Int) (hx : a.eval x = y) (hm : r.length = m) (hsrc : Src Try.prog 1 36 y m (i64vs r) w)
    (h63 : l.length + r.length ≤ 10000) (hB : B ≤ w.heap.size) (h : ∀ v' w', OwnI w' B v' (l ++ r) → w.grownBy w' v.ownBlock → K (a.put o.dst v') w') : o.wp Try.prog a w K Q := by
  subst hm
  obtain ⟨i, hi, hz0, hz1, hz2⟩ := info_parts tabinfo
  refine wp_append_own_src w s x 36 36 ho B 3 i (.int .i64 0) 1 8 Try.underlying36 hi hz0 hz1 hz2 rfl v l.length (i64vs l) hs hown y r.length (i64vs r) hx hsrc (by unfold maxLen; omega) (by omega) hB fun v' w' ho' hg' _ => h v' w' ?_ hg'
  unfold OwnI
  rw [List.length_append, i64vs_app]
  exact ho'
theorem intSize (w : World) : (sizeOf (Try.prog.elem 36)).run Try.prog w = .ok 1 w := by
  have he : Try.prog.elem 36 = 3 := by kernel_rfl
  rw [he]
  obtain ⟨i, hi, _, h, _⟩ := info_parts tabinfo
  simp [sizeOf, typeInfo, hi, h]
theorem intSlice : Try.prog.underlying 36 = some (.slice (Try.prog.elem 36)) := by
  have he : Try.prog.elem 36 = 3 := by kernel_rfl
  rw [he]; exact Try.underlying36
theorem cuti_to (a : Option Addr) (len cap h : Nat) (hh : h ≤ cap) (w' : World) : (Instr.slice 36 (.slice a len cap) none (some (.int .i64 (h : Nat))) none).run Try.prog w' = .ok (.slice (if cap = 0 then a else a.map (·.add 0)) h cap) w' := by
  rw [run_slice_h (P := Try.prog) w' 36 _ len cap intSlice .i64 ((h : Nat) : Int) (by omega) (by omega), intSize]
  simp only [Result.andThen_ok, Int.toNat_natCast, sliced, Nat.sub_zero, Nat.zero_mul]
theorem cuti_from (a : Option Addr) (len cap l : Nat) (hl : l ≤ len) (hc : len ≤ cap) (w' : World) : (Instr.slice 36 (.slice a len cap) (some (.int .i64 (l : Nat))) none none).run Try.prog w' = .ok (.slice (if cap = l then a else a.map (·.add l)) (len - l) (cap - l)) w' := by
  rw [run_slice_l (P := Try.prog) w' 36 _ len cap intSlice .i64 ((l : Nat) : Int) (by omega) (by omega), intSize]
  simp only [Result.andThen_ok, Int.toNat_natCast, sliced, Nat.mul_one]
theorem ints_src {w : World} {g o n c : Nat} {l : List Int} (hn : l.length = n) (h : ∀ k, k < n → w.cell? ⟨g, o + k, none⟩ = some (.int .i64 (l.getD k 0))) : Src Try.prog 1 36 (.slice (some ⟨g, o, none⟩) n c) n (i64vs l) w := by
  refine Src.ofSlice w Try.underlying36 ⟨g, o, none⟩ n c (i64vs l) (by rw [i64vs_length, hn, Nat.mul_one]) (fun j u hu => ?_) (i64vs_one l)
  have hj : j < l.length := by have := (List.getElem?_eq_some_iff.1 hu).1; rwa [i64vs_length] at this
  rw [Addr.add_mid, h j (by omega)]
  simp only [i64vs, List.getElem?_map, List.getElem?_eq_getElem hj, Option.map_some, Option.some.injEq] at hu
  rw [← hu]
  simp [hj]
/-- x[:j] and x[j:] of a slice of the call's own. -/
theorem OwnI.cuts {w : World} {B : Nat} {v : Value} {l : List Int} (h : OwnI w B v l) {j : Nat} (hj : j ≤ l.length) : ∃ a1 c1 a2 c2,
    (∀ w' : World, (Instr.slice 36 v none (some (.int .i64 (j : Nat))) none).run Try.prog w' = .ok (.slice a1 j c1) w') ∧
    (∀ w' : World, OwnI w' B v l → Src Try.prog 1 36 (.slice a1 j c1) j (i64vs (l.take j)) w') ∧
    (∀ w' : World, (Instr.slice 36 v (some (.int .i64 (j : Nat))) none none).run Try.prog w' = .ok (.slice a2 (l.length - j) c2) w') ∧
    (∀ w' : World, OwnI w' B v l → Src Try.prog 1 36 (.slice a2 (l.length - j) c2) (l.length - j) (i64vs (l.drop j)) w') := by
  rcases h.kinds with ⟨rfl, rfl⟩ | ⟨g, cap, rfl, hcap⟩
  · obtain rfl : j = 0 := by simpa using hj
    refine ⟨none, 0, none, 0, fun w' => by rw [cuti_to none 0 0 0 (Nat.le_refl _) w']; rfl, fun w' _ => Src.ofNil w' Try.underlying36 0, fun w' => by rw [cuti_from none 0 0 0 (Nat.le_refl _) (Nat.le_refl _) w']; rfl, fun w' _ => Src.ofNil w' Try.underlying36 0⟩
  · have hcell : ∀ w', OwnI w' B (.slice (some ⟨g, 0, none⟩) l.length cap) l → ∀ k, k < l.length → w'.cell? ⟨g, k, none⟩ = some (.int .i64 (l.getD k 0)) := fun w' ho k hk => by
      have := World.ownsRow.cells ho (g := g) rfl k (.int .i64 (l.getD k 0)) (by simp [i64vs, hk])
      rwa [Addr.add_mid, Nat.zero_add] at this
    refine ⟨some ⟨g, 0, none⟩, cap, (if cap = j then some ⟨g, 0, none⟩ else some ⟨g, j, none⟩), cap - j, fun w' => ?_, fun w' ho => ?_, fun w' => ?_, fun w' ho => ?_⟩
    · rw [cuti_to _ _ cap j (by omega) w']
      split <;> simp [Addr.add_mid]
    · refine ints_src (by rw [List.length_take]; omega) fun k hk => ?_
      rw [Nat.zero_add, hcell w' ho k (by omega)]
      simp [hk]
    · rw [cuti_from _ _ cap j hj hcap w']
      split <;> simp [Addr.add_mid]
    · by_cases e : cap = j
      · have hl0 : l.length - j = 0 := by omega
        rw [if_pos e, hl0, List.drop_of_length_le (by omega)]
        exact ints_src rfl fun k hk => absurd hk (Nat.not_lt_zero _)
      · rw [if_neg e]
        refine ints_src (by rw [List.length_drop]) fun k hk => ?_
        rw [hcell w' ho (j + k) (by omega)]
        simp
/-- One int alone. -/
theorem one_src {w : World} {y c : Nat} {x : Int} {T : TypeId} (h : w.heap[y]? = some (.cells #[.int .i64 x] T (0, 0))) : Src Try.prog 1 36 (.slice (some ⟨y, 0, none⟩) 1 c) 1 (i64vs [x]) w :=
  ints_src rfl fun k hk => by
    obtain rfl : k = 0 := by omega
    rw [cell_of_row _ _ _ _ _ _ h]; rfl
theorem Ints.cut {w : World} {a : Option Addr} {len cap m : Nat} {l : List Int} (h : Ints w (.slice a len cap) l) (hm : m ≤ len) : Ints w (.slice a m cap) (l.take m) := by
  obtain ⟨hn, hc⟩ := h.cell
  obtain ⟨a', cap', hv, h1, h2⟩ := h.slice
  cases hv
  by_cases h0 : m = 0
  · subst h0; exact .inl ⟨rfl, a, cap, rfl, h2⟩
  · obtain ⟨b, off, rfl, hb, hcell⟩ := hc (by omega)
    refine .inr ⟨b, off, cap, by rw [List.length_take]; congr 1; omega, by rw [List.length_take]; omega, h2, hb, fun k hk => ?_⟩
    rw [List.length_take] at hk
    rw [hcell k (by omega)]
    simp [show k < m by omega]
end Go.Proofs.Ytffcjnabhblbaaa
