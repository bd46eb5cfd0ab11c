import Derived.Test.YtbcepdadohonnaaFldPowers
import Derived.OpenShut
namespace Go.Proofs.Ytbcepdadohonnaa
open Go.RowKit
/-- WHAT THE WALK IS TOLD OF A SLICE OF INTEGERS THAT CAME IN: nil; or a row of 'cap' cells, the numbers 'zs', the first 'len' its elements. -/
def IsRow (k : IntKind) (w : World) (a : Option Addr) (len cap : Nat) (zs : List Int) : Prop :=
  (a = none ∧ len = 0 ∧ cap = 0 ∧ zs = []) ∨
  ∃ x, a = some x ∧ len ≤ cap ∧ cap ≤ maxLen ∧ zs.length = cap ∧ (∀ i, i < zs.length → w.cell? (x.add i) = some (.int k (zs.getD i 0))) ∧ ∀ n ∈ zs, (Lit.int k n).wf = true
theorem IsRow.u8s {w : World} {a : Option Addr} {len cap : Nat} {zs : List Int} (h : IsRow .u8 w a len cap zs) : U8s w (.slice a len cap) ((zs.take len).map Int.toNat) ∧ ((zs.take len).map Int.toNat).length = len := by
  rcases h with ⟨rfl, rfl, rfl, rfl⟩ | ⟨x, rfl, hl, hm, hz, hc, hw⟩
  · exact ⟨.inl ⟨rfl, none, 0, rfl⟩, rfl⟩
  · by_cases h0 : len = 0
    · subst h0; exact ⟨.inl ⟨rfl, some x, cap, rfl⟩, rfl⟩
    · have hlen : ((zs.take len).map Int.toNat).length = len := by simp; omega
      refine ⟨.inr ?_, hlen⟩
      obtain ⟨b, off, rfl, hc'⟩ := ints_at hc (by omega)
      refine ⟨b, off, cap, by rw [hlen], by omega, ?_, fun k hk => ?_, fun y hy => ?_⟩
      · have := hc' 0 (by omega)
        exact World.block_lt_of_cell? w _ this
      · rw [hlen] at hk
        rw [hc' k (by omega)]
        have hmem : zs.getD k 0 ∈ zs := by
          rw [List.getD_eq_getElem?_getD, List.getElem?_eq_getElem (by omega)]; exact List.getElem_mem _
        have hwf := hw _ hmem
        have hb : 0 ≤ zs.getD k 0 ∧ zs.getD k 0 ≤ 255 := by simpa [Lit.wf, IntKind.min, IntKind.max, IntKind.bits, IntKind.signed] using hwf
        have : (((zs.take len).map Int.toNat).getD k 0 : Int) = zs.getD k 0 := by
          simp [List.getD_eq_getElem?_getD, hk] at hb ⊢
          rw [List.getElem?_eq_getElem (by omega)] at *
          simp at hb ⊢; omega
        rw [this]
      · obtain ⟨z, hz1, rfl⟩ := List.mem_map.1 hy
        have hwf := hw _ (List.mem_of_mem_take hz1)
        have hb : 0 ≤ z ∧ z ≤ 255 := by simpa [Lit.wf, IntKind.min, IntKind.max, IntKind.bits, IntKind.signed] using hwf
        omega

theorem FM.rprod_snoc (xs : List Nat) (h : ∀ x ∈ xs, x < 256) (k : Nat) (hk : k < xs.length) : FM.prod (xs.take (k + 1)) = FM.rtm (FM.prod (xs.take k)) (xs.getD k 0) := by
  rw [FM.prod_snoc xs k hk, FM.rtm_eq _ _ (FM.prod_lt _) (getD_lt xs h k)]
theorem many_long (v : Value) (b : Option Addr) (n cap : Nat) (w : World) (hv : v = .slice b n cap) (h : 100 < n) (hm : n ≤ maxLen) :
    Calls Try.prog 4 #[v] w fun e w' => e = .returned (.bool true) ∧ Below w.heap.size w w' := by
  subst hv
  unfold maxLen at hm
  go_enter Try.func4, Try.ntmps4
  go_wp2_with fail
  refine (alive_any _).mono ?_
  rintro e w1 ⟨rfl, hb1⟩
  go_wp2
  go_ret
  exact ⟨rfl, hb1⟩
set_option maxHeartbeats 1000000 in
theorem many_walk (v : Value) (xs : List Nat) (w : World) (hv : U8s w v xs) (hs : xs.length ≤ 100) :
    Calls Try.prog 4 #[v] w fun e w' => e = .returned (.bool true) ∧ Below w.heap.size w w' := by
  have HV := Lib.hid hv
  rcases hv with ⟨rfl, a, cap, rfl⟩ | ⟨b, off, cap, rfl, hm, hb, hx, hl⟩
  · go_enter Try.func4, Try.ntmps4
    go_wp2_with fail
    refine (alive_any _).mono ?_
    rintro e w1 ⟨rfl, hb1⟩
    go_wp2
    refine wp_loop_rounds 1 ?_; rw [rounds_succ]
    go_wp2_with fail
    refine (add_any _ [] _ (nil_u8s _ _ _)).mono ?_
    rintro e w' ⟨rfl, rfl⟩
    rw [show FM.sum [] = 0 from rfl]
    go_wp2_with fail
    refine (mul_any _ [] _ (nil_u8s _ _ _)).mono ?_
    rintro e w' ⟨rfl, rfl⟩
    rw [show FM.prod [] = 1 from rfl]
    go_wp2
    go_ret
    exact ⟨rfl, hb1⟩
  · unfold maxLen at hm
    generalize hn : xs.length = n at *
    have HN := Lib.hid hn; clear hn
    have HX := Lib.hid hx; clear hx
    have HL := Lib.hid hl; clear hl
    go_enter Try.func4, Try.ntmps4
    go_wp2_with fail
    refine (alive_any _).mono ?_
    rintro e w1 ⟨rfl, hb1⟩
    have HV1 : Hid (U8s w1 (.slice (some ⟨b, off, none⟩) n cap) xs) := HV.out.below hb1 rfl
    have HC : Hid (∀ k, k < n → w1.cell? ⟨b, off + k, none⟩ = some (.int .u8 (xs.getD k 0 : Nat))) := fun k hk => (hb1.cell (p := ⟨b, off + k, none⟩) hb).trans (HX.out k hk)
    clear HV HX
    go_wp2
    go_loop [4, 5, 6] (fun s p i => ∃ k : Nat, k ≤ n ∧ i = .int .i64 k ∧ s = .int .u8 (FM.sum (xs.take k) : Nat) ∧ p = .int .u8 (FM.prod (xs.take k) : Nat)) (fun _ _ i => (n - intOf i).toNat)
    case atStart => exact ⟨0, by omega, rfl, rfl, rfl⟩
    case round =>
      obtain ⟨k, hk, rfl, rfl, rfl⟩ := hrel
      by_cases h0 : k < n
      · have hc := HC.out k h0
        have hs1 := Lib.hid (FM.sum_snoc xs k (by rw [HN.out]; exact h0))
        have hs2 := Lib.hid (FM.rprod_snoc xs HL.out k (by rw [HN.out]; exact h0))
        have he := Lib.hid (u8_xor_nat (FM.sum (xs.take k)) (xs.getD k 0) (FM.sum_lt _ (take_lt xs HL.out k)) (getD_lt xs HL.out k))
        have hp := FM.prod_lt (xs.take k)
        have hy := getD_lt xs HL.out k
        go_wp2_with fail
        refine (rtimes_any _ _ hp (by simpa using hy) _).mono ?_
        rintro e w' ⟨rfl, rfl⟩
        go_wp2
        go_round
        case rel => exact ⟨k + 1, by omega, by go_num, by rw [hs1.out, ← he.out]; simp, by rw [hs2.out]; simp⟩
        case measure => simp [intOf]; omega
      · obtain rfl : k = n := by omega
        have ht : Hid (xs.take k = xs) := by show _ = _; rw [← HN.out, List.take_length]
        go_wp2_with fail
        refine (add_any _ xs _ HV1.out).mono ?_
        rintro e w' ⟨rfl, rfl⟩
        rw [ht.out]
        go_wp2_with fail
        refine (mul_any _ xs _ HV1.out).mono ?_
        rintro e w' ⟨rfl, rfl⟩
        go_wp2
        go_ret
        exact ⟨rfl, hb1⟩
theorem FieldMany_walk (a : Option Addr) (len cap : Nat) (zs : List Int) (w : World) (h : IsRow .u8 w a len cap zs) :
    Calls Try.prog 4 #[.slice a len cap] w fun e w' => e = .returned (.bool true) ∧ Below w.heap.size w w' := by
  have hu := h.u8s
  by_cases h0 : len ≤ 100
  · exact many_walk _ _ w hu.1 (by rw [hu.2]; exact h0)
  · refine many_long _ a len cap w rfl (by omega) ?_
    rcases h with ⟨_, rfl, _⟩ | ⟨x, _, hl, hm, _⟩
    · exact Nat.zero_le _
    · omega
theorem u8_nat {a : Int} (h : (Lit.int .u8 a).wf = true) : ∃ n : Nat, a = n ∧ n < 256 := by
  have := bounds_u8 h
  obtain ⟨n, rfl⟩ := Int.eq_ofNat_of_zero_le this.1
  exact ⟨n, rfl, by omega⟩
theorem FieldTells_walk (a b n : Int) (w : World) (h1 : (Lit.int .u8 a).wf = true) (h2 : (Lit.int .u8 b).wf = true) (_h3 : (Lit.int .i64 n).wf = true) :
    Calls Try.prog 3 #[.int .u8 a, .int .u8 b, .int .i64 n] w fun e w' => e = .returned (.bool true) ∧ Below w.heap.size w w' := by
  obtain ⟨a, rfl, ha⟩ := u8_nat h1
  obtain ⟨b, rfl, hb⟩ := u8_nat h2
  exact tells_walk a b n ha hb w
theorem FieldLaws_walk (a b c : Int) (w : World) (h1 : (Lit.int .u8 a).wf = true) (h2 : (Lit.int .u8 b).wf = true) (h3 : (Lit.int .u8 c).wf = true) :
    Calls Try.prog 5 #[.int .u8 a, .int .u8 b, .int .u8 c] w fun e w' => e = .returned (.bool true) ∧ Below w.heap.size w w' := by
  obtain ⟨a, rfl, ha⟩ := u8_nat h1
  obtain ⟨b, rfl, hb⟩ := u8_nat h2
  obtain ⟨c, rfl, hc⟩ := u8_nat h3
  exact laws_walk a b c ha hb hc w
theorem FieldPowers_walk (n m a : Int) (w : World) (_h1 : (Lit.int .i64 n).wf = true) (_h2 : (Lit.int .i64 m).wf = true) (h3 : (Lit.int .u8 a).wf = true) :
    Calls Try.prog 6 #[.int .i64 n, .int .i64 m, .int .u8 a] w fun e w' => e = .returned (.bool true) ∧ Below w.heap.size w w' := by
  obtain ⟨a, rfl, ha⟩ := u8_nat h3
  by_cases h : n < -100000 ∨ 100000 < n ∨ m < -100000 ∨ 100000 < m
  · exact powers_out n m a h w
  · exact powers_walk n m a ha (by omega) (by omega) (by omega) (by omega) w
end Go.Proofs.Ytbcepdadohonnaa
