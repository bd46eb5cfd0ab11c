import Derived.Test.YtbcepdadohonnaaFldMany
namespace Go.Proofs.Ytbcepdadohonnaa
open Go.RowKit
theorem u8s_new (W : World) (s n c : Nat) (T : TypeId) (cs : Array Value) (xs : List Nat) (hs : s = W.heap.size) (hn : n = xs.length) (hc : cs = (xs.map fun (x : Nat) => Value.int .u8 (x : Int)).toArray) (hm : xs.length ≤ maxLen) (hl : ∀ x ∈ xs, x < 256) :
    U8s (W.alloc (.cells cs T)) (.slice (some ⟨s, 0, none⟩) n c) xs := by
  subst hs; subst hn; subst hc
  refine .inr ⟨W.heap.size, 0, c, rfl, hm, by simp, fun k hk => ?_, hl⟩
  have := cell_of_row (W.alloc (.cells (xs.map fun (x : Nat) => Value.int .u8 (x : Int)).toArray T)) W.heap.size k _ T (0, 0) (heap_alloc_new W _)
  rw [Nat.zero_add, this]
  simp [hk]
theorem nil_u8s (w : World) (a : Option Addr) (cap : Nat) : U8s w (.slice a 0 cap) [] := .inl ⟨rfl, a, cap, rfl⟩
set_option maxHeartbeats 400000 in
theorem alive_any (w : World) :
    Calls Try.prog 7 #[] w fun e w' => e = .returned (.bool true) ∧ Below w.heap.size w w' := by
  go_enter Try.func7, Try.ntmps7
  go_wp2_with fail
  refine (mul_any _ [2, 128] _ (u8s_new _ _ _ _ _ _ _ rfl rfl rfl (by decide) (by decide))).mono ?_
  rintro e w' ⟨rfl, rfl⟩
  rw [show FM.prod [2, 128] = 29 from by decide +kernel]
  go_wp2_with fail
  refine (mul_any _ [] _ (nil_u8s _ _ _)).mono ?_
  rintro e w' ⟨rfl, rfl⟩
  rw [show FM.prod [] = 1 from rfl]
  go_wp2_with fail
  refine (add_any _ [3, 5, 1] _ (u8s_new _ _ _ _ _ _ _ (by simp) rfl rfl (by decide) (by decide))).mono ?_
  rintro e w' ⟨rfl, rfl⟩
  rw [show FM.sum [3, 5, 1] = 7 from by decide +kernel]
  go_wp2
  go_ret
  exact ⟨rfl, ((Below.refl _ _).alloc (Nat.le_refl _) _).alloc (by simp) _⟩
set_option maxHeartbeats 1000000 in
theorem tells_walk (a b : Nat) (n : Int) (ha : a < 256) (hb : b < 256) (w : World) :
    Calls Try.prog 3 #[.int .u8 a, .int .u8 b, .int .i64 n] w fun e w' => e = .returned (.bool true) ∧ Below w.heap.size w w' := by
  have hl : ∀ x ∈ [a, b], x < 256 := by simp [ha, hb]
  have hx := Lib.hid (u8_xor_nat a b ha hb)
  have hs : Hid (FM.sum [a, b] = a ^^^ b) := by simp [FM.sum, Hid]
  have hp : Hid (FM.prod [a, b] = FM.tm a b) := by show FM.tm (FM.tm 1 a) b = _; rw [FM.tm_one_left a ha]
  have hr := Lib.hid (FM.rtm_eq a b ha hb)
  have HL := Lib.hid hl; clear hl
  go_enter Try.func3, Try.ntmps3
  go_wp2_with fail
  refine (alive_any _).mono ?_
  rintro e w1 ⟨rfl, hb1⟩
  go_wp2_with fail
  refine (add_any _ [a, b] _ (u8s_new _ _ _ _ _ _ _ rfl rfl rfl (by simp [maxLen]) HL.out)).mono ?_
  rintro e w' ⟨rfl, rfl⟩
  rw [hs.out, ← hx.out]
  go_wp2_with fail
  refine (mul_any _ [a, b] _ (u8s_new _ _ _ _ _ _ _ (by simp) rfl rfl (by simp [maxLen]) HL.out)).mono ?_
  rintro e w' ⟨rfl, rfl⟩
  rw [hp.out]
  go_wp2_with fail
  refine (rtimes_any _ _ ha hb _).mono ?_
  rintro e w' ⟨rfl, rfl⟩
  rw [hr.out]
  go_wp2_with fail
  refine (inv_any _ ha _).mono ?_
  rintro e w' ⟨rfl, rfl⟩
  go_wp2_with fail
  refine (rinv_any _ ha _).mono ?_
  rintro e w' ⟨rfl, rfl⟩
  go_wp2_with fail
  refine (power_any _ _).mono ?_
  rintro e w' ⟨rfl, rfl⟩
  go_wp2_with fail
  refine (rpower_any _ _).mono ?_
  rintro e w' ⟨rfl, rfl⟩
  go_wp2
  go_ret
  exact ⟨rfl, ((hb1.alloc hb1.size _).alloc (by have := hb1.size; simp; omega) _)⟩
theorem balloc {w w' : World} (h : Below w.heap.size w w') (o : Obj) : Below w.heap.size w (w'.alloc o) := h.alloc h.size o
theorem prod2 (a b : Nat) (ha : a < 256) : FM.prod [a, b] = FM.tm a b := by show FM.tm (FM.tm 1 a) b = _; rw [FM.tm_one_left a ha]
theorem prod3 (a b c : Nat) (ha : a < 256) : FM.prod [a, b, c] = FM.tm (FM.tm a b) c := by show FM.tm (FM.tm (FM.tm 1 a) b) c = _; rw [FM.tm_one_left a ha]
theorem sum2 (a b : Nat) : FM.sum [a, b] = a ^^^ b := by simp [FM.sum]
theorem l2 {a b : Nat} (ha : a < 256) (hb : b < 256) : ∀ x ∈ [a, b], x < 256 := by simp [ha, hb]
theorem l3 {a b c : Nat} (ha : a < 256) (hb : b < 256) (hc : c < 256) : ∀ x ∈ [a, b, c], x < 256 := by simp [ha, hb, hc]
set_option maxHeartbeats 1000000 in
theorem laws_walk (a b c : Nat) (ha : a < 256) (hb : b < 256) (hc : c < 256) (w : World) :
    Calls Try.prog 5 #[.int .u8 a, .int .u8 b, .int .u8 c] w fun e w' => e = .returned (.bool true) ∧ Below w.heap.size w w' := by
  have hcomm := Lib.hid (FM.tm_comm a b ha hb)
  have hass := Lib.hid (FM.tm_assoc a b c ha hb hc)
  have hdis := Lib.hid (FM.tm_xor_right a b c)
  have hab := FM.tm_lt a b ha
  have hac := FM.tm_lt a c ha
  have hbc := FM.xor_lt hb hc
  have hi := FM.inv_lt a ha
  have p2 := Lib.hid prod2
  have p3 := Lib.hid prod3
  have s2 := Lib.hid sum2
  go_enter Try.func5, Try.ntmps5
  go_wp2_with fail
  refine (alive_any _).mono ?_
  rintro e w1 ⟨rfl, hb1⟩
  have hz1 := hb1.size
  go_wp2_with fail
  refine (mul_any _ [a, b] _ (u8s_new _ _ _ _ _ _ _ rfl rfl rfl (by simp [maxLen]) (l2 ha hb))).mono ?_
  rintro e w' ⟨rfl, rfl⟩
  rw [p2.out a b ha]
  go_wp2_with fail
  refine (mul_any _ [b, a] _ (u8s_new _ _ _ _ _ _ _ (by simp) rfl rfl (by simp [maxLen]) (l2 hb ha))).mono ?_
  rintro e w' ⟨rfl, rfl⟩
  rw [p2.out b a hb, ← hcomm.out]
  go_wp2_with fail
  refine (mul_any _ [a, b] _ (u8s_new _ _ _ _ _ _ _ (by simp) rfl rfl (by simp [maxLen]) (l2 ha hb))).mono ?_
  rintro e w' ⟨rfl, rfl⟩
  rw [p2.out a b ha]
  go_wp2_with fail
  refine (mul_any _ [FM.tm a b, c] _ (u8s_new _ _ _ _ _ _ _ (by simp) rfl rfl (by simp [maxLen]) (l2 hab hc))).mono ?_
  rintro e w' ⟨rfl, rfl⟩
  rw [p2.out (FM.tm a b) c hab]
  go_wp2_with fail
  refine (mul_any _ [a, b, c] _ (u8s_new _ _ _ _ _ _ _ (by simp) rfl rfl (by simp [maxLen]) (l3 ha hb hc))).mono ?_
  rintro e w' ⟨rfl, rfl⟩
  rw [p3.out a b c ha]
  go_wp2_with fail
  refine (add_any _ [b, c] _ (u8s_new _ _ _ _ _ _ _ (by simp) rfl rfl (by simp [maxLen]) (l2 hb hc))).mono ?_
  rintro e w' ⟨rfl, rfl⟩
  rw [s2.out b c]
  go_wp2_with fail
  refine (mul_any _ [a, b ^^^ c] _ (u8s_new _ _ _ _ _ _ _ (by simp) rfl rfl (by simp [maxLen]) (l2 ha hbc))).mono ?_
  rintro e w' ⟨rfl, rfl⟩
  rw [p2.out a (b ^^^ c) ha, hdis.out]
  go_wp2_with fail
  refine (mul_any _ [a, b] _ (u8s_new _ _ _ _ _ _ _ (by simp) rfl rfl (by simp [maxLen]) (l2 ha hb))).mono ?_
  rintro e w' ⟨rfl, rfl⟩
  rw [p2.out a b ha]
  go_wp2_with fail
  refine (mul_any _ [a, c] _ (u8s_new _ _ _ _ _ _ _ (by simp) rfl rfl (by simp [maxLen]) (l2 ha hc))).mono ?_
  rintro e w' ⟨rfl, rfl⟩
  rw [p2.out a c ha]
  go_wp2_with fail
  refine (add_any _ [FM.tm a b, FM.tm a c] _ (u8s_new _ _ _ _ _ _ _ (by simp) rfl rfl (by simp [maxLen]) (l2 hab hac))).mono ?_
  rintro e w' ⟨rfl, rfl⟩
  rw [s2.out (FM.tm a b) (FM.tm a c)]
  have HB := Lib.hid (fun (x1 x2 x3 x4 x5 x6 x7 x8 x9 x10 : Obj) => balloc (balloc (balloc (balloc (balloc (balloc (balloc (balloc (balloc (balloc hb1 x1) x2) x3) x4) x5) x6) x7) x8) x9) x10)
  by_cases h0 : a = 0
  · have e1 : ((a : Int) == 0) = true := by simp [h0]
    have e2 : ((a : Int) != 0) = false := by simp [h0]
    have e3 : Hid (FM.inv a = 0) := by rw [h0]; exact FM.inv_zero
    clear h0
    go_wp2_with fail
    refine (inv_any _ ha _).mono ?_
    rintro e w' ⟨rfl, rfl⟩
    rw [e3.out]
    go_wp2
    go_ret
    exact ⟨rfl, HB.out _ _ _ _ _ _ _ _ _ _⟩
  · have e1 : ((a : Int) == 0) = false := by simp; omega
    have e2 : ((a : Int) != 0) = true := by simp; omega
    have e3 := Lib.hid (FM.tm_inv a ha h0)
    clear h0
    go_wp2_with fail
    refine (inv_any _ ha _).mono ?_
    rintro e w' ⟨rfl, rfl⟩
    go_wp2_with fail
    refine (mul_any _ [a, FM.inv a] _ (u8s_new _ _ _ _ _ _ _ (by simp) rfl rfl (by simp [maxLen]) (l2 ha hi))).mono ?_
    rintro e w' ⟨rfl, rfl⟩
    rw [p2.out a _ ha, e3.out]
    go_wp2
    go_ret
    exact ⟨rfl, balloc (HB.out _ _ _ _ _ _ _ _ _ _) _⟩

end Go.Proofs.Ytbcepdadohonnaa
