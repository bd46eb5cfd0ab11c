/- What the statements of stage 17 hold alive: the document's example, and that two numbers have two keys. -/
import Derived.Test.YtldkmbnidfpcoaaKeyPre
import Derived.Test.YtldkmbnidfpcoaaKeyOf
namespace Go.Proofs.Ytldkmbnidfpcoaa
set_option maxRecDepth 20000
open Go.RowKit
set_option linter.unusedVariables false
theorem KV_zero : (Value.agg Z20) = KV KY.zero := by show Value.agg Z20 = Value.agg (KC KY.zero); rw [KC_zero]
theorem key_eq_run {a b : List Nat} (ha : a.length = 20) (hb : b.length = 20) {q : Bool} (hq : decide (a = b) = q) : ∀ w : World, (Op.equalIn 10000 24 (KV a) (KV b)).run Try.prog w = .ok q w := by
  intro w; rw [← hq]; exact run_key_eq ha hb w
theorem ints_one (w : World) (x : Int) (T : TypeId) : Ints (w.alloc (.cells #[.int .i64 x] T)) (.slice (some ⟨w.heap.size, 0, none⟩) 1 1) [x] := by
  refine .inr ⟨w.heap.size, 0, 1, rfl, by simp, by decide, by simp, fun k hk => ?_⟩
  obtain rfl : k = 0 := by simpa using hk
  rw [cell_of_row _ _ _ _ _ _ (heap_alloc_new w (.cells #[.int .i64 x] T))]
  rfl
set_option maxHeartbeats 1000000 in
theorem alive17_any (w : World) : Calls Try.prog 6 #[] w fun e w' => e = .returned (.bool true) ∧ w.Extends w' := by
  obtain ⟨k1, h1⟩ : ∃ k, k = KY.of [1] := ⟨_, rfl⟩
  obtain ⟨k2, h2⟩ : ∃ k, k = KY.of [2] := ⟨_, rfl⟩
  obtain ⟨k0, h0⟩ : ∃ k, k = KY.of [] := ⟨_, rfl⟩
  have hn1 : k1.length = 20 := by rw [h1]; exact (KY.of_ok _).1
  have hn2 : k2.length = 20 := by rw [h2]; exact (KY.of_ok _).1
  have hn0 : k0.length = 20 := by rw [h0]; exact (KY.of_ok _).1
  have he1 := key_eq_run hn1 hn2 (decide_eq_false (by rw [h1, h2]; exact KY.of_one_two))
  have he0 := key_eq_run hn0 (b := KY.zero) rfl (decide_eq_false (by rw [h0]; exact KY.of_none))
  have H1 := Lib.hid h1
  have H2 := Lib.hid h2
  have H0 := Lib.hid h0
  clear h1 h2 h0 hn1 hn2 hn0
  rw [← KV_zero] at he0
  go_enter Try.func6, Try.ntmps6
  go_wp2_with fail
  rw [KV_zero]
  refine (kpre_any KY.zero_ok KY.zero_ok _).mono ?_
  rintro e w1 ⟨rfl, hx1⟩
  rw [KY.pre_self _ rfl]
  have HX1 := Lib.hid hx1
  clear hx1
  go_wp2_with fail
  refine (kof_any _ (ints_one w1 1 3)).mono ?_
  rintro e w2 ⟨rfl, hx2⟩
  rw [← H1.out]
  have HX2 := Lib.hid (Gr.ext_trans HX1.out (Gr.ext_trans (Gr.ext_of ((Below.refl _ _).alloc (Nat.le_refl _) _)) hx2))
  clear hx2
  go_wp2_with fail
  refine (kof_any _ (ints_one w2 2 3)).mono ?_
  rintro e w3 ⟨rfl, hx3⟩
  rw [← H2.out]
  have HX3 := Lib.hid (Gr.ext_trans HX2.out (Gr.ext_trans (Gr.ext_of ((Below.refl _ _).alloc (Nat.le_refl _) _)) hx3))
  clear hx3
  go_wp2_with fail
  refine (kof_any _ (nil_ints w3 none 0)).mono ?_
  rintro e w4 ⟨rfl, hx4⟩
  rw [← H0.out]
  have HX4 := Lib.hid (Gr.ext_trans HX3.out hx4)
  clear hx4
  go_wp2
  go_ret
  exact ⟨rfl, HX4.out⟩
/-- What stands where a statement has boxed its three keys. -/
structure Boxed3 (w w1 : World) (s : Nat) (a b c : List Nat) : Prop where
  ext : w.Extends w1
  at_ : w.heap.size = s
  a : KAt w1 s a
  b : KAt w1 (s + 1) b
  c : KAt w1 (s + 1 + 1) c
theorem Boxed3.made (w : World) {a b c : List Nat} (ha : KY.Ok a) (hb : KY.Ok b) (hc : KY.Ok c) :
    Boxed3 w (((w.alloc (.cells (KC a) 24)).alloc (.cells (KC b) 24)).alloc (.cells (KC c) 24)) w.heap.size a b c := by
  have h := Boxed.made w ha hb
  have h3 := KAt.new ((w.alloc (.cells (KC a) 24)).alloc (.cells (KC b) 24)) hc.1
  have e : ∀ (w : World) (o : Obj), (w.alloc o).heap.size = w.heap.size + 1 := fun w o => by simp
  rw [e, e] at h3
  exact ⟨Gr.ext_trans h.ext (Gr.ext_of ((Below.refl _ _).alloc (Nat.le_refl _) _)), rfl, h.a.alloc _, h.b.alloc _, h3⟩
end Go.Proofs.Ytldkmbnidfpcoaa
