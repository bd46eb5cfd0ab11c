/- What both programs answer of any record; the fourteenth law's example. -/
import Derived.Test.YtdbdnfjgmdkneaaRecLaw
namespace Go.Proofs.Ytdbdnfjgmdkneaa
set_option maxRecDepth 20000
open Go.RowKit Go.Deep
set_option linter.unusedVariables false
/-- What both programs answer of a record. -/
structure Asked14 (r : Rc) (ok : Bool) (bs : List Nat) : Prop where
  lt : ∀ x ∈ bs, x < 256
  rp : ∀ w a c, Calls Try.prog 18 #[r.val (.slice a r.d.length c)] w fun e w' => e = .returned (.bool ok) ∧ w.Extends w'
  rr : ∀ w a c, Calls Try.prog 14 #[r.val (.slice a r.d.length c)] w fun e w' => e = .returned (.bool ok) ∧ w.Extends w'
  bp : ∀ w a c, U8s w (.slice a r.d.length c) r.d → Calls Try.prog 15 #[r.val (.slice a r.d.length c)] w (MadeBytes w bs)
  br : ∀ w a c, U8s w (.slice a r.d.length c) r.d → Calls Try.prog 19 #[r.val (.slice a r.d.length c)] w (MadeBytes w bs)
theorem asked14_rec (r : Rc) (hlt : ∀ x ∈ r.d, x < 256) : ∃ ok bs, bs.length ≤ 88 ∧ (ok = true ∧ KM.Right r ∧ bs = KM.bytes r ∨ ok = false ∧ ¬ KM.Right r ∧ bs = []) ∧ Asked14 r ok bs := by
  by_cases h : KM.Right r
  · exact ⟨true, KM.bytes r, rec_len h, .inl ⟨rfl, h, rfl⟩, ⟨KM.bytes_lt r hlt, fun w a c => right14_yes r a c w h, fun w a c => rright14_yes r a c w h, fun w a c hu => bytes14_yes r a c w h hu, fun w a c hu => rbytes14_yes r a c w h hu⟩⟩
  · exact ⟨false, [], Nat.zero_le _, .inr ⟨rfl, h, rfl⟩, ⟨(fun x hx => by cases hx), fun w a c => right14_no r a c w h, fun w a c => rright14_no r a c w h, fun w a c hu => bytes14_no r a c w h, fun w a c hu => rbytes14_no r a c w h⟩⟩
theorem ex_nil : ∀ v w, U8s w v [] → Calls Try.prog 16 #[v] w fun e w' => ∃ a c, e = .returned (.tuple #[.agg #[.int .i64 0, .int .i64 0, .int .i64 0, .int .i64 0, .int .i64 0, .int .i64 0, .int .i64 0, .bool false, .int .i64 0, .slice a 0 c], .int .i64 2]) ∧ w.Extends w' := by
  obtain ⟨r, er, h, h1, _⟩ := asked14_read [] (fun x hx => by cases hx) (by simp)
  obtain ⟨rfl, rfl⟩ := recIs_nil h
  intro v w hv
  refine (h1 v w hv).mono ?_
  rintro e w' ⟨a, c, rfl, _, hx⟩
  exact ⟨a, c, rfl, hx⟩
theorem ex_bytes : ∀ w, Calls Try.prog 15 #[.agg #[.int .i64 0, .int .i64 1, .int .i64 0, .int .i64 0, .int .i64 0, .int .i64 0, .int .i64 0, .bool true, .int .i64 0, .slice none 0 0]] w (MadeBytes w (KM.bytes stone)) := fun w => bytes14_yes stone none 0 w stone_right (nil_u8s _ _ _)
theorem ex_read : ∀ v w, U8s w v (KM.bytes stone) → Calls Try.prog 16 #[v] w fun e w' => ∃ a c, e = .returned (.tuple #[.agg #[.int .i64 0, .int .i64 1, .int .i64 0, .int .i64 0, .int .i64 0, .int .i64 0, .int .i64 0, .bool true, .int .i64 0, .slice a 0 c], .int .i64 0]) ∧ w.Extends w' := by
  obtain ⟨r, er, h, h1, _⟩ := asked14_read (KM.bytes stone) (KM.bytes_lt _ fun x hx => by cases hx) (by have := rec_len stone_right; omega)
  obtain ⟨rfl, rfl⟩ := recIs_bytes stone_right h
  intro v w hv
  refine (h1 v w hv).mono ?_
  rintro e w' ⟨a, c, rfl, _, hx⟩
  exact ⟨a, c, rfl, hx⟩
theorem ex_right : ∀ w a c, Calls Try.prog 18 #[.agg #[.int .i64 0, .int .i64 1, .int .i64 0, .int .i64 0, .int .i64 0, .int .i64 0, .int .i64 0, .bool true, .int .i64 0, .slice a 0 c]] w fun e w' => e = .returned (.bool true) ∧ w.Extends w' := fun w a c => right14_yes stone a c w stone_right
set_option maxHeartbeats 1000000 in
theorem alive14_any (w : World) : Calls Try.prog 13 #[] w fun e w' => e = .returned (.bool true) ∧ w.Extends w' := by
  have HN := Lib.hid ex_nil
  have HB := Lib.hid ex_bytes
  have HR := Lib.hid ex_read
  have HG := Lib.hid ex_right
  go_enter Try.func13, Try.ntmps13
  go_wp2_with fail
  refine (HN.out _ w (nil_u8s _ _ _)).mono ?_
  rintro e w1 ⟨a, c, rfl, hx⟩
  have HX1 := Lib.hid hx
  clear hx
  go_wp2_with fail
  generalize hw : World.alloc w1 _ = w2
  have hx : w1.Extends w2 := by subst hw; exact ext_alloc _ _
  have HX2 := Lib.hid (Gr.ext_trans HX1.out hx)
  clear hw hx
  refine (HB.out w2).mono ?_
  rintro e w3 ⟨x, rfl, hu, hx⟩
  have HX3 := Lib.hid (Gr.ext_trans HX2.out hx)
  have HU3 := Lib.hid hu
  obtain ⟨xa, xc, rfl, _, _⟩ := hu.slice
  clear hx hu
  go_wp2_with fail
  refine (HR.out _ w3 HU3.out).mono ?_
  rintro e w4 ⟨ya, yc, rfl, hx⟩
  have HX4 := Lib.hid (Gr.ext_trans HX3.out hx)
  clear hx
  go_wp2_with fail
  generalize hw : World.alloc w4 _ = w5
  have hx : w4.Extends w5 := by subst hw; exact ext_alloc _ _
  have hb : R10 w5 w4.heap.size [.int .i64 0, .int .i64 1, .int .i64 0, .int .i64 0, .int .i64 0, .int .i64 0, .int .i64 0, .bool true, .int .i64 0, .slice ya 0 yc] := by subst hw; exact heap_alloc_new _ _
  obtain ⟨b, hbn⟩ : ∃ b, b = w4.heap.size := ⟨_, rfl⟩
  rw [← hbn] at hb ⊢
  have HX5 := Lib.hid (Gr.ext_trans HX4.out hx)
  clear hw hbn hx
  have t0 := hb.cell 0 _ rfl
  have t1 := hb.cell 1 _ rfl
  have t2 := hb.cell 2 _ rfl
  have t3 := hb.cell 3 _ rfl
  have t4 := hb.cell 4 _ rfl
  have t5 := hb.cell 5 _ rfl
  have t6 := hb.cell 6 _ rfl
  have t7 := hb.cell 7 _ rfl
  have t8 := hb.cell 8 _ rfl
  have t9 := hb.cell 9 _ rfl
  have hlt := hb.lt
  clear hb
  refine (num14_any _ w5).mono ?_
  rintro e w' ⟨rfl, rfl⟩
  go_wp2_with fail
  refine (num14_any _ w5).mono ?_
  rintro e w' ⟨rfl, rfl⟩
  go_wp2_with fail
  refine (HG.out w5 ya yc).mono ?_
  rintro e w6 ⟨rfl, hx⟩
  have HX6 := Lib.hid (Gr.ext_trans HX5.out hx)
  clear hx t0 t1 t2 t3 t4 t5 t6 t7 t8 t9
  go_wp2
  go_ret
  exact ⟨by rfl, HX6.out⟩
end Go.Proofs.Ytdbdnfjgmdkneaa
