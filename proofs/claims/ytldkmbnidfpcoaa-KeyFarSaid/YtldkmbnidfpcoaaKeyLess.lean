/- Which of two keys is ahead, in both programs. -/
import Derived.Test.YtldkmbnidfpcoaaKeyDist
import Derived.Lib.BytesEntry
namespace Go.Proofs.Ytldkmbnidfpcoaa
set_option maxRecDepth 20000
open Go.RowKit
set_option linter.unusedVariables false
theorem run_bytes_of_key {w : World} {s : Nat} {k : List Nat} (h : KAt w s k) (hl : k.length = 20) :
    (Extern.Bytes.bytesOf (.slice (some ⟨s, 0, none⟩) 20 20)).run Try.prog w = .ok ⟨(k.map fun x => UInt8.ofNat x).toArray⟩ w := by
  have hr := Lib.run_loadBytesX (P := Try.prog) w (k.map fun (x : Nat) => (x : Int)) ⟨s, 0, none⟩ .empty (fun j x hj => by
    have hjl : j < k.length := by have := (List.getElem?_eq_some_iff.1 hj).1; simpa using this
    have e : (⟨s, 0, none⟩ : Addr).add j = ⟨s, j, none⟩ := by unfold Addr.add; split <;> simp_all
    rw [e, h.cell (by omega), KY.get_in _ _ hjl]
    simp only [List.getElem?_map, List.getElem?_eq_getElem hjl, Option.map_some, Option.some.injEq] at hj
    rw [← hj])
  rw [List.length_map, hl] at hr
  unfold Extern.Bytes.bytesOf
  rw [hr]
  congr 1
  apply ByteArray.ext
  show (#[] : Array UInt8) ++ (Lib.bytesOf (k.map fun (x : Nat) => (x : Int))).toArray = _
  simp [Lib.bytesOf, Function.comp_def]
theorem run_compare_keys {w : World} {s r : Nat} {a b : List Nat} (ha : KAt w s a) (hb : KAt w r b) (hla : a.length = 20) (hlb : b.length = 20) :
    (Extern.BytealgCompare.compare #[.slice (some ⟨s, 0, none⟩) 20 20, .slice (some ⟨r, 0, none⟩) 20 20]).run Try.prog w = .ok (.int .i64 (Lib.compareBytes (a.map fun x => UInt8.ofNat x) (b.map fun x => UInt8.ofNat x))) w := by
  change Sem.run Try.prog (do pure (goInt (Extern.BytealgCompare.cmp (← Extern.Bytes.bytesOf (.slice (some ⟨s, 0, none⟩) 20 20)) (← Extern.Bytes.bytesOf (.slice (some ⟨r, 0, none⟩) 20 20))))) w = _
  simp only [Sem.run_bind, Sem.run_pure, run_bytes_of_key ha hla, run_bytes_of_key hb hlb, Result.andThen]
  rw [Lib.cmp_eq]
  rfl
theorem bcompare_any {w : World} {s r : Nat} {a b : List Nat} (ha : KAt w s a) (hb : KAt w r b) (hla : a.length = 20) (hlb : b.length = 20) :
    Calls Try.prog 19 #[.slice (some ⟨s, 0, none⟩) 20 20, .slice (some ⟨r, 0, none⟩) 20 20] w fun e w' => e = .returned (.int .i64 (Lib.compareBytes (a.map fun x => UInt8.ofNat x) (b.map fun x => UInt8.ofNat x))) ∧ w = w' := by
  have hr := run_compare_keys ha hb hla hlb
  go_enter Try.func19, Try.ntmps19
  go_wp2
  rw [run_callFunc_extern Try.func21 (by kernel_rfl) (by kernel_rfl) (by kernel_rfl) (e := Extern.BytealgCompare.compare) (by kernel_rfl), hr]
  simp only [Result.andThen]
  rw [Oper.upon_value]
  go_wp2
  go_ret
  exact ⟨rfl, rfl⟩
/-- What stands where a call on two keys has boxed both. -/
structure Boxed (w w1 : World) (s : Nat) (a b : List Nat) : Prop where
  ext : w.Extends w1
  at_ : w.heap.size = s
  a : KAt w1 s a
  b : KAt w1 (s + 1) b
theorem Boxed.made (w : World) {a b : List Nat} (ha : KY.Ok a) (hb : KY.Ok b) : Boxed w ((w.alloc (.cells (KC a) 24)).alloc (.cells (KC b) 24)) w.heap.size a b := by
  have h2 := KAt.new (w.alloc (.cells (KC a) 24)) hb.1
  rw [show (w.alloc (.cells (KC a) 24)).heap.size = w.heap.size + 1 by simp] at h2
  exact ⟨Gr.ext_of (((Below.refl _ _).alloc (Nat.le_refl _) _).alloc (by simp) _), rfl, (KAt.new w ha.1).alloc _, h2⟩
set_option maxHeartbeats 1000000 in
theorem kless_any {a b : List Nat} (ha : KY.Ok a) (hb : KY.Ok b) (w : World) :
    Calls Try.prog 11 #[KV a, KV b] w fun e w' => e = .returned (.bool (KY.lt a b)) ∧ w.Extends w' := by
  have HC := Lib.hid (KY.compare_lt a b (by rw [ha.1, hb.1]) ha.2 hb.2)
  generalize KY.lt a b = q at *
  go_enter Try.func11, Try.ntmps11
  go_wp2_with fail
  have HB := Lib.hid (Boxed.made w ha hb)
  generalize hw1 : World.alloc _ _ = w1 at *
  clear hw1
  obtain ⟨s, hs⟩ : ∃ s, s = w.heap.size := ⟨_, rfl⟩
  rw [← hs] at HB ⊢
  clear hs
  refine Gr.region 2 [(false,0),(false,1)] (by kernel_rfl) (by kernel_rfl) (fun d _ _ _ _ h => by cases d <;> exact h) ?_
  simp only [Gr.pick, List.getElem?_cons_zero, List.getElem?_cons_succ, List.drop_succ_cons, List.drop_zero]
  have HA1 := Lib.hid HB.out.a.drew
  have HA2 := Lib.hid HB.out.b.drew
  have HX := Lib.hid (Gr.ext_drew HB.out.ext)
  generalize w1.drew = w2 at *
  iterate 2
    refine Gr.walk_t ?_ (Or.inl ⟨by rfl, ?_⟩) ?_
    rotate_left
    · intro w' hw'
      clear hw'
      go_simp
      try with_reducible rfl
    simp only [Act.put, List.setIfInBounds_toArray, List.set_cons_zero, List.set_cons_succ]
  refine Gr.walk_nil ?_
  go_wp2_with fail
  refine (bcompare_any HA1.out HA2.out ha.1 hb.1).mono ?_
  rintro e w' ⟨rfl, rfl⟩
  generalize Lib.compareBytes _ _ = c at *
  go_wp2
  go_ret
  rw [← HC.out]
  exact ⟨rfl, HX.out⟩
set_option maxHeartbeats 1000000 in
theorem rkless_any {a b : List Nat} (ha : KY.Ok a) (hb : KY.Ok b) (w : World) :
    Calls Try.prog 12 #[KV a, KV b] w fun e w' => e = .returned (.bool (KY.lt a b)) ∧ w.Extends w' := by
  obtain ⟨q, hq⟩ : ∃ q, q = KY.lt a b := ⟨_, rfl⟩
  have HC := Lib.hid hq
  rw [← hq]
  clear hq
  go_enter Try.func12, Try.ntmps12
  go_wp2_with fail
  have HB := Lib.hid (Boxed.made w ha hb)
  generalize hw1 : World.alloc _ _ = w1 at *
  clear hw1
  obtain ⟨s, hs⟩ : ∃ s, s = w.heap.size := ⟨_, rfl⟩
  rw [← hs] at HB ⊢
  clear hs
  go_loopw [5] (fun i wr => ∃ k : Nat, k ≤ 20 ∧ i = .int .i64 k ∧ w1.Extends wr ∧ q = KY.lt (a.drop k) (b.drop k)) (fun i _ => (20 - intOf i).toNat)
  case atStart => exact ⟨0, by omega, rfl, Gr.ext_refl _, HC.out⟩
  case round =>
    obtain ⟨k, hk, rfl, hx, hl⟩ := hrel
    by_cases h1 : k < 20
    · have hc1 := (HB.out.a.ext hx).cell h1
      have hc2 := (HB.out.b.ext hx).cell h1
      have hka := ha.1
      have hkb := hb.1
      have hd := KY.lt_drop (a := a) (b := b) (k := k) (by omega) (by omega)
      have HD := Lib.hid (hl.trans hd)
      have HX := Lib.hid hx
      have HXW := Lib.hid (Gr.ext_trans HB.out.ext hx)
      clear hd hl hx hka hkb
      generalize a.getD k 0 = x at *
      generalize b.getD k 0 = y at *
      go_wp2_with fail
      go_region
      by_cases h2 : x = y
      · go_wp2
        go_roundw
        case rel => exact ⟨k + 1, by omega, by go_num, Gr.ext_drew HX.out, by rw [HD.out, if_neg (by omega), if_neg (by omega)]⟩
        case measure => simp [intOf]; omega
      · go_wp2
        go_region
        go_wp2
        go_ret
        refine ⟨?_, Gr.ext_drew (Gr.ext_drew HXW.out)⟩
        rw [HD.out]
        by_cases h3 : x < y
        · rw [if_pos h3]; simp [h3]
        · rw [if_neg h3, if_pos (by omega)]; simp [h3]
    · have hkk : k = 20 := by omega
      rw [hkk, List.drop_of_length_le (by rw [ha.1]; omega)] at hl
      have HL := Lib.hid (hl.trans (show KY.lt [] _ = false by simp [KY.lt]))
      have HXW := Lib.hid (Gr.ext_trans HB.out.ext hx)
      clear hl hx
      go_wp2
      go_ret
      rw [HL.out]
      exact ⟨rfl, HXW.out⟩
end Go.Proofs.Ytldkmbnidfpcoaa
