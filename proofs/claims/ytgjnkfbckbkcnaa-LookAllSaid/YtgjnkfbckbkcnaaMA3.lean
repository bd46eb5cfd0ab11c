/- In one text: KeyDist, KeyLess, Far, RndStirP, RndRandP, KeyOf, RndStir, RndRand, KeyRefOf, OwnI, GrowU. -/
import Derived.WalkLawsBesides
import Derived.Outline
import Derived.BigRegion
import Derived.Laws.BitsAllLaws
import Derived.Deep.DeepCutAuto
import Derived.Lib.BytesEntry
import Derived.Test.YtgjnkfbckbkcnaaRows
import Derived.WalkKit
import Derived.Lib.Hide
import Derived.IntWalk
import Derived.Laws.MathBits
import Derived.Laws.Bits64
import Derived.Handy
import Derived.Laws.Rows
import Derived.Laws.Tables
import Derived.ChangeKeysEq
import Derived.Deep.OwnRows
import Derived.Lib.SliceRun
import Derived.Test.YtgjnkfbckbkcnaaMA1
namespace Go.Proofs.Ytgjnkfbckbkcnaa
set_option maxRecDepth 20000
open Go.RowKit
set_option linter.unusedVariables false
/-- What stands where a call on two keys has boxed both, and laid two variables. -/
structure Four (w w1 : World) (s : Nat) (a b : List Nat) : Prop where
  below : Below w.heap.size w w1
  at_ : w.heap.size = s
  a : KAt w1 s a
  b : KAt w1 (s + 1) b
  r : KAt w1 (s + 1 + 1) KY.zero
  v : KAt w1 (s + 1 + 1 + 1) KY.zero
theorem Four.made (w : World) {a b : List Nat} (ha : KY.Ok a) (hb : KY.Ok b) :
    Four w ((((w.alloc (.cells (KC a) 23)).alloc (.cells (KC b) 23)).alloc (.cells Z20 23)).alloc (.cells Z20 23)) w.heap.size a b := by
  have h2 := KAt.new (w.alloc (.cells (KC a) 23)) hb.1
  have h3 := KAt.zeros ((w.alloc (.cells (KC a) 23)).alloc (.cells (KC b) 23))
  have h4 := KAt.zeros (((w.alloc (.cells (KC a) 23)).alloc (.cells (KC b) 23)).alloc (.cells Z20 23))
  have e : ∀ (w : World) (o : Obj), (w.alloc o).heap.size = w.heap.size + 1 := fun w o => by simp
  rw [e] at h2
  rw [e, e] at h3
  rw [e, e, e] at h4
  exact ⟨((((Below.refl _ _).alloc (Nat.le_refl _) _).alloc (by simp) _).alloc (by simp; omega) _).alloc (by simp; omega) _, rfl, (((KAt.new w ha.1).alloc _).alloc _).alloc _, (h2.alloc _).alloc _, h3.alloc _, h4⟩
set_option maxHeartbeats 1000000 in
theorem kdist_any {a b : List Nat} (ha : KY.Ok a) (hb : KY.Ok b) (w : World) :
    Calls Try.prog 29 #[KV a, KV b] w fun e w' => e = .returned (KV (KY.dist a b)) ∧ w.Extends w' := by
  obtain ⟨d, hd⟩ : ∃ d, d = KY.dist a b := ⟨_, rfl⟩
  have hdl : d.length = 20 := by rw [hd]; exact KY.dist_len ha.1 hb.1
  have HG := Lib.hid fun i => KY.dist_get ha.1 hb.1 i
  rw [← hd] at HG ⊢
  have HDL := Lib.hid hdl
  clear hd hdl
  go_enter Try.func29, Try.ntmps29
  go_wp2_with fail
  have HF := Lib.hid (Four.made w ha hb)
  generalize hw1 : World.alloc _ _ = w1 at *
  clear hw1
  obtain ⟨s, hs⟩ : ∃ s, s = w.heap.size := ⟨_, rfl⟩
  rw [← hs] at HF ⊢
  clear hs
  go_loopw [7] (fun i wr => ∃ k : Nat, k ≤ 20 ∧ i = .int .i64 k ∧ w1.grownBy wr (some (s + 1 + 1 + 1)) ∧ wr.rowIs (s + 1 + 1 + 1) 23 20 (KTo d k)) (fun i _ => (20 - intOf i).toNat)
  case atStart => exact ⟨0, by omega, rfl, grown_refl _ _, KTo.start _ HF.out.v⟩
  case round =>
    obtain ⟨k, hk, rfl, hg, hr⟩ := hrel
    by_cases h1 : k < 20
    · have hra := HF.out.a.of_block (hg.block s (by have := HF.out.a.lt; omega) (by simp; omega))
      have hrb := HF.out.b.of_block (hg.block (s + 1) (by have := HF.out.b.lt; omega) (by simp))
      have hc1 := hra.cell h1
      have hc2 := hrb.cell h1
      have hc3 := hr.cell h1
      have hf3 := hr.frozen k
      have hx := ha.lt k
      have hy := hb.lt k
      have HN := Lib.hid (KTo.next hr (i := k) rfl)
      have HGR := Lib.hid (grown_setCell hg k (.int .u8 (d.getD k 0 : Nat)))
      have HV := Lib.hid (u8_xor_nat _ _ hx hy)
      rw [HG.out k] at HN HGR
      clear hg hr hra hrb
      generalize a.getD k 0 = x at *
      generalize b.getD k 0 = y at *
      generalize KTo d k k = old at *
      go_wp2_with fail
      go_region
      rw [HV.out]
      have HR := Lib.hid HN.out.drew
      have HW := Lib.hid (grown_drew HGR.out)
      clear HN HGR
      go_wp2
      go_roundw
      case rel => exact ⟨k + 1, by omega, by go_num, HW.out, HR.out⟩
      case measure => simp [intOf]; omega
    · obtain rfl : k = 20 := by omega
      have hk1 := KAt.block (KTo.done hr) HDL.out
      have hro := HF.out.r.of_block (hg.block (s + 1 + 1) (by have := HF.out.v.lt; omega) (by simp))
      obtain ⟨old, hk4, hk5⟩ := key_block hro
      have hi := key_info HDL.out
      have hsame : old.size = (KC d).size := by rw [KC_size, HDL.out, hk5]
      have hb := HF.out.below.grown hg (by have := HF.out.below.size; omega) (fun q hq => by have := HF.out.at_; cases hq; omega)
      have HFIN := Lib.hid (key_left (r := s + 1 + 1) (k := d) (by have := HF.out.at_; omega) hb ⟨old, hk4, hk5⟩)
      clear hg hr hro hb
      go_wp2_with (first | (refine wpList_load_row rfl 23 (.tmp 5) rfl (s + 1 + 1 + 1) rfl 23 (KC d) (0, 0) _ hk1 Try.underlying23 rfl hi ?_) | (refine wpList_store_row rfl 23 (.tmp 4) (.tmp 20) rfl (s + 1 + 1) (KC d) rfl rfl 23 old hk4 hi hsame KC_one ?_))
      refine bodyPost_ret (v := KV d) (results_cell_row rfl _ _ (s + 1 + 1) 23 (KC d) (0, 0) _ rfl HFIN.out.2 Try.underlying23 rfl hi) rfl ⟨rfl, Gr.ext_of HFIN.out.1⟩
set_option maxHeartbeats 1000000 in
theorem rkdist_any {a b : List Nat} (ha : KY.Ok a) (hb : KY.Ok b) (w : World) :
    Calls Try.prog 34 #[KV a, KV b] w fun e w' => e = .returned (KV (KY.dist a b)) ∧ w.Extends w' := by
  obtain ⟨d, hd⟩ : ∃ d, d = KY.dist a b := ⟨_, rfl⟩
  have hdl : d.length = 20 := by rw [hd]; exact KY.dist_len ha.1 hb.1
  have HG := Lib.hid fun i => KY.dist_get ha.1 hb.1 i
  rw [← hd] at HG ⊢
  have HDL := Lib.hid hdl
  clear hd hdl
  go_enter Try.func34, Try.ntmps34
  go_wp2_with fail
  have HF := Lib.hid (Four.made w ha hb)
  generalize hw1 : World.alloc _ _ = w1 at *
  clear hw1
  obtain ⟨s, hs⟩ : ∃ s, s = w.heap.size := ⟨_, rfl⟩
  rw [← hs] at HF ⊢
  clear hs
  go_loopw [6] (fun i wr => ∃ k : Nat, k ≤ 20 ∧ i = .int .i64 k ∧ w1.grownBy wr (some (s + 1 + 1 + 1)) ∧ wr.rowIs (s + 1 + 1 + 1) 23 20 (KTo d k)) (fun i _ => (20 - intOf i).toNat)
  case atStart => exact ⟨0, by omega, rfl, grown_refl _ _, KTo.start _ HF.out.v⟩
  case round =>
    obtain ⟨k, hk, rfl, hg, hr⟩ := hrel
    by_cases h1 : k < 20
    · have hra := HF.out.a.of_block (hg.block s (by have := HF.out.a.lt; omega) (by simp; omega))
      have hrb := HF.out.b.of_block (hg.block (s + 1) (by have := HF.out.b.lt; omega) (by simp))
      have hc1 := hra.cell h1
      have hc2 := hrb.cell h1
      have hc3 := hr.cell h1
      have hf3 := hr.frozen k
      have hx := ha.lt k
      have hy := hb.lt k
      have HN := Lib.hid (KTo.next hr (i := k) rfl)
      have HGR := Lib.hid (grown_setCell hg k (.int .u8 (d.getD k 0 : Nat)))
      have HV := Lib.hid (u8_xor_nat _ _ hx hy)
      rw [HG.out k] at HN HGR
      clear hg hr hra hrb
      generalize a.getD k 0 = x at *
      generalize b.getD k 0 = y at *
      generalize KTo d k k = old at *
      go_wp2_with fail
      go_region
      rw [HV.out]
      have HR := Lib.hid HN.out.drew
      have HW := Lib.hid (grown_drew HGR.out)
      clear HN HGR
      go_wp2
      go_roundw
      case rel => exact ⟨k + 1, by omega, by go_num, HW.out, HR.out⟩
      case measure => simp [intOf]; omega
    · obtain rfl : k = 20 := by omega
      have hk1 := KAt.block (KTo.done hr) HDL.out
      have hro := HF.out.r.of_block (hg.block (s + 1 + 1) (by have := HF.out.v.lt; omega) (by simp))
      obtain ⟨old, hk4, hk5⟩ := key_block hro
      have hi := key_info HDL.out
      have hsame : old.size = (KC d).size := by rw [KC_size, HDL.out, hk5]
      have hb := HF.out.below.grown hg (by have := HF.out.below.size; omega) (fun q hq => by have := HF.out.at_; cases hq; omega)
      have HFIN := Lib.hid (key_left (r := s + 1 + 1) (k := d) (by have := HF.out.at_; omega) hb ⟨old, hk4, hk5⟩)
      clear hg hr hro hb
      go_wp2_with (first | (refine wpList_load_row rfl 23 (.tmp 5) rfl (s + 1 + 1 + 1) rfl 23 (KC d) (0, 0) _ hk1 Try.underlying23 rfl hi ?_) | (refine wpList_store_row rfl 23 (.tmp 4) (.tmp 20) rfl (s + 1 + 1) (KC d) rfl rfl 23 old hk4 hi hsame KC_one ?_))
      refine bodyPost_ret (v := KV d) (results_cell_row rfl _ _ (s + 1 + 1) 23 (KC d) (0, 0) _ rfl HFIN.out.2 Try.underlying23 rfl hi) rfl ⟨rfl, Gr.ext_of HFIN.out.1⟩
end Go.Proofs.Ytgjnkfbckbkcnaa
namespace Go.Proofs.Ytgjnkfbckbkcnaa
set_option maxRecDepth 20000
open Go.RowKit
set_option linter.unusedVariables false
theorem run_bytes_of_key {w : World} {s : Nat} {k : List Nat} (h : KAt w s k) (hl : k.length = 20) :
    (Extern.Bytes.bytesOf (.slice (some ⟨s, 0, none⟩) 20 20)).run Try.prog w = .ok ⟨(k.map fun x => UInt8.ofNat x).toArray⟩ w := by
  have hr := Lib.run_loadBytesX (P := Try.prog) w (k.map fun (x : Nat) => (x : Int)) ⟨s, 0, none⟩ .empty (fun j x hj => by
    have hjl : j < k.length := by have := (List.getElem?_eq_some_iff.1 hj).1; simpa using this
    have e : (⟨s, 0, none⟩ : Addr).add j = ⟨s, j, none⟩ := by unfold Addr.add; split <;> simp_all
    rw [e, h.cell (by omega), KY.get_in _ _ hjl]
    simp only [List.getElem?_map, List.getElem?_eq_getElem hjl, Option.map_some, Option.some.injEq] at hj
    rw [← hj])
  rw [List.length_map, hl] at hr
  unfold Extern.Bytes.bytesOf
  rw [hr]
  congr 1
  apply ByteArray.ext
  show (#[] : Array UInt8) ++ (Lib.bytesOf (k.map fun (x : Nat) => (x : Int))).toArray = _
  simp [Lib.bytesOf, Function.comp_def]
theorem run_compare_keys {w : World} {s r : Nat} {a b : List Nat} (ha : KAt w s a) (hb : KAt w r b) (hla : a.length = 20) (hlb : b.length = 20) :
    (Extern.BytealgCompare.compare #[.slice (some ⟨s, 0, none⟩) 20 20, .slice (some ⟨r, 0, none⟩) 20 20]).run Try.prog w = .ok (.int .i64 (Lib.compareBytes (a.map fun x => UInt8.ofNat x) (b.map fun x => UInt8.ofNat x))) w := by
  change Sem.run Try.prog (do pure (goInt (Extern.BytealgCompare.cmp (← Extern.Bytes.bytesOf (.slice (some ⟨s, 0, none⟩) 20 20)) (← Extern.Bytes.bytesOf (.slice (some ⟨r, 0, none⟩) 20 20))))) w = _
  simp only [Sem.run_bind, Sem.run_pure, run_bytes_of_key ha hla, run_bytes_of_key hb hlb, Result.andThen]
  rw [Lib.cmp_eq]
  rfl
theorem bcompare_any {w : World} {s r : Nat} {a b : List Nat} (ha : KAt w s a) (hb : KAt w r b) (hla : a.length = 20) (hlb : b.length = 20) :
    Calls Try.prog 63 #[.slice (some ⟨s, 0, none⟩) 20 20, .slice (some ⟨r, 0, none⟩) 20 20] w fun e w' => e = .returned (.int .i64 (Lib.compareBytes (a.map fun x => UInt8.ofNat x) (b.map fun x => UInt8.ofNat x))) ∧ w = w' := by
  have hr := run_compare_keys ha hb hla hlb
  go_enter Try.func63, Try.ntmps63
  go_wp2
  rw [run_callFunc_extern Try.func64 (by kernel_rfl) (by kernel_rfl) (by kernel_rfl) (e := Extern.BytealgCompare.compare) (by kernel_rfl), hr]
  simp only [Result.andThen]
  rw [Oper.upon_value]
  go_wp2
  go_ret
  exact ⟨rfl, rfl⟩
/-- What stands where a call on two keys has boxed both. -/
structure Boxed (w w1 : World) (s : Nat) (a b : List Nat) : Prop where
  ext : w.Extends w1
  at_ : w.heap.size = s
  a : KAt w1 s a
  b : KAt w1 (s + 1) b
theorem Boxed.made (w : World) {a b : List Nat} (ha : KY.Ok a) (hb : KY.Ok b) : Boxed w ((w.alloc (.cells (KC a) 23)).alloc (.cells (KC b) 23)) w.heap.size a b := by
  have h2 := KAt.new (w.alloc (.cells (KC a) 23)) hb.1
  rw [show (w.alloc (.cells (KC a) 23)).heap.size = w.heap.size + 1 by simp] at h2
  exact ⟨Gr.ext_of (((Below.refl _ _).alloc (Nat.le_refl _) _).alloc (by simp) _), rfl, (KAt.new w ha.1).alloc _, h2⟩
set_option maxHeartbeats 1000000 in
theorem kless_any {a b : List Nat} (ha : KY.Ok a) (hb : KY.Ok b) (w : World) :
    Calls Try.prog 62 #[KV a, KV b] w fun e w' => e = .returned (.bool (KY.lt a b)) ∧ w.Extends w' := by
  have HC := Lib.hid (KY.compare_lt a b (by rw [ha.1, hb.1]) ha.2 hb.2)
  generalize KY.lt a b = q at *
  go_enter Try.func62, Try.ntmps62
  go_wp2_with fail
  have HB := Lib.hid (Boxed.made w ha hb)
  generalize hw1 : World.alloc _ _ = w1 at *
  clear hw1
  obtain ⟨s, hs⟩ : ∃ s, s = w.heap.size := ⟨_, rfl⟩
  rw [← hs] at HB ⊢
  clear hs
  refine Gr.region 2 [(false,0),(false,1)] (by kernel_rfl) (by kernel_rfl) (fun d _ _ _ _ h => by cases d <;> exact h) ?_
  simp only [Gr.pick, List.getElem?_cons_zero, List.getElem?_cons_succ, List.drop_succ_cons, List.drop_zero]
  have HA1 := Lib.hid HB.out.a.drew
  have HA2 := Lib.hid HB.out.b.drew
  have HX := Lib.hid (Gr.ext_drew HB.out.ext)
  generalize w1.drew = w2 at *
  iterate 2
    refine Gr.walk_t ?_ (Or.inl ⟨by rfl, ?_⟩) ?_
    rotate_left
    · intro w' hw'
      clear hw'
      go_simp
      try with_reducible rfl
    simp only [Act.put, List.setIfInBounds_toArray, List.set_cons_zero, List.set_cons_succ]
  refine Gr.walk_nil ?_
  go_wp2_with fail
  refine (bcompare_any HA1.out HA2.out ha.1 hb.1).mono ?_
  rintro e w' ⟨rfl, rfl⟩
  generalize Lib.compareBytes _ _ = c at *
  go_wp2
  go_ret
  rw [← HC.out]
  exact ⟨rfl, HX.out⟩
set_option maxHeartbeats 1000000 in
theorem rkless_any {a b : List Nat} (ha : KY.Ok a) (hb : KY.Ok b) (w : World) :
    Calls Try.prog 33 #[KV a, KV b] w fun e w' => e = .returned (.bool (KY.lt a b)) ∧ w.Extends w' := by
  obtain ⟨q, hq⟩ : ∃ q, q = KY.lt a b := ⟨_, rfl⟩
  have HC := Lib.hid hq
  rw [← hq]
  clear hq
  go_enter Try.func33, Try.ntmps33
  go_wp2_with fail
  have HB := Lib.hid (Boxed.made w ha hb)
  generalize hw1 : World.alloc _ _ = w1 at *
  clear hw1
  obtain ⟨s, hs⟩ : ∃ s, s = w.heap.size := ⟨_, rfl⟩
  rw [← hs] at HB ⊢
  clear hs
  go_loopw [5] (fun i wr => ∃ k : Nat, k ≤ 20 ∧ i = .int .i64 k ∧ w1.Extends wr ∧ q = KY.lt (a.drop k) (b.drop k)) (fun i _ => (20 - intOf i).toNat)
  case atStart => exact ⟨0, by omega, rfl, Gr.ext_refl _, HC.out⟩
  case round =>
    obtain ⟨k, hk, rfl, hx, hl⟩ := hrel
    by_cases h1 : k < 20
    · have hc1 := (HB.out.a.ext hx).cell h1
      have hc2 := (HB.out.b.ext hx).cell h1
      have hka := ha.1
      have hkb := hb.1
      have hd := KY.lt_drop (a := a) (b := b) (k := k) (by omega) (by omega)
      have HD := Lib.hid (hl.trans hd)
      have HX := Lib.hid hx
      have HXW := Lib.hid (Gr.ext_trans HB.out.ext hx)
      clear hd hl hx hka hkb
      generalize a.getD k 0 = x at *
      generalize b.getD k 0 = y at *
      go_wp2_with fail
      go_region
      by_cases h2 : x = y
      · go_wp2
        go_roundw
        case rel => exact ⟨k + 1, by omega, by go_num, Gr.ext_drew HX.out, by rw [HD.out, if_neg (by omega), if_neg (by omega)]⟩
        case measure => simp [intOf]; omega
      · go_wp2
        go_region
        go_wp2
        go_ret
        refine ⟨?_, Gr.ext_drew (Gr.ext_drew HXW.out)⟩
        rw [HD.out]
        by_cases h3 : x < y
        · rw [if_pos h3]; simp [h3]
        · rw [if_neg h3, if_pos (by omega)]; simp [h3]
    · have hkk : k = 20 := by omega
      rw [hkk, List.drop_of_length_le (by rw [ha.1]; omega)] at hl
      have HL := Lib.hid (hl.trans (show KY.lt [] _ = false by simp [KY.lt]))
      have HXW := Lib.hid (Gr.ext_trans HB.out.ext hx)
      clear hl hx
      go_wp2
      go_ret
      rw [HL.out]
      exact ⟨rfl, HXW.out⟩
end Go.Proofs.Ytgjnkfbckbkcnaa
namespace Go.Proofs.Ytgjnkfbckbkcnaa
set_option maxRecDepth 20000
/-- How far a peer is. -/
def far (K : List Nat) (q : Int) : List Nat := KY.dist (KY.of [q]) K
theorem far_ok {K : List Nat} (hK : KY.Ok K) (q : Int) : KY.Ok (far K q) := KY.dist_ok (KY.of_ok _) hK
end Go.Proofs.Ytgjnkfbckbkcnaa
namespace Go.Proofs.Ytgjnkfbckbkcnaa
set_option maxRecDepth 20000
open Go.RowKit
theorem u32_mix (k x : Nat) (hx : x < 4294967296) : bits BinOp.xor IntKind.u32 (x : Int) ((x : Int) / ((2 ^ k : Nat) : Int)) = (RM.mixed k x : Nat) := by
  have h := u32_xor_nat x (x / 2 ^ k) hx (Nat.lt_of_le_of_lt (Nat.div_le_self _ _) hx)
  rw [← Int.natCast_ediv, h]; rfl
theorem u32_mul (x c : Nat) : (x : Int) * (c : Int) % 4294967296 = ((x * c % 4294967296 : Nat) : Int) := by
  rw [Int.natCast_emod, Int.natCast_mul]; rfl
theorem u32_stir (x : Nat) (hx : x < 4294967296) :
    (bits BinOp.xor IntKind.u32
      (bits BinOp.xor IntKind.u32 (bits BinOp.xor IntKind.u32 (x : Int) ((x : Int) / 65536) * 2146121005 % 4294967296) (bits BinOp.xor IntKind.u32 (x : Int) ((x : Int) / 65536) * 2146121005 % 4294967296 / 32768) * 2221713035 % 4294967296)
      (bits BinOp.xor IntKind.u32 (bits BinOp.xor IntKind.u32 (x : Int) ((x : Int) / 65536) * 2146121005 % 4294967296) (bits BinOp.xor IntKind.u32 (x : Int) ((x : Int) / 65536) * 2146121005 % 4294967296 / 32768) * 2221713035 % 4294967296 / 65536)) = (RM.stir x : Nat) := by
  have l : ∀ z : Nat, z % 4294967296 < 4294967296 := fun z => Nat.mod_lt z (by decide)
  have e1 := u32_mix 16 x hx
  have e2 := u32_mul (RM.mixed 16 x) 2146121005
  have e3 := u32_mix 15 _ (l (RM.mixed 16 x * 2146121005))
  have e4 := u32_mul (RM.mixed 15 (RM.mixed 16 x * 2146121005 % 4294967296)) 2221713035
  have e5 := u32_mix 16 _ (l (RM.mixed 15 (RM.mixed 16 x * 2146121005 % 4294967296) * 2221713035))
  have p16 : ((2 ^ 16 : Nat) : Int) = 65536 := by decide +kernel
  have p15 : ((2 ^ 15 : Nat) : Int) = 32768 := by decide +kernel
  have c1 : ((2146121005 : Nat) : Int) = 2146121005 := by decide +kernel
  have c2 : ((2221713035 : Nat) : Int) = 2221713035 := by decide +kernel
  rw [p16] at e1 e5; rw [p15] at e3; rw [c1] at e2; rw [c2] at e4
  rw [e1, e2, e3, e4, e5]; unfold RM.stir; rfl
theorem retu32 {a b : Int} (h : a = b) : Ending.returned (.int .u32 a) = .returned (.int .u32 b) := by rw [h]
theorem retn64 {a b : Int} (h : a = b) : Ending.returned (.int .i64 a) = .returned (.int .i64 b) := by rw [h]
theorem stir_any (x : Nat) (hx : x < 4294967296) (w : World) :
    Calls Try.prog 36 #[.int .u32 x] w fun e w' => e = .returned (.int .u32 (RM.stir x : Nat)) ∧ w = w' := by
  go_enter Try.func36, Try.ntmps36
  go_wp2
  go_ret
  exact ⟨retu32 (u32_stir x hx), rfl⟩
end Go.Proofs.Ytgjnkfbckbkcnaa
namespace Go.Proofs.Ytgjnkfbckbkcnaa
set_option maxRecDepth 20000
open Go.RowKit
theorem u32_drawn (s i : Nat) : ((s : Int) + (i : Int) * 2654435769) % 4294967296 = (((s + i * 2654435769) % 4294967296 : Nat) : Int) := by
  rw [Int.natCast_emod, Int.natCast_add, Int.natCast_mul]; rfl
theorem rand_val (y i : Nat) (m : Int) (h : 1 ≤ m) : (RM.stir ((RM.stir y + i * 2654435769) % 4294967296) : Int) % m = RM.rand y i m := by
  unfold RM.rand; rw [if_neg (by omega)]; rfl
theorem rand_any (y i : Nat) (m : Int) (hy : y < 4294967296) (hm0 : -9223372036854775808 ≤ m) (hm1 : m ≤ 9223372036854775807) (w : World) :
    Calls Try.prog 37 #[.int .u32 y, .int .u32 i, .int .i64 m] w fun e w' => e = .returned (.int .i64 (RM.rand y i m)) ∧ w = w' := by
  by_cases h : m < 1
  · have e : RM.rand y i m = 0 := if_pos h
    rw [e]
    go_enter Try.func37, Try.ntmps37
    go_wp2
    go_ret
    exact ⟨rfl, rfl⟩
  · have hl := RM.stir_lt ((RM.stir y + i * 2654435769) % 4294967296)
    have hr := rand_val y i m (by omega)
    go_enter Try.func37, Try.ntmps37
    go_wp2_with fail
    refine (stir_any _ hy _).mono ?_
    rintro e w' ⟨rfl, rfl⟩
    go_wp2_with fail
    rw [u32_drawn]
    refine (stir_any _ (Nat.mod_lt _ (by decide)) _).mono ?_
    rintro e w' ⟨rfl, rfl⟩
    go_wp2
    go_ret
    refine ⟨retn64 ?_, rfl⟩
    have hb := RM.rand_below y i m (by omega)
    rw [IntWalk.wrap64_in _ ⟨by omega, by omega⟩]
end Go.Proofs.Ytgjnkfbckbkcnaa
namespace Go.Proofs.Ytgjnkfbckbkcnaa
set_option maxRecDepth 20000
open Go.RowKit
set_option linter.unusedVariables false
theorem key_step (y : Nat) (x : Int) : ((y : Int) + x) % 4294967296 = ((y + (x % 4294967296).toNat) % 4294967296 : Nat) := by omega
theorem take_snoc (xs : List Int) (k : Nat) (hk : k < xs.length) : xs.take (k + 1) = xs.take k ++ [xs.getD k 0] := by
  rw [List.take_add_one]
  congr 1
  simp [List.getD, List.getElem?_eq_getElem hk]
theorem stirred_next (xs : List Int) (k : Nat) (hk : k < xs.length) : KY.stirred (xs.take (k + 1)) = RM.stir ((KY.stirred (xs.take k) + (xs.getD k 0 % 4294967296).toNat) % 4294967296) := by
  rw [take_snoc xs k hk, KY.stirred_snoc]; rfl
set_option maxHeartbeats 1000000 in
theorem kof_any {v : Value} {xs : List Int} (w : World) (h : Ints w v xs) :
    Calls Try.prog 30 #[v] w fun e w' => e = .returned (KV (KY.of xs)) ∧ w.Extends w' := by
  obtain ⟨a, cap, rfl, hle, hcap⟩ := h.slice
  have hL : xs.length ≤ 9223372036854775807 := Nat.le_trans h.len (by decide)
  obtain ⟨d, hd⟩ : ∃ d, d = KY.of xs := ⟨_, rfl⟩
  have HD := Lib.hid (show d = KY.keyOf (KY.stirred xs) from hd)
  have HDL := Lib.hid (show d.length = 20 by rw [hd]; exact KY.keyOf_len _)
  rw [← hd]
  clear hd
  go_enter Try.func30, Try.ntmps30
  go_wp2_with fail
  generalize hw1 : World.alloc _ _ = w1 at *
  have hx1 : w.Extends w1 := by subst hw1; exact Gr.ext_of ((Below.refl _ _).alloc (Nat.le_refl _) _)
  have hz : KAt w1 w.heap.size KY.zero := by subst hw1; exact KAt.zeros w
  have HI := Lib.hid (h.ext hx1)
  obtain ⟨s, hs⟩ : ∃ s, s = w.heap.size := ⟨_, rfl⟩
  rw [← hs] at hz ⊢
  have HX := Lib.hid hx1
  have HZ := Lib.hid hz
  have HS := Lib.hid hs
  clear hx1 hz hw1 hs
  go_loopw [10, 3] (fun i y wr => ∃ k : Nat, k ≤ xs.length ∧ i = .int .i64 k ∧ y = .int .u32 (KY.stirred (xs.take k) : Nat) ∧ w1 = wr) (fun i _ _ => (xs.length - intOf i).toNat)
  case atStart => exact ⟨0, by omega, rfl, rfl, rfl⟩
  case round =>
    obtain ⟨k, hk, rfl, rfl, rfl⟩ := hrel
    by_cases h1 : k < xs.length
    · have hc := (HI.out.cell).2
      obtain ⟨b, off, rfl, hb, hcl⟩ := hc (by omega)
      have hc1 := hcl k h1
      have hy := KY.stirred_lt (xs.take k)
      have HN := Lib.hid (stirred_next xs k h1)
      generalize KY.stirred (xs.take k) = y at *
      generalize xs.getD k 0 = x at *
      have HY := Lib.hid (key_step y x)
      clear hcl hc
      go_wp2_with fail
      rw [HY.out]
      refine (stir_any _ (Nat.mod_lt _ (by decide)) _).mono ?_
      rintro e w' ⟨rfl, rfl⟩
      rw [← HN.out]
      clear HN
      go_wp2
      go_roundw
      case rel => exact ⟨k + 1, by omega, by go_num, by first | rfl | trivial, by first | rfl | trivial⟩
      case measure => simp [intOf]; omega
    · have hkk : k = xs.length := by omega
      rw [hkk, List.take_length]
      rw [hkk] at h1
      clear hkk hk
      have HY := Lib.hid (KY.stirred_lt xs)
      generalize KY.stirred xs = y at *
      go_wp2_with fail
      have HZ2 := Lib.hid (KAt.zeros w1)
      have HR2 := Lib.hid (HZ.out.alloc (.cells Z20 23))
      have HX2 := Lib.hid (Gr.ext_trans HX.out (Gr.ext_of ((Below.refl w1.heap.size w1).alloc (Nat.le_refl _) (.cells Z20 23))))
      have hsv : s < w1.heap.size := HZ.out.lt
      generalize hw2 : World.alloc w1 _ = w2 at *
      obtain ⟨v, hv⟩ : ∃ v, v = w1.heap.size := ⟨_, rfl⟩
      rw [← hv] at HZ2 hsv ⊢
      clear hw2 hv HI h
      go_loopw [20] (fun i wr => ∃ k : Nat, k ≤ 20 ∧ i = .int .i64 k ∧ w2.grownBy wr (some v) ∧ wr.rowIs v 23 20 (KTo d k)) (fun i _ => (20 - intOf i).toNat)
      case atStart => exact ⟨0, by omega, rfl, grown_refl _ _, KTo.start _ HZ2.out⟩
      case round =>
        obtain ⟨k, hk, rfl, hg, hr⟩ := hrel
        by_cases h1 : k < 20
        · have hc3 := hr.cell h1
          have hf3 := hr.frozen k
          have HN := Lib.hid (KTo.next hr (i := k) rfl)
          have HGR := Lib.hid (grown_setCell hg k (.int .u8 (d.getD k 0 : Nat)))
          have HB := Lib.hid (show d.getD k 0 = KY.byteOf y k by rw [HD.out]; exact KY.keyOf_get y k h1)
          have hb : KY.byteOf y k < 256 := Nat.mod_lt _ (by decide)
          have HV := Lib.hid (KY.rand256 y k)
          rw [HB.out] at HN HGR
          clear hg hr HB
          generalize KY.byteOf y k = x at *
          generalize KTo d k k = old at *
          go_wp2_with fail
          refine (rand_any y k 256 HY.out (by decide) (by decide) _).mono ?_
          rintro e w' ⟨rfl, rfl⟩
          rw [HV.out]
          go_wp2
          go_roundw
          case rel => exact ⟨k + 1, by omega, by go_num, HGR.out, HN.out⟩
          case measure => simp [intOf]; omega
        · obtain rfl : k = 20 := by omega
          have hk1 := KAt.block (KTo.done hr) HDL.out
          have hro := HR2.out.of_block (hg.block s (by have := HZ2.out.lt; omega) (by simp; omega))
          obtain ⟨old, hk4, hk5⟩ := key_block hro
          have hi := key_info HDL.out
          have hsame : old.size = (KC d).size := by rw [KC_size, HDL.out, hk5]
          have hsw := HS.out
          have hb := (Gr.below_of HX2.out).grown hg HX2.out.size (fun q hq => by cases hq; omega)
          have HFIN := Lib.hid (key_left (r := s) (k := d) (by omega) hb ⟨old, hk4, hk5⟩)
          clear hg hr hro hb hsw
          go_wp2_with (first | (refine wpList_load_row rfl 23 (.tmp 6) rfl v rfl 23 (KC d) (0, 0) _ hk1 Try.underlying23 rfl hi ?_) | (refine wpList_store_row rfl 23 (.tmp 2) (.tmp 31) rfl s (KC d) rfl rfl 23 old hk4 hi hsame KC_one ?_))
          refine bodyPost_ret (v := KV d) (results_cell_row rfl _ _ s 23 (KC d) (0, 0) _ rfl HFIN.out.2 Try.underlying23 rfl hi) rfl ⟨rfl, Gr.ext_of HFIN.out.1⟩
end Go.Proofs.Ytgjnkfbckbkcnaa
namespace Go.Proofs.Ytgjnkfbckbkcnaa
set_option maxRecDepth 20000
open Go.RowKit
theorem refStir_any (x : Nat) (hx : x < 4294967296) (w : World) :
    Calls Try.prog 40 #[.int .u32 x] w fun e w' => e = .returned (.int .u32 (RM.stir x : Nat)) ∧ w = w' := by
  go_enter Try.func40, Try.ntmps40
  go_wp2
  go_ret
  exact ⟨retu32 (u32_stir x hx), rfl⟩
end Go.Proofs.Ytgjnkfbckbkcnaa
namespace Go.Proofs.Ytgjnkfbckbkcnaa
set_option maxRecDepth 20000
open Go.RowKit
theorem refRand_any (y i : Nat) (m : Int) (hy : y < 4294967296) (hm0 : -9223372036854775808 ≤ m) (hm1 : m ≤ 9223372036854775807) (w : World) :
    Calls Try.prog 41 #[.int .u32 y, .int .u32 i, .int .i64 m] w fun e w' => e = .returned (.int .i64 (RM.rand y i m)) ∧ w = w' := by
  by_cases h : m < 1
  · have e : RM.rand y i m = 0 := if_pos h
    rw [e]
    go_enter Try.func41, Try.ntmps41
    go_wp2
    go_ret
    exact ⟨rfl, rfl⟩
  · have hl := RM.stir_lt ((RM.stir y + i * 2654435769) % 4294967296)
    have hr := rand_val y i m (by omega)
    go_enter Try.func41, Try.ntmps41
    go_wp2_with fail
    refine (refStir_any _ hy _).mono ?_
    rintro e w' ⟨rfl, rfl⟩
    go_wp2_with fail
    rw [u32_drawn]
    refine (refStir_any _ (Nat.mod_lt _ (by decide)) _).mono ?_
    rintro e w' ⟨rfl, rfl⟩
    go_wp2
    go_ret
    refine ⟨retn64 ?_, rfl⟩
    have hb := RM.rand_below y i m (by omega)
    rw [IntWalk.wrap64_in _ ⟨by omega, by omega⟩]
end Go.Proofs.Ytgjnkfbckbkcnaa
namespace Go.Proofs.Ytgjnkfbckbkcnaa
set_option maxRecDepth 20000
open Go.RowKit
set_option linter.unusedVariables false
theorem key_low (x : Int) : bits .and .u64 (IntKind.u64.wrap x) 4294967295 = x % 4294967296 := by
  rw [IntKind.wrap_u64, and_low32 _ (by omega) (by omega)]; omega
theorem key_step2 (y : Nat) (x : Int) : ((y : Int) + x % 4294967296) % 4294967296 = ((y + (x % 4294967296).toNat) % 4294967296 : Nat) := by omega
set_option maxHeartbeats 1000000 in
theorem rkof_any {v : Value} {xs : List Int} (w : World) (h : Ints w v xs) :
    Calls Try.prog 35 #[v] w fun e w' => e = .returned (KV (KY.of xs)) ∧ w.Extends w' := by
  obtain ⟨a, cap, rfl, hle, hcap⟩ := h.slice
  have hL : xs.length ≤ 9223372036854775807 := Nat.le_trans h.len (by decide)
  obtain ⟨d, hd⟩ : ∃ d, d = KY.of xs := ⟨_, rfl⟩
  have HD := Lib.hid (show d = KY.keyOf (KY.stirred xs) from hd)
  have HDL := Lib.hid (show d.length = 20 by rw [hd]; exact KY.keyOf_len _)
  rw [← hd]
  clear hd
  go_enter Try.func35, Try.ntmps35
  go_wp2_with fail
  generalize hw1 : World.alloc _ _ = w1 at *
  have hx1 : w.Extends w1 := by subst hw1; exact Gr.ext_of ((Below.refl _ _).alloc (Nat.le_refl _) _)
  have hz : KAt w1 w.heap.size KY.zero := by subst hw1; exact KAt.zeros w
  have HI := Lib.hid (h.ext hx1)
  obtain ⟨s, hs⟩ : ∃ s, s = w.heap.size := ⟨_, rfl⟩
  rw [← hs] at hz ⊢
  have HX := Lib.hid hx1
  have HZ := Lib.hid hz
  have HS := Lib.hid hs
  clear hx1 hz hw1 hs
  go_loopw [4, 3] (fun i y wr => ∃ k : Nat, k ≤ xs.length ∧ i = .int .i64 k ∧ y = .int .u32 (KY.stirred (xs.take k) : Nat) ∧ w1 = wr) (fun i _ _ => (xs.length - intOf i).toNat)
  case atStart => exact ⟨0, by omega, rfl, rfl, rfl⟩
  case round =>
    obtain ⟨k, hk, rfl, rfl, rfl⟩ := hrel
    by_cases h1 : k < xs.length
    · have hc := (HI.out.cell).2
      obtain ⟨b, off, rfl, hb, hcl⟩ := hc (by omega)
      have hc1 := hcl k h1
      have hy := KY.stirred_lt (xs.take k)
      have HN := Lib.hid (stirred_next xs k h1)
      generalize KY.stirred (xs.take k) = y at *
      generalize xs.getD k 0 = x at *
      have HY := Lib.hid (key_step2 y x)
      have HA := Lib.hid (key_low x)
      clear hcl hc
      go_wp2_with fail
      rw [HA.out, HY.out]
      refine (refStir_any _ (Nat.mod_lt _ (by decide)) _).mono ?_
      rintro e w' ⟨rfl, rfl⟩
      rw [← HN.out]
      clear HN
      go_wp2
      go_roundw
      case rel => exact ⟨k + 1, by omega, by go_num, by first | rfl | trivial, by first | rfl | trivial⟩
      case measure => simp [intOf]; omega
    · have hkk : k = xs.length := by omega
      rw [hkk, List.take_length]
      rw [hkk] at h1
      clear hkk hk
      have HY := Lib.hid (KY.stirred_lt xs)
      generalize KY.stirred xs = y at *
      go_wp2_with fail
      have HZ2 := Lib.hid (KAt.zeros w1)
      have HR2 := Lib.hid (HZ.out.alloc (.cells Z20 23))
      have HX2 := Lib.hid (Gr.ext_trans HX.out (Gr.ext_of ((Below.refl w1.heap.size w1).alloc (Nat.le_refl _) (.cells Z20 23))))
      have hsv : s < w1.heap.size := HZ.out.lt
      generalize hw2 : World.alloc w1 _ = w2 at *
      obtain ⟨v, hv⟩ : ∃ v, v = w1.heap.size := ⟨_, rfl⟩
      rw [← hv] at HZ2 hsv ⊢
      clear hw2 hv HI h
      go_loopw [6] (fun i wr => ∃ k : Nat, k ≤ 20 ∧ i = .int .i64 k ∧ w2.grownBy wr (some v) ∧ wr.rowIs v 23 20 (KTo d k)) (fun i _ => (20 - intOf i).toNat)
      case atStart => exact ⟨0, by omega, rfl, grown_refl _ _, KTo.start _ HZ2.out⟩
      case round =>
        obtain ⟨k, hk, rfl, hg, hr⟩ := hrel
        by_cases h1 : k < 20
        · have hc3 := hr.cell h1
          have hf3 := hr.frozen k
          have HN := Lib.hid (KTo.next hr (i := k) rfl)
          have HGR := Lib.hid (grown_setCell hg k (.int .u8 (d.getD k 0 : Nat)))
          have HB := Lib.hid (show d.getD k 0 = KY.byteOf y k by rw [HD.out]; exact KY.keyOf_get y k h1)
          have hb : KY.byteOf y k < 256 := Nat.mod_lt _ (by decide)
          have HV := Lib.hid (KY.rand256 y k)
          rw [HB.out] at HN HGR
          clear hg hr HB
          generalize KY.byteOf y k = x at *
          generalize KTo d k k = old at *
          go_wp2_with fail
          refine (refRand_any y k 256 HY.out (by decide) (by decide) _).mono ?_
          rintro e w' ⟨rfl, rfl⟩
          rw [HV.out]
          go_wp2
          go_roundw
          case rel => exact ⟨k + 1, by omega, by go_num, HGR.out, HN.out⟩
          case measure => simp [intOf]; omega
        · obtain rfl : k = 20 := by omega
          have hk1 := KAt.block (KTo.done hr) HDL.out
          have hro := HR2.out.of_block (hg.block s (by have := HZ2.out.lt; omega) (by simp; omega))
          obtain ⟨old, hk4, hk5⟩ := key_block hro
          have hi := key_info HDL.out
          have hsame : old.size = (KC d).size := by rw [KC_size, HDL.out, hk5]
          have hsw := HS.out
          have hb := (Gr.below_of HX2.out).grown hg HX2.out.size (fun q hq => by cases hq; omega)
          have HFIN := Lib.hid (key_left (r := s) (k := d) (by omega) hb ⟨old, hk4, hk5⟩)
          clear hg hr hro hb hsw
          go_wp2_with (first | (refine wpList_load_row rfl 23 (.tmp 5) rfl v rfl 23 (KC d) (0, 0) _ hk1 Try.underlying23 rfl hi ?_) | (refine wpList_store_row rfl 23 (.tmp 2) (.tmp 34) rfl s (KC d) rfl rfl 23 old hk4 hi hsame KC_one ?_))
          refine bodyPost_ret (v := KV d) (results_cell_row rfl _ _ s 23 (KC d) (0, 0) _ rfl HFIN.out.2 Try.underlying23 rfl hi) rfl ⟨rfl, Gr.ext_of HFIN.out.1⟩
end Go.Proofs.Ytgjnkfbckbkcnaa
namespace Go.Proofs.Ytgjnkfbckbkcnaa
set_option maxRecDepth 20000
open Go.RowKit Go.Deep
set_option linter.unusedVariables false
theorem owniinfo : (Try.prog.info? 3).map (fun i => (i.zero, i.size, i.bytes)) = some (some (.int .i64 0), 1, 8) := by kernel_rfl
/-- v is a slice of the call's own, in memory from B on, of the ints xs. -/
def OwnI (w : World) (B : Nat) (v : Value) (xs : List Int) : Prop := w.ownsRow B 3 1 v xs.length (i64vs xs)
theorem OwnI.nil (w : World) (B : Nat) : OwnI w B (.slice none 0 0) [] := World.ownsRow_nil _ _ _ _
theorem OwnI.ints {w : World} {B : Nat} {v : Value} {xs : List Int} (h : OwnI w B v xs) : Ints w v xs := owns_ints h
theorem OwnI.ext {w w' : World} {B : Nat} {v : Value} {xs : List Int} (h : OwnI w B v xs) (hx : w.Extends w') : OwnI w' B v xs := owns_ext h hx
theorem OwnI.mono {w : World} {B B' : Nat} {v : Value} {xs : List Int} (h : OwnI w B v xs) (hB : B' ≤ B) : OwnI w B' v xs := owns_base h hB
theorem OwnI.lt {w : World} {B : Nat} {v : Value} {xs : List Int} (h : OwnI w B v xs) : ∀ g, v.ownBlock = some g → B ≤ g ∧ g < w.heap.size := fun g hg => World.ownsRow.lt h g hg
theorem OwnI.below {w w' : World} {B C : Nat} {v : Value} {xs : List Int} (h : OwnI w B v xs) (hv : ∀ g, v.ownBlock = some g → g < C) (hb : Below C w w') : OwnI w' B v xs := by
  refine ⟨h.1, ?_⟩
  rcases h.2 with hn | ⟨g, cap, cur, rfl, hbg, hg, rest⟩
  · exact .inl hn
  · exact .inr ⟨g, cap, cur, rfl, hbg, (hb.block g (hv g rfl)).trans hg, rest⟩
theorem OwnI.kinds {w : World} {B : Nat} {v : Value} {xs : List Int} (h : OwnI w B v xs) : (v = .slice none 0 0 ∧ xs = []) ∨ ∃ g cap, v = .slice (some ⟨g, 0, none⟩) xs.length cap ∧ xs.length ≤ cap := by
  rcases h.2 with ⟨rfl, h0⟩ | ⟨g, cap, cur, rfl, _, _, hc, _⟩
  · exact .inl ⟨rfl, List.eq_nil_of_length_eq_zero h0⟩
  · exact .inr ⟨g, cap, rfl, hc⟩
theorem OwnI.slice {w : World} {B : Nat} {v : Value} {xs : List Int} (h : OwnI w B v xs) : ∃ a cap, v = .slice a xs.length cap := by
  rcases h.kinds with ⟨rfl, rfl⟩ | ⟨g, cap, rfl, _⟩
  · exact ⟨_, _, rfl⟩
  · exact ⟨_, _, rfl⟩
theorem i64vs_one (xs : List Int) : ∀ u ∈ i64vs xs, u.oneCell' = true := fun u hu => by
  obtain ⟨x, _, rfl⟩ := List.mem_map.1 hu; rfl
theorem i64vs_app (xs ys : List Int) : i64vs (xs ++ ys) = i64vs xs ++ i64vs ys := by simp [i64vs]
theorem intSize (w : World) : (sizeOf (Try.prog.elem 24)).run Try.prog w = .ok 1 w := by
  have he : Try.prog.elem 24 = 3 := by kernel_rfl
  rw [he]
  obtain ⟨i, hi, _, h, _⟩ := info_parts owniinfo
  simp [sizeOf, typeInfo, hi, h]
theorem intSlice : Try.prog.underlying 24 = some (.slice (Try.prog.elem 24)) := by
  have he : Try.prog.elem 24 = 3 := by kernel_rfl
  rw [he]; exact Try.underlying24
theorem cuti_to (a : Option Addr) (len cap h : Nat) (hh : h ≤ cap) (w' : World) : (Instr.slice 24 (.slice a len cap) none (some (.int .i64 (h : Nat))) none).run Try.prog w' = .ok (.slice (if cap = 0 then a else a.map (·.add 0)) h cap) w' := by
  rw [run_slice_h (P := Try.prog) w' 24 _ len cap intSlice .i64 ((h : Nat) : Int) (by omega) (by omega), intSize]
  simp only [Result.andThen_ok, Int.toNat_natCast, sliced, Nat.sub_zero, Nat.zero_mul]
theorem ints_src {w : World} {g o n c : Nat} {l : List Int} (hn : l.length = n) (h : ∀ k, k < n → w.cell? ⟨g, o + k, none⟩ = some (.int .i64 (l.getD k 0))) : Src Try.prog 1 24 (.slice (some ⟨g, o, none⟩) n c) n (i64vs l) w := by
  refine Src.ofSlice w Try.underlying24 ⟨g, o, none⟩ n c (i64vs l) (by rw [i64vs_length, hn, Nat.mul_one]) (fun j u hu => ?_) (i64vs_one l)
  have hj : j < l.length := by have := (List.getElem?_eq_some_iff.1 hu).1; rwa [i64vs_length] at this
  rw [Addr.add_mid, h j (by omega)]
  simp only [i64vs, List.getElem?_map, List.getElem?_eq_getElem hj, Option.map_some, Option.some.injEq] at hu
  rw [← hu]
  simp [hj]
/-- One int alone. -/
theorem one_src {w : World} {y c : Nat} {x : Int} {T : TypeId} (h : w.heap[y]? = some (.cells #[.int .i64 x] T (0, 0))) : Src Try.prog 1 24 (.slice (some ⟨y, 0, none⟩) 1 c) 1 (i64vs [x]) w :=
  ints_src rfl fun k hk => by
    obtain rfl : k = 0 := by omega
    rw [cell_of_row _ _ _ _ _ _ h]; rfl
theorem Ints.cut {w : World} {a : Option Addr} {len cap m : Nat} {l : List Int} (h : Ints w (.slice a len cap) l) (hm : m ≤ len) : Ints w (.slice a m cap) (l.take m) := by
  obtain ⟨hn, hc⟩ := h.cell
  obtain ⟨a', cap', hv, h1, h2⟩ := h.slice
  cases hv
  by_cases h0 : m = 0
  · subst h0; exact .inl ⟨rfl, a, cap, rfl, h2⟩
  · obtain ⟨b, off, rfl, hb, hcell⟩ := hc (by omega)
    refine .inr ⟨b, off, cap, by rw [List.length_take]; congr 1; omega, by rw [List.length_take]; omega, h2, hb, fun k hk => ?_⟩
    rw [List.length_take] at hk
    rw [hcell k (by omega)]
    simp [show k < m by omega]
theorem ints_one (w : World) (x : Int) (T : TypeId) : Ints (w.alloc (.cells #[.int .i64 x] T)) (.slice (some ⟨w.heap.size, 0, none⟩) 1 1) [x] := by
  refine .inr ⟨w.heap.size, 0, 1, rfl, by simp, by decide, by simp, fun k hk => ?_⟩
  obtain rfl : k = 0 := by simpa using hk
  rw [cell_of_row _ _ _ _ _ _ (heap_alloc_new w (.cells #[.int .i64 x] T))]
  rfl
end Go.Proofs.Ytgjnkfbckbkcnaa
namespace Go.Proofs.Ytgjnkfbckbkcnaa
set_option maxRecDepth 20000
open Go.RowKit
namespace GrU
open Gr (AnyE check growB pick)
section
variable {P : Program} {ops : Array Oper} {Q : Exit → Act → World → Prop} {md : Region.Mode} {S : World → Prop}
variable {R : World → World → Prop}
structure Way (R : World → World → Prop) : Prop where
  refl : ∀ w, R w w
  trans : ∀ {a b c}, R a b → R b c → R a c
open Gr (checkTo lists)
/-- Where nothing that is taken reads memory. -/
theorem any_way : Way (fun _ _ => True) := ⟨fun _ => trivial, fun _ _ => trivial⟩
/-! Where more than one operation that is carried out may come up: the walk goes a step at a time. -/
/-- What is left: 'f' operations of the head, then the tail. -/
def Left (R : World → World → Prop) (P : Program) (l : List Oper) (Q : Exit → Act → World → Prop) (n f : Nat) (listed : Array Bool) (a : Act) (w : World) : Prop :=
  HeadInv .any l.toArray n listed → AnyE P .any l.toArray Q n (fun listed' a' w' => Region.seqB .any l.toArray (l.toArray.size - n) n listed' = true ∧ wpList P l.toArray Q (l.drop n) a' w') (R w) f listed a w
theorem Left.done {l : List Oper} {n : Nat} {listed : Array Bool} {a : Act} {w : World} (hB : Region.seqB .any l.toArray (l.toArray.size - n) n listed = true) (h : wpList P l.toArray Q (l.drop n) a w) : Left R P l Q n 0 listed a w := fun _ => ⟨hB, h⟩
theorem Left.take (hR : Way R) {l : List Oper} {n f i : Nat} {o : Oper} {listed : Array Bool} {a : Act} {w : World} (hi : l[i]? = some o)
    (hk : (Region.noSelect l.toArray && decide (n < l.toArray.size) && Region.sinkB .any l.toArray n && Region.chainB .any l.toArray n && decide (i < n) && (Region.ready .any l.toArray listed).contains i && Region.free .any l.toArray listed i) = true)
    (hQ : ∀ d v c a w, Q (.panic c) (Act.put a d v) w → Q (.panic c) a w) (v : Value) (hy : YieldsIf P l.toArray (R w) o v a)
    (h : Left R P l Q n f (listed.setIfInBounds i true) (a.put o.dst v) w) : Left R P l Q n (f + 1) listed a w := fun inv => by
  simp only [Bool.and_eq_true, decide_eq_true_eq] at hk
  obtain ⟨⟨⟨⟨⟨⟨hsel, hn⟩, hs⟩, hc⟩, hin⟩, hr⟩, hf⟩ := hk
  have hoa : l.toArray[i]? = some o := by simpa using hi
  have hrm : i ∈ Region.ready .any l.toArray listed := by simpa using hr
  exact AnyE.first hoa (Region.noSelect_spec hsel) hs hc hn hin (fun c a w => hQ _ v c a w) (fun listed' a' w' hL => seqB_ready hL.1) f listed a w inv (Region.free_spec hoa hf) hrm hy (hR.refl w) (h (inv.set hrm hin))
/-- One step of an operation that is carried out. -/
def Step (R : World → World → Prop) (P : Program) (l : List Oper) (Q : Exit → Act → World → Prop) (n f i : Nat) (listed : Array Bool) (a : Act) (w : World) : Prop :=
  ∀ o, l[i]? = some o → ∀ K : Act → World → Prop, Shut (∀ a' w', R w w' → Left R P l Q n f (listed.setIfInBounds i true) a' w' → K a' w') → if Region.wanted o (yielded l.toArray a.tmps) = true then o.wp P a w K Q else K (a.put o.dst undef) w
theorem Step.mk {l : List Oper} {n f i : Nat} {o : Oper} {listed : Array Bool} {a : Act} {w : World} (hi : l[i]? = some o)
    (h : ∀ K : Act → World → Prop, Shut (∀ a' w', R w w' → Left R P l Q n f (listed.setIfInBounds i true) a' w' → K a' w') → if Region.wanted o (yielded l.toArray a.tmps) = true then o.wp P a w K Q else K (a.put o.dst undef) w) : Step R P l Q n f i listed a w := fun o' ho' => by
  rw [hi] at ho'; cases ho'; exact h
theorem Left.some (hR : Way R) {l : List Oper} {n f : Nat} {rs : List Nat} {listed : Array Bool} {a : Act} {w : World} (hr : Region.ready .any l.toArray listed = rs) (hne : (!rs.isEmpty && rs.all (· < n) && rs.all (· < l.length)) = true)
    (h : ∀ i ∈ rs, Step R P l Q n f i listed a w) : Left R P l Q n (f + 1) listed a w := fun inv => by
  simp only [Bool.and_eq_true, List.all_eq_true, decide_eq_true_eq] at hne
  refine ⟨(by rw [hr]; intro h0; rw [h0] at hne; simp at hne), fun j hj => ?_⟩
  have hjr : j ∈ rs := hr ▸ hj
  refine ⟨hne.1.2 j hjr, ?_⟩
  have hjl := hne.2 j hjr
  have hoa : l.toArray[j]? = Option.some l[j] := by simp
  have h0 := h j hjr l[j] (List.getElem?_eq_getElem hjl) (fun a' w' => R w w' ∧ Left R P l Q n f (listed.setIfInBounds j true) a' w') (fun _ _ h1 h2 => ⟨h1, h2⟩)
  have hinv := inv.set hj (hne.1.2 j hjr)
  have fin : ∀ a' w', R w w' ∧ Left R P l Q n f (listed.setIfInBounds j true) a' w' → R w w' ∧ AnyE P .any l.toArray Q n _ (R w) f (listed.setIfInBounds j true) a' w' :=
    fun a' w' hk => ⟨hk.1, AnyE.weaken (fun u hu => hR.trans hk.1 hu) _ _ _ _ (hk.2 hinv)⟩
  unfold wpOp
  simp only [hoa]
  split
  · rename_i hw; rw [if_pos hw] at h0; exact .inl (Oper.wp_mono fin h0)
  · rename_i hw; rw [if_neg hw] at h0; exact fin _ _ h0
theorem Left.one (hR : Way R) {l : List Oper} {n f i : Nat} {listed : Array Bool} {a : Act} {w : World} (hr : Region.ready .any l.toArray listed = [i]) (hne : (decide (i < n) && decide (i < l.length)) = true)
    (h : Step R P l Q n f i listed a w) : Left R P l Q n (f + 1) listed a w :=
  Left.some hR hr (by simpa using hne) (fun j hj => by
    obtain rfl : j = i := by simpa using hj
    exact h)
theorem Left.two (hR : Way R) {l : List Oper} {n f i j : Nat} {listed : Array Bool} {a : Act} {w : World} (hr : Region.ready .any l.toArray listed = [i, j]) (hne : (decide (i < n) && decide (i < l.length) && decide (j < n) && decide (j < l.length)) = true)
    (h1 : Step R P l Q n f i listed a w) (h2 : Step R P l Q n f j listed a w) : Left R P l Q n (f + 1) listed a w :=
  Left.some hR hr (by simp only [Bool.and_eq_true, decide_eq_true_eq] at hne; simp; omega) (fun k hk => by
    simp only [List.mem_cons, List.not_mem_nil, or_false] at hk
    rcases hk with rfl | rfl
    · exact h1
    · exact h2)
def walkE (R : World → World → Prop) (P : Program) (ops : Array Oper) (Q : Exit → Act → World → Prop) (E : Act → World → Prop) : List (Bool × Oper) → Act → World → Prop
  | [], a, w => E a w
  | (true, o) :: rest, a, w => if Region.wanted o (yielded ops a.tmps) = true then o.wp P a w (fun a' w' => R w w' ∧ walkE R P ops Q E rest a' w') Q else walkE R P ops Q E rest (a.put o.dst undef) w
  | (false, o) :: rest, a, w => ∃ v, YieldsIf P ops (R w) o v a ∧ walkE R P ops Q E rest (a.put o.dst v) w
theorem walkE_nil {E : Act → World → Prop} {a : Act} {w : World} (h : E a w) : walkE R P ops Q E [] a w := h
theorem walkE_t {E : Act → World → Prop} {rest : List (Bool × Oper)} {o : Oper} {a : Act} {w : World} (v : Value) (hy : YieldsIf P ops (R w) o v a) (h : walkE R P ops Q E rest (a.put o.dst v) w) :
    walkE R P ops Q E ((false, o) :: rest) a w := ⟨v, hy, h⟩
theorem walkE_sound (hR : Way R) {l : List Oper} {n g : Nat} (hsel : Region.noSelect l.toArray = true) (hs : Region.sinkB .any l.toArray n = true) (hc : Region.chainB .any l.toArray n = true) (hn : n < l.toArray.size)
    (hQ : ∀ d v c a w, Q (.panic c) (Act.put a d v) w → Q (.panic c) a w) :
    ∀ (ord : List (Bool × Nat)) (listed : Array Bool) (a : Act) (w : World), checkTo .any l.toArray n ord listed = true →
      walkE R P l.toArray Q (Left R P l Q n g (lists ord listed)) (pick l ord) a w → Left R P l Q n (ord.length + g) listed a w
  | [], listed, a, w, _, h => by rw [List.length_nil, Nat.zero_add]; exact h
  | (c, i) :: rest, listed, a, w, hB, h => fun inv => by
    simp only [checkTo, Bool.and_eq_true, decide_eq_true_eq] at hB
    obtain ⟨⟨hin, hr⟩, hB'⟩ := hB
    have hil : i < l.length := by have : l.toArray.size = l.length := by simp
                                  omega
    have ho : l[i]? = Option.some l[i] := List.getElem?_eq_getElem hil
    have hoa : l.toArray[i]? = Option.some l[i] := by simp
    have hlen : ((c, i) :: rest).length + g = (rest.length + g) + 1 := by simp; omega
    rw [hlen]
    simp only [pick, ho] at h
    cases c with
    | true =>
      simp only [decide_eq_true_eq] at hr
      refine ⟨(by rw [hr]; simp), fun j hj => ?_⟩
      rw [hr] at hj
      obtain rfl : j = i := by simpa using hj
      refine ⟨hin, ?_⟩
      have hrm : j ∈ Region.ready .any l.toArray listed := by rw [hr]; simp
      unfold walkE at h
      unfold wpOp
      simp only [hoa]
      split
      · rename_i hw
        rw [if_pos hw] at h
        exact .inl (Oper.wp_mono (fun a' w' hk => ⟨hk.1, AnyE.weaken (fun u hu => hR.trans hk.1 hu) _ _ _ _ (walkE_sound hR hsel hs hc hn hQ rest _ a' w' hB' hk.2 (inv.set hrm hin))⟩) h)
      · rename_i hw
        rw [if_neg hw] at h
        exact ⟨hR.refl w, walkE_sound hR hsel hs hc hn hQ rest _ _ w hB' h (inv.set hrm hin)⟩
    | false =>
      simp only [Bool.and_eq_true] at hr
      unfold walkE at h
      obtain ⟨v, hy, hK⟩ := h
      have hrm : i ∈ Region.ready .any l.toArray listed := by simpa using hr.1
      exact AnyE.first hoa (Region.noSelect_spec hsel) hs hc hn hin (fun c a w => hQ _ v c a w) (fun listed' a' w' hL => seqB_ready hL.1) (rest.length + g) listed a w inv (Region.free_spec hoa hr.2) hrm hy (hR.refl w)
        (walkE_sound hR hsel hs hc hn hQ rest _ _ w hB' hK (inv.set hrm hin))
theorem regionE (hR : Way R) {id : Nat} {a : Act} {w : World} {l : List Oper} (n g : Nat) (ord : List (Bool × Nat)) (hm : P.follows .mixedOrders = true)
    (hB : (Region.noSelect l.toArray && decide (n < l.toArray.size) && Region.sinkB .any l.toArray n && Region.chainB .any l.toArray n && decide (ord.length + g = n) && checkTo .any l.toArray n ord (Array.replicate l.toArray.size false)) = true)
    (hQ : ∀ d v c a w, Q (.panic c) (Act.put a d v) w → Q (.panic c) a w)
    (h : walkE R P l.toArray Q (Left R P l Q n g (lists ord (Array.replicate l.toArray.size false))) (pick l ord) a w.drew) : (Code.region id l.toArray true).wp P Q a w := by
  simp only [Bool.and_eq_true, decide_eq_true_eq] at hB
  obtain ⟨⟨⟨⟨⟨hsel, hn⟩, hs⟩, hc⟩, hlen⟩, hck⟩ := hB
  have hdl : (l.drop n).length = l.toArray.size - n := by simp
  have inv0 : HeadInv .any l.toArray n (Array.replicate l.toArray.size false) :=
    ⟨by simp, fun j oj _ hl => (by rw [getD_replicate_false] at hl; cases hl), fun t _ ht => getD_in (by simpa using ht) (getD_replicate_false _ _)⟩
  have H := walkE_sound hR hsel hs hc hn hQ ord _ a w.drew hck h inv0
  refine wp_region_any hm ?_
  have := AnyE.any (Q := Q) (g := l.toArray.size - n) (fun listed a' w' hL => by
    have := wpAny_of_seq (md := .any) (Q' := Q) (l.drop n) n listed a' w' (fun j => by simp [List.getElem?_drop]) (by rw [hdl]; exact hL.1) hL.2
    rwa [hdl] at this) _ _ _ _ H
  rw [hlen, show n + (l.toArray.size - n) = l.toArray.size by omega] at this
  exact this
end
end GrU
end Go.Proofs.Ytgjnkfbckbkcnaa
