/- In one text: KeyLive, PlcLive, StoNum, SameRecs, PlcTells, PlcOneM, PlcOne. -/
import Derived.Laws.MathBits
import Derived.Handy
import Derived.Lib.Hide
import Derived.Test.YtnbhkbncllebmaaMA2
import Derived.Test.YtnbhkbncllebmaaMA3
import Derived.Test.YtnbhkbncllebmaaMA4
import Derived.Test.YtnbhkbncllebmaaMA5
import Derived.Test.YtnbhkbncllebmaaMA6
import Derived.Test.YtnbhkbncllebmaaMA8
namespace Go.Proofs.Ytnbhkbncllebmaa
set_option maxRecDepth 20000
open Go.RowKit
set_option linter.unusedVariables false
theorem KV_zero : (Value.agg Z20) = KV KY.zero := by show Value.agg Z20 = Value.agg (KC KY.zero); rw [KC_zero]
theorem key_eq_run {a b : List Nat} (ha : a.length = 20) (hb : b.length = 20) {q : Bool} (hq : decide (a = b) = q) : ∀ w : World, (Op.equalIn 10000 25 (KV a) (KV b)).run Try.prog w = .ok q w := by
  intro w; rw [← hq]; exact run_key_eq ha hb w
/-- What stands where a statement has boxed its three keys. -/
structure Boxed3 (w w1 : World) (s : Nat) (a b c : List Nat) : Prop where
  ext : w.Extends w1
  at_ : w.heap.size = s
  a : KAt w1 s a
  b : KAt w1 (s + 1) b
  c : KAt w1 (s + 1 + 1) c
theorem Boxed3.made (w : World) {a b c : List Nat} (ha : KY.Ok a) (hb : KY.Ok b) (hc : KY.Ok c) :
    Boxed3 w (((w.alloc (.cells (KC a) 25)).alloc (.cells (KC b) 25)).alloc (.cells (KC c) 25)) w.heap.size a b c := by
  have h := Boxed.made w ha hb
  have h3 := KAt.new ((w.alloc (.cells (KC a) 25)).alloc (.cells (KC b) 25)) hc.1
  have e : ∀ (w : World) (o : Obj), (w.alloc o).heap.size = w.heap.size + 1 := fun w o => by simp
  rw [e, e] at h3
  exact ⟨Gr.ext_trans h.ext (Gr.ext_of ((Below.refl _ _).alloc (Nat.le_refl _) _)), rfl, h.a.alloc _, h.b.alloc _, h3⟩
end Go.Proofs.Ytnbhkbncllebmaa
namespace Go.Proofs.Ytnbhkbncllebmaa
set_option maxRecDepth 20000
open Go.RowKit Go.Deep
set_option linter.unusedVariables false
theorem keys_unlike : KY.of [0, 1] ≠ KY.of [0, 1, 0, 0] := by decide +kernel
set_option maxHeartbeats 2000000 in
theorem alive23_any (w : World) : Calls Try.prog 6 #[] w fun e w' => e = .returned (.bool true) ∧ w.Extends w' := by
  have HP0 : Hid (∀ w, Calls Try.prog 8 #[KV KY.zero, .slice none 0 0] w fun e w' => e = .returned (.tuple #[.int .i64 0, .bool false]) ∧ w.Extends w') := fun w => (ppeer_any KY.zero _ [] w KY.zero_ok (nil_ints w none 0) (by simp)).mono fun e w' h => ⟨h.2, h.1⟩
  have HP1 : Hid (∀ w v, Ints w v [4] → Calls Try.prog 8 #[KV KY.zero, v] w fun e w' => e = .returned (.tuple #[.int .i64 4, .bool true]) ∧ w.Extends w') := fun w v h => (ppeer_any KY.zero _ [4] w KY.zero_ok h (by simp)).mono fun e w' h => ⟨h.2, h.1⟩
  have HH : Hid (∀ w, Calls Try.prog 14 #[.agg #[.int .i64 0, .int .i64 1]] w fun e w' => e = .returned (KV (KY.of [0, 1])) ∧ w.Extends w') := fun w => phome_any 0 1 w
  have HK : Hid (∀ w, Calls Try.prog 12 #[.agg #[.int .i64 0, .int .i64 1], .int .i64 0, .int .i64 0] w fun e w' => e = .returned (KV (KY.of [0, 1, 0, 0])) ∧ w.Extends w') := fun w => pskey_any 0 1 0 0 w
  have he := key_eq_run (KY.of_ok [0, 1]).1 (KY.of_ok [0, 1, 0, 0]).1 (decide_eq_false keys_unlike)
  rw [← KV_zero] at HP0 HP1
  generalize KY.of [0, 1, 0, 0] = k2 at *
  generalize KY.of [0, 1] = k1 at *
  go_enter Try.func6, Try.ntmps6
  go_wp2_with fail
  refine (HP0.out w).mono ?_
  rintro e w1 ⟨rfl, hx1⟩
  have HX1 := Lib.hid hx1
  clear hx1
  go_wp2_with fail
  have hi := ints_one w1 4 3
  generalize hw : World.alloc w1 _ = w2 at *
  have hx2 : w1.Extends w2 := by subst hw; exact ext_alloc _ _
  refine (HP1.out w2 _ hi).mono ?_
  rintro e w3 ⟨rfl, hx3⟩
  have HX3 := Lib.hid (Gr.ext_trans HX1.out (Gr.ext_trans hx2 hx3))
  clear hw hi hx2 hx3
  go_wp2_with fail
  refine (HH.out w3).mono ?_
  rintro e w4 ⟨rfl, hx4⟩
  have HX4 := Lib.hid (Gr.ext_trans HX3.out hx4)
  clear hx4
  go_wp2_with fail
  refine (HK.out w4).mono ?_
  rintro e w5 ⟨rfl, hx5⟩
  have HX5 := Lib.hid (Gr.ext_trans HX4.out hx5)
  clear hx5
  go_wp2
  go_ret
  exact ⟨rfl, HX5.out⟩
end Go.Proofs.Ytnbhkbncllebmaa
namespace Go.Proofs.Ytnbhkbncllebmaa
set_option maxRecDepth 20000
open Go.RowKit Go.Deep
set_option linter.unusedVariables false
/-- Are records few and short enough? -/
def FewL (l : List Rc) : Prop := (∀ r ∈ l, r.d.length ≤ 100) ∧ l.length ≤ 60
instance (l : List Rc) : Decidable (FewL l) := by unfold FewL; infer_instance
set_option maxHeartbeats 1000000 in
theorem few16_any (v : Value) (l : List Rc) (w : World) (h : Recs w v l) :
    Calls Try.prog 7 #[v] w fun e w' => e = .returned (.bool (decide (FewL l))) ∧ w.Extends w' := by
  obtain ⟨a, cap, rfl⟩ := h.slice
  have HLM := h.len
  have HAT : Hid (∀ k, k < l.length → ∃ b off, a = some ⟨b, off, none⟩ ∧ RCell w b (off + k * 10) (l.getD k Rc.zero)) := fun k hk => by
    obtain ⟨_, h2⟩ := h.at
    obtain ⟨b, off, e, _, h3⟩ := h2 (by omega)
    exact ⟨b, off, e, h3 k hk⟩
  have HNO : Hid (∀ k, k < l.length → ¬ (l.getD k Rc.zero).d.length ≤ 100 → decide (FewL l) = false) := fun k hk hn => decide_eq_false fun hf => hn (hf.1 _ (by rw [List.getD_eq_getElem?_getD, List.getElem?_eq_getElem hk]; exact List.getElem_mem hk))
  have HYES : Hid ((∀ k, k < l.length → (l.getD k Rc.zero).d.length ≤ 100) → decide (FewL l) = decide (l.length ≤ 60)) := fun hy => by
    have : FewL l ↔ l.length ≤ 60 := ⟨fun hf => hf.2, fun h6 => ⟨fun r hr => by
      obtain ⟨k, hk, rfl⟩ := List.mem_iff_getElem.1 hr
      have := hy k hk
      rwa [List.getD_eq_getElem?_getD, List.getElem?_eq_getElem hk] at this, h6⟩⟩
    exact decide_eq_decide.2 this
  unfold maxLen at HLM
  clear h
  generalize decide (FewL l) = B at *
  generalize l.length = n at *
  go_enter Try.func7, Try.ntmps7
  go_wp2_with fail
  go_loopw [3] (fun s3 wr => ∃ k : Nat, k ≤ n ∧ s3 = .int .i64 k ∧ Hid (∀ j, j < k → (l.getD j Rc.zero).d.length ≤ 100) ∧ Hid (w.Extends wr)) (fun s3 _ => n - (intOf s3).toNat)
  case atStart => exact ⟨0, by omega, by rfl, Lib.hid (fun j hj => absurd hj (Nat.not_lt_zero _)), Lib.hid (Gr.ext_refl _)⟩
  case round =>
    obtain ⟨k, hk, rfl, HN, HX⟩ := hrel
    by_cases h1 : k < n
    · obtain ⟨b, off, rfl, ua, uc, hr, hu⟩ := HAT.out k h1
      have hr := rangeAt_ext hr HX.out
      have HNK := Lib.hid (HNO.out k h1)
      have HN2 : Hid ((l.getD k Rc.zero).d.length ≤ 100 → ∀ j, j < k + 1 → (l.getD j Rc.zero).d.length ≤ 100) := fun h j hj => by
        by_cases e : j = k
        · subst e; exact h
        · exact HN.out j (by omega)
      clear hu
      generalize l.getD k Rc.zero = p at *
      obtain ⟨xp, xn, xb, xs, xm, xk, xe, xg, xu, xd⟩ := p
      obtain ⟨c0, c1, c2, c3, c4, c5, c6, c7, c8, c9⟩ := RCell.ten hr
      simp only at c0 c1 c2 c3 c4 c5 c6 c7 c8 c9 HNK HN2
      clear hr c0 c1 c2 c3 c4 c5 c6 c7 c8
      generalize xd.length = q at *
      by_cases hq : q ≤ 100
      · have HNN := Lib.hid (HN2.out hq)
        clear HN2 HNK
        go_wp2
        go_roundw
        case rel => exact ⟨k + 1, by omega, by go_num, HNN, HX⟩
        case measure => simp [intOf]; omega
      · have hB := HNK.out hq
        clear HN2 HNK
        subst hB
        go_wp2
        go_ret
        exact ⟨rfl, HX.out⟩
    · obtain rfl : k = n := by omega
      have HB := Lib.hid (HYES.out HN.out)
      by_cases h6 : k ≤ 60
      · have hB : B = true := by rw [HB.out]; exact decide_eq_true h6
        clear HB
        go_wp2
        go_ret
        exact ⟨by rw [hB]; show Ending.returned (.bool (decide ((k : Int) ≤ 60))) = _; rw [decide_eq_true (show (k : Int) ≤ 60 by omega)], HX.out⟩
      · have hB : B = false := by rw [HB.out]; exact decide_eq_false h6
        clear HB
        go_wp2
        go_ret
        exact ⟨by rw [hB]; show Ending.returned (.bool (decide ((k : Int) ≤ 60))) = _; rw [decide_eq_false (show ¬ (k : Int) ≤ 60 by omega)], HX.out⟩
end Go.Proofs.Ytnbhkbncllebmaa
namespace Go.Proofs.Ytnbhkbncllebmaa
set_option maxRecDepth 20000
open Go.RowKit Go.Deep
set_option linter.unusedVariables false
set_option maxHeartbeats 1000000 in
theorem same_recs (v v' : Value) (l : List Rc) (w : World) (hv : Recs w v l) (hv' : Recs w v' l) :
    Calls Try.prog 16 #[v, v'] w fun e w' => e = .returned (.bool true) ∧ w.Extends w' := by
  obtain ⟨a, c, rfl⟩ := hv.slice
  obtain ⟨a', c', rfl⟩ := hv'.slice
  have HV := Lib.hid hv.at.2
  have HV' := Lib.hid hv'.at.2
  have hm := hv.len
  unfold maxLen at hm
  clear hv hv'
  generalize l.length = n at *
  go_enter Try.func16, Try.ntmps16
  go_wp2_with fail
  go_loopw [5] (fun i wr => ∃ q : Nat, q ≤ n ∧ i = .int .i64 q ∧ Hid (w.Extends wr)) (fun i _ => (n - intOf i).toNat)
  case atStart => exact ⟨0, by omega, rfl, Lib.hid (Gr.ext_refl _)⟩
  case round =>
    obtain ⟨q, hq, rfl, HX⟩ := hrel
    by_cases h : q < n
    · obtain ⟨b1, o1, rfl, hb1, hc1⟩ := HV.out (by omega)
      obtain ⟨b2, o2, rfl, hb2, hc2⟩ := HV'.out (by omega)
      obtain ⟨ra, rc, hr, hu⟩ := hc1 q h
      obtain ⟨ra', rc', hr', hu'⟩ := hc2 q h
      have hrr := rangeAt_ext hr (Gr.ext_drew HX.out)
      have hrr' := rangeAt_ext hr' (Gr.ext_drew HX.out)
      have HU := Lib.hid (hu.ext (Gr.ext_drew HX.out))
      have HU' := Lib.hid (hu'.ext (Gr.ext_drew HX.out))
      clear hc1 hc2 hr hr' hu hu'
      generalize l.getD q Rc.zero = r at *
      have HSR : Hid (∀ w1, wr.drew.Extends w1 → Calls Try.prog 26 #[r.val (.slice ra r.d.length rc), r.val (.slice ra' r.d.length rc')] w1 fun e w' => e = .returned (.bool true) ∧ w1.Extends w') := fun w1 hx => same_rec r ra ra' rc rc' w1 (HU.out.ext hx) (HU'.out.ext hx)
      obtain ⟨p, n', b, s, m, k, e, g, u, d⟩ := r
      have HT := Lib.hid (RCell.ten hrr)
      have HT' := Lib.hid (RCell.ten hrr')
      clear hrr hrr' HU HU'
      have HSR2 : Hid (∀ w1, wr.drew.Extends w1 → Calls Try.prog 26 #[.agg #[.int .i64 p, .int .i64 n', .int .i64 b, .int .i64 s, .int .i64 m, .int .i64 k, .int .i64 e, .bool g, .int .i64 u, .slice ra d.length rc], .agg #[.int .i64 p, .int .i64 n', .int .i64 b, .int .i64 s, .int .i64 m, .int .i64 k, .int .i64 e, .bool g, .int .i64 u, .slice ra' d.length rc']] w1 fun e w' => e = .returned (.bool true) ∧ w1.Extends w') := HSR.out
      have HCF : Hid (∀ w', wr.drew.Extends w' → (w'.cell? ⟨b1, o1 + q * 10, none⟩ = some (.int .i64 p) ∧ w'.cell? ⟨b1, o1 + q * 10 + 1, none⟩ = some (.int .i64 n') ∧ w'.cell? ⟨b1, o1 + q * 10 + 2, none⟩ = some (.int .i64 b) ∧ w'.cell? ⟨b1, o1 + q * 10 + 3, none⟩ = some (.int .i64 s) ∧ w'.cell? ⟨b1, o1 + q * 10 + 4, none⟩ = some (.int .i64 m) ∧ w'.cell? ⟨b1, o1 + q * 10 + 5, none⟩ = some (.int .i64 k) ∧ w'.cell? ⟨b1, o1 + q * 10 + 6, none⟩ = some (.int .i64 e) ∧ w'.cell? ⟨b1, o1 + q * 10 + 7, none⟩ = some (.bool g) ∧ w'.cell? ⟨b1, o1 + q * 10 + 8, none⟩ = some (.int .i64 u) ∧ w'.cell? ⟨b1, o1 + q * 10 + 9, none⟩ = some (.slice ra d.length rc)) ∧
          (w'.cell? ⟨b2, o2 + q * 10, none⟩ = some (.int .i64 p) ∧ w'.cell? ⟨b2, o2 + q * 10 + 1, none⟩ = some (.int .i64 n') ∧ w'.cell? ⟨b2, o2 + q * 10 + 2, none⟩ = some (.int .i64 b) ∧ w'.cell? ⟨b2, o2 + q * 10 + 3, none⟩ = some (.int .i64 s) ∧ w'.cell? ⟨b2, o2 + q * 10 + 4, none⟩ = some (.int .i64 m) ∧ w'.cell? ⟨b2, o2 + q * 10 + 5, none⟩ = some (.int .i64 k) ∧ w'.cell? ⟨b2, o2 + q * 10 + 6, none⟩ = some (.int .i64 e) ∧ w'.cell? ⟨b2, o2 + q * 10 + 7, none⟩ = some (.bool g) ∧ w'.cell? ⟨b2, o2 + q * 10 + 8, none⟩ = some (.int .i64 u) ∧ w'.cell? ⟨b2, o2 + q * 10 + 9, none⟩ = some (.slice ra' d.length rc'))) := fun w' hw' => by
        obtain ⟨t0, t1, t2, t3, t4, t5, t6, t7, t8, t9⟩ := HT.out
        obtain ⟨s0, s1, s2, s3, s4, s5, s6, s7, s8, s9⟩ := HT'.out
        exact ⟨⟨hw'.cell_of t0, hw'.cell_of t1, hw'.cell_of t2, hw'.cell_of t3, hw'.cell_of t4, hw'.cell_of t5, hw'.cell_of t6, hw'.cell_of t7, hw'.cell_of t8, hw'.cell_of t9⟩, ⟨hw'.cell_of s0, hw'.cell_of s1, hw'.cell_of s2, hw'.cell_of s3, hw'.cell_of s4, hw'.cell_of s5, hw'.cell_of s6, hw'.cell_of s7, hw'.cell_of s8, hw'.cell_of s9⟩⟩
      clear HT HT' HSR
      generalize d.length = dl at *
      go_wp2_with fail
      have HXd := Lib.hid (Gr.ext_drew HX.out)
      clear HX
      refine Gr.region 9 [(false,0),(false,1),(false,2),(false,3),(false,4),(false,5),(false,6),(false,7),(true,8)] (by kernel_rfl) (by kernel_rfl) (fun d _ _ _ _ h => by cases d <;> exact h) ?_
      simp only [Gr.pick, List.getElem?_cons_zero, List.getElem?_cons_succ, List.drop_succ_cons, List.drop_zero]
      generalize wr.drew = w4 at *
      iterate 8
        refine Gr.walk_t ?_ (Or.inl ⟨by rfl, ?_⟩) ?_
        rotate_left
        · intro w' hw'
          obtain ⟨⟨t0, t1, t2, t3, t4, t5, t6, t7, t8, t9⟩, s0, s1, s2, s3, s4, s5, s6, s7, s8, s9⟩ := HCF.out w' hw'
          clear hw'
          go_simp
          try with_reducible rfl
        simp only [Act.put, List.setIfInBounds_toArray, List.set_cons_zero, List.set_cons_succ]
      refine Gr.walk_c (fun K hK => ?_)
      go_simp
      refine (HSR2.out w4 (Gr.ext_refl _)).mono ?_
      rintro e w5 ⟨rfl, hx⟩
      have HX5 := Lib.hid (Gr.ext_trans HXd.out hx)
      try go_simp
      refine hK.out _ _ (hx) ?_
      clear hK K
      clear hx HXd HCF HSR2
      refine Gr.walk_nil ?_
      go_wp2
      go_roundw
      case rel => exact ⟨q + 1, by omega, by go_num, HX5⟩
      case measure => simp [intOf]; omega
    · obtain rfl : q = n := by omega
      go_wp2
      go_ret
      exact ⟨rfl, HX.out⟩
end Go.Proofs.Ytnbhkbncllebmaa
namespace Go.Proofs.Ytnbhkbncllebmaa
set_option maxRecDepth 20000
open Go.RowKit Go.Deep
set_option linter.unusedVariables false
theorem key_neq_same {k : List Nat} (hk : k.length = 20) {x : Value} (hx : KV k = x) : ∀ w, (binOp .neq 25 x x).run Try.prog w = .ok (.bool false) w := by
  intro w
  subst hx
  have h : (Op.equal 25 (KV k) (KV k)).run Try.prog w = .ok true w := by
    have := run_key_eq hk hk w
    rw [decide_eq_true rfl] at this
    exact this
  simp only [binOp]
  simp [h]
theorem key_guard {a b : List Nat} {x y : Value} (hx : KV a = x) (hy : KV b = y) : ∀ (o1 o2 : Operand) (w : World), (eqGuard .neq 25 o1 o2 x y).run Try.prog w = .ok () w := by
  intro o1 o2 w
  subst hx; subst hy
  have h : Try.prog.eqGuardType Try.prog.depth 25 = false := by kernel_rfl
  simp [eqGuard, h]
theorem key_neq_yields {a : Act} {o : Oper} {x y : Operand} {T : TypeId} {v : Value} {w : World} (ho : o.op = .binOp .neq 25 x y T) (hx : a.eval x = v) (hy : a.eval y = v) (he : ∀ w, (binOp .neq 25 v v).run Try.prog w = .ok (.bool false) w)
    (hg : ∀ (o1 o2 : Operand) (w : World), (eqGuard .neq 25 o1 o2 v v).run Try.prog w = .ok () w) : (execOp a.eval o).run Try.prog w = .ok (.value (.bool false)) w := by
  unfold execOp
  simp only [ho, hx, hy]
  simp [hg, he]
theorem spread_length (l : List Int) (rs : List Rc) : (PC.spread l rs).length = l.length := by unfold PC.spread; simp
set_option maxHeartbeats 8000000 in
theorem PlaceTells_walk (p n b s : Int) (K : List Nat) (v : Value) (l : List Int) (rv : Value) (rs : List Rc) (w : World) (hid : (Lit.int .i64 p).wf = true ∧ (Lit.int .i64 n).wf = true) (hb : (Lit.int .i64 b).wf = true) (hs : (Lit.int .i64 s).wf = true) (hK : KY.Ok K) (hv : Ints w v l ∧ ∀ y ∈ l, -9223372036854775808 ≤ y ∧ y ≤ 9223372036854775807) (hr : Recs w rv rs) :
    Calls Try.prog 3 #[.agg #[.int .i64 p, .int .i64 n], .int .i64 b, .int .i64 s, KV K, v, rv] w fun e w' => e = .returned (.bool true) ∧ Below w.heap.size w w' := by
  have HVI := Lib.hid hv.1
  have HRI := Lib.hid hr
  obtain ⟨pa, pc, rfl, hpc, _⟩ := hv.1.slice
  obtain ⟨ra, rc, rfl⟩ := hr.slice
  have hlm := hv.1.len
  unfold maxLen at hlm
  have HFEW : Hid (∀ w', w.Extends w' → Calls Try.prog 7 #[.slice ra rs.length rc] w' fun e w2 => e = .returned (.bool (decide (FewL rs))) ∧ w'.Extends w2) := fun w' hx => few16_any _ rs w' (HRI.out.ext hx)
  have HPE : Hid (l.length ≤ 30 → ∀ w', w.Extends w' → Calls Try.prog 8 #[KV K, .slice pa l.length pc] w' (PeerOut (PC.peer K l) w')) := fun h w' hx => ppeer_any K _ l w' hK (HVI.out.ext hx) (by omega)
  have HRP : Hid (∀ w', w.Extends w' → Calls Try.prog 9 #[KV K, .slice pa l.length pc] w' (PeerOut (PC.peer K l) w')) := fun w' hx => rpeer_any K _ l w' hK (HVI.out.ext hx)
  have HSP : Hid (decide (FewL rs) = true → l.length ≤ 30 → ∀ w', w.Extends w' → Calls Try.prog 10 #[.slice ra rs.length rc, .slice pa l.length pc] w' (SpreadOut w' (PC.spread l rs))) := fun hf h w' hx => by
    have hf := of_decide_eq_true hf
    exact pspread_any _ rs _ l w' (HRI.out.ext hx) (HVI.out.ext hx) (by omega) (by have := hf.2; omega) (fun r hr => by have := hf.1 r hr; omega)
  have HRS : Hid (decide (FewL rs) = true → l.length ≤ 30 → ∀ w', w.Extends w' → Calls Try.prog 11 #[.slice ra rs.length rc, .slice pa l.length pc] w' (SpreadOut w' (PC.spread l rs))) := fun hf h w' hx => by
    have hf := of_decide_eq_true hf
    exact rspread_any _ rs _ l w' (HRI.out.ext hx) (HVI.out.ext hx) (by omega) (by have := hf.2; omega) (fun r hr => by have := hf.1 r hr; omega)
  have HH : Hid (∀ w, Calls Try.prog 14 #[.agg #[.int .i64 p, .int .i64 n]] w fun e w' => e = .returned (KV (KY.of [p, n])) ∧ w.Extends w') := fun w => phome_any p n w
  have HRH : Hid (∀ w, Calls Try.prog 15 #[.agg #[.int .i64 p, .int .i64 n]] w fun e w' => e = .returned (KV (KY.of [p, n])) ∧ w.Extends w') := fun w => rhome_any p n w
  have HKK : Hid (∀ w, Calls Try.prog 12 #[.agg #[.int .i64 p, .int .i64 n], .int .i64 b, .int .i64 s] w fun e w' => e = .returned (KV (KY.of [p, n, b, s])) ∧ w.Extends w') := fun w => pskey_any p n b s w
  have HRK : Hid (∀ w, Calls Try.prog 13 #[.agg #[.int .i64 p, .int .i64 n], .int .i64 b, .int .i64 s] w fun e w' => e = .returned (KV (KY.of [p, n, b, s])) ∧ w.Extends w') := fun w => rskey_any p n b s w
  have HE1 := Lib.hid (key_neq_same (KY.of_ok [p, n]).1 rfl)
  have HE2 := Lib.hid (key_neq_same (KY.of_ok [p, n, b, s]).1 rfl)
  have HG1 := Lib.hid (key_guard (a := KY.of [p, n]) (b := KY.of [p, n]) rfl rfl)
  have HG2 := Lib.hid (key_guard (a := KY.of [p, n, b, s]) (b := KY.of [p, n, b, s]) rfl rfl)
  have HSL : Hid ((PC.spread l rs).length = l.length) := spread_length l rs
  have HPO : Hid (∃ (po : Int) (pb : Bool), ∀ e (w w' : World), PeerOut (PC.peer K l) w e w' → e = .returned (.tuple #[.int .i64 po, .bool pb]) ∧ w.Extends w') := by
    cases PC.peer K l with
    | none => exact ⟨0, false, fun e w w' h => ⟨h.2, h.1⟩⟩
    | some q => exact ⟨q, true, fun e w w' h => ⟨h.2, h.1⟩⟩
  obtain ⟨po, pb, hpo⟩ := HPO.out
  have HPO := Lib.hid hpo
  have HK20 := Lib.hid hK.1
  clear hpo hK hv hr hb hs hid
  generalize decide (FewL rs) = few at *
  generalize PeerOut (PC.peer K l) = PO at *
  generalize PC.spread l rs = SP at *
  generalize KV (KY.of [p, n, b, s]) = k2 at *
  generalize KV (KY.of [p, n]) = k1 at *
  generalize rs.length = m at *
  generalize l.length = q at *
  obtain ⟨y, hy⟩ : ∃ y, y = w.heap.size := ⟨_, rfl⟩
  have HBOX : Hid (∀ w1, w1 = (w.alloc (.cells #[.int .i64 p, .int .i64 n] 23)).alloc (.cells (KC K) 25) → w.Extends w1 ∧ KAt w1 (y + 1) K ∧ w1.heap[y]? = some (.cells #[.int .i64 p, .int .i64 n] 23)) := fun w1 e => by
    subst e; subst hy
    refine ⟨Gr.ext_trans (ext_alloc _ _) (ext_alloc _ _), ?_, ?_⟩
    · have h := KAt.new (w.alloc (.cells #[.int .i64 p, .int .i64 n] 23)) HK20.out
      simpa using h
    · exact ((ext_alloc (w.alloc (.cells #[.int .i64 p, .int .i64 n] 23)) (.cells (KC K) 25)).block w.heap.size (by simp)).trans (heap_alloc_new _ _)
  obtain ⟨xk, hxk⟩ : ∃ x, KV K = x := ⟨_, rfl⟩
  have HXK := Lib.hid hxk
  rw [hxk] at HPE HRP ⊢
  clear hxk
  go_enter Try.func3, Try.ntmps3
  go_upto_region 1 with fail
  generalize hw1 : World.alloc _ _ = w1
  obtain ⟨hx1, hka, hid⟩ := HBOX.out w1 (by rw [← hw1, ← HXK.out])
  have HX1 := Lib.hid hx1
  have HKA := Lib.hid hka
  have HID := Lib.hid hid
  rw [← hy]
  clear hw1 hx1 hka hid HBOX hy
  go_wp2_with fail
  refine (alive23_any w1).mono ?_
  rintro e w2 ⟨rfl, hx⟩
  have HX2 := Lib.hid (Gr.ext_trans HX1.out hx)
  have HKA2 := Lib.hid (HKA.out.ext hx)
  have HID2 : Hid (w2.heap[y]? = some (.cells #[.int .i64 p, .int .i64 n] 23)) := (hx.block y (Array.getElem?_eq_some_iff.1 HID.out).1).trans HID.out
  clear hx HX1 HKA HID
  by_cases h30 : q ≤ 30
  case neg =>
    have hg : decide ((30 : Int) < (q : Int)) = true := by rw [decide_eq_true_eq]; omega
    go_wp2
    go_ret
    exact ⟨rfl, Gr.below_of HX2.out⟩
  have hg : decide ((30 : Int) < (q : Int)) = false := by rw [decide_eq_false_iff_not]; omega
  go_wp2_with fail
  refine (HFEW.out w2 HX2.out).mono ?_
  rintro e w3 ⟨rfl, hx⟩
  have HX3 := Lib.hid (Gr.ext_trans HX2.out hx)
  have HKA3 := Lib.hid (HKA2.out.ext hx)
  have HID3 : Hid (w3.heap[y]? = some (.cells #[.int .i64 p, .int .i64 n] 23)) := (hx.block y (Array.getElem?_eq_some_iff.1 HID2.out).1).trans HID2.out
  clear hx HX2 HKA2 HID2 HFEW hg
  cases few with
  | false =>
    go_wp2
    go_ret
    exact ⟨rfl, Gr.below_of HX3.out⟩
  | true =>
    have HPE2 := Lib.hid (HPE.out h30)
    have HSP2 := Lib.hid (HSP.out rfl h30)
    have HRS2 := Lib.hid (HRS.out rfl h30)
    clear HPE HSP HRS
    have hkb := HKA3.out.block HK20.out
    have hi7 := key_info HK20.out
    go_wp2_with (refine wpList_load_row rfl 25 (.tmp 9) rfl (y + 1) rfl 25 (KC K) (0, 0) _ hkb Try.underlying25 rfl hi7 ?_)
    rw [show Value.agg (KC K) = xk from HXK.out]
    refine (HPE2.out w3 HX3.out).mono ?_
    intro e w4 hpe
    obtain ⟨rfl, hx⟩ := HPO.out e w3 w4 hpe
    have HX4 := Lib.hid (Gr.ext_trans HX3.out hx)
    have HKA4 := Lib.hid (HKA3.out.ext hx)
    have HID4 : Hid (w4.heap[y]? = some (.cells #[.int .i64 p, .int .i64 n] 23)) := (hx.block y (Array.getElem?_eq_some_iff.1 HID3.out).1).trans HID3.out
    clear hx hpe HX3 HKA3 HID3 hkb HPE2
    have hkb := HKA4.out.block HK20.out
    go_wp2_with (refine wpList_load_row rfl 25 (.tmp 9) rfl (y + 1) rfl 25 (KC K) (0, 0) _ hkb Try.underlying25 rfl hi7 ?_)
    rw [show Value.agg (KC K) = xk from HXK.out]
    refine (HRP.out w4 HX4.out).mono ?_
    intro e w5 hpe
    obtain ⟨rfl, hx⟩ := HPO.out e w4 w5 hpe
    have HX5 := Lib.hid (Gr.ext_trans HX4.out hx)
    have HID5 : Hid (w5.heap[y]? = some (.cells #[.int .i64 p, .int .i64 n] 23)) := (hx.block y (Array.getElem?_eq_some_iff.1 HID4.out).1).trans HID4.out
    clear hx hpe HX4 HKA4 HID4 hkb hi7 HRP HPO HXK HK20
    go_wp2_with fail
    refine (HSP2.out w5 HX5.out).mono ?_
    rintro e w6 ⟨u, rfl, hx, hu⟩
    have HX6 := Lib.hid (Gr.ext_trans HX5.out hx)
    have HID6 : Hid (w6.heap[y]? = some (.cells #[.int .i64 p, .int .i64 n] 23)) := (hx.block y (Array.getElem?_eq_some_iff.1 HID5.out).1).trans HID5.out
    obtain ⟨u1, c1, rfl⟩ := hu.slice
    rw [HSL.out] at hu ⊢
    have HU6 := Lib.hid hu
    clear hx hu HX5 HID5 HSP2
    go_wp2_with fail
    refine (HRS2.out w6 HX6.out).mono ?_
    rintro e w7 ⟨u, rfl, hx, hu⟩
    have HX7 := Lib.hid (Gr.ext_trans HX6.out hx)
    have HID7 : Hid (w7.heap[y]? = some (.cells #[.int .i64 p, .int .i64 n] 23)) := (hx.block y (Array.getElem?_eq_some_iff.1 HID6.out).1).trans HID6.out
    obtain ⟨u2, c2, rfl⟩ := hu.slice
    rw [HSL.out] at hu ⊢
    have HU7 := Lib.hid (HU6.out.ext hx)
    have HV7 := Lib.hid hu
    clear hx hu HX6 HID6 HU6 HRS2
    have hq1 : ((q : Int) == (q : Int)) = true := by simp
    go_wp2_with fail
    refine Gr.region 32 [(false,0),(false,1),(false,2),(false,4),(false,5),(false,6),(true,3),(true,7),(false,8),(false,9),(false,10),(false,12),(true,11),(true,13),(false,14),(false,15),(false,16),(false,17),(false,18),(false,19),(false,20),(false,21),(false,22),(false,23),(false,24),(false,25),(false,26),(false,27),(false,28),(false,29),(false,30),(false,31)] (by kernel_rfl) (by kernel_rfl) (fun d _ _ _ _ h => by cases d <;> exact h) ?_
    simp only [Gr.pick, List.getElem?_cons_zero, List.getElem?_cons_succ, List.drop_succ_cons, List.drop_zero]
    have HXd : Hid (w.Extends w7.drew) := Gr.ext_drew HX7.out
    have HIDd : Hid (∀ w', w7.drew.Extends w' → w'.cell? ⟨y, 0, none⟩ = some (.int .i64 p) ∧ w'.cell? ⟨y, 1, none⟩ = some (.int .i64 n)) := fun w' hx => by
      have h : w'.heap[y]? = some (.cells #[.int .i64 p, .int .i64 n] 23) := (hx.block y (Array.getElem?_eq_some_iff.1 HID7.out).1).trans HID7.out
      exact ⟨by rw [cell_of_row _ _ _ _ _ _ h]; rfl, by rw [cell_of_row _ _ _ _ _ _ h]; rfl⟩
    have HUd : Hid (RRws w7.drew (.slice u1 q c1) SP) := HU7.out.ext (Gr.ext_drew (Gr.ext_refl _))
    have HVd : Hid (RRws w7.drew (.slice u2 q c2) SP) := HV7.out.ext (Gr.ext_drew (Gr.ext_refl _))
    clear HX7 HID7 HU7 HV7
    generalize w7.drew = wd at *
    iterate 6
      refine Gr.walk_t ?_ (Or.inl ⟨by rfl, ?_⟩) ?_
      rotate_left
      · intro w' hw'
        obtain ⟨i0, i1⟩ := HIDd.out w' hw'
        clear hw'
        go_simp
        try with_reducible rfl
      simp only [Act.put, List.setIfInBounds_toArray, List.set_cons_zero, List.set_cons_succ]
    refine Gr.walk_c (fun K hK => ?_)
    go_simp
    refine (HKK.out wd).mono ?_
    rintro e w8 ⟨rfl, hx8⟩
    have HX8 := Lib.hid (Gr.ext_trans (Gr.ext_refl wd) hx8)
    try go_simp
    refine hK.out _ _ (hx8) ?_
    clear hK K
    clear hx8
    refine Gr.walk_c (fun K hK => ?_)
    go_simp
    refine (HRK.out w8).mono ?_
    rintro e w9 ⟨rfl, hx9⟩
    have HX9 := Lib.hid (Gr.ext_trans HX8.out hx9)
    try go_simp
    refine hK.out _ _ (hx9) ?_
    clear hK K
    clear hx9
    refine Gr.walk_t _ (Or.inl ⟨by rfl, fun w' hw' => key_neq_yields (by rfl) (by rfl) (by rfl) HE2.out HG2.out⟩) ?_
    simp only [Act.put, List.setIfInBounds_toArray, List.set_cons_zero, List.set_cons_succ]
    iterate 3
      refine Gr.walk_t ?_ (Or.inl ⟨by rfl, ?_⟩) ?_
      rotate_left
      · intro w' hw'
        obtain ⟨i0, i1⟩ := HIDd.out w' (Gr.ext_trans HX9.out hw')
        clear hw'
        go_simp
        try with_reducible rfl
      simp only [Act.put, List.setIfInBounds_toArray, List.set_cons_zero, List.set_cons_succ]
    refine Gr.walk_c (fun K hK => ?_)
    go_simp
    refine (HH.out w9).mono ?_
    rintro e w10 ⟨rfl, hx10⟩
    have HX10 := Lib.hid (Gr.ext_trans HX9.out hx10)
    try go_simp
    refine hK.out _ _ (hx10) ?_
    clear hK K
    clear hx10
    refine Gr.walk_c (fun K hK => ?_)
    go_simp
    refine (HRH.out w10).mono ?_
    rintro e w11 ⟨rfl, hx11⟩
    have HX11 := Lib.hid (Gr.ext_trans HX10.out hx11)
    try go_simp
    refine hK.out _ _ (hx11) ?_
    clear hK K
    clear hx11
    refine Gr.walk_t _ (Or.inl ⟨by rfl, fun w' hw' => key_neq_yields (by rfl) (by rfl) (by rfl) HE1.out HG1.out⟩) ?_
    simp only [Act.put, List.setIfInBounds_toArray, List.set_cons_zero, List.set_cons_succ]
    iterate 17
      refine Gr.walk_t ?_ (Or.inl ⟨by rfl, ?_⟩) ?_
      rotate_left
      · intro w' hw'
        clear hw'
        go_simp
        try with_reducible rfl
      simp only [Act.put, List.setIfInBounds_toArray, List.set_cons_zero, List.set_cons_succ]
    refine Gr.walk_nil ?_
    have HXw := Lib.hid (Gr.ext_trans HXd.out HX11.out)
    have HUw := Lib.hid (HUd.out.ext HX11.out)
    have HVw := Lib.hid (HVd.out.ext HX11.out)
    clear HXd HX11 HX10 HX9 HX8 HUd HVd HIDd HE1 HE2
    have HUA := Lib.hid HUw.out.at.2
    have HVA := Lib.hid HVw.out.at.2
    clear HUw HVw hq1
    go_wp2_with fail
    go_loopw [20] (fun s20 wr => ∃ k : Nat, k ≤ q ∧ s20 = .int .i64 (k : Nat) ∧ Hid (w11.Extends wr)) (fun s20 _ => q - (intOf s20).toNat)
    case atStart => exact ⟨0, by omega, by rfl, Gr.ext_refl _⟩
    case round =>
      obtain ⟨k, hk, rfl, HX⟩ := hrel
      by_cases h1 : k < q
      · obtain ⟨b1, o1, rfl, hb1, hc1⟩ := HUA.out (by omega)
        obtain ⟨b2, o2, rfl, hb2, hc2⟩ := HVA.out (by omega)
        obtain ⟨x1, hx1, hr1⟩ := hc1 k h1
        obtain ⟨x2, hx2, hr2⟩ := hc2 k h1
        have HC : Hid (∀ w', wr.drew.Extends w' → w'.cell? ⟨b1, o1 + k, none⟩ = some x1 ∧ w'.cell? ⟨b2, o2 + k, none⟩ = some x2) := fun w' h => ⟨(Gr.ext_trans (Gr.ext_drew HX.out) h).cell_of hx1, (Gr.ext_trans (Gr.ext_drew HX.out) h).cell_of hx2⟩
        have HSA : Hid (Calls Try.prog 16 #[x1, x2] wr.drew fun e w' => e = .returned (.bool true) ∧ wr.drew.Extends w') := same_recs x1 x2 _ wr.drew (hr1.ext (Gr.ext_drew HX.out)) (hr2.ext (Gr.ext_drew HX.out))
        have HXd := Lib.hid (Gr.ext_drew HX.out)
        obtain ⟨a1, c1', e1⟩ := hr1.slice
        obtain ⟨a2, c2', e2⟩ := hr2.slice
        generalize (SP.getD k []).length = sl at *
        subst e1; subst e2
        clear hc1 hc2 hx1 hx2 hr1 hr2 HX
        go_wp2_with fail
        refine Gr.region 9 [(false,0),(false,1),(false,2),(false,3),(false,4),(false,5),(false,6),(false,7),(true,8)] (by kernel_rfl) (by kernel_rfl) (fun d _ _ _ _ h => by cases d <;> exact h) ?_
        simp only [Gr.pick, List.getElem?_cons_zero, List.getElem?_cons_succ, List.drop_succ_cons, List.drop_zero]
        generalize wr.drew = wd2 at *
        iterate 8
          refine Gr.walk_t ?_ (Or.inl ⟨by rfl, ?_⟩) ?_
          rotate_left
          · intro w' hw'
            obtain ⟨z1, z2⟩ := HC.out w' hw'
            clear hw'
            go_simp
            try with_reducible rfl
          simp only [Act.put, List.setIfInBounds_toArray, List.set_cons_zero, List.set_cons_succ]
        refine Gr.walk_c (fun K hK => ?_)
        go_simp
        refine (HSA.out).mono ?_
        rintro e w12 ⟨rfl, hx12⟩
        have HX12 := Lib.hid (Gr.ext_trans HXd.out hx12)
        try go_simp
        refine hK.out _ _ (hx12) ?_
        clear hK K
        clear hx12 HXd HC HSA
        refine Gr.walk_nil ?_
        go_wp2
        go_roundw
        case rel => exact ⟨k + 1, by omega, by go_num, HX12⟩
        case measure => simp [intOf]; omega
      · obtain rfl : k = q := by omega
        have HF := Lib.hid (Gr.ext_trans HXw.out HX.out)
        go_wp2
        go_ret
        exact ⟨rfl, Gr.below_of HF.out⟩
end Go.Proofs.Ytnbhkbncllebmaa
namespace Go.Proofs.Ytnbhkbncllebmaa
set_option maxRecDepth 20000
set_option linter.unusedVariables false
namespace PC
theorem spread_one (p : Int) (rs : List Rc) : spread [p] rs = [rs] := by
  have e : mine [p] rs 0 = rs := by
    rw [mine_at [p] rs 0 (by simp)]
    refine List.filter_eq_self.2 fun r _ => ?_
    rw [decide_eq_true_eq]
    have h := nb_lt (at_ r) ([p].map fun p => KY.of [p]) 1
    have e1 : ([p] : List Int).length = 1 := rfl
    rw [e1]
    omega
  have : spread [p] rs = [mine [p] rs 0] := rfl
  rw [this, e]
/-- A tombstone as it is handed in. -/
def stone (a b : Int) : Rc := ⟨a, b, 0, 0, 0, 0, 0, true, 0, []⟩
theorem at_stone (a b : Int) : at_ (stone a b) = KY.of [a, b] := rfl
theorem spread_two (p q : Int) (r : Rc) : ∃ c : Bool, peer (at_ r) [p, q] = some (if c = true then p else q) ∧ spread [p, q] [r] = (if c = true then [[r], []] else [[], [r]]) := by
  have h := nb_lt (at_ r) ([p, q].map fun p => KY.of [p]) 2
  have hb := bi_full (at_ r) [p, q] (by simp)
  have e2 : ([p, q] : List Int).length = 2 := rfl
  have m0 := mine_at [p, q] [r] 0 (by simp)
  have m1 := mine_at [p, q] [r] 1 (by simp)
  rw [e2] at hb m0 m1
  have hs : spread [p, q] [r] = [mine [p, q] [r] 0, mine [p, q] [r] 1] := rfl
  have f : ∀ i, ([r].filter fun r => decide (nb (at_ r) ([p, q].map fun p => KY.of [p]) 2 = i)) = if nb (at_ r) ([p, q].map fun p => KY.of [p]) 2 = i then [r] else [] := fun i => by
    by_cases c : nb (at_ r) ([p, q].map fun p => KY.of [p]) 2 = i
    · rw [if_pos c, List.filter_cons_of_pos (by rw [decide_eq_true_eq]; exact c)]; rfl
    · rw [if_neg c, List.filter_cons_of_neg (by rw [decide_eq_true_eq]; exact c)]; rfl
  rw [hs, m0, m1, f, f]
  unfold peer
  rw [e2, hb]
  generalize nb (at_ r) ([p, q].map fun p => KY.of [p]) 2 = b at *
  have : b = 0 ∨ b = 1 := by omega
  rcases this with rfl | rfl
  · exact ⟨true, rfl, rfl⟩
  · exact ⟨false, rfl, rfl⟩
end PC
end Go.Proofs.Ytnbhkbncllebmaa
namespace Go.Proofs.Ytnbhkbncllebmaa
set_option maxRecDepth 20000
open Go.RowKit Go.Deep
set_option linter.unusedVariables false
set_option maxHeartbeats 2000000 in
theorem PlaceOne_walk (rv : Value) (rs : List Rc) (p q : Int) (w : World) (hr : Recs w rv rs) (hwp : (Lit.int .i64 p).wf = true) (hwq : (Lit.int .i64 q).wf = true) :
    Calls Try.prog 5 #[rv, .int .i64 p, .int .i64 q] w fun e w' => e = .returned (.bool true) ∧ Below w.heap.size w w' := by
  have HRI := Lib.hid hr
  obtain ⟨ra, rc, rfl⟩ := hr.slice
  have HRA := Lib.hid hr.at.2
  have hrm := hr.len
  unfold maxLen at hrm
  have HFEW : Hid (∀ w', w.Extends w' → Calls Try.prog 7 #[.slice ra rs.length rc] w' fun e w2 => e = .returned (.bool (decide (FewL rs))) ∧ w'.Extends w2) := fun w' hx => few16_any _ rs w' (HRI.out.ext hx)
  have HS1 : Hid (decide (FewL rs) = true → ∀ w' v, w.Extends w' → Ints w' v [p] → Calls Try.prog 10 #[.slice ra rs.length rc, v] w' (SpreadOut w' [rs])) := fun hf w' v hx hv => by
    have hf := of_decide_eq_true hf
    have h := pspread_any _ rs v [p] w' (HRI.out.ext hx) hv (by simp) (by have := hf.2; omega) (fun r hr => by have := hf.1 r hr; omega)
    rwa [PC.spread_one] at h
  have HS2 : Hid (∀ a b : Int, ∃ c : Bool, (∀ w' u v, Recs w' u [PC.stone a b] → Ints w' v [p, q] → Calls Try.prog 10 #[u, v] w' (SpreadOut w' (if c = true then [[PC.stone a b], []] else [[], [PC.stone a b]]))) ∧ (∀ w' v, Ints w' v [p, q] → Calls Try.prog 8 #[KV (KY.of [a, b]), v] w' fun e w2 => e = .returned (.tuple #[.int .i64 (if c = true then p else q), .bool true]) ∧ w'.Extends w2)) := fun a b => by
    obtain ⟨c, h1, h2⟩ := PC.spread_two p q (PC.stone a b)
    refine ⟨c, fun w' u v hu hv => ?_, fun w' v hv => ?_⟩
    · have h := pspread_any u [PC.stone a b] v [p, q] w' hu hv (by simp) (by simp) (fun r hr => by have e := List.mem_singleton.1 hr; subst e; simp [PC.stone])
      rwa [h2] at h
    · refine (ppeer_any (KY.of [a, b]) v [p, q] w' (KY.of_ok _) hv (by simp)).mono fun e w2 h => ?_
      rw [← PC.at_stone, h1] at h
      exact ⟨h.2, h.1⟩
  have HHM : Hid (∀ (a b : Int) (w : World), Calls Try.prog 14 #[.agg #[.int .i64 a, .int .i64 b]] w fun e w' => e = .returned (KV (KY.of [a, b])) ∧ w.Extends w') := fun a b w => phome_any a b w
  have hbp := bounds_i64 hwp
  have hbq := bounds_i64 hwq
  clear hr hwp hwq
  generalize decide (FewL rs) = few at *
  obtain ⟨m, hm⟩ : ∃ m, m = rs.length := ⟨_, rfl⟩
  rw [← hm] at HRA HFEW HS1 hrm ⊢
  have HM : Hid (rs.length = m) := hm.symm
  clear hm
  go_enter Try.func5, Try.ntmps5
  go_wp2_with fail
  refine (alive23_any w).mono ?_
  rintro e w2 ⟨rfl, hx⟩
  have HX2 := Lib.hid hx
  clear hx
  go_wp2_with fail
  refine (HFEW.out w2 HX2.out).mono ?_
  rintro e w3 ⟨rfl, hx⟩
  have HX3 := Lib.hid (Gr.ext_trans HX2.out hx)
  clear hx HX2 HFEW
  cases few with
  | false =>
    go_wp2
    go_ret
    exact ⟨rfl, Gr.below_of HX3.out⟩
  | true =>
    have HS := Lib.hid (HS1.out rfl)
    clear HS1
    by_cases hp0 : p < 0
    · have dhp0 : decide (p < 0) = true := decide_eq_true hp0
      go_wp2
      go_ret
      exact ⟨rfl, Gr.below_of HX3.out⟩
    have dhp0 : decide (p < 0) = false := decide_eq_false hp0
    by_cases hq0 : q < 0
    · have dhq0 : decide (q < 0) = true := decide_eq_true hq0
      go_wp2
      go_ret
      exact ⟨rfl, Gr.below_of HX3.out⟩
    have dhq0 : decide (q < 0) = false := decide_eq_false hq0
    by_cases hpq : p = q
    · have dhpq : (p == q) = true := beq_iff_eq.2 hpq
      go_wp2
      go_ret
      exact ⟨rfl, Gr.below_of HX3.out⟩
    have dhpq : (p == q) = false := beq_eq_false_iff_ne.2 hpq
    by_cases hp1 : 1073741824 < p
    · have dhp1 : decide (1073741824 < p) = true := decide_eq_true hp1
      go_wp2
      go_ret
      exact ⟨rfl, Gr.below_of HX3.out⟩
    have dhp1 : decide (1073741824 < p) = false := decide_eq_false hp1
    by_cases hq1 : 1073741824 < q
    · have dhq1 : decide (1073741824 < q) = true := decide_eq_true hq1
      go_wp2
      go_ret
      exact ⟨rfl, Gr.below_of HX3.out⟩
    have dhq1 : decide (1073741824 < q) = false := decide_eq_false hq1
    go_wp2_with fail
    have hi := ints_one w3 p 3
    generalize hw : World.alloc w3 _ = w4 at *
    have hx4 : w3.Extends w4 := by subst hw; exact ext_alloc _ _
    refine (HS.out w4 _ (Gr.ext_trans HX3.out hx4) hi).mono ?_
    rintro e w5 ⟨u, rfl, hx5, hu⟩
    have HX5 := Lib.hid (Gr.ext_trans HX3.out (Gr.ext_trans hx4 hx5))
    obtain ⟨u1, c1, rfl⟩ := hu.slice
    obtain ⟨b1, o1, rfl, hb1, hc1⟩ := hu.at.2 (by simp)
    obtain ⟨x1, hx1, hr1⟩ := hc1 0 (by simp)
    obtain ⟨a1, c1', e1⟩ := hr1.slice
    have hsame := same_recs x1 (.slice ra rs.length rc) rs w5 hr1 (HRI.out.ext HX5.out)
    have e1' : x1 = .slice a1 m c1' := by rw [e1, ← HM.out]; rfl
    subst e1'
    rw [HM.out] at hsame
    have HSA := Lib.hid hsame
    rw [Nat.add_zero] at hx1
    clear hw hi hx4 hx5 hu hc1 hr1 e1 hsame HS
    simp only [List.length_singleton]
    go_wp2_with fail
    refine HSA.out.mono ?_
    rintro e w6 ⟨rfl, hx6⟩
    have HX6 := Lib.hid (Gr.ext_trans HX5.out hx6)
    clear hx6 HX5 HSA hx1
    go_wp2_with fail
    go_loopw [9] (fun s9 wr => ∃ k : Nat, k ≤ m ∧ s9 = .int .i64 (k : Nat) ∧ Hid (w6.Extends wr)) (fun s9 _ => m - (intOf s9).toNat)
    case atStart => exact ⟨0, by omega, by rfl, Gr.ext_refl _⟩
    case round =>
      obtain ⟨k, hk, rfl, HX⟩ := hrel
      by_cases h1 : k < m
      · obtain ⟨b2, o2, rfl, hb2, hc2⟩ := HRA.out (by omega)
        obtain ⟨da, dc, hrr, huu⟩ := hc2 k h1
        have hrr2 := rangeAt_ext hrr (Gr.ext_trans HX6.out HX.out)
        obtain ⟨c0, c1, -⟩ := RCell.ten hrr2
        clear hc2 hrr huu hrr2
        generalize (rs.getD k Rc.zero).p = a at *
        generalize (rs.getD k Rc.zero).n = b at *
        obtain ⟨c, hS, hP⟩ := HS2.out a b
        cases c
        · skip
          have HSP : Hid (∀ (w' : World) (u v : Value), Recs w' u [PC.stone a b] → Ints w' v [p, q] → Calls Try.prog 10 #[u, v] w' (SpreadOut w' [[], [PC.stone a b]])) := hS
          have HPE : Hid (∀ (w' : World) (v : Value), Ints w' v [p, q] → Calls Try.prog 8 #[KV (KY.of [a, b]), v] w' fun e w2 => e = .returned (.tuple #[.int .i64 q, .bool true]) ∧ w'.Extends w2) := hP
          clear hS hP
          go_upto_region 11 with fail
          clear c0 c1
          generalize hw : World.alloc wr _ = w7
          have hx : wr.Extends w7 := by subst hw; exact ext_alloc _ _
          have hbx : w7.heap[wr.heap.size]? = some (.cells ((PC.stone a b).cells (.slice none 0 0)).toArray 46) := by subst hw; exact heap_alloc_new _ _
          obtain ⟨bx, hbn⟩ : ∃ b, b = wr.heap.size := ⟨_, rfl⟩
          rw [← hbn] at hbx ⊢
          have HX7 := Lib.hid (Gr.ext_trans HX.out hx)
          have HB7 := Lib.hid hbx
          clear hw hx hbx hbn HX
          have hten := RCell.ten (w := w7) (b := bx) (off := 0) (r := PC.stone a b) (v := .slice none 0 0) (fun j v hv => by rw [Nat.zero_add, cell_of_row _ _ _ _ _ _ HB7.out, List.getElem?_toArray]; exact hv)
          obtain ⟨c0, c1, c2, c3, c4, c5, c6, c7', c8, c9⟩ := hten
          simp only [PC.stone, Nat.zero_add] at c0 c1 c2 c3 c4 c5 c6 c7' c8 c9
          have hbl : bx < w7.heap.size := (Array.getElem?_eq_some_iff.1 HB7.out).1
          go_wp2_with fail
          clear c0 c1 c2 c3 c4 c5 c6 c7' c8 c9
          have hrec : Recs (w7.alloc (.cells #[.int .i64 a, .int .i64 b, .int .i64 0, .int .i64 0, .int .i64 0, .int .i64 0, .int .i64 0, .bool true, .int .i64 0, .slice none 0 0] 46)) (.slice (some ⟨w7.heap.size, 0, none⟩) 1 1) [PC.stone a b] := recs_one w7 46 (PC.stone a b) none 0 (nil_u8s _ _ _)
          generalize hw8 : World.alloc w7 _ = w8 at *
          have hx8 : w7.Extends w8 := by subst hw8; exact ext_alloc _ _
          have hi8 : Ints (w8.alloc (.cells #[.int .i64 p, .int .i64 q] 3)) (.slice (some ⟨w8.heap.size, 0, none⟩) 2 2) [p, q] := pints_lit w8 _ _ _ _ _ rfl rfl rfl rfl (by simp)
          generalize hw9 : World.alloc w8 _ = w9 at *
          have hx9 : w8.Extends w9 := by subst hw9; exact ext_alloc _ _
          have hs8 : w8.heap.size = w7.heap.size + 1 := by subst hw8; simp
          rw [hs8] at hi8
          refine (HSP.out w9 _ _ (hrec.ext hx9) hi8).mono ?_
          rintro e w10 ⟨u, rfl, hx10, hu⟩
          have hx710 := Gr.ext_trans hx8 (Gr.ext_trans hx9 hx10)
          have HX10 := Lib.hid (Gr.ext_trans HX7.out hx710)
          have HB10 : Hid (w10.heap[bx]? = some (.cells ((PC.stone a b).cells (.slice none 0 0)).toArray 46)) := (hx710.block bx hbl).trans HB7.out
          obtain ⟨u1, uc1, rfl⟩ := hu.slice
          obtain ⟨b3, o3, rfl, hb3, hc3⟩ := hu.at.2 (by simp)
          obtain ⟨y0, hy0, hr0⟩ := hc3 0 (by simp)
          obtain ⟨y1, hy1, hr1⟩ := hc3 1 (by simp)
          obtain ⟨ya0, yc0, rfl⟩ := hr0.slice
          obtain ⟨ya1, yc1, rfl⟩ := hr1.slice
          simp only [List.length_cons, List.length_nil, List.getD_cons_zero, List.getD_cons_succ, Nat.zero_add, Nat.add_zero, Nat.reduceAdd] at hy0 hy1 ⊢
          have HY0 := Lib.hid hy0
          have HY1 := Lib.hid hy1
          clear hw8 hw9 hx8 hx9 hx10 hrec hi8 hs8 hu hc3 hr0 hr1 HX7 HB7 hbl HSP hx710 hy0 hy1
          have c0 : w10.cell? ⟨bx, 0, none⟩ = some (.int .i64 a) := by rw [cell_of_row _ _ _ _ _ _ HB10.out]; rfl
          have c1 : w10.cell? ⟨bx, 1, none⟩ = some (.int .i64 b) := by rw [cell_of_row _ _ _ _ _ _ HB10.out]; rfl
          have hbl : bx < w10.heap.size := (Array.getElem?_eq_some_iff.1 HB10.out).1
          go_wp2_with fail
          refine (HHM.out a b w10).mono ?_
          rintro e w11 ⟨rfl, hx11⟩
          have HX11 := Lib.hid (Gr.ext_trans HX10.out hx11)
          have HZ0 := Lib.hid (hx11.cell_of HY0.out)
          have HZ1 := Lib.hid (hx11.cell_of HY1.out)
          clear c0 c1 hbl hx11 HX10 HB10 HY0 HY1
          generalize KV (KY.of [a, b]) = kk at *
          go_wp2_with fail
          have hi12 : Ints (w11.alloc (.cells #[.int .i64 p, .int .i64 q] 3)) (.slice (some ⟨w11.heap.size, 0, none⟩) 2 2) [p, q] := pints_lit w11 _ _ _ _ _ rfl rfl rfl rfl (by simp)
          generalize hw12 : World.alloc w11 _ = w12 at *
          have hx12 : w11.Extends w12 := by subst hw12; exact ext_alloc _ _
          refine (HPE.out w12 _ hi12).mono ?_
          rintro e w13 ⟨rfl, hx13⟩
          have HX13 := Lib.hid (Gr.ext_trans HX11.out (Gr.ext_trans hx12 hx13))
          have HZZ : Hid (∀ w', w13.drew.Extends w' → w'.cell? ⟨b3, o3, none⟩ = some (.slice ya0 0 yc0) ∧ w'.cell? ⟨b3, o3 + 1, none⟩ = some (.slice ya1 1 yc1)) := fun w' h => by
            have hx := Gr.ext_trans (Gr.ext_drew (Gr.ext_trans hx12 hx13)) h
            exact ⟨hx.cell_of HZ0.out, hx.cell_of HZ1.out⟩
          have hpp : (p == p) = true := beq_self_eq_true p
          have hqp : (q == p) = false := by rw [beq_eq_false_iff_ne]; exact fun e => hpq e.symm
          have HXr : Hid (w6.Extends w13.drew) := Gr.ext_drew HX13.out
          clear hw12 hx12 hx13 hi12 HPE HX11 HZ0 HZ1 HX13
          go_wp2_with fail
          refine Gr.region 29 [(false,0),(false,1),(false,2),(false,3),(false,4),(false,5),(false,6),(false,7),(false,8),(false,9),(false,10),(false,11),(false,12),(false,13),(false,14),(false,15),(false,16),(false,17),(false,18),(false,19),(false,20),(false,21),(false,22),(false,23),(false,24),(false,25),(false,26),(false,27),(false,28)] (by kernel_rfl) (by kernel_rfl) (fun d _ _ _ _ h => by cases d <;> exact h) ?_
          simp only [Gr.pick, List.getElem?_cons_zero, List.getElem?_cons_succ, List.drop_succ_cons, List.drop_zero]
          generalize w13.drew = wd at *
          iterate 29
            refine Gr.walk_t ?_ (Or.inl ⟨by rfl, ?_⟩) ?_
            rotate_left
            · intro w' hw'
              obtain ⟨z0, z1⟩ := HZZ.out w' hw'
              clear hw'
              go_simp
              try with_reducible rfl
            simp only [Act.put, List.setIfInBounds_toArray, List.set_cons_zero, List.set_cons_succ]
          refine Gr.walk_nil ?_
          clear hpp hqp HZZ
          go_wp2
          go_roundw
          case rel => exact ⟨k + 1, by omega, by go_num, HXr⟩
          case measure => simp [intOf]; omega
        · skip
          have HSP : Hid (∀ (w' : World) (u v : Value), Recs w' u [PC.stone a b] → Ints w' v [p, q] → Calls Try.prog 10 #[u, v] w' (SpreadOut w' [[PC.stone a b], []])) := hS
          have HPE : Hid (∀ (w' : World) (v : Value), Ints w' v [p, q] → Calls Try.prog 8 #[KV (KY.of [a, b]), v] w' fun e w2 => e = .returned (.tuple #[.int .i64 p, .bool true]) ∧ w'.Extends w2) := hP
          clear hS hP
          go_upto_region 11 with fail
          clear c0 c1
          generalize hw : World.alloc wr _ = w7
          have hx : wr.Extends w7 := by subst hw; exact ext_alloc _ _
          have hbx : w7.heap[wr.heap.size]? = some (.cells ((PC.stone a b).cells (.slice none 0 0)).toArray 46) := by subst hw; exact heap_alloc_new _ _
          obtain ⟨bx, hbn⟩ : ∃ b, b = wr.heap.size := ⟨_, rfl⟩
          rw [← hbn] at hbx ⊢
          have HX7 := Lib.hid (Gr.ext_trans HX.out hx)
          have HB7 := Lib.hid hbx
          clear hw hx hbx hbn HX
          have hten := RCell.ten (w := w7) (b := bx) (off := 0) (r := PC.stone a b) (v := .slice none 0 0) (fun j v hv => by rw [Nat.zero_add, cell_of_row _ _ _ _ _ _ HB7.out, List.getElem?_toArray]; exact hv)
          obtain ⟨c0, c1, c2, c3, c4, c5, c6, c7', c8, c9⟩ := hten
          simp only [PC.stone, Nat.zero_add] at c0 c1 c2 c3 c4 c5 c6 c7' c8 c9
          have hbl : bx < w7.heap.size := (Array.getElem?_eq_some_iff.1 HB7.out).1
          go_wp2_with fail
          clear c0 c1 c2 c3 c4 c5 c6 c7' c8 c9
          have hrec : Recs (w7.alloc (.cells #[.int .i64 a, .int .i64 b, .int .i64 0, .int .i64 0, .int .i64 0, .int .i64 0, .int .i64 0, .bool true, .int .i64 0, .slice none 0 0] 46)) (.slice (some ⟨w7.heap.size, 0, none⟩) 1 1) [PC.stone a b] := recs_one w7 46 (PC.stone a b) none 0 (nil_u8s _ _ _)
          generalize hw8 : World.alloc w7 _ = w8 at *
          have hx8 : w7.Extends w8 := by subst hw8; exact ext_alloc _ _
          have hi8 : Ints (w8.alloc (.cells #[.int .i64 p, .int .i64 q] 3)) (.slice (some ⟨w8.heap.size, 0, none⟩) 2 2) [p, q] := pints_lit w8 _ _ _ _ _ rfl rfl rfl rfl (by simp)
          generalize hw9 : World.alloc w8 _ = w9 at *
          have hx9 : w8.Extends w9 := by subst hw9; exact ext_alloc _ _
          have hs8 : w8.heap.size = w7.heap.size + 1 := by subst hw8; simp
          rw [hs8] at hi8
          refine (HSP.out w9 _ _ (hrec.ext hx9) hi8).mono ?_
          rintro e w10 ⟨u, rfl, hx10, hu⟩
          have hx710 := Gr.ext_trans hx8 (Gr.ext_trans hx9 hx10)
          have HX10 := Lib.hid (Gr.ext_trans HX7.out hx710)
          have HB10 : Hid (w10.heap[bx]? = some (.cells ((PC.stone a b).cells (.slice none 0 0)).toArray 46)) := (hx710.block bx hbl).trans HB7.out
          obtain ⟨u1, uc1, rfl⟩ := hu.slice
          obtain ⟨b3, o3, rfl, hb3, hc3⟩ := hu.at.2 (by simp)
          obtain ⟨y0, hy0, hr0⟩ := hc3 0 (by simp)
          obtain ⟨y1, hy1, hr1⟩ := hc3 1 (by simp)
          obtain ⟨ya0, yc0, rfl⟩ := hr0.slice
          obtain ⟨ya1, yc1, rfl⟩ := hr1.slice
          simp only [List.length_cons, List.length_nil, List.getD_cons_zero, List.getD_cons_succ, Nat.zero_add, Nat.add_zero, Nat.reduceAdd] at hy0 hy1 ⊢
          have HY0 := Lib.hid hy0
          have HY1 := Lib.hid hy1
          clear hw8 hw9 hx8 hx9 hx10 hrec hi8 hs8 hu hc3 hr0 hr1 HX7 HB7 hbl HSP hx710 hy0 hy1
          have c0 : w10.cell? ⟨bx, 0, none⟩ = some (.int .i64 a) := by rw [cell_of_row _ _ _ _ _ _ HB10.out]; rfl
          have c1 : w10.cell? ⟨bx, 1, none⟩ = some (.int .i64 b) := by rw [cell_of_row _ _ _ _ _ _ HB10.out]; rfl
          have hbl : bx < w10.heap.size := (Array.getElem?_eq_some_iff.1 HB10.out).1
          go_wp2_with fail
          refine (HHM.out a b w10).mono ?_
          rintro e w11 ⟨rfl, hx11⟩
          have HX11 := Lib.hid (Gr.ext_trans HX10.out hx11)
          have HZ0 := Lib.hid (hx11.cell_of HY0.out)
          have HZ1 := Lib.hid (hx11.cell_of HY1.out)
          clear c0 c1 hbl hx11 HX10 HB10 HY0 HY1
          generalize KV (KY.of [a, b]) = kk at *
          go_wp2_with fail
          have hi12 : Ints (w11.alloc (.cells #[.int .i64 p, .int .i64 q] 3)) (.slice (some ⟨w11.heap.size, 0, none⟩) 2 2) [p, q] := pints_lit w11 _ _ _ _ _ rfl rfl rfl rfl (by simp)
          generalize hw12 : World.alloc w11 _ = w12 at *
          have hx12 : w11.Extends w12 := by subst hw12; exact ext_alloc _ _
          refine (HPE.out w12 _ hi12).mono ?_
          rintro e w13 ⟨rfl, hx13⟩
          have HX13 := Lib.hid (Gr.ext_trans HX11.out (Gr.ext_trans hx12 hx13))
          have HZZ : Hid (∀ w', w13.drew.Extends w' → w'.cell? ⟨b3, o3, none⟩ = some (.slice ya0 1 yc0) ∧ w'.cell? ⟨b3, o3 + 1, none⟩ = some (.slice ya1 0 yc1)) := fun w' h => by
            have hx := Gr.ext_trans (Gr.ext_drew (Gr.ext_trans hx12 hx13)) h
            exact ⟨hx.cell_of HZ0.out, hx.cell_of HZ1.out⟩
          have hpp : (p == p) = true := beq_self_eq_true p
          have hqp : (q == p) = false := by rw [beq_eq_false_iff_ne]; exact fun e => hpq e.symm
          have HXr : Hid (w6.Extends w13.drew) := Gr.ext_drew HX13.out
          clear hw12 hx12 hx13 hi12 HPE HX11 HZ0 HZ1 HX13
          go_wp2_with fail
          refine Gr.region 29 [(false,0),(false,1),(false,2),(false,3),(false,4),(false,5),(false,6),(false,7),(false,8),(false,9),(false,10),(false,11),(false,12),(false,13),(false,14),(false,15),(false,16),(false,17),(false,18),(false,19),(false,20),(false,21),(false,22),(false,23),(false,24),(false,25),(false,26),(false,27),(false,28)] (by kernel_rfl) (by kernel_rfl) (fun d _ _ _ _ h => by cases d <;> exact h) ?_
          simp only [Gr.pick, List.getElem?_cons_zero, List.getElem?_cons_succ, List.drop_succ_cons, List.drop_zero]
          generalize w13.drew = wd at *
          iterate 29
            refine Gr.walk_t ?_ (Or.inl ⟨by rfl, ?_⟩) ?_
            rotate_left
            · intro w' hw'
              obtain ⟨z0, z1⟩ := HZZ.out w' hw'
              clear hw'
              go_simp
              try with_reducible rfl
            simp only [Act.put, List.setIfInBounds_toArray, List.set_cons_zero, List.set_cons_succ]
          refine Gr.walk_nil ?_
          clear hpp hqp HZZ
          go_wp2
          go_roundw
          case rel => exact ⟨k + 1, by omega, by go_num, HXr⟩
          case measure => simp [intOf]; omega
      · obtain rfl : k = m := by omega
        have HF := Lib.hid (Gr.ext_trans HX6.out HX.out)
        go_wp2
        go_ret
        exact ⟨rfl, Gr.below_of HF.out⟩
end Go.Proofs.Ytnbhkbncllebmaa
