/- The queue's methods, called through heap.Interface; container/heap.up. -/
import Derived.Test.YtiiidbomfkjfgaaCalSwap
import Derived.ChangeKeysEq
namespace Go.Proofs.Ytiiidbomfkjfgaa
set_option maxRecDepth 20000
open Go.RowKit Go.Deep
set_option linter.unusedVariables false
theorem qp_under : Try.prog.underlying 60 = some (.pointer 41) := Try.underlying60
theorem run_load_q {w : World} {a : Addr} {x : Option Addr} {n c : Nat} (h : w.cell? a = some (.slice x n c)) : (loadVar 41 a).run Try.prog w = .ok (.slice x n c) w := by
  go_simp
theorem run_nilchk (a : Addr) (ts : Array TypeId) (ty : TypeId) (s m : ByteArray) (w : World) : (Builtin.ssaWrapNilChk_ ts ty #[.pointer (some a), .string s, .string m]).run Try.prog w = .ok (.pointer (some a)) w := rfl
theorem qm_val {name : String} {F : FuncId} (hm : ((Try.prog.info? 60).bind (fun i => i.methods.find? (·.name == name))).map (fun m => (m.path, m.func)) = some (#[], some (F, false)))
    {w : World} {a : Addr} {x : Option Addr} {n c : Nat} (h : w.cell? a = some (.slice x n c)) (k : Nat) : (method (k + 1) 60 (.pointer (some a)) name).run Try.prog w = .ok (F, .slice x n c) w := by
  have hl := run_load_q h
  obtain ⟨m, hm1, hm2⟩ := Option.map_eq_some_iff.1 hm
  obtain ⟨i, hi, hm'⟩ := Option.bind_eq_some_iff.1 hm1
  simp only [Prod.mk.injEq] at hm2
  obtain ⟨hp, hf⟩ := hm2
  have hti := run_typeInfo (P := Try.prog) (w := w) hi
  have hnc := fun s m => run_nilchk a #[60] 60 s m w
  unfold method
  simp only [Sem.run_bind, hti, Result.andThen_ok, hm', hp, hf, follow, Sem.run_pure, receiverAt, run_underlying qp_under, Place.get, strVal]
  simp only [Array.isEmpty_empty, if_true, Sem.run_bind, hnc, Result.andThen_ok, asAddr, Sem.run_pure, hl]
theorem qm_ptr {name : String} {F : FuncId} (hm : ((Try.prog.info? 60).bind (fun i => i.methods.find? (·.name == name))).map (fun m => (m.path, m.func)) = some (#[], some (F, true)))
    {w : World} {a : Addr} (k : Nat) : (method (k + 1) 60 (.pointer (some a)) name).run Try.prog w = .ok (F, .pointer (some a)) w := by
  obtain ⟨m, hm1, hm2⟩ := Option.map_eq_some_iff.1 hm
  obtain ⟨i, hi, hm'⟩ := Option.bind_eq_some_iff.1 hm1
  simp only [Prod.mk.injEq] at hm2
  obtain ⟨hp, hf⟩ := hm2
  have hti := run_typeInfo (P := Try.prog) (w := w) hi
  unfold method
  simp only [Sem.run_bind, hti, Result.andThen_ok, hm', hp, hf, List.toList_toArray, follow, Sem.run_pure, receiverAt, run_underlying qp_under, Place.get]
theorem qm_len {w : World} {a : Addr} {x : Option Addr} {n c : Nat} (h : w.cell? a = some (.slice x n c)) : ∀ k, (method (k + 1) 60 (.pointer (some a)) "Len").run Try.prog w = .ok (57, .slice x n c) w := qm_val (by kernel_rfl) h
theorem qm_less {w : World} {a : Addr} {x : Option Addr} {n c : Nat} (h : w.cell? a = some (.slice x n c)) : ∀ k, (method (k + 1) 60 (.pointer (some a)) "Less").run Try.prog w = .ok (58, .slice x n c) w := qm_val (by kernel_rfl) h
theorem qm_swap {w : World} {a : Addr} {x : Option Addr} {n c : Nat} (h : w.cell? a = some (.slice x n c)) : ∀ k, (method (k + 1) 60 (.pointer (some a)) "Swap").run Try.prog w = .ok (59, .slice x n c) w := qm_val (by kernel_rfl) h
theorem qm_push (w : World) (a : Addr) : ∀ k, (method (k + 1) 60 (.pointer (some a)) "Push").run Try.prog w = .ok (61, .pointer (some a)) w := qm_ptr (by kernel_rfl)
theorem qm_pop (w : World) (a : Addr) : ∀ k, (method (k + 1) 60 (.pointer (some a)) "Pop").run Try.prog w = .ok (60, .pointer (some a)) w := qm_ptr (by kernel_rfl)
/-- What a call leaves that reorders a queue: of its first n. -/
def ReOut (g n : Nat) (l : List Wt) (post : List Value) (w : World) (l' : List Wt) (w' : World) : Prop :=
  l'.Perm l ∧ QArr w' g l' post ∧ Fr (QD g l) w w' ∧ ∀ q, n ≤ q → l'.getD q zw = l.getD q zw
theorem ReOut.refl {g n : Nat} {l : List Wt} {post : List Value} {w : World} (h : QArr w g l post) : ReOut g n l post w l w := ⟨List.Perm.refl _, h, Fr.refl _ _, fun _ _ => rfl⟩
theorem ReOut.ext {g n : Nat} {l l' : List Wt} {post : List Value} {w w1 w2 : World} (h : ReOut g n l post w l' w1) (hx : w1.Extends w2) : ReOut g n l post w l' w2 := ⟨h.1, h.2.1.ext hx, h.2.2.1.trans (D' := fun _ => False) (Fr.ext hx) (fun _ _ h => h.elim), h.2.2.2⟩
theorem ReOut.swap {g n i j : Nat} {l l' : List Wt} {post : List Value} {w w1 w2 : World} (h : ReOut g n l post w l' w1) (hi : i < l'.length) (hj : j < l'.length) (hin : i < n) (hjn : j < n)
    (h2 : QArr w2 g (HM.swap zw l' i j) post) (hf : Fr (QD g l') w1 w2) : ReOut g n l post w (HM.swap zw l' i j) w2 :=
  ⟨(HM.swap_perm l' hi hj).trans h.1, h2, h.2.2.1.trans hf (fun i _ hd => (QD.perm h.1).1 hd), fun q hq => by
    rw [HM.swap_get l' hi hj, if_neg (by omega), if_neg (by omega)]; exact h.2.2.2 q hq⟩
theorem ReOut.len {g n : Nat} {l l' : List Wt} {post : List Value} {w w' : World} (h : ReOut g n l post w l' w') : l'.length = l.length := h.1.length_eq
theorem ReOut.cell {g n t o : Nat} {x : Value} {l l' : List Wt} {post : List Value} {w w' : World} (h : ReOut g n l post w l' w') (hc : w.cell? ⟨t, o, none⟩ = some x) (ht : ¬ QD g l t) (hl : t < w.heap.size) : w'.cell? ⟨t, o, none⟩ = some x :=
  (World.cell?_of_block (h.2.2.1.away t hl ht)).trans hc
set_option maxHeartbeats 1000000 in
/-- Up. -/
theorem wup_any (t o g cap n m j : Nat) (l : List Wt) (post : List Value) (w : World) (hc : w.cell? ⟨t, o, none⟩ = some (.slice (some ⟨g, 0, none⟩) m cap)) (htg : ¬ QD g l t) (htl : t < w.heap.size)
    (h : QArr w g l post) (hm : l.length = m) (hnm : n ≤ m) (hnb : m ≤ 100000) (hj : j < n) (hup : HM.Up wlt zw n l j) :
    Calls Try.prog 32 #[.iface 60 (.pointer (some ⟨t, o, none⟩)), .int .i64 (j : Nat)] w fun e w' => e = .returned (.tuple #[]) ∧ ∃ l', HM.Heap wlt zw n l' ∧ ReOut g n l post w l' w' := by
  have HC : Hid (∀ l' w', ReOut g n l post w l' w' → w'.cell? ⟨t, o, none⟩ = some (.slice (some ⟨g, 0, none⟩) m cap)) := fun l' w' hr => hr.cell hc htg htl
  have HWK : Hid (HM.Wk wlt) := wlt_wk
  have H0 := Lib.hid h
  have HN0 := Lib.hid hm
  have HUP := Lib.hid hup
  clear h hm hup hc
  go_enter Try.func32, Try.ntmps32
  go_wp2_with fail
  go_loopw [1] (fun s1 wr => ∃ (k : Nat) (lr : List Wt), k < n ∧ s1 = .int .i64 k ∧ Hid (HM.Up wlt zw n lr k) ∧ Hid (ReOut g n l post w lr wr)) (fun s1 _ => (intOf s1).toNat)
  case atStart => exact ⟨j, l, hj, rfl, HUP.out, ReOut.refl H0.out⟩
  case round =>
    obtain ⟨k, lr, hk, rfl, HU, HR⟩ := hrel
    have HLEN : Hid (lr.length = m) := by show _ = _; rw [HR.out.len, HN0.out]
    by_cases h0 : k = 0
    · subst h0
      have HE : Hid (HM.Heap wlt zw n lr) := HU.out.zero
      go_wp2
      go_end0
      exact ⟨rfl, lr, HE.out, HR.out⟩
    · obtain ⟨p, hp⟩ : ∃ p, (k - 1) / 2 = p := ⟨_, rfl⟩
      have hpk : p < k := by omega
      have hcw := HC.out lr wr HR.out
      have hm1 := qm_less hcw
      have HLS := Lib.hid (wqless_any g m cap k p lr post wr HR.out.2.1 HLEN.out (by omega) (by omega))
      have HP := Lib.hid hp
      have hdiv : ((k : Int) - 1) / 2 = (p : Int) := by omega
      clear hcw hp
      go_wp2_with fail
      refine HLS.out.mono ?_
      rintro e w1 ⟨rfl, hx1⟩
      have HR1 := Lib.hid (HR.out.ext hx1)
      have HUS : Hid (wlt (lr.getD k zw) (lr.getD p zw) = false → HM.Heap wlt zw n lr) := fun hR => HU.out.stop (by rw [HP.out]; exact hR)
      have HUN : Hid (wlt (lr.getD k zw) (lr.getD p zw) = true → HM.Up wlt zw n (HM.swap zw lr p k) p) := fun hR => by
        have := HU.out.step HWK.out (by rw [HLEN.out]; exact hnm) hk (Nat.pos_of_ne_zero h0) (by rw [HP.out]; exact hR)
        rwa [HP.out] at this
      clear hx1 HLS hm1
      generalize wlt (lr.getD k zw) (lr.getD p zw) = q at *
      cases q
      · go_wp2
        go_end0
        exact ⟨rfl, lr, HUS.out (by simp), HR1.out⟩
      · have hm2 := qm_swap (HC.out lr w1 HR1.out)
        have HSW := Lib.hid (wqswap_any g m cap p k lr post w1 HR1.out.2.1 HLEN.out (by omega) (by omega) (by omega))
        go_wp2_with fail
        refine HSW.out.mono ?_
        rintro e w2 ⟨rfl, hd2, hf2⟩
        have HR2 := Lib.hid (HR1.out.swap (by rw [HLEN.out]; omega) (by rw [HLEN.out]; omega) (by omega) hk hd2 hf2)
        clear hd2 hf2 HSW hm2
        go_wp2
        go_roundw
        case rel => exact ⟨p, HM.swap zw lr p k, by omega, rfl, HUN.out (by simp), HR2.out⟩
        case measure => simp [intOf]; omega
end Go.Proofs.Ytiiidbomfkjfgaa
