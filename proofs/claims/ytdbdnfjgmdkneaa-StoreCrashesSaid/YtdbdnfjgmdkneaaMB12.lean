/- In one text: StoKeep, StoPut, StoId. -/
import Derived.Test.YtdbdnfjgmdkneaaMB6
import Derived.Test.YtdbdnfjgmdkneaaMB8
import Derived.Test.YtdbdnfjgmdkneaaMB9
import Derived.Test.YtdbdnfjgmdkneaaMB11
namespace Go.Proofs.Ytdbdnfjgmdkneaa
set_option maxRecDepth 20000
open Go.RowKit Go.Deep Go.Maps
set_option linter.unusedVariables false
/-- What keep answers, and leaves. -/
def KeepOut (w : World) (t : Nat) (D : Nat → Prop) (st : Sto) (r : Rc) (e : Ending) (w' : World) : Prop := ∃ (kr : Rc) (a : Option Addr) (c : Nat), e = .returned (.tuple #[kr.val (.slice a kr.d.length c), .bool (SM.keepOf st r).2.1.isSome, .int .i64 (((SM.keepOf st r).2.2 : Nat) : Int)]) ∧ Left w t D (SM.keepOf st r).1 w' ∧ ∀ k, (SM.keepOf st r).2.1 = some k → kr = k ∧ U8s w' (.slice a kr.d.length c) kr.d
theorem Arr.no8 {w : World} {z : Nat} {f : Nat → Pr} (h : Arr w z 1 1 f) (hs : Slc (f 0)) : ∃ cs, w.heap[z]? = some (.cells cs 28 (0, 0)) ∧ ∀ y ∈ cs.toList, ∀ n, y ≠ .int .u8 n := by
  obtain ⟨cur, h1, h2, _, _, h5⟩ := h
  refine ⟨cur.toArray, h1, fun y hy n e => ?_⟩
  rw [List.toList_toArray] at hy
  obtain ⟨i, hi, rfl⟩ := List.mem_iff_getElem.1 hy
  have := h5 0 (by omega) i (by omega)
  rw [Nat.zero_mul, Nat.zero_add, List.getElem?_eq_getElem hi, e] at this
  have hm := List.mem_of_getElem? this.symm
  obtain ⟨a, c, hv⟩ := hs
  rw [hv] at hm
  simp [Rc.cells] at hm
theorem right_id {r : Rc} (h : KM.Right r) : IdOk r := ⟨by have := h.1; omega, by have := h.2.1; omega⟩
theorem bury_kept {st : Sto} {r k : Rc} (h : (SM.buryOf st r).2.1 = some k) : k = r := by
  unfold SM.buryOf at h
  split at h
  · split at h
    · simpa using h.symm
    · cases h
  · simpa using h.symm
theorem bury_err (st : Sto) (r : Rc) : (SM.buryOf st r).2.2 = 0 := by
  unfold SM.buryOf
  split
  · split <;> rfl
  · rfl
set_option maxHeartbeats 2000000 in
theorem keep_wrong (t : Nat) (D : Nat → Prop) (st : Sto) (r : Rc) (ua : Option Addr) (uc : Nat) (w : World) (h : SAt w t D st) (hD : ∀ i, D i → i < w.heap.size) (hi : SM.Inv st) (htl : st.t.length ≤ 1000000) (hu : U8s w (.slice ua r.d.length uc) r.d) (hsep : r.d = [] ∨ ∀ g, (Value.slice ua r.d.length uc).ownBlock = some g → ¬ D g) (hr : ¬ KM.Right r) :
    Calls Try.prog 67 #[.pointer (some ⟨t, 0, none⟩), r.val (.slice ua r.d.length uc)] w (KeepOut w t D st r) := by
  have hl : st.l.length ≤ 1000 := Nat.le_trans hi.room hi.most
  have HD := Lib.hid hD
  have hk : SM.keepOf st r = (st, none, 1) := by unfold SM.keepOf; rw [if_neg hr]
  have HRT : Hid (∀ w', Calls Try.prog 18 #[r.val (.slice ua r.d.length uc)] w' fun e w2 => e = .returned (.bool false) ∧ w'.Extends w2) := fun w' => right14_no r ua uc w' hr
  have HFIN : Hid (∀ w1 w3 z, w.Extends w1 → w1.grownBy w3 (some z) → w.heap.size ≤ z → z < w1.heap.size → (∃ cs f, w1.heap[z]? = some (.cells cs 28 f)) → KeepOut w t D st r (.returned (.tuple #[Rc.zero.val (.slice none 0 0), .bool false, .int .i64 1])) w3) := fun w1 w3 z hx hg hz hz1 hzt => by
    unfold KeepOut
    rw [hk]
    exact ⟨Rc.zero, none, 0, rfl, Left.close hx (Left.ext (h.ext hx) (Gr.ext_refl _)) hg hz hz1 hD hzt, fun k hk => nomatch hk⟩
  clear h hD hi htl hu hsep hr hk hl
  obtain ⟨rp, rn, rb, rs, rm, rk, re, rg, ru, rd⟩ := r
  show Calls Try.prog 67 #[_, .agg #[.int .i64 rp, .int .i64 rn, .int .i64 rb, .int .i64 rs, .int .i64 rm, .int .i64 rk, .int .i64 re, .bool rg, .int .i64 ru, .slice ua rd.length uc]] w _
  generalize KeepOut w t D st (⟨rp, rn, rb, rs, rm, rk, re, rg, ru, rd⟩ : Rc) = Q at *
  go_enter Try.func67, Try.ntmps67
  go_upto_region 1 with fail
  generalize hw1 : World.alloc w _ = w1
  generalize hw2 : World.alloc w1 _ = w2
  have hs1 : w1.heap.size = w.heap.size + 1 := by subst hw1; simp
  have hx1 : w.Extends w1 := by subst hw1; exact ext_alloc _ _
  have hx2 : w1.Extends w2 := by subst hw2; exact ext_alloc _ _
  have ha1 : Arr w1 w.heap.size 1 1 (fun _ => ((⟨rp, rn, rb, rs, rm, rk, re, rg, ru, rd⟩ : Rc), .slice ua rd.length uc)) := by subst hw1; exact Arr.box w (⟨rp, rn, rb, rs, rm, rk, re, rg, ru, rd⟩ : Rc) _
  have ha2 : Arr w2 w1.heap.size 1 1 (fun _ => (Rc.zero, .slice none 0 0)) := by subst hw2; exact Arr.box w1 Rc.zero _
  rw [hs1] at ha2
  have ha1 := ha1.ext hx2
  have HX2 := Lib.hid (Gr.ext_trans hx1 hx2)
  obtain ⟨y, hy⟩ : ∃ y, y = w.heap.size := ⟨_, rfl⟩
  rw [← hy] at ha1 ha2 ⊢
  have HYW := Lib.hid hy
  have HA1 := Lib.hid ha1
  have HA2 := Lib.hid ha2
  obtain ⟨c0, c1, c2, c3, c4, c5, c6, c7, c8, c9⟩ := RCell.ten (ha1.one rfl)
  simp only [Nat.zero_add] at c0 c1 c2 c3 c4 c5 c6 c7 c8 c9
  clear hw1 hw2 hs1 hx1 hx2 hy ha1 ha2
  go_wp2_with fail
  refine (HRT.out w2).mono ?_
  rintro e w3 ⟨rfl, hx3⟩
  have HX3 := Lib.hid (Gr.ext_trans HX2.out hx3)
  have HA13 := Lib.hid (HA1.out.ext hx3)
  have HA23 := Lib.hid (HA2.out.ext hx3)
  clear hx3 HA1 HA2 HX2 HRT c0 c1 c2 c3 c4 c5 c6 c7 c8 c9
  obtain ⟨c0, c1, c2, c3, c4, c5, c6, c7, c8, c9⟩ := RCell.ten (HA13.out.one rfl)
  simp only [Nat.zero_add] at c0 c1 c2 c3 c4 c5 c6 c7 c8 c9
  have HNY : Hid (¬ D y ∧ ¬ D (y + 1)) := ⟨fun hd => by have := HD.out _ hd; have := HYW.out; omega, fun hd => by have := HD.out _ hd; have := HYW.out; omega⟩
  have HZ1 : Hid (y + 1 < w3.heap.size) := HA23.out.lt
  have HSLC : Hid (Slc ((Rc.zero, .slice none 0 0) : Pr)) := ⟨none, 0, rfl⟩
  go_wp2_with (refine wpList_store_rec rfl 28 recsize _ _ rfl (y + 1) 0 0 1 1 _ (Rc.zero, .slice none 0 0) rfl rfl rfl HA23.out (by omega) HSLC.out ?_)
  intro w9 ha9 hg9
  have HP := Lib.hid (HFIN.out w3 w9 (y + 1) HX3.out hg9 (by have := HYW.out; omega) HZ1.out (by obtain ⟨cur, hc, _⟩ := HA23.out; exact ⟨_, _, hc⟩))
  clear c0 c1 c2 c3 c4 c5 c6 c7 c8 c9
  obtain ⟨d0, d1, d2, d3, d4, d5, d6, d7, d8, d9⟩ := RCell.ten (ha9.one (p := (Rc.zero, .slice none 0 0)) rfl)
  simp only [Nat.zero_add, Rc.zero] at d0 d1 d2 d3 d4 d5 d6 d7 d8 d9
  clear ha9 hg9 HSLC
  go_wp2
  refine bodyPost_ret (v := .tuple #[Rc.zero.val (.slice none 0 0), .bool false, .int .i64 1]) (by simp [results, Try.results67, go_sem, d0, d1, d2, d3, d4, d5, d6, d7, d8, d9]; try rfl) rfl ?_
  exact HP.out
set_option maxHeartbeats 2000000 in
theorem keep_gone (t : Nat) (D : Nat → Prop) (st : Sto) (r : Rc) (ua : Option Addr) (uc : Nat) (w : World) (h : SAt w t D st) (hD : ∀ i, D i → i < w.heap.size) (hi : SM.Inv st) (htl : st.t.length ≤ 1000000) (hu : U8s w (.slice ua r.d.length uc) r.d) (hsep : r.d = [] ∨ ∀ g, (Value.slice ua r.d.length uc).ownBlock = some g → ¬ D g) (hr : KM.Right r) (hg : r.g = false) (hh : SM.Has st.t r) :
    Calls Try.prog 67 #[.pointer (some ⟨t, 0, none⟩), r.val (.slice ua r.d.length uc)] w (KeepOut w t D st r) := by
  have hl : st.l.length ≤ 1000 := Nat.le_trans hi.room hi.most
  have HD := Lib.hid hD
  have hk : SM.keepOf st r = (st, none, 0) := by unfold SM.keepOf SM.addOf; rw [if_pos hr, if_neg (by rw [hg]; decide), if_pos hh]
  have HRT : Hid (∀ w', Calls Try.prog 18 #[r.val (.slice ua r.d.length uc)] w' fun e w2 => e = .returned (.bool true) ∧ w'.Extends w2) := fun w' => right14_yes r ua uc w' hr
  have HGO : Hid (∀ w', w.Extends w' → Calls Try.prog 45 #[.pointer (some ⟨t, 0, none⟩), .agg #[.int .i64 r.p, .int .i64 r.n]] w' fun e w2 => e = .returned (.bool true) ∧ w'.Extends w2) := fun w' hx => by
    have := gone_any t D st r w' (h.ext hx) (right_id hr)
    rw [decide_eq_true hh] at this; exact this
  have HFIN : Hid (∀ w1 w3 z, w.Extends w1 → w1.grownBy w3 (some z) → w.heap.size ≤ z → z < w1.heap.size → (∃ cs f, w1.heap[z]? = some (.cells cs 28 f)) → KeepOut w t D st r (.returned (.tuple #[Rc.zero.val (.slice none 0 0), .bool false, .int .i64 0])) w3) := fun w1 w3 z hx hg hz hz1 hzt => by
    unfold KeepOut
    rw [hk]
    exact ⟨Rc.zero, none, 0, rfl, Left.close hx (Left.ext (h.ext hx) (Gr.ext_refl _)) hg hz hz1 hD hzt, fun k hk => nomatch hk⟩
  clear h hD hi htl hu hsep hr hk hl hh
  obtain ⟨rp, rn, rb, rs, rm, rk, re, rg, ru, rd⟩ := r
  obtain rfl : rg = false := hg
  show Calls Try.prog 67 #[_, .agg #[.int .i64 rp, .int .i64 rn, .int .i64 rb, .int .i64 rs, .int .i64 rm, .int .i64 rk, .int .i64 re, .bool false, .int .i64 ru, .slice ua rd.length uc]] w _
  generalize KeepOut w t D st (⟨rp, rn, rb, rs, rm, rk, re, false, ru, rd⟩ : Rc) = Q at *
  go_enter Try.func67, Try.ntmps67
  go_upto_region 1 with fail
  generalize hw1 : World.alloc w _ = w1
  generalize hw2 : World.alloc w1 _ = w2
  have hs1 : w1.heap.size = w.heap.size + 1 := by subst hw1; simp
  have hx1 : w.Extends w1 := by subst hw1; exact ext_alloc _ _
  have hx2 : w1.Extends w2 := by subst hw2; exact ext_alloc _ _
  have ha1 : Arr w1 w.heap.size 1 1 (fun _ => ((⟨rp, rn, rb, rs, rm, rk, re, false, ru, rd⟩ : Rc), .slice ua rd.length uc)) := by subst hw1; exact Arr.box w (⟨rp, rn, rb, rs, rm, rk, re, false, ru, rd⟩ : Rc) _
  have ha2 : Arr w2 w1.heap.size 1 1 (fun _ => (Rc.zero, .slice none 0 0)) := by subst hw2; exact Arr.box w1 Rc.zero _
  rw [hs1] at ha2
  have ha1 := ha1.ext hx2
  have HX2 := Lib.hid (Gr.ext_trans hx1 hx2)
  obtain ⟨y, hy⟩ : ∃ y, y = w.heap.size := ⟨_, rfl⟩
  rw [← hy] at ha1 ha2 ⊢
  have HYW := Lib.hid hy
  have HA1 := Lib.hid ha1
  have HA2 := Lib.hid ha2
  obtain ⟨c0, c1, c2, c3, c4, c5, c6, c7, c8, c9⟩ := RCell.ten (ha1.one rfl)
  simp only [Nat.zero_add] at c0 c1 c2 c3 c4 c5 c6 c7 c8 c9
  clear hw1 hw2 hs1 hx1 hx2 hy ha1 ha2
  go_wp2_with fail
  refine (HRT.out w2).mono ?_
  rintro e w3 ⟨rfl, hx3⟩
  have HX3 := Lib.hid (Gr.ext_trans HX2.out hx3)
  have HA13 := Lib.hid (HA1.out.ext hx3)
  have HA23 := Lib.hid (HA2.out.ext hx3)
  clear hx3 HA1 HA2 HX2 HRT c0 c1 c2 c3 c4 c5 c6 c7 c8 c9
  obtain ⟨c0, c1, c2, c3, c4, c5, c6, c7, c8, c9⟩ := RCell.ten (HA13.out.one rfl)
  simp only [Nat.zero_add] at c0 c1 c2 c3 c4 c5 c6 c7 c8 c9
  have HNY : Hid (¬ D y ∧ ¬ D (y + 1)) := ⟨fun hd => by have := HD.out _ hd; have := HYW.out; omega, fun hd => by have := HD.out _ hd; have := HYW.out; omega⟩
  have HZ1 : Hid (y + 1 < w3.heap.size) := HA23.out.lt
  go_wp2_with fail
  refine (HGO.out w3 HX3.out).mono ?_
  rintro e w4 ⟨rfl, hx4⟩
  have HX4 := Lib.hid (Gr.ext_trans HX3.out hx4)
  have HA24 := Lib.hid (HA23.out.ext hx4)
  have HZ4 : Hid (y + 1 < w4.heap.size) := HA24.out.lt
  clear hx4 HGO HX3 HA13 HA23 HZ1 c0 c1 c2 c3 c4 c5 c6 c7 c8 c9
  have HSLC : Hid (Slc ((Rc.zero, .slice none 0 0) : Pr)) := ⟨none, 0, rfl⟩
  go_wp2_with (refine wpList_store_rec rfl 28 recsize _ _ rfl (y + 1) 0 0 1 1 _ (Rc.zero, .slice none 0 0) rfl rfl rfl HA24.out (by omega) HSLC.out ?_)
  intro w9 ha9 hg9
  have HP := Lib.hid (HFIN.out w4 w9 (y + 1) HX4.out hg9 (by have := HYW.out; omega) HZ4.out (by obtain ⟨cur, hc, _⟩ := HA24.out; exact ⟨_, _, hc⟩))
  skip
  obtain ⟨d0, d1, d2, d3, d4, d5, d6, d7, d8, d9⟩ := RCell.ten (ha9.one (p := (Rc.zero, .slice none 0 0)) rfl)
  simp only [Nat.zero_add, Rc.zero] at d0 d1 d2 d3 d4 d5 d6 d7 d8 d9
  clear ha9 hg9 HSLC
  go_wp2
  refine bodyPost_ret (v := .tuple #[Rc.zero.val (.slice none 0 0), .bool false, .int .i64 0]) (by simp [results, Try.results67, go_sem, d0, d1, d2, d3, d4, d5, d6, d7, d8, d9]; try rfl) rfl ?_
  exact HP.out
set_option maxHeartbeats 2000000 in
theorem keep_sym (t : Nat) (D : Nat → Prop) (st : Sto) (r : Rc) (ua : Option Addr) (uc : Nat) (w : World) (h : SAt w t D st) (hD : ∀ i, D i → i < w.heap.size) (hi : SM.Inv st) (htl : st.t.length ≤ 1000000) (hu : U8s w (.slice ua r.d.length uc) r.d) (hsep : r.d = [] ∨ ∀ g, (Value.slice ua r.d.length uc).ownBlock = some g → ¬ D g) (hr : KM.Right r) (hg : r.g = false) (hh : ¬ SM.Has st.t r) :
    Calls Try.prog 67 #[.pointer (some ⟨t, 0, none⟩), r.val (.slice ua r.d.length uc)] w (KeepOut w t D st r) := by
  have hl : st.l.length ≤ 1000 := Nat.le_trans hi.room hi.most
  have HD := Lib.hid hD
  have hk : SM.keepOf st r = SM.addOf st r := by unfold SM.keepOf; rw [if_pos hr, if_neg (by rw [hg]; decide)]
  have HRT : Hid (∀ w', Calls Try.prog 18 #[r.val (.slice ua r.d.length uc)] w' fun e w2 => e = .returned (.bool true) ∧ w'.Extends w2) := fun w' => right14_yes r ua uc w' hr
  have HGO : Hid (∀ w', w.Extends w' → Calls Try.prog 45 #[.pointer (some ⟨t, 0, none⟩), .agg #[.int .i64 r.p, .int .i64 r.n]] w' fun e w2 => e = .returned (.bool false) ∧ w'.Extends w2) := fun w' hx => by
    have := gone_any t D st r w' (h.ext hx) (right_id hr)
    rw [decide_eq_false hh] at this; exact this
  obtain ⟨⟨⟨h1, h2, h3, h4, _⟩, _⟩, _, h8⟩ := hr.2.2.2.2 hg
  have hlen : r.d.length ≤ 1000 := by omega
  have hne : r.d ≠ [] := fun e => by rw [e] at h8; simp at h8; omega
  have HSYM : Hid (∀ w', w.Extends w' → Calls Try.prog 90 #[.pointer (some ⟨t, 0, none⟩), r.val (.slice ua r.d.length uc)] w' (SymOut w' t D st r)) := fun w' hx =>
    sym_any t D st r ua uc w' (h.ext hx) (fun i hd => Nat.lt_of_lt_of_le (hD i hd) hx.size) hl hi.most hi.sorted (hu.ext hx) hne hlen hh (hsep.resolve_left hne)
  have HFIN : Hid (∀ w1 w2 w3 z (q : Rc) a c, w.Extends w1 → Left w1 t D (SM.addOf st r).1 w2 → (∀ k, (SM.addOf st r).2.1 = some k → q = k ∧ U8s w2 (.slice a q.d.length c) q.d) → w2.grownBy w3 (some z) → w.heap.size ≤ z → z < w1.heap.size → Arr w2 z 1 1 (fun _ => (Rc.zero, .slice none 0 0)) → KeepOut w t D st r (.returned (.tuple #[q.val (.slice a q.d.length c), .bool (SM.addOf st r).2.1.isSome, .int .i64 (((SM.addOf st r).2.2 : Nat) : Int)])) w3) := fun w1 w2 w3 z q a c hx hL hq hg hz hz1 hza => by
    obtain ⟨cs, hc, hno⟩ := hza.no8 ⟨none, 0, rfl⟩
    unfold KeepOut
    rw [hk]
    refine ⟨q, a, c, rfl, Left.close hx hL hg hz hz1 hD ⟨_, _, hc⟩, fun k hk => ?_⟩
    obtain ⟨e1, e2⟩ := hq k hk
    exact ⟨e1, e2.beside hc hno hg⟩
  have HKS : Hid (∀ w' e w2, SymOut w' t D st r e w2 → ∃ (kr : Rc) (a : Option Addr) (c : Nat), e = .returned (.tuple #[kr.val (.slice a kr.d.length c), .bool (SM.addOf st r).2.1.isSome, .int .i64 (((SM.addOf st r).2.2 : Nat) : Int)]) ∧ Left w' t D (SM.addOf st r).1 w2 ∧ ∀ k, (SM.addOf st r).2.1 = some k → kr = k ∧ U8s w2 (.slice a kr.d.length c) kr.d) := fun w' e w2 h => h
  clear h hD hi htl hu hsep hr hk hl hh h1 h2 h3 h4 h8 hlen hne
  generalize (SM.addOf st r).2.1 = ok at *
  generalize (SM.addOf st r).2.2 = er at *
  generalize (SM.addOf st r).1 = st' at *
  obtain ⟨rp, rn, rb, rs, rm, rk, re, rg, ru, rd⟩ := r
  obtain rfl : rg = false := hg
  show Calls Try.prog 67 #[_, .agg #[.int .i64 rp, .int .i64 rn, .int .i64 rb, .int .i64 rs, .int .i64 rm, .int .i64 rk, .int .i64 re, .bool false, .int .i64 ru, .slice ua rd.length uc]] w _
  generalize KeepOut w t D st (⟨rp, rn, rb, rs, rm, rk, re, false, ru, rd⟩ : Rc) = Q at *
  go_enter Try.func67, Try.ntmps67
  go_upto_region 1 with fail
  generalize hw1 : World.alloc w _ = w1
  generalize hw2 : World.alloc w1 _ = w2
  have hs1 : w1.heap.size = w.heap.size + 1 := by subst hw1; simp
  have hx1 : w.Extends w1 := by subst hw1; exact ext_alloc _ _
  have hx2 : w1.Extends w2 := by subst hw2; exact ext_alloc _ _
  have ha1 : Arr w1 w.heap.size 1 1 (fun _ => ((⟨rp, rn, rb, rs, rm, rk, re, false, ru, rd⟩ : Rc), .slice ua rd.length uc)) := by subst hw1; exact Arr.box w (⟨rp, rn, rb, rs, rm, rk, re, false, ru, rd⟩ : Rc) _
  have ha2 : Arr w2 w1.heap.size 1 1 (fun _ => (Rc.zero, .slice none 0 0)) := by subst hw2; exact Arr.box w1 Rc.zero _
  rw [hs1] at ha2
  have ha1 := ha1.ext hx2
  have HX2 := Lib.hid (Gr.ext_trans hx1 hx2)
  obtain ⟨y, hy⟩ : ∃ y, y = w.heap.size := ⟨_, rfl⟩
  rw [← hy] at ha1 ha2 ⊢
  have HYW := Lib.hid hy
  have HA1 := Lib.hid ha1
  have HA2 := Lib.hid ha2
  obtain ⟨c0, c1, c2, c3, c4, c5, c6, c7, c8, c9⟩ := RCell.ten (ha1.one rfl)
  simp only [Nat.zero_add] at c0 c1 c2 c3 c4 c5 c6 c7 c8 c9
  clear hw1 hw2 hs1 hx1 hx2 hy ha1 ha2
  go_wp2_with fail
  refine (HRT.out w2).mono ?_
  rintro e w3 ⟨rfl, hx3⟩
  have HX3 := Lib.hid (Gr.ext_trans HX2.out hx3)
  have HA13 := Lib.hid (HA1.out.ext hx3)
  have HA23 := Lib.hid (HA2.out.ext hx3)
  clear hx3 HA1 HA2 HX2 HRT c0 c1 c2 c3 c4 c5 c6 c7 c8 c9
  obtain ⟨c0, c1, c2, c3, c4, c5, c6, c7, c8, c9⟩ := RCell.ten (HA13.out.one rfl)
  simp only [Nat.zero_add] at c0 c1 c2 c3 c4 c5 c6 c7 c8 c9
  have HNY : Hid (¬ D y ∧ ¬ D (y + 1)) := ⟨fun hd => by have := HD.out _ hd; have := HYW.out; omega, fun hd => by have := HD.out _ hd; have := HYW.out; omega⟩
  have HZ1 : Hid (y + 1 < w3.heap.size) := HA23.out.lt
  go_wp2_with fail
  refine (HGO.out w3 HX3.out).mono ?_
  rintro e w4 ⟨rfl, hx4⟩
  have HX4 := Lib.hid (Gr.ext_trans HX3.out hx4)
  have HA14 := Lib.hid (HA13.out.ext hx4)
  have HA24 := Lib.hid (HA23.out.ext hx4)
  have HZ4 : Hid (y + 1 < w4.heap.size) := HA24.out.lt
  clear hx4 HGO HX3 HA13 HA23 HZ1 c0 c1 c2 c3 c4 c5 c6 c7 c8 c9
  obtain ⟨c0, c1, c2, c3, c4, c5, c6, c7, c8, c9⟩ := RCell.ten (HA14.out.one rfl)
  simp only [Nat.zero_add] at c0 c1 c2 c3 c4 c5 c6 c7 c8 c9
  go_wp2_with fail
  refine (HSYM.out w4 HX4.out).mono ?_
  rintro e w5 hsy
  obtain ⟨⟨qp, qn, qb, qs, qm, qk, qe, qg, qu, qd⟩, a, c, rfl, hL, hq⟩ := HKS.out w4 e w5 hsy
  have HA25 : Hid (Arr w5 (y + 1) 1 1 (fun _ => (Rc.zero, .slice none 0 0))) := Arr.left hL HA24.out HNY.out.2
  have HE := Lib.hid (fun w9 hg => HFIN.out w4 w5 w9 (y + 1) _ a c HX4.out hL hq hg (by have := HYW.out; omega) HZ4.out HA25.out)
  clear hsy hL hq HSYM HKS HFIN HA14 HA24 c0 c1 c2 c3 c4 c5 c6 c7 c8 c9
  have HSLC : Hid (Slc (((⟨qp, qn, qb, qs, qm, qk, qe, qg, qu, qd⟩ : Rc), .slice a qd.length c) : Pr)) := ⟨a, c, rfl⟩
  go_wp2_with (refine wpList_store_rec rfl 28 recsize _ _ rfl (y + 1) 0 0 1 1 _ ((⟨qp, qn, qb, qs, qm, qk, qe, qg, qu, qd⟩ : Rc), .slice a qd.length c) rfl rfl rfl HA25.out (by omega) HSLC.out ?_)
  intro w9 ha9 hg9
  have HP := Lib.hid (HE.out w9 hg9)
  skip
  obtain ⟨d0, d1, d2, d3, d4, d5, d6, d7, d8, d9⟩ := RCell.ten (ha9.one (p := ((⟨qp, qn, qb, qs, qm, qk, qe, qg, qu, qd⟩ : Rc), .slice a qd.length c)) rfl)
  simp only [Nat.zero_add] at d0 d1 d2 d3 d4 d5 d6 d7 d8 d9
  clear ha9 hg9 HSLC
  go_wp2
  refine bodyPost_ret (v := .tuple #[(⟨qp, qn, qb, qs, qm, qk, qe, qg, qu, qd⟩ : Rc).val (.slice a qd.length c), .bool ok.isSome, .int .i64 (er : Nat)]) (by simp [results, Try.results67, go_sem, d0, d1, d2, d3, d4, d5, d6, d7, d8, d9]; try rfl) rfl ?_
  exact HP.out
set_option maxHeartbeats 2000000 in
theorem keep_tomb (t : Nat) (D : Nat → Prop) (st : Sto) (r : Rc) (ua : Option Addr) (uc : Nat) (w : World) (h : SAt w t D st) (hD : ∀ i, D i → i < w.heap.size) (hi : SM.Inv st) (htl : st.t.length ≤ 1000000) (hu : U8s w (.slice ua r.d.length uc) r.d) (hsep : r.d = [] ∨ ∀ g, (Value.slice ua r.d.length uc).ownBlock = some g → ¬ D g) (hr : KM.Right r) (hg : r.g = true) :
    Calls Try.prog 67 #[.pointer (some ⟨t, 0, none⟩), r.val (.slice ua r.d.length uc)] w (KeepOut w t D st r) := by
  have hl : st.l.length ≤ 1000 := Nat.le_trans hi.room hi.most
  have HD := Lib.hid hD
  have hk : SM.keepOf st r = SM.buryOf st r := by unfold SM.keepOf; rw [if_pos hr, if_pos hg]
  have HRT : Hid (∀ w', Calls Try.prog 18 #[r.val (.slice ua r.d.length uc)] w' fun e w2 => e = .returned (.bool true) ∧ w'.Extends w2) := fun w' => right14_yes r ua uc w' hr
  have hd0 : r.d = [] := (hr.2.2.2.1 hg).2.2
  have HTB : Hid (∀ w', w.Extends w' → Calls Try.prog 89 #[.pointer (some ⟨t, 0, none⟩), r.val (.slice ua r.d.length uc)] w' fun e w2 => e = .returned (.bool (SM.buryOf st r).2.1.isSome) ∧ Left w' t D (SM.buryOf st r).1 w2) := fun w' hx => tomb_any t D st r ua uc w' (h.ext hx) hl htl hr hi.alive
  have HFIN : Hid (∀ w1 w2 w3 z, w.Extends w1 → Left w1 t D (SM.buryOf st r).1 w2 → w2.grownBy w3 (some z) → w.heap.size ≤ z → z < w1.heap.size → (∃ cs f, w2.heap[z]? = some (.cells cs 28 f)) → KeepOut w t D st r (.returned (.tuple #[r.val (.slice ua r.d.length uc), .bool (SM.buryOf st r).2.1.isSome, .int .i64 0])) w3) := fun w1 w2 w3 z hx hL hg hz hz1 hzt => by
    unfold KeepOut
    rw [hk, bury_err]
    refine ⟨r, ua, uc, rfl, Left.close hx hL hg hz hz1 hD hzt, fun k hk => ⟨(bury_kept hk).symm, ?_⟩⟩
    have hs : w.heap.size ≤ w3.heap.size := Nat.le_trans hx.size (Nat.le_trans hL.2.fr.size hg.size)
    exact hu.same hs (.inl hd0)
  clear h hD hi htl hu hsep hr hk hl hd0
  generalize (SM.buryOf st r).2.1 = ok at *
  generalize (SM.buryOf st r).1 = st' at *
  obtain ⟨rp, rn, rb, rs, rm, rk, re, rg, ru, rd⟩ := r
  obtain rfl : rg = true := hg
  show Calls Try.prog 67 #[_, .agg #[.int .i64 rp, .int .i64 rn, .int .i64 rb, .int .i64 rs, .int .i64 rm, .int .i64 rk, .int .i64 re, .bool true, .int .i64 ru, .slice ua rd.length uc]] w _
  generalize KeepOut w t D st (⟨rp, rn, rb, rs, rm, rk, re, true, ru, rd⟩ : Rc) = Q at *
  go_enter Try.func67, Try.ntmps67
  go_upto_region 1 with fail
  generalize hw1 : World.alloc w _ = w1
  generalize hw2 : World.alloc w1 _ = w2
  have hs1 : w1.heap.size = w.heap.size + 1 := by subst hw1; simp
  have hx1 : w.Extends w1 := by subst hw1; exact ext_alloc _ _
  have hx2 : w1.Extends w2 := by subst hw2; exact ext_alloc _ _
  have ha1 : Arr w1 w.heap.size 1 1 (fun _ => ((⟨rp, rn, rb, rs, rm, rk, re, true, ru, rd⟩ : Rc), .slice ua rd.length uc)) := by subst hw1; exact Arr.box w (⟨rp, rn, rb, rs, rm, rk, re, true, ru, rd⟩ : Rc) _
  have ha2 : Arr w2 w1.heap.size 1 1 (fun _ => (Rc.zero, .slice none 0 0)) := by subst hw2; exact Arr.box w1 Rc.zero _
  rw [hs1] at ha2
  have ha1 := ha1.ext hx2
  have HX2 := Lib.hid (Gr.ext_trans hx1 hx2)
  obtain ⟨y, hy⟩ : ∃ y, y = w.heap.size := ⟨_, rfl⟩
  rw [← hy] at ha1 ha2 ⊢
  have HYW := Lib.hid hy
  have HA1 := Lib.hid ha1
  have HA2 := Lib.hid ha2
  obtain ⟨c0, c1, c2, c3, c4, c5, c6, c7, c8, c9⟩ := RCell.ten (ha1.one rfl)
  simp only [Nat.zero_add] at c0 c1 c2 c3 c4 c5 c6 c7 c8 c9
  clear hw1 hw2 hs1 hx1 hx2 hy ha1 ha2
  go_wp2_with fail
  refine (HRT.out w2).mono ?_
  rintro e w3 ⟨rfl, hx3⟩
  have HX3 := Lib.hid (Gr.ext_trans HX2.out hx3)
  have HA13 := Lib.hid (HA1.out.ext hx3)
  have HA23 := Lib.hid (HA2.out.ext hx3)
  clear hx3 HA1 HA2 HX2 HRT c0 c1 c2 c3 c4 c5 c6 c7 c8 c9
  obtain ⟨c0, c1, c2, c3, c4, c5, c6, c7, c8, c9⟩ := RCell.ten (HA13.out.one rfl)
  simp only [Nat.zero_add] at c0 c1 c2 c3 c4 c5 c6 c7 c8 c9
  have HNY : Hid (¬ D y ∧ ¬ D (y + 1)) := ⟨fun hd => by have := HD.out _ hd; have := HYW.out; omega, fun hd => by have := HD.out _ hd; have := HYW.out; omega⟩
  have HZ1 : Hid (y + 1 < w3.heap.size) := HA23.out.lt
  go_wp2_with fail
  clear c0 c1 c2 c3 c4 c5 c6 c7 c8 c9
  have hxd : w3.Extends w3.drew := Gr.ext_drew (Gr.ext_refl w3)
  have HXD := Lib.hid (Gr.ext_trans HX3.out hxd)
  have HYD := Lib.hid (HA13.out.ext hxd)
  have HZD := Lib.hid (HA23.out.ext hxd)
  clear hxd HA13 HA23
  refine GrF.region D 4 [(false,0),(false,1),(false,2),(true,3)] (by kernel_rfl) (by kernel_rfl) (fun d _ _ _ _ h => by cases d <;> exact h) ?_
  simp only [Gr.pick, List.getElem?_cons_zero, List.getElem?_cons_succ, List.drop_succ_cons, List.drop_zero]
  generalize w3.drew = wd at *
  have hzd : y + 1 < wd.heap.size := HZD.out.lt
  iterate 3
    refine GrF.walk_t ?_ (Or.inl ⟨by rfl, ?_⟩) ?_
    rotate_left
    · intro w' hw'
      obtain ⟨c0, c1, c2, c3, c4, c5, c6, c7, c8, c9⟩ := RCell.ten ((HYD.out.kept (hw'.away y HYD.out.lt HNY.out.1)).one rfl)
      simp only [Nat.zero_add] at c0 c1 c2 c3 c4 c5 c6 c7 c8 c9
      clear hw'
      go_simp
      try with_reducible rfl
    simp only [Act.put, List.setIfInBounds_toArray, List.set_cons_zero, List.set_cons_succ]
  refine GrF.walk_c (fun K hK => ?_)
  go_simp
  refine (HTB.out wd HXD.out).mono ?_
  rintro e w5 ⟨rfl, hL⟩
  have HA25 : Hid (Arr w5 (y + 1) 1 1 (fun _ => (Rc.zero, .slice none 0 0))) := Arr.left hL HZD.out HNY.out.2
  have HE := Lib.hid (fun w9 hg => HFIN.out wd w5 w9 (y + 1) HXD.out hL hg (by have := HYW.out; omega) hzd (by obtain ⟨cur, hc, _⟩ := HA25.out; exact ⟨_, _, hc⟩))
  have hfr := hL.2.fr
  try go_simp
  refine hK.out _ _ (hfr) ?_
  clear hK K
  clear hfr hL HTB HFIN HYD HZD
  refine GrF.walk_nil ?_
  have HSLC : Hid (Slc (((⟨rp, rn, rb, rs, rm, rk, re, true, ru, rd⟩ : Rc), .slice ua rd.length uc) : Pr)) := ⟨ua, uc, rfl⟩
  go_wp2_with (refine wpList_store_rec rfl 28 recsize _ _ rfl (y + 1) 0 0 1 1 _ ((⟨rp, rn, rb, rs, rm, rk, re, true, ru, rd⟩ : Rc), .slice ua rd.length uc) rfl rfl rfl HA25.out (by omega) HSLC.out ?_)
  intro w9 ha9 hg9
  have HP := Lib.hid (HE.out w9 hg9)
  skip
  obtain ⟨d0, d1, d2, d3, d4, d5, d6, d7, d8, d9⟩ := RCell.ten (ha9.one (p := ((⟨rp, rn, rb, rs, rm, rk, re, true, ru, rd⟩ : Rc), .slice ua rd.length uc)) rfl)
  simp only [Nat.zero_add] at d0 d1 d2 d3 d4 d5 d6 d7 d8 d9
  clear ha9 hg9 HSLC
  go_wp2
  refine bodyPost_ret (v := .tuple #[(⟨rp, rn, rb, rs, rm, rk, re, true, ru, rd⟩ : Rc).val (.slice ua rd.length uc), .bool ok.isSome, .int .i64 0]) (by simp [results, Try.results67, go_sem, d0, d1, d2, d3, d4, d5, d6, d7, d8, d9]; try rfl) rfl ?_
  exact HP.out
/-- Store.keep. -/
theorem keep_any (t : Nat) (D : Nat → Prop) (st : Sto) (r : Rc) (ua : Option Addr) (uc : Nat) (w : World) (h : SAt w t D st) (hD : ∀ i, D i → i < w.heap.size) (hi : SM.Inv st) (htl : st.t.length ≤ 1000000) (hu : U8s w (.slice ua r.d.length uc) r.d) (hsep : r.d = [] ∨ ∀ g, (Value.slice ua r.d.length uc).ownBlock = some g → ¬ D g) :
    Calls Try.prog 67 #[.pointer (some ⟨t, 0, none⟩), r.val (.slice ua r.d.length uc)] w (KeepOut w t D st r) := by
  by_cases hr : KM.Right r
  · cases hg : r.g with
    | true => exact keep_tomb t D st r ua uc w h hD hi htl hu hsep hr hg
    | false =>
      by_cases hh : SM.Has st.t r
      · exact keep_gone t D st r ua uc w h hD hi htl hu hsep hr hg hh
      · exact keep_sym t D st r ua uc w h hD hi htl hu hsep hr hg hh
  · exact keep_wrong t D st r ua uc w h hD hi htl hu hsep hr
end Go.Proofs.Ytdbdnfjgmdkneaa
namespace Go.Proofs.Ytdbdnfjgmdkneaa
set_option maxRecDepth 20000
open Go.RowKit Go.Deep Go.Maps
set_option linter.unusedVariables false
/-- v is a slice of the records l, none of whose blocks is one of D. -/
def RecsD (w : World) (D : Nat → Prop) (v : Value) (l : List Rc) : Prop :=
  (l = [] ∧ ∃ a cap, v = .slice a 0 cap) ∨
  ∃ b off cap, v = .slice (some ⟨b, off, none⟩) l.length cap ∧ b < w.heap.size ∧ ¬ D b ∧ ∀ k, k < l.length → ∃ a c, w.rangeAt b (off + k * 10) ((l.getD k Rc.zero).cells (.slice a (l.getD k Rc.zero).d.length c)) ∧ U8s w (.slice a (l.getD k Rc.zero).d.length c) (l.getD k Rc.zero).d ∧ ((l.getD k Rc.zero).d = [] ∨ ∀ g, (Value.slice a (l.getD k Rc.zero).d.length c).ownBlock = some g → ¬ D g ∧ g < w.heap.size)
theorem RecsD.slice {w : World} {D : Nat → Prop} {v : Value} {l : List Rc} (h : RecsD w D v l) : ∃ a cap, v = .slice a l.length cap := by
  rcases h with ⟨rfl, a, cap, rfl⟩ | ⟨b, off, cap, rfl, _⟩
  · exact ⟨_, _, rfl⟩
  · exact ⟨_, _, rfl⟩
theorem RecsD.same {w w' : World} {D : Nat → Prop} {v : Value} {l : List Rc} (h : RecsD w D v l) (hs : w.heap.size ≤ w'.heap.size) (hb : ∀ i, i < w.heap.size → ¬ D i → w'.heap[i]? = w.heap[i]?) : RecsD w' D v l := by
  rcases h with h | ⟨b, off, cap, h1, h2, h3, h4⟩
  · exact .inl h
  · refine .inr ⟨b, off, cap, h1, Nat.lt_of_lt_of_le h2 hs, h3, fun k hk => ?_⟩
    obtain ⟨a, c, h5, h6, h7⟩ := h4 k hk
    refine ⟨a, c, fun j x hj => ?_, h6.same hs (h7.imp id fun h7 g hg => hb g (h7 g hg).2 (h7 g hg).1), h7.imp id fun h7 g hg => ⟨(h7 g hg).1, Nat.lt_of_lt_of_le (h7 g hg).2 hs⟩⟩
    rw [World.cell?_of_block (w := w) (w' := w') (a := ⟨b, off + k * 10 + j, none⟩) (hb b h2 h3)]
    exact h5 j x hj
theorem SAtX.logged {w w2 : World} {t : Nat} {D : Nat → Prop} {st : Sto} {v : Value} {mp : Option Nat} {ps : List Pr} (h : SAtX w t D st v mp ps) {lg : List (List Nat)} {s : Nat} (hl : LAt w2 t [.int .i64 ((st.m : Nat) : Int), v, .map mp] 60 lg s) (hg : w.grownBy w2 (some t)) : SAtX w2 t D { st with lg := lg, s := s } v mp ps ∧ PFr D w w2 := by
  obtain ⟨hap, hbp⟩ := h.apart
  obtain ⟨p, hb, _⟩ := h.cells
  have hst : ∀ T, T ≠ 60 → Still T w w2 := fun T hT => Still.grown hg hb (Ne.symm hT)
  refine ⟨⟨hl, h.here, h.own.kept hg (.inr fun e => (hap t e).1 rfl), h.recs, h.inD, h.data.still hg.size (hst _ (by decide)), h.tombs.same fun b e => ?_⟩, Fr.grown hg (fun g e => by have := Option.some.inj e; subst this; exact h.here), hst _ (by decide), hst _ (by decide)⟩
  subst e
  obtain ⟨_, es, c, hh⟩ := h.tombs.block
  exact hg.block b (Array.getElem?_eq_some_iff.1 hh).1 (by simpa using (hbp b rfl).1)
theorem Left.trans {a b c : World} {t : Nat} {D : Nat → Prop} {st st' : Sto} (h : Left a t D st b) (k : Left b t (Nx D a b) st' c) : Left a t D st' c := Left.next h k
/-- A piece more in the log. -/
theorem app_any (t : Nat) (D : Nat → Prop) (st : Sto) (v : Value) (x : List Nat) (w : World) (h : SAt w t D st) (hu : U8s w v x) (hx : x.length ≤ 65535) (hz : LM.size st.lg ≤ 1000000000) :
    Calls Try.prog 68 #[.pointer (some ⟨t, 0, none⟩), v] w fun e w' => e = .returned (.int .i64 0) ∧ Left w t D { st with lg := st.lg ++ [x] } w' := by
  obtain ⟨v', mp, ps, h⟩ := h
  refine (append15_ok t st.s st.lg v x w h.log hu hx hz).mono ?_
  rintro e w2 ⟨rfl, hl, hg⟩
  obtain ⟨h1, h2⟩ := h.logged hl hg
  exact ⟨rfl, ⟨_, _, _, h1.mono fun i hi => .inl hi⟩, h2⟩
set_option maxHeartbeats 2000000 in
theorem keep_err {st : Sto} {r : Rc} (h : (SM.keepOf st r).2.2 ≠ 0) : (SM.keepOf st r).2.1 = none := by
  unfold SM.keepOf at *
  split
  · rename_i hr
    rw [if_pos hr] at h
    split
    · rename_i hg
      rw [if_pos hg] at h
      exact absurd (bury_err st r) h
    · rename_i hg
      rw [if_neg hg] at h
      unfold SM.addOf at *
      split
      · rfl
      · rename_i h1
        rw [if_neg h1] at h
        split
        · rename_i h2
          rw [if_pos h2] at h
          split
          · rename_i h3
            rw [if_pos h3] at h
            exact absurd rfl h
          · rfl
        · rename_i h2
          rw [if_neg h2] at h
          split
          · rename_i h3
            rw [if_pos h3] at h
            exact absurd rfl h
          · rename_i h3
            rw [if_neg h3] at h
            split
            · rfl
            · rename_i h4
              rw [if_neg h4] at h
              exact absurd rfl h
  · rfl
theorem sput_any (t : Nat) (D : Nat → Prop) (st : Sto) (v : Value) (l : List Rc) (w : World) (h : SAt w t D st) (hD : ∀ i, D i → i < w.heap.size) (hi : SM.Inv st) (hv : RecsD w D v l) (hl : l.length ≤ 1000) (htl : st.t.length ≤ 900000) (hz : LM.size st.lg ≤ 900000000) :
    Calls Try.prog 26 #[.pointer (some ⟨t, 0, none⟩), v] w fun e w' => e = .returned (.int .i64 (((SM.puts st l).2 : Nat) : Int)) ∧ Left w t D (SM.puts st l).1 w' ∧ SM.Inv (SM.puts st l).1 ∧ LM.size (SM.puts st l).1.lg ≤ LM.size st.lg + 90 * l.length ∧ (SM.puts st l).1.t.length ≤ st.t.length + l.length := by
  have HD := Lib.hid hD
  have HRD := Lib.hid hv
  have HSTEP : Hid (∀ st' k, k < l.length → SM.puts st' (l.drop k) = if (SM.keepOf st' (l.getD k Rc.zero)).2.2 = 0 then SM.puts (SM.put1 st' (l.getD k Rc.zero)) (l.drop (k + 1)) else (SM.put1 st' (l.getD k Rc.zero), (SM.keepOf st' (l.getD k Rc.zero)).2.2)) := fun st' k hk => SM.puts_step hk
  have HEND : Hid (∀ st', SM.puts st' (l.drop l.length) = (st', 0)) := fun st' => by rw [List.drop_length]; rfl
  have H0 : Hid (SM.puts st (l.drop 0) = SM.puts st l) := by rw [List.drop_zero]; rfl
  have HSI := Lib.hid hi
  have HS : Hid (Left w t D st w) := Left.ext h (Gr.ext_refl _)
  obtain ⟨a, cap, rfl⟩ := hv.slice
  clear h hD hi hv
  have HPOST : Hid (∀ st' er w', (st', er) = SM.puts st l → Left w t D st' w' → SM.Inv st' → LM.size st'.lg ≤ LM.size st.lg + 90 * l.length → st'.t.length ≤ st.t.length + l.length → (Left w t D (SM.puts st l).1 w' ∧ SM.Inv (SM.puts st l).1 ∧ LM.size (SM.puts st l).1.lg ≤ LM.size st.lg + 90 * l.length ∧ (SM.puts st l).1.t.length ≤ st.t.length + l.length) ∧ (SM.puts st l).2 = er) := fun st' er w' e h1 h2 h3 h4 => by
    rw [← e]; exact ⟨⟨h1, h2, h3, h4⟩, rfl⟩
  obtain ⟨z0, hz0⟩ : ∃ z0, z0 = LM.size st.lg := ⟨_, rfl⟩
  obtain ⟨t0, ht0⟩ : ∃ t0, t0 = st.t.length := ⟨_, rfl⟩
  rw [← hz0] at hz
  rw [← ht0] at htl
  rw [← hz0, ← ht0] at HPOST ⊢
  have HZ0 : Hid (LM.size st.lg ≤ z0 + 90 * 0 ∧ st.t.length ≤ t0 + 0) := by show _ ∧ _; omega
  clear hz0 ht0
  generalize SM.puts st l = R at *
  obtain ⟨n, hn⟩ : ∃ n, n = l.length := ⟨_, rfl⟩
  rw [← hn] at hl HSTEP HEND HPOST ⊢
  have HLN := Lib.hid hn
  clear hn
  have HARG : Hid (∀ (wr : World) k, PFr D w wr → k < n → ∃ b off, a = some ⟨b, off, none⟩ ∧ ∃ ra rc, wr.rangeAt b (off + k * 10) ((l.getD k Rc.zero).cells (.slice ra (l.getD k Rc.zero).d.length rc)) ∧ U8s wr (.slice ra (l.getD k Rc.zero).d.length rc) (l.getD k Rc.zero).d ∧ ((l.getD k Rc.zero).d = [] ∨ ∀ g, (Value.slice ra (l.getD k Rc.zero).d.length rc).ownBlock = some g → ¬ D g ∧ g < w.heap.size)) := fun wr k hf hk => by
    rcases HRD.out with ⟨e, _⟩ | ⟨b, off, cap', e, h2, h3, h4⟩
    · have := HLN.out; rw [e] at this; simp at this; omega
    · have hee := e
      simp only [Value.slice.injEq] at hee
      refine ⟨b, off, hee.1, ?_⟩
      obtain ⟨ra, rc, h5, h6, h7⟩ := h4 k (by rw [← HLN.out]; exact hk)
      refine ⟨ra, rc, fun j x hj => ?_, h6.same hf.fr.size (h7.imp id fun h7 g hg => hf.fr.away g (h7 g hg).2 (h7 g hg).1), h7⟩
      rw [World.cell?_of_block (w := w) (w' := wr) (a := ⟨b, off + k * 10 + j, none⟩) (hf.fr.away b h2 h3)]
      exact h5 j x hj
  clear HRD
  go_enter Try.func26, Try.ntmps26
  go_wp2_with fail
  go_loopw [14] (fun s14 wr => ∃ (k : Nat) (st' : Sto), k ≤ n ∧ s14 = .int .i64 k ∧ Hid (Left w t D st' wr) ∧ Hid (SM.puts st' (l.drop k) = R) ∧ Hid (SM.Inv st') ∧ Hid (LM.size st'.lg ≤ z0 + 90 * k ∧ st'.t.length ≤ t0 + k)) (fun s14 _ => n - (intOf s14).toNat)
  case atStart => exact ⟨0, st, by omega, rfl, HS, H0, HSI, HZ0⟩
  case round =>
    obtain ⟨k, st', hk, rfl, HL, HR, HIN, HZ⟩ := hrel
    by_cases h1 : k < n
    · obtain ⟨b, off, rfl, ra, rc, hr, hu, hsep⟩ := HARG.out wr k HL.out.2 h1
      have hst := HSTEP.out st' k h1
      rw [HR.out] at hst
      have HST := Lib.hid hst
      have HU := Lib.hid hu
      have HSEP := Lib.hid hsep
      clear hst hu hsep HR
      generalize l.getD k Rc.zero = r at *
      have h8 := HU.out.lt
      have hin := SM.put1_inv HIN.out h8
      have HNI := Lib.hid hin
      have HKE : Hid ((SM.keepOf st' r).2.2 ≠ 0 → (SM.keepOf st' r).2.1 = none) := fun h => keep_err h
      have HKR : Hid (∀ q, (SM.keepOf st' r).2.1 = some q → KM.Right q) := fun q hq => (SM.kept_right HIN.out h8 hq).1
      have HP1 : Hid (SM.put1 st' r = SM.addLog (SM.keepOf st' r).1 (SM.keepOf st' r).2.1) := SM.put1_eq st' r
      have HKK : Hid (∀ w1 : World, wr.Extends w1 → Calls Try.prog 67 #[.pointer (some ⟨t, 0, none⟩), r.val (.slice ra r.d.length rc)] w1 (KeepOut w1 t (Nx D w wr) st' r)) := fun w1 hx => by
        refine keep_any t (Nx D w wr) st' r ra rc w1 (HL.out.1.ext hx) (fun i hd => ?_) HIN.out (by have := HZ.out.2; omega) (HU.out.ext hx) (HSEP.out.imp id fun hsp g hg hd => ?_)
        · have e1 := hx.size
          have e2 := HL.out.2.fr.size
          rcases hd with hd | hd
          · have := HD.out i hd; omega
          · omega
        · obtain ⟨g1, g2⟩ := hsp g hg
          rcases hd with hd | hd
          · exact g1 hd
          · omega
      have HZK : Hid (LM.size (SM.keepOf st' r).1.lg ≤ 1000000000) := by
        have e := (SM.keep_inv HIN.out h8).2.lg
        have := HZ.out.1
        show _ ≤ _
        rw [e]; omega
      clear h8 hin HU HSEP HARG HIN
      obtain ⟨rp, rn, rb, rs, rm, rk, re, rg, ru, rd⟩ := r
      obtain ⟨c0, c1, c2, c3, c4, c5, c6, c7, c8, c9⟩ := RCell.ten hr
      simp only at c0 c1 c2 c3 c4 c5 c6 c7 c8 c9
      clear hr
      unfold KeepOut at HKK
      generalize hok : (SM.keepOf st' ⟨rp, rn, rb, rs, rm, rk, re, rg, ru, rd⟩).2.1 = ok at *
      generalize her : (SM.keepOf st' ⟨rp, rn, rb, rs, rm, rk, re, rg, ru, rd⟩).2.2 = er at *
      clear hok her
      generalize SM.put1 st' ⟨rp, rn, rb, rs, rm, rk, re, rg, ru, rd⟩ = st2 at *
      generalize (SM.keepOf st' ⟨rp, rn, rb, rs, rm, rk, re, rg, ru, rd⟩).1 = st1 at *
      go_wp2_with fail
      generalize hw1 : World.alloc wr _ = w1
      have hx1 : wr.Extends w1 := by subst hw1; exact ext_alloc _ _
      have hbx : w1.rangeAt wr.heap.size 0 (Rc.cells ⟨rp, rn, rb, rs, rm, rk, re, rg, ru, rd⟩ (.slice ra rd.length rc)) := by subst hw1; exact box_rec wr 28 ⟨rp, rn, rb, rs, rm, rk, re, rg, ru, rd⟩ _
      have HX1 := Lib.hid hx1
      clear hw1 hx1 c0 c1 c2 c3 c4 c5 c6 c7 c8 c9
      generalize wr.heap.size = y at *
      obtain ⟨c0, c1, c2, c3, c4, c5, c6, c7, c8, c9⟩ := RCell.ten hbx
      simp only [Nat.zero_add] at c0 c1 c2 c3 c4 c5 c6 c7 c8 c9
      clear hbx
      go_wp2_with fail
      refine (HKK.out w1 HX1.out).mono ?_
      rintro e w2 ⟨⟨qp, qn, qb, qs, qm, qk, qe, qg, qu, qd⟩, qa, qc, rfl, hL2, hq⟩
      have HL2 : Hid (Left w t D st1 w2) := by
        have h1 : Left w t D st' w1 := HL.out.trans (Left.ext HL.out.1 HX1.out)
        refine h1.trans ⟨hL2.1.mono fun i hi => ?_, hL2.2.mono fun i hi => ?_⟩
        · have := HX1.out.size
          rcases hi with hi | hi
          · left
            rcases hi with hi | hi
            · exact .inl hi
            · exact .inr (by omega)
          · exact .inr hi
        · have := HX1.out.size
          rcases hi with hi | hi
          · exact .inl hi
          · exact .inr (by omega)
      have HQ := Lib.hid hq
      clear hL2 hq HKK HX1 HL c0 c1 c2 c3 c4 c5 c6 c7 c8 c9
      simp only [Rc.val]
      have hkn := Nat.succ_le_of_lt h1
      by_cases he : er = 0
      · subst he
        have HR2 : Hid (SM.puts st2 (l.drop (k + 1)) = R) := by rw [HST.out, if_pos rfl]; rfl
        have HZ2 : Hid (LM.size st2.lg ≤ z0 + 90 * (k + 1) ∧ st2.t.length ≤ t0 + (k + 1)) := by
          have := HZ.out
          obtain ⟨_, _, _, h4, h5⟩ := HNI.out
          show _ ∧ _
          omega
        cases ok with
        | none =>
          rw [show (none : Option Rc).isSome = false from rfl]
          have e2 : st2 = st1 := HP1.out
          subst e2
          have HLX : Hid (∀ w3, w2.Extends w3 → Left w t D st2 w3) := fun w3 hx => HL2.out.trans (Left.ext HL2.out.1 hx)
          clear HL2 HP1
          go_wp2
          go_roundw
          case rel => exact ⟨k + 1, st2, by omega, by go_num, HLX.out _ (ext_alloc _ _), HR2, HNI.out.1, HZ2⟩
          case measure => simp [intOf]; omega
        | some q =>
          rw [show (some q).isSome = true from rfl]
          obtain ⟨hqq, hu2⟩ := HQ.out q rfl
          subst hqq
          have HRQ := Lib.hid (HKR.out _ rfl)
          have HU2 := Lib.hid hu2
          have e2 : st2 = { st1 with lg := st1.lg ++ [KM.bytes ⟨qp, qn, qb, qs, qm, qk, qe, qg, qu, qd⟩] } := HP1.out
          have HE2 := Lib.hid e2
          clear hu2 HQ HKR HKE HP1 e2
          go_wp2_with fail
          generalize hw3 : World.alloc w2 _ = w3
          have hx3 : w2.Extends w3 := by subst hw3; exact ext_alloc _ _
          have hbx : w3.rangeAt w2.heap.size 0 (Rc.cells ⟨qp, qn, qb, qs, qm, qk, qe, qg, qu, qd⟩ (.slice qa qd.length qc)) := by subst hw3; exact box_rec w2 28 ⟨qp, qn, qb, qs, qm, qk, qe, qg, qu, qd⟩ _
          have HXD := Lib.hid (Gr.ext_drew hx3)
          have HBD : Hid (w3.drew.rangeAt w2.heap.size 0 (Rc.cells ⟨qp, qn, qb, qs, qm, qk, qe, qg, qu, qd⟩ (.slice qa qd.length qc))) := hbx
          clear hw3 hx3 hbx
          generalize w2.heap.size = z at *
          refine Gr.region 5 [(false,0),(false,1),(false,2),(false,3),(true,4)] (by kernel_rfl) (by kernel_rfl) (fun d _ _ _ _ h => by cases d <;> exact h) ?_
          simp only [Gr.pick, List.getElem?_cons_zero, List.getElem?_cons_succ, List.drop_succ_cons, List.drop_zero]
          generalize w3.drew = wd at *
          iterate 4
            refine Gr.walk_t ?_ (Or.inl ⟨by rfl, ?_⟩) ?_
            rotate_left
            · intro w' hw'
              obtain ⟨c0, c1, c2, c3, c4, c5, c6, c7, c8, c9⟩ := RCell.ten (rangeAt_ext HBD.out hw')
              simp only [Nat.zero_add] at c0 c1 c2 c3 c4 c5 c6 c7 c8 c9
              clear hw'
              go_simp
              try with_reducible rfl
            simp only [Act.put, List.setIfInBounds_toArray, List.set_cons_zero, List.set_cons_succ]
          refine Gr.walk_c (fun K hK => ?_)
          go_simp
          refine (bytes14_yes ⟨qp, qn, qb, qs, qm, qk, qe, qg, qu, qd⟩ qa qc wd HRQ.out (HU2.out.ext HXD.out)).mono ?_
          rintro e w4 ⟨u, rfl, hub, hx4⟩
          have HX4 := Lib.hid (Gr.ext_trans HXD.out hx4)
          have HUB := Lib.hid hub
          try go_simp
          refine hK.out _ _ (hx4) ?_
          clear hK K
          clear hx4 hub HBD HU2 HXD
          have HL4 : Hid (Left w t D st1 w4) := HL2.out.trans (Left.ext HL2.out.1 HX4.out)
          have HBL : Hid ((KM.bytes ⟨qp, qn, qb, qs, qm, qk, qe, qg, qu, qd⟩).length ≤ 65535) := Nat.le_trans (SM.bytes_len HRQ.out) (by decide)
          obtain ⟨ua, uc, rfl, _, _⟩ := HUB.out.slice
          refine Gr.walk_nil ?_
          clear HL2
          go_wp2_with fail
          refine (app_any t (Nx D w w4) st1 _ (KM.bytes ⟨qp, qn, qb, qs, qm, qk, qe, qg, qu, qd⟩) w4 HL4.out.1 HUB.out HBL.out HZK.out).mono ?_
          rintro e w5 ⟨rfl, hL5⟩
          rw [← HE2.out] at hL5
          have HL5 : Hid (Left w t D st2 w5) := HL4.out.trans hL5
          clear hL5 HL4 HUB HBL HE2 HX4 HZK HRQ
          go_wp2
          go_roundw
          case rel => exact ⟨k + 1, st2, by omega, by go_num, HL5, HR2, HNI.out.1, HZ2⟩
          case measure => simp [intOf]; omega
      · have hok : ok = none := HKE.out he
        subst hok
        rw [show (none : Option Rc).isSome = false from rfl]
        have e2 : st2 = st1 := HP1.out
        subst e2
        have hne : ¬ ((er : Nat) : Int) = 0 := by omega
        have HLX : Hid (∀ w3, w2.Extends w3 → (Left w t D R.1 w3 ∧ SM.Inv R.1 ∧ LM.size R.1.lg ≤ z0 + 90 * n ∧ R.1.t.length ≤ t0 + n) ∧ R.2 = er) := fun w3 hx => by
          obtain ⟨h1, _, _, h4, h5⟩ := HNI.out
          have := HZ.out
          refine HPOST.out st2 er w3 ?_ (HL2.out.trans (Left.ext HL2.out.1 hx)) h1 (by omega) (by omega)
          rw [HST.out, if_neg he]
        clear HL2 HP1 he
        go_wp2
        go_ret
        obtain ⟨h1, h2⟩ := HLX.out _ (ext_alloc _ _)
        exact ⟨by rw [h2]; rfl, h1⟩
    · obtain rfl : k = n := by omega
      have e := HEND.out st'
      rw [HR.out] at e
      have HF := Lib.hid (HPOST.out st' 0 wr e.symm HL.out HIN.out HZ.out.1 HZ.out.2)
      clear e HPOST HEND HSTEP HARG
      go_wp2
      go_ret
      exact ⟨by rw [HF.out.2]; rfl, HF.out.1⟩
end Go.Proofs.Ytdbdnfjgmdkneaa
namespace Go.Proofs.Ytdbdnfjgmdkneaa
set_option maxRecDepth 20000
open Go.RowKit Go.Deep Go.Maps
set_option linter.unusedVariables false
/-- An id: Peer, Number. -/
abbrev Ip := Int × Int
def zi : Ip := (0, 0)
def idc (x : Ip) : List Value := [.int .i64 x.1, .int .i64 x.2]
def fl2 (l : List Ip) : List Value := l.flatMap idc
theorem fl2_length : ∀ l : List Ip, (fl2 l).length = l.length * 2
  | [] => rfl
  | x :: l => by show (idc x ++ fl2 l).length = _; rw [List.length_append, fl2_length l, List.length_cons]; show 2 + _ = _; omega
theorem fl2_at : ∀ (l : List Ip) (k i : Nat), k < l.length → i < 2 → (fl2 l)[k * 2 + i]? = (idc (l.getD k zi))[i]?
  | x :: l, 0, i, _, hi => by
    show (idc x ++ fl2 l)[_]? = _
    rw [Nat.zero_mul, Nat.zero_add, List.getElem?_append_left (by show i < 2; exact hi)]; rfl
  | x :: l, k + 1, i, hk, hi => by
    show (idc x ++ fl2 l)[_]? = _
    rw [List.getElem?_append_right (by show 2 ≤ _; omega), show (k + 1) * 2 + i - (idc x).length = k * 2 + i by show (k + 1) * 2 + i - 2 = _; omega, fl2_at l k i (by simpa using hk) hi]
    rfl
theorem fl2_snoc (l : List Ip) (x : Ip) : fl2 (l ++ [x]) = fl2 l ++ idc x := by simp [fl2]
theorem fl2_one (l : List Ip) : ∀ v ∈ fl2 l, v.oneCell' = true := fun v hv => by
  obtain ⟨x, _, hv⟩ := List.mem_flatMap.1 hv
  simp only [idc, List.mem_cons, List.not_mem_nil, or_false] at hv
  rcases hv with rfl | rfl <;> rfl
/-- v is a slice that reads as these ids. -/
def IdsAt (w : World) (v : Value) (l : List Ip) : Prop :=
  (l = [] ∧ ∃ a cap, v = .slice a 0 cap) ∨
  ∃ b off cap, v = .slice (some ⟨b, off, none⟩) l.length cap ∧ l.length ≤ cap ∧ l.length ≤ maxLen ∧ b < w.heap.size ∧ ∀ k, k < l.length → w.cell? ⟨b, off + k * 2, none⟩ = some (.int .i64 (l.getD k zi).1) ∧ w.cell? ⟨b, off + k * 2 + 1, none⟩ = some (.int .i64 (l.getD k zi).2)
theorem IdsAt.ext {w w' : World} {v : Value} {l : List Ip} (h : IdsAt w v l) (hx : w.Extends w') : IdsAt w' v l := by
  rcases h with h | ⟨b, off, cap, h1, h2, h3, h4, h5⟩
  · exact .inl h
  · exact .inr ⟨b, off, cap, h1, h2, h3, Nat.lt_of_lt_of_le h4 hx.size, fun k hk => ⟨hx.cell_of (h5 k hk).1, hx.cell_of (h5 k hk).2⟩⟩
theorem IdsAt.slice {w : World} {v : Value} {l : List Ip} (h : IdsAt w v l) : ∃ a cap, v = .slice a l.length cap := by
  rcases h with ⟨rfl, a, cap, rfl⟩ | ⟨b, off, cap, rfl, _⟩
  · exact ⟨a, cap, rfl⟩
  · exact ⟨_, cap, rfl⟩
/-- v is a slice of a call's own of these ids. -/
def OwnI (w : World) (B : Nat) (v : Value) (l : List Ip) : Prop := w.ownsRow B 23 2 v l.length (fl2 l)
theorem OwnI.nil (w : World) (B : Nat) : OwnI w B (.slice none 0 0) [] := World.ownsRow_nil _ _ _ _
theorem OwnI.kinds {w : World} {B : Nat} {v : Value} {l : List Ip} (h : OwnI w B v l) : (v = .slice none 0 0 ∧ l = []) ∨ ∃ g cap, v = .slice (some ⟨g, 0, none⟩) l.length cap := by
  rcases h.2 with ⟨rfl, h0⟩ | ⟨g, cap, cur, rfl, _⟩
  · exact .inl ⟨rfl, List.eq_nil_of_length_eq_zero h0⟩
  · exact .inr ⟨g, cap, rfl⟩
theorem OwnI.slice {w : World} {B : Nat} {v : Value} {l : List Ip} (h : OwnI w B v l) : ∃ a cap, v = .slice a l.length cap := by
  rcases h.kinds with ⟨rfl, rfl⟩ | ⟨g, cap, rfl⟩
  · exact ⟨_, _, rfl⟩
  · exact ⟨_, _, rfl⟩
theorem OwnI.ext {w w' : World} {B : Nat} {v : Value} {l : List Ip} (h : OwnI w B v l) (hx : w.Extends w') : OwnI w' B v l := by
  have hg : w.grownBy w' none := ⟨hx.os, hx.tape, hx.output, hx.size, fun i hi _ => hx.block i hi⟩
  exact World.ownsRow.kept h hg (by cases v.ownBlock <;> simp)
theorem OwnI.at {w : World} {B : Nat} {v : Value} {l : List Ip} (h : OwnI w B v l) : IdsAt w v l := by
  rcases h.2 with ⟨rfl, h0⟩ | ⟨g, cap, cur, rfl, hbg, hg, hnc, hcm, hcs, htake⟩
  · exact .inl ⟨List.eq_nil_of_length_eq_zero h0, none, 0, rfl⟩
  · refine .inr ⟨g, 0, cap, rfl, hnc, Nat.le_trans hnc hcm, (Array.getElem?_eq_some_iff.1 hg).1, fun k hk => ?_⟩
    have e : ∀ i v, i < 2 → (idc (l.getD k zi))[i]? = some v → w.cell? ⟨g, k * 2 + i, none⟩ = some v := fun i v hi hv => by
      have := World.ownsRow.cells h (g := g) rfl (k * 2 + i) v (by rw [fl2_at l k i hk hi]; exact hv)
      rw [Addr.add_mid, Nat.zero_add] at this
      exact this
    exact ⟨by have := e 0 _ (by omega) rfl; simpa using this, by have := e 1 _ (by omega) rfl; simpa using this⟩
/-- Block g is an array of cap ids, of which the first n are f's. -/
def Arr2 (w : World) (g cap n : Nat) (f : Nat → Ip) : Prop := ∃ cur : List Value, w.heap[g]? = some (.cells cur.toArray 23 (0, 0)) ∧ cur.length = cap * 2 ∧ n ≤ cap ∧ cap ≤ maxLen ∧ ∀ k, k < n → ∀ i, i < 2 → cur[k * 2 + i]? = (idc (f k))[i]?
theorem OwnI.arr {w : World} {B g n cap : Nat} {l : List Ip} (h : OwnI w B (.slice (some ⟨g, 0, none⟩) n cap) l) : Arr2 w g cap n (fun k => l.getD k zi) ∧ n = l.length ∧ B ≤ g := by
  rcases h.2 with ⟨e, _⟩ | ⟨g', cap', cur, e, hb, hg, hnc, hcm, hcs, htake⟩
  · cases e
  · cases e
    refine ⟨⟨cur.toList, hg, by simpa using hcs, hnc, hcm, fun k hk i hi => ?_⟩, rfl, hb⟩
    rw [← fl2_at l k i hk hi, ← htake, List.getElem?_take, if_pos (by omega)]
theorem Arr2.lt {w : World} {g cap n : Nat} {f : Nat → Ip} (h : Arr2 w g cap n f) : g < w.heap.size := by
  obtain ⟨cur, h1, _⟩ := h
  exact (Array.getElem?_eq_some_iff.1 h1).1
theorem Arr2.own {w : World} {B g cap n m : Nat} {f : Nat → Ip} (h : Arr2 w g cap n f) (hB : B ≤ g) (hm : m ≤ n) {l : List Ip} (hl : l.length = m) (hf : ∀ k, k < m → f k = l.getD k zi) : OwnI w B (.slice (some ⟨g, 0, none⟩) m cap) l := by
  obtain ⟨cur, h1, h2, h3, h4, h5⟩ := h
  subst hl
  refine ⟨by rw [fl2_length], .inr ⟨g, cap, cur.toArray, rfl, hB, h1, by omega, h4, by simpa using h2, ?_⟩⟩
  rw [List.toList_toArray]
  apply List.ext_getElem?
  intro j
  rcases Nat.lt_or_ge j (l.length * 2) with hj | hj
  · have e : j = j / 2 * 2 + j % 2 := by omega
    rw [List.getElem?_take, if_pos hj, e, h5 (j / 2) (by omega) (j % 2) (by omega), fl2_at l (j / 2) (j % 2) (by omega) (by omega), hf _ (by omega)]
  · rw [List.getElem?_eq_none (by rw [List.length_take]; omega), List.getElem?_eq_none (by rw [fl2_length]; omega)]
theorem Arr2.two {w : World} {g cap n : Nat} {f : Nat → Ip} (h : Arr2 w g cap n f) {k : Nat} (hk : k < n) : w.cell? ⟨g, k * 2, none⟩ = some (.int .i64 (f k).1) ∧ w.cell? ⟨g, k * 2 + 1, none⟩ = some (.int .i64 (f k).2) := by
  obtain ⟨cur, h1, h2, h3, h4, h5⟩ := h
  refine ⟨?_, ?_⟩
  · rw [cell_of_row _ _ _ _ _ _ h1, List.getElem?_toArray]
    have := h5 k hk 0 (by omega)
    simpa [idc] using this
  · rw [cell_of_row _ _ _ _ _ _ h1, List.getElem?_toArray]
    have := h5 k hk 1 (by omega)
    simpa [idc] using this
theorem Arr2.frozen {w : World} {g cap n : Nat} {f : Nat → Ip} (h : Arr2 w g cap n f) (o : Nat) : w.frozen? ⟨g, o, none⟩ = false := by
  obtain ⟨cur, h1, _⟩ := h
  exact frozen_of_row _ _ _ _ _ h1
theorem Arr2.kept {w w' : World} {g cap n : Nat} {f : Nat → Ip} (h : Arr2 w g cap n f) (hg : w'.heap[g]? = w.heap[g]?) : Arr2 w' g cap n f := by
  obtain ⟨cur, h1, hr⟩ := h
  exact ⟨cur, hg.trans h1, hr⟩
theorem Arr2.ext {w w' : World} {g cap n : Nat} {f : Nat → Ip} (h : Arr2 w g cap n f) (hx : w.Extends w') : Arr2 w' g cap n f := h.kept (hx.block g h.lt)
def upi (f : Nat → Ip) (i : Nat) (p : Ip) : Nat → Ip := fun k => if k = i then p else f k
theorem Arr2.put {w : World} {g cap n i : Nat} {f : Nat → Ip} (h : Arr2 w g cap n f) (hi : i < n) (p : Ip) {cur : List Value} (hc : w.heap[g]? = some (.cells cur.toArray 23 (0, 0))) : Arr2 (w.setRow g (cur.take (i * 2) ++ idc p ++ cur.drop (i * 2 + 2)).toArray) g cap n (upi f i p) := by
  obtain ⟨cur', h1, h2, h3, h4, h5⟩ := h
  rw [hc] at h1
  simp only [Option.some.injEq, Obj.cells.injEq, and_true] at h1
  have e : cur = cur' := by simpa using h1
  subst e
  have hp : (idc p).length = 2 := rfl
  refine ⟨_, setRow_heap w g _ _ _ _ hc, ?_, h3, h4, fun k hk j hj => ?_⟩
  · simp only [List.length_append, List.length_take, List.length_drop, hp]; omega
  · unfold upi
    rcases Nat.lt_trichotomy k i with hki | hki | hki
    · rw [if_neg (by omega), List.append_assoc, List.getElem?_append_left (by rw [List.length_take]; omega), List.getElem?_take, if_pos (by omega)]
      exact h5 k hk j hj
    · subst hki
      rw [if_pos rfl, List.append_assoc, List.getElem?_append_right (by rw [List.length_take]; omega), List.getElem?_append_left (by rw [List.length_take, hp]; omega), List.length_take]
      congr 1; omega
    · rw [if_neg (by omega), List.getElem?_append_right (by rw [List.length_append, List.length_take, hp]; omega), List.getElem?_drop]
      rw [← h5 k hk j hj]
      congr 1
      rw [List.length_append, List.length_take, hp]; omega
/-- The id stored at i of an array. -/
theorem wpList_store_id {P : Program} {ops : Array Oper} {rest : List Oper} {o : Oper} {a : Act} {w : World} {Q : Exit → Act → World → Prop} (hgd : o.guard = none) (ty : TypeId) (hty : (P.info? ty).map (·.size) = some 2) (x y : Operand) (ho : o.op = .store ty x y)
    (g off i cap n : Nat) (f : Nat → Ip) (p : Ip) (hx : a.eval x = .pointer (some ⟨g, off, none⟩)) (hoff : off = i * 2) (hy : a.eval y = .agg #[.int .i64 p.1, .int .i64 p.2]) (hA : Arr2 w g cap n f) (hi : i < n)
    (h : ∀ w', Arr2 w' g cap n (upi f i p) → w.grownBy w' (some g) → wpList P ops Q rest (a.put o.dst undef) w') : wpList P ops Q (o :: rest) a w := by
  refine wpList_plain hgd fun K hK => ?_
  obtain ⟨cur, h1, h2, h3, h4, h5⟩ := id hA
  have hst := run_storeCells_at P g off 23 (idc p) 0 cur.toArray w h1 (by show off + 0 + 2 ≤ _; simp; omega) (fun v hv => fl2_one [p] v (by simpa [fl2] using hv))
  have hp : (idc p).length = 2 := rfl
  simp only [Nat.add_zero, hp] at hst
  have hrun : (storeVar ty ⟨g, off, none⟩ (.agg #[.int .i64 p.1, .int .i64 p.2])).run P w = .ok () (w.setRow g (cur.take off ++ idc p ++ cur.drop (off + 2)).toArray) := by
    cases hq : P.info? ty with
    | none => simp [hq] at hty
    | some t =>
      have hs' : t.size = 2 := by simpa [hq] using hty
      have hvc : (Value.agg #[.int .i64 p.1, .int .i64 p.2]).cells = (idc p).toArray := rfl
      simp [storeVar, sizeOf, typeInfo, hq, hvc, hp, hs', hst]
  unfold Oper.wp execOp
  simp only [ho, hx, hy, Instr.storeAt, Instr.sureAddr, Sem.run_bind, Sem.run_pure, Result.andThen_ok, hrun]
  exact hK _ _ (h _ (by subst hoff; exact hA.put hi p h1) (grown_setRow _ _ _))
theorem idinfo : (Try.prog.info? 23).map (fun i => (i.zero, i.size, i.bytes)) = some (some (.agg #[.int .i64 0, .int .i64 0]), 2, 16) := by kernel_rfl
theorem idsize : (Try.prog.info? 23).map (·.size) = some 2 := by kernel_rfl
theorem idUnder : Try.prog.underlying 68 = some (.slice 23) := Try.underlying68
theorem idZero (w : World) : (zeroValue 23).run Try.prog w = .ok (.agg #[.int .i64 0, .int .i64 0]) w := by
  obtain ⟨i, hi, hz, _⟩ := info_parts idinfo
  simp [zeroValue, typeInfo, hi, hz]
theorem Arr2.cleared {w : World} {g cap n i : Nat} {f : Nat → Ip} (h : Arr2 w g cap n f) (hi : i < n) (c : Nat) : ∃ w', (∀ ty, (Builtin.clear_ #[68] ty #[.slice (some ⟨g, i * 2, none⟩) (n - i) c]).run Try.prog w = .ok (.tuple #[]) w') ∧ Arr2 w' g cap i f ∧ w.grownBy w' (some g) := by
  obtain ⟨cur, h1, h2, h3, h4, h5⟩ := h
  have hz2 : (Value.agg #[.int .i64 0, .int .i64 0]).cells.size = 2 := rfl
  refine ⟨_, fun ty => run_clear_wide w 68 23 ty (.agg #[.int .i64 0, .int .i64 0]) idUnder idZero g (i * 2) (n - i) c cur.toArray _ (by omega) h1 (by rw [hz2]; simp; omega) (by decide), ?_, grown_setRow _ _ _⟩
  refine ⟨_, setRow_heap w g _ _ _ _ h1, ?_, by omega, h4, fun k hk j hj => ?_⟩
  · rw [hz2]
    simp only [List.length_append, List.length_take, List.length_drop, Array.length_toList, size_zeroCells, hz2]; omega
  · rw [List.toList_toArray, List.append_assoc, List.getElem?_append_left (by rw [List.length_take]; omega), List.getElem?_take, if_pos (by omega)]
    exact h5 k (by omega) j hj
theorem elemId : Try.prog.underlying 68 = some (.slice (Try.prog.elem 68)) := by kernel_rfl
theorem sizeId (w : World) : (sizeOf (Try.prog.elem 68)).run Try.prog w = .ok 2 w := by
  obtain ⟨i, hi, _, hs, _⟩ := info_parts idinfo
  have e : Try.prog.elem 68 = 23 := by kernel_rfl
  rw [e]
  simp [sizeOf, typeInfo, hi, hs]
theorem cuti_to (g len cap h : Nat) (hh : h ≤ cap) (w' : World) : (Instr.slice 68 (.slice (some ⟨g, 0, none⟩) len cap) none (some (.int .i64 (h : Nat))) none).run Try.prog w' = .ok (.slice (some ⟨g, 0, none⟩) h cap) w' := by
  rw [run_slice_h (P := Try.prog) w' 68 _ len cap elemId .i64 ((h : Nat) : Int) (by omega) (by omega), sizeId]
  simp only [Result.andThen_ok, Int.toNat_natCast, sliced, Nat.sub_zero, Nat.zero_mul]
  split <;> simp [Addr.add_mid]
theorem cuti_from (g len cap l : Nat) (hl : l < len) (hc : len ≤ cap) (w' : World) : (Instr.slice 68 (.slice (some ⟨g, 0, none⟩) len cap) (some (.int .i64 (l : Nat))) none none).run Try.prog w' = .ok (.slice (some ⟨g, l * 2, none⟩) (len - l) (cap - l)) w' := by
  rw [run_slice_l (P := Try.prog) w' 68 _ len cap elemId .i64 ((l : Nat) : Int) (by omega) (by omega), sizeId]
  simp [Result.andThen_ok, sliced, if_neg (show ¬ cap = l by omega), Addr.add_mid]
namespace SM
/-- The first k of l, of neighbours that are alike the first alone. -/
def dd (l : List Ip) : Nat → List Ip
  | 0 => []
  | k + 1 => if k = 0 ∨ l.getD k zi ≠ l.getD (k - 1) zi then dd l k ++ [l.getD k zi] else dd l k
def comp (l : List Ip) : List Ip := dd l l.length
theorem dd_le (l : List Ip) : ∀ k, (dd l k).length ≤ k
  | 0 => Nat.le_refl _
  | k + 1 => by
    have := dd_le l k
    unfold dd
    split
    · rw [List.length_append]; show _ + 1 ≤ _; omega
    · omega
theorem dd_last (l : List Ip) : ∀ k, 0 < k → 0 < (dd l k).length ∧ (dd l k).getD ((dd l k).length - 1) zi = l.getD (k - 1) zi
  | k + 1, _ => by
    unfold dd
    split
    · refine ⟨by rw [List.length_append]; show 0 < _ + 1; omega, ?_⟩
      rw [List.length_append, List.getD_eq_getElem?_getD, List.getElem?_append_right (by show _ ≤ _ + 1 - 1; omega)]
      show ([l.getD k zi][_ + 1 - 1 - _]?).getD zi = _
      rw [Nat.add_sub_cancel, Nat.sub_self]; rfl
    · rename_i h
      have hk : 0 < k := by omega
      obtain ⟨h1, h2⟩ := dd_last l k hk
      refine ⟨h1, ?_⟩
      rw [h2, Nat.add_sub_cancel]
      by_cases e : l.getD k zi = l.getD (k - 1) zi
      · exact e.symm
      · exact absurd (.inr e) h
theorem dd_first {l : List Ip} : ∀ k, k ≤ l.length → (∀ j, 0 < j → j < k → l.getD j zi ≠ l.getD (j - 1) zi) → dd l k = l.take k
  | 0, _, _ => rfl
  | k + 1, hk, h => by
    have hd : k = 0 ∨ l.getD k zi ≠ l.getD (k - 1) zi := by
      rcases Nat.eq_zero_or_pos k with h0 | h0
      · exact .inl h0
      · exact .inr (h k h0 (by omega))
    rw [dd, if_pos hd, dd_first k (by omega) (fun j h1 h2 => h j h1 (by omega)), List.take_add_one, List.getElem?_eq_getElem (by omega), List.getD_eq_getElem?_getD, List.getElem?_eq_getElem (by omega)]
    rfl
end SM
end Go.Proofs.Ytdbdnfjgmdkneaa
