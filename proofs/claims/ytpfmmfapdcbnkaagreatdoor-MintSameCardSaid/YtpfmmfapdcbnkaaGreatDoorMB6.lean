/- In one text: FldRaise, FldInv, Eqn, EqnPlus, Sys. -/
import Derived.Laws.Rows
import Derived.WalkSpells
import Derived.Test.YtpfmmfapdcbnkaaGreatDoorMB3
import Derived.Test.YtpfmmfapdcbnkaaGreatDoorMB4
namespace Go.Proofs.YtpfmmfapdcbnkaaGreatDoor
set_option maxRecDepth 20000
open Go.RowKit
set_option maxHeartbeats 400000 in
theorem raise_any (a n : Nat) (ha : a < 256) (hn : n < 256) (w : World) :
    Calls Tryz.prog 118 #[.int .u8 a, .int .i64 n] w fun e w' => e = .returned (.int .u8 (FM.pw a n : Nat)) ∧ w = w' := by
  have HF : Hid (FM.rloop 8 1 a n = FM.pw a n) := by
    show _ = _
    rw [FM.rloop_eq 8 1 a n (by omega) ha hn, FM.tm_one_left _ (FM.pw_lt a _ ha)]
  go_enter Tryz.func118, Tryz.ntmps118
  go_wp2
  go_loop [0, 1, 5] (fun x y z => ∃ k p a' n' : Nat, k ≤ 8 ∧ p < 256 ∧ a' < 256 ∧ n' < 2 ^ k ∧ x = .int .u8 a' ∧ y = .int .i64 n' ∧ z = .int .u8 p ∧ Hid (FM.rloop k p a' n' = FM.rloop 8 1 a n)) (fun _ y _ => (intOf y).toNat)
  case atStart => exact ⟨8, 1, a, n, by omega, by omega, ha, hn, rfl, rfl, rfl, rfl⟩
  case round =>
    obtain ⟨k, p, a', n', hk, hp, ha', hn', rfl, rfl, rfl, H⟩ := hrel
    by_cases h0 : n' = 0
    · subst h0
      go_wp2
      go_ret
      exact ⟨retu8 (by rw [← HF.out, ← H.out, FM.rloop_zero]), rfl⟩
    · have e0 : 0 < n' := by omega
      obtain ⟨k, rfl⟩ : ∃ j, k = j + 1 := ⟨k - 1, by
        have : k ≠ 0 := by intro h; subst h; simp at hn'; omega
        omega⟩
      have hb256 : n' < 256 := Nat.lt_of_lt_of_le hn' (Nat.pow_le_pow_right (by omega) hk)
      have hb2 : Hid (n' / 2 < 2 ^ k) := by rw [Nat.pow_succ] at hn'; show _ < _; omega
      have e1 := i64_and1 n' (by omega)
      have hd := FM.tm_lt a' a' ha'
      have hx := FM.tm_lt p a' hp
      clear hn'
      by_cases h1 : n' % 2 = 1
      · rw [h1] at e1
        go_wp2_with fail
        refine (times_any _ _ hp ha' _).mono ?_
        rintro e w' ⟨rfl, rfl⟩
        go_wp2_with fail
        refine (times_any _ _ ha' ha' _).mono ?_
        rintro e w' ⟨rfl, rfl⟩
        go_wp2
        go_round
        case rel => exact ⟨k, FM.tm p a', FM.tm a' a', n' / 2, by omega, hx, hd, hb2.out, rfl, by go_num, rfl, by rw [← H.out]; simp [FM.rloop, h1, Hid]⟩
        case measure => simp [intOf]; omega
      · have h2 : n' % 2 = 0 := by omega
        rw [h2] at e1
        go_wp2_with fail
        refine (times_any _ _ ha' ha' _).mono ?_
        rintro e w' ⟨rfl, rfl⟩
        go_wp2
        go_round
        case rel => exact ⟨k, p, FM.tm a' a', n' / 2, by omega, hp, hd, hb2.out, rfl, by go_num, rfl, by rw [← H.out]; simp [FM.rloop, h1, Hid]⟩
        case measure => simp [intOf]; omega
end Go.Proofs.YtpfmmfapdcbnkaaGreatDoor
namespace Go.Proofs.YtpfmmfapdcbnkaaGreatDoor
set_option maxRecDepth 20000
open Go.RowKit
set_option maxHeartbeats 400000 in
theorem inv_any (a : Nat) (ha : a < 256) (w : World) :
    Calls Tryz.prog 110 #[.int .u8 a] w fun e w' => e = .returned (.int .u8 (FM.inv a : Nat)) ∧ w = w' := by
  go_enter Tryz.func110, Tryz.ntmps110
  go_wp2_with fail
  refine (raise_any a 254 ha (by omega) _).mono ?_
  rintro e w' ⟨rfl, rfl⟩
  go_wp2
  go_ret
  exact ⟨rfl, rfl⟩
theorem inv_none (a : Nat) (ha : a < 256) (H : ∀ c, 1 ≤ c → c < 256 → FM.tm a c ≠ 1) : FM.inv a = 0 := by
  by_cases h0 : a = 0
  · rw [h0]; exact FM.inv_zero
  · exact absurd (FM.tm_inv a ha h0) (H _ (by have := FM.inv_ne a ha h0; omega) (FM.inv_lt a ha))
set_option maxRecDepth 10000 in
set_option maxHeartbeats 400000 in
theorem rinv_any (a : Nat) (ha : a < 256) (w : World) :
    Calls Tryz.prog 78 #[.int .u8 a] w fun e w' => e = .returned (.int .u8 (FM.inv a : Nat)) ∧ w = w' := by
  go_enter Tryz.func78, Tryz.ntmps78
  go_wp2
  go_loop [3] (fun x => ∃ b : Nat, 1 ≤ b ∧ b ≤ 256 ∧ x = .int .i64 b ∧ Hid (∀ c, 1 ≤ c → c < b → FM.tm a c ≠ 1)) (fun x => (256 - intOf x).toNat)
  case atStart => exact ⟨1, by omega, by omega, rfl, fun c h1 h2 => by omega⟩
  case round =>
    obtain ⟨b, hb1, hb2, rfl, H⟩ := hrel
    by_cases h0 : b < 256
    · have hr := Lib.hid (FM.rtm_eq a b ha h0)
      have hm : ((b : Int) % 256) = b := by omega
      by_cases h1 : FM.tm a b = 1
      · have e1 : (((FM.tm a b : Nat) : Int) == 1) = true := by simp [h1]
        have h2 := Lib.hid (FM.inv_unique a b ha h0 h1)
        clear h1
        go_wp2_with fail
        try rw [hm]
        refine (rtimes_any _ _ ha h0 _).mono ?_
        rintro e w' ⟨rfl, rfl⟩
        rw [hr.out]
        go_wp2
        go_ret
        exact ⟨retu8 (by rw [← h2.out]), rfl⟩
      · have e1 : (((FM.tm a b : Nat) : Int) == 1) = false := by simp; omega
        have h2 := Lib.hid h1
        clear h1
        go_wp2_with fail
        try rw [hm]
        refine (rtimes_any _ _ ha h0 _).mono ?_
        rintro e w' ⟨rfl, rfl⟩
        rw [hr.out]
        go_wp2
        go_round
        case rel => exact ⟨b + 1, by omega, by omega, by go_num, fun c g1 g2 => if g : c = b then by rw [g]; exact h2.out else H.out c g1 (by omega)⟩
        case measure => simp [intOf]; omega
    · have hF : Hid (FM.inv a = 0) := inv_none a ha (fun c g1 g2 => H.out c g1 (by omega))
      go_wp2
      go_ret
      exact ⟨retu8 (by rw [hF.out]; rfl), rfl⟩
end Go.Proofs.YtpfmmfapdcbnkaaGreatDoor
namespace Go.Proofs.YtpfmmfapdcbnkaaGreatDoor
set_option maxRecDepth 20000
open Go.RowKit
set_option linter.unusedVariables false
/-- A pair of new rows: what a call answers. -/
def MadeEqn (w : World) (l r : List Nat) (e : Ending) (w' : World) : Prop :=
  ∃ b1 b2, e = .returned (.agg #[.slice (some ⟨b1, 0, none⟩) l.length l.length, .slice (some ⟨b2, 0, none⟩) r.length r.length]) ∧ Own w' b1 5 l ∧ Own w' b2 5 r ∧ Below w.heap.size w w'
theorem eqinfo2 (a b : Value) : (Tryz.prog.info? 170).map (·.size) = some (#[a, b] : Array Value).size := by show _ = some 2; kernel_rfl
theorem one2 (a b : Option Addr) (n m c d : Nat) : (#[Value.slice a n c, Value.slice b m d] : Array Value).all (·.oneCell') = true := by simp [Value.oneCell']
theorem two_cells (w : World) (o : Obj) (T : TypeId) (u v : Value) (c d : Value) : ((w.alloc (.cells #[u, v] T)).alloc (.cells #[c, d] T)).cell? ⟨w.heap.size, 0, none⟩ = some u ∧ ((w.alloc (.cells #[u, v] T)).alloc (.cells #[c, d] T)).cell? ⟨w.heap.size, 1, none⟩ = some v := by
  have h := (heap_alloc_new w (.cells #[u, v] T))
  have h2 : ((w.alloc (.cells #[u, v] T)).alloc (.cells #[c, d] T)).heap[w.heap.size]? = some (.cells #[u, v] T) := by rw [Go.heap_alloc_old (w := _) (o := _) (h := by simp), h]
  exact ⟨by rw [cell_of_row _ _ _ _ _ _ h2]; rfl, by rw [cell_of_row _ _ _ _ _ _ h2]; rfl⟩
set_option maxHeartbeats 1000000 in
theorem eqTimes_any (c : Nat) (u v : Value) (l r : List Nat) (w : World) (hc : c < 256) (hu : U8s w u l) (hv : U8s w v r) (hl : l.length ≤ 281474976710656) (hr : r.length ≤ 281474976710656) :
    Calls Tryz.prog 109 #[.agg #[u, v], .int .u8 c] w (MadeEqn w (RM.scale c l) (RM.scale c r)) := by
  have HU := Lib.hid hu
  have HV := Lib.hid hv
  obtain ⟨ua, uc, rfl, _, _⟩ := hu.slice
  obtain ⟨va, vc, rfl, _, _⟩ := hv.slice
  clear hu hv
  generalize hln : l.length = ln at *
  generalize hrn : r.length = rn at *
  have HLN := Lib.hid hln; clear hln
  have HRN := Lib.hid hrn; clear hrn
  go_enter Tryz.func109, Tryz.ntmps109
  go_wp2_with fail
  generalize hw2 : World.alloc (World.alloc w _) _ = w2
  have hx2 : w.Extends w2 := by subst hw2; exact Gr.ext_trans (ext_alloc _ _) (ext_alloc _ _)
  have hc2 : w2.cell? ⟨w.heap.size, 0, none⟩ = some (.slice ua ln uc) ∧ w2.cell? ⟨w.heap.size, 1, none⟩ = some (.slice va rn vc) := by subst hw2; exact two_cells w (.cells #[] 0) _ _ _ _ _
  have hs2 : w2.heap.size = w.heap.size + 2 := by subst hw2; simp
  have hg2 : w2.heap[w.heap.size + 1]? = some (.cells #[.slice none 0 0, .slice none 0 0] 170) := by subst hw2; exact heap_alloc2_new _ _ _
  obtain ⟨b, hb⟩ : ∃ b, b = w.heap.size := ⟨_, rfl⟩
  rw [← hb] at hc2 hs2 hg2 ⊢
  have hbs : b + 1 < w2.heap.size := by omega
  have HB := Lib.hid hb; clear hb
  have HL1 : Hid (∀ w', w2.Extends w' → w'.cell? ⟨b, 0, none⟩ = some (.slice ua ln uc)) := fun w' hw' => hw'.cell_of hc2.1
  have HL2 : Hid (∀ w', w2.Extends w' → w'.cell? ⟨b, 1, none⟩ = some (.slice va rn vc)) := fun w' hw' => hw'.cell_of hc2.2
  have HX2 := Lib.hid hx2
  have HG2 := Lib.hid hg2
  have HS2 := Lib.hid hs2
  clear hw2 hc2 hx2 hg2 hs2
  refine Gr.region 9 [(false,0),(false,1),(false,2),(false,4),(false,5),(false,6),(true,3),(true,7),(false,8)] (by kernel_rfl) (by kernel_rfl) (fun d _ _ _ _ h => by cases d <;> exact h) ?_
  simp only [Gr.pick, List.getElem?_cons_zero, List.getElem?_cons_succ, List.drop_succ_cons, List.drop_zero]
  iterate 6
    refine Gr.walk_t ?_ (Or.inl ⟨by rfl, ?_⟩) ?_
    rotate_left
    · intro w' hw'
      have hc1 := HL1.out w' (Gr.of_drew hw')
      have hc2 := HL2.out w' (Gr.of_drew hw')
      clear hw'
      go_simp
      try with_reducible rfl
    simp only [Act.put, List.setIfInBounds_toArray, List.set_cons_zero, List.set_cons_succ]
  refine Gr.walk_c (fun K hK => ?_)
  go_simp
  refine (scale_any c _ l _ hc (HU.out.ext (Gr.ext_drew HX2.out)) (by rw [HLN.out]; exact hl)).mono ?_
  rintro e w3 ⟨rfl, hb3, ho3⟩
  rw [HLN.out]
  have hx3 := ext_below hb3 rfl
  have HO3 := Lib.hid ho3
  have HX3 := Lib.hid (Gr.ext_trans (Gr.ext_drew HX2.out) hx3)
  have HY3 := Lib.hid (Gr.of_drew hx3)
  clear ho3 hb3
  try go_simp
  refine hK.out _ _ hx3 ?_
  clear hK K hx3
  refine Gr.walk_c (fun K hK => ?_)
  go_simp
  refine (scale_any c _ r _ hc (HV.out.ext HX3.out) (by rw [HRN.out]; exact hr)).mono ?_
  rintro e w4 ⟨rfl, hb4, ho4⟩
  rw [HRN.out]
  have hx4 := ext_below hb4 rfl
  have HO4 := Lib.hid ho4
  have HP4 := Lib.hid (HO3.out.below hb4 HO3.out.lt)
  have HX4 := Lib.hid (Gr.ext_trans HX3.out hx4)
  have HY4 := Lib.hid (Gr.ext_trans HY3.out hx4)
  have hlt3 := Nat.lt_of_lt_of_le hbs HY3.out.size
  clear ho4 hb4
  try go_simp
  refine hK.out _ _ hx4 ?_
  clear hK K hx4
  refine Gr.walk_t ?_ (Or.inl ⟨by rfl, ?_⟩) ?_
  rotate_left
  · intro w' hw'
    clear hw'
    go_simp
    try with_reducible rfl
  simp only [Act.put, List.setIfInBounds_toArray, List.set_cons_zero, List.set_cons_succ]
  refine Gr.walk_nil ?_
  have hg4 := (HY4.out.block (b + 1) hbs).trans HG2.out
  have HFIN : Hid (∀ cs : Array Value, Own (w4.setRow (b + 1) cs) w2.heap.size 5 (RM.scale c l) ∧ Own (w4.setRow (b + 1) cs) w3.heap.size 5 (RM.scale c r) ∧ Below b w (w4.setRow (b + 1) cs)) := fun cs =>
    ⟨HP4.out.block (setRow_other _ _ _ _ (by show w2.heap.size ≠ b + 1; omega)), HO4.out.block (setRow_other _ _ _ _ (by omega)), by
      have h := Gr.below_of HX4.out
      rw [← HB.out] at h
      exact h.trans ⟨rfl, rfl, rfl, by simp, fun i hi => setRow_other _ _ i _ (by omega)⟩⟩
  have hres : (w4.setRow (b + 1) #[.slice (some ⟨w2.heap.size, 0, none⟩) ln ln, .slice (some ⟨w3.heap.size, 0, none⟩) rn rn]).heap[b + 1]? = some (.cells #[.slice (some ⟨w2.heap.size, 0, none⟩) ln ln, .slice (some ⟨w3.heap.size, 0, none⟩) rn rn] 170 (0, 0)) := setRow_heap _ _ _ _ _ _ hg4
  refine wpList_store_row rfl 170 (.tmp 4) (.tmp 13) rfl (b + 1) _ rfl rfl 170 _ hg4 (eqinfo2 _ _) rfl (one2 _ _ _ _ _ _) ?_
  go_wp2
  refine bodyPost_ret (v := .agg #[.slice (some ⟨w2.heap.size, 0, none⟩) ln ln, .slice (some ⟨w3.heap.size, 0, none⟩) rn rn]) (results_cell_row rfl _ _ (b + 1) 170 _ (0, 0) _ rfl hres Tryz.underlying170 rfl (eqinfo2 _ _)) rfl ⟨w2.heap.size, w3.heap.size, ?_, (HFIN.out _).1, (HFIN.out _).2.1, ?_⟩
  · rw [RM.scale_length, RM.scale_length, HLN.out, HRN.out]
  · rw [← HB.out]; exact (HFIN.out _).2.2
end Go.Proofs.YtpfmmfapdcbnkaaGreatDoor
namespace Go.Proofs.YtpfmmfapdcbnkaaGreatDoor
set_option maxRecDepth 20000
open Go.RowKit
set_option linter.unusedVariables false
theorem Own.ext {w w' : World} {b : Nat} {T : TypeId} {xs : List Nat} (h : Own w b T xs) (hx : w.Extends w') : Own w' b T xs := h.block (hx.block b h.lt)
/-- A new row of a call's own. -/
def MadeOwn (w : World) (xs : List Nat) (e : Ending) (w' : World) : Prop := ∃ b, e = .returned (.slice (some ⟨b, 0, none⟩) xs.length xs.length) ∧ w.Extends w' ∧ Own w' b 5 xs
theorem cut_nat (m : Nat) (h : m ≤ 1000) : RM.cut (m : Int) = m := by unfold RM.cut; omega
theorem sum_own (m : Nat) (v : Value) (l : List (List Nat)) (w : World) (hm : m ≤ 1000) (hv : Rws w v l) : Calls Tryz.prog 89 #[.int .i64 m, v] w (MadeOwn w (RM.sum m l)) :=
  (sum_any m v l w hv).mono fun e w' ⟨he, hb, ho⟩ => by
    rw [cut_nat m hm] at he ho
    exact ⟨w.heap.size, by rw [RM.sum_length]; exact he, Gr.ext_of hb, ho⟩
theorem own_not {w : World} {b : Nat} {T T' : TypeId} {xs : List Nat} {cs : Array Value} (h : Own w b T xs) (hT : T ≠ T') : ¬ w.heap[b]? = some (.cells cs T' (0, 0)) := fun h' => by
  obtain ⟨c, hc, _⟩ := h.1
  rw [hc] at h'
  simp only [Option.some.injEq, Obj.cells.injEq] at h'
  exact hT h'.2.1
theorem eqn_fin (w4 w : World) (b bl br ln rn : Nat) (xs ys : List Nat) (cs : Array Value) (h1 : Own w4 bl 5 xs) (h2 : Own w4 br 5 ys) (n1 : bl ≠ b + 2) (n2 : br ≠ b + 2) (hx : w.Extends w4) (hb : w.heap.size ≤ b + 2) :
    Own (w4.setRow (b + 2) cs) bl 5 xs ∧ Own (w4.setRow (b + 2) cs) br 5 ys ∧ Below w.heap.size w (w4.setRow (b + 2) cs) :=
  ⟨h1.block (setRow_other _ _ _ _ n1), h2.block (setRow_other _ _ _ _ n2), (Gr.below_of hx).trans ⟨rfl, rfl, rfl, by simp, fun i hi => setRow_other _ _ i _ (by omega)⟩⟩
theorem three_cells (w : World) (T : TypeId) (u v x y : Value) (c d : Value) : (((w.alloc (.cells #[u, v] T)).alloc (.cells #[x, y] T)).alloc (.cells #[c, d] T)).cell? ⟨w.heap.size, 0, none⟩ = some u ∧ (((w.alloc (.cells #[u, v] T)).alloc (.cells #[x, y] T)).alloc (.cells #[c, d] T)).cell? ⟨w.heap.size, 1, none⟩ = some v ∧
    (((w.alloc (.cells #[u, v] T)).alloc (.cells #[x, y] T)).alloc (.cells #[c, d] T)).cell? ⟨w.heap.size + 1, 0, none⟩ = some x ∧ (((w.alloc (.cells #[u, v] T)).alloc (.cells #[x, y] T)).alloc (.cells #[c, d] T)).cell? ⟨w.heap.size + 1, 1, none⟩ = some y ∧
    (((w.alloc (.cells #[u, v] T)).alloc (.cells #[x, y] T)).alloc (.cells #[c, d] T)).heap[w.heap.size + 2]? = some (.cells #[c, d] T) := by
  have h := (heap_alloc_new w (.cells #[u, v] T))
  have h2 : ((w.alloc (.cells #[u, v] T)).alloc (.cells #[x, y] T)).heap[w.heap.size]? = some (.cells #[u, v] T) := by rw [Go.heap_alloc_old (w := _) (o := _) (h := by simp), h]
  have h3 : (((w.alloc (.cells #[u, v] T)).alloc (.cells #[x, y] T)).alloc (.cells #[c, d] T)).heap[w.heap.size]? = some (.cells #[u, v] T) := by rw [Go.heap_alloc_old (w := _) (o := _) (h := by simp; omega), h2]
  have h4 : (((w.alloc (.cells #[u, v] T)).alloc (.cells #[x, y] T)).alloc (.cells #[c, d] T)).heap[w.heap.size + 1]? = some (.cells #[x, y] T) := by rw [Go.heap_alloc_old (w := _) (o := _) (h := by simp), heap_alloc2_new]
  have h5 := heap_alloc_new ((w.alloc (.cells #[u, v] T)).alloc (.cells #[x, y] T)) (.cells #[c, d] T)
  exact ⟨by rw [cell_of_row _ _ _ _ _ _ h3]; rfl, by rw [cell_of_row _ _ _ _ _ _ h3]; rfl, by rw [cell_of_row _ _ _ _ _ _ h4]; rfl, by rw [cell_of_row _ _ _ _ _ _ h4]; rfl, by simpa using h5⟩
set_option maxHeartbeats 2000000 in
theorem eqPlus_any (u v p q : Value) (l1 r1 l2 r2 : List Nat) (w : World) (hu : U8s w u l1) (hv : U8s w v r1) (hp : U8s w p l2) (hq : U8s w q r2) (hl : l1.length ≤ 1000) (hr : r1.length ≤ 1000) :
    Calls Tryz.prog 111 #[.agg #[u, v], .agg #[p, q]] w (MadeEqn w (RM.sum l1.length [l1, l2]) (RM.sum r1.length [r1, r2])) := by
  have HU := Lib.hid hu
  have HV := Lib.hid hv
  have HP := Lib.hid hp
  have HQ := Lib.hid hq
  obtain ⟨ua, uc, rfl, _, _⟩ := hu.slice
  obtain ⟨va, vc, rfl, _, _⟩ := hv.slice
  obtain ⟨pa, pc, rfl, _, _⟩ := hp.slice
  obtain ⟨qa, qc, rfl, _, _⟩ := hq.slice
  clear hu hv hp hq
  generalize hln : l1.length = ln at *
  generalize hrn : r1.length = rn at *
  have HLN := Lib.hid hln; clear hln
  have HRN := Lib.hid hrn; clear hrn
  go_enter Tryz.func111, Tryz.ntmps111
  go_wp2_with fail
  generalize hw2 : World.alloc (World.alloc (World.alloc w _) _) _ = w2
  have hx2 : w.Extends w2 := by subst hw2; exact Gr.ext_trans (Gr.ext_trans (ext_alloc _ _) (ext_alloc _ _)) (ext_alloc _ _)
  have hc2 := three_cells w 170 (.slice ua ln uc) (.slice va rn vc) (.slice pa l2.length pc) (.slice qa r2.length qc) (.slice none 0 0) (.slice none 0 0)
  rw [hw2] at hc2
  have hs2 : w2.heap.size = w.heap.size + 3 := by subst hw2; simp
  obtain ⟨b, hb⟩ : ∃ b, b = w.heap.size := ⟨_, rfl⟩
  rw [← hb] at hc2 hs2 ⊢
  have hbs : b + 2 < w2.drew.heap.size := by show b + 2 < w2.heap.size; omega
  have HBB := Lib.hid hb; clear hb
  have HL1 : Hid (∀ w', w2.Extends w' → w'.cell? ⟨b, 0, none⟩ = some (.slice ua ln uc)) := fun w' hw' => hw'.cell_of hc2.1
  have HL2 : Hid (∀ w', w2.Extends w' → w'.cell? ⟨b, 1, none⟩ = some (.slice va rn vc)) := fun w' hw' => hw'.cell_of hc2.2.1
  have HL3 : Hid (∀ w', w2.Extends w' → w'.cell? ⟨b + 1, 0, none⟩ = some (.slice pa l2.length pc)) := fun w' hw' => hw'.cell_of hc2.2.2.1
  have HL4 : Hid (∀ w', w2.Extends w' → w'.cell? ⟨b + 1, 1, none⟩ = some (.slice qa r2.length qc)) := fun w' hw' => hw'.cell_of hc2.2.2.2.1
  have HX2 := Lib.hid (Gr.ext_drew hx2)
  have HG2 : Hid (w2.drew.heap[b + 2]? = _) := hc2.2.2.2.2
  have HS2 := Lib.hid hs2
  clear hw2 hc2 hx2 hs2
  refine Gr.regionE 19 5 [(false,0),(false,1),(false,2),(false,3),(false,4),(false,5),(false,6),(false,9),(false,10),(false,11),(false,12),(false,13),(false,14),(false,15)] (by kernel_rfl) (by kernel_rfl) (fun d _ _ _ _ h => by cases d <;> exact h) ?_
  simp only [Gr.pick, List.getElem?_cons_zero, List.getElem?_cons_succ]
  obtain ⟨wd, hwd⟩ : ∃ x, x = w2.drew := ⟨_, rfl⟩
  have hT : ∀ {w'}, wd.Extends w' → w2.Extends w' := fun h => Gr.of_drew (hwd ▸ h)
  rw [← hwd] at HX2 HG2 hbs ⊢
  clear hwd
  iterate 14
    refine Gr.walkE_t ?_ (Or.inl ⟨by rfl, ?_⟩) ?_
    rotate_left
    · intro w' hw'
      have hc1 := HL1.out w' (hT hw')
      have hc2 := HL2.out w' (hT hw')
      have hc3 := HL3.out w' (hT hw')
      have hc4 := HL4.out w' (hT hw')
      clear hw'
      go_simp
      try with_reducible rfl
    simp only [Act.put, List.setIfInBounds_toArray, List.set_cons_zero, List.set_cons_succ]
  refine Gr.walkE_nil ?_
  have HX := Lib.hid (Gr.ext_refl wd)
  clear hT HL1 HL2 HL3 HL4
  refine Gr.Left.two (i := 7) (j := 16) (by kernel_rfl) (by kernel_rfl) (Gr.Step.mk rfl (fun K hK => ?_)) (Gr.Step.mk rfl (fun K hK => ?_))
  · skip
    go_simp
    generalize hw : World.alloc _ _ = w1_
    have hx : wd.Extends w1_ := by subst hw; exact ext_alloc _ _
    have HA0 : Rws w1_ (.slice (some ⟨wd.heap.size, 0, none⟩) 2 2) [l1, l2] := by subst hw; exact rws_two _ _ _ _ _ _ _ (HU.out.ext (Gr.ext_trans HX2.out HX.out)) (HP.out.ext (Gr.ext_trans HX2.out HX.out))
    clear hw
    refine hK.out _ _ hx ?_
    clear hK K
    have HA := Lib.hid HA0
    clear HA0
    have HX := Lib.hid (Gr.ext_trans HX.out hx)
    clear hx
    refine Gr.Left.two (i := 8) (j := 16) (by kernel_rfl) (by kernel_rfl) (Gr.Step.mk rfl (fun K hK => ?_)) (Gr.Step.mk rfl (fun K hK => ?_))
    · skip
      go_simp
      refine (sum_own ln _ [l1, l2] _ hl HA.out).mono ?_
      rintro e w2_ ⟨bl, he, hx, ho⟩
      rw [RM.sum_length] at he
      subst he
      have HL0 := ho
      clear ho
      try go_simp
      refine hK.out _ _ hx ?_
      clear hK K
      have HA := Lib.hid (HA.out.ext hx)
      have HL := Lib.hid HL0
      clear HL0
      have HX := Lib.hid (Gr.ext_trans HX.out hx)
      clear hx
      refine Gr.Left.one (i := 16) (by kernel_rfl) (by kernel_rfl) (Gr.Step.mk rfl (fun K hK => ?_))
      go_simp
      generalize hw : World.alloc _ _ = w3_
      have hx : w2_.Extends w3_ := by subst hw; exact ext_alloc _ _
      have HB0 : Rws w3_ (.slice (some ⟨w2_.heap.size, 0, none⟩) 2 2) [r1, r2] := by subst hw; exact rws_two _ _ _ _ _ _ _ (HV.out.ext (Gr.ext_trans HX2.out HX.out)) (HQ.out.ext (Gr.ext_trans HX2.out HX.out))
      clear hw
      refine hK.out _ _ hx ?_
      clear hK K
      have HA := Lib.hid (HA.out.ext hx)
      have HL := Lib.hid (HL.out.ext hx)
      have HB := Lib.hid HB0
      clear HB0
      have HX := Lib.hid (Gr.ext_trans HX.out hx)
      clear hx
      refine Gr.Left.one (i := 17) (by kernel_rfl) (by kernel_rfl) (Gr.Step.mk rfl (fun K hK => ?_))
      go_simp
      refine (sum_own rn _ [r1, r2] _ hr HB.out).mono ?_
      rintro e w4_ ⟨br, he, hx, ho⟩
      rw [RM.sum_length] at he
      subst he
      have HR0 := ho
      clear ho
      try go_simp
      refine hK.out _ _ hx ?_
      clear hK K
      have HA := Lib.hid (HA.out.ext hx)
      have HL := Lib.hid (HL.out.ext hx)
      have HB := Lib.hid (HB.out.ext hx)
      have HR := Lib.hid HR0
      clear HR0
      have HX := Lib.hid (Gr.ext_trans HX.out hx)
      clear hx
      refine Gr.Left.take (i := 18) rfl (by kernel_rfl) (fun d _ _ _ _ h => by cases d <;> exact h) ?_ (Or.inl ⟨by rfl, ?_⟩) ?_
      rotate_left
      · intro w' hw'
        clear hw'
        go_simp
        try with_reducible rfl
      simp only [Act.put, List.setIfInBounds_toArray, List.set_cons_zero, List.set_cons_succ]
      refine Gr.Left.done (by kernel_rfl) ?_
      simp only [List.drop_succ_cons, List.drop_zero]
      have hg4 := (HX.out.block (b + 2) hbs).trans HG2.out
      have hnl : bl ≠ b + 2 := fun h => own_not HL.out (by decide) (h ▸ hg4)
      have hnr : br ≠ b + 2 := fun h => own_not HR.out (by decide) (h ▸ hg4)
      have HX0 := Lib.hid (Gr.ext_trans HX2.out HX.out)
      have HFIN := Lib.hid (eqn_fin w4_ w b bl br ln rn (RM.sum ln [l1, l2]) (RM.sum rn [r1, r2]) #[.slice (some ⟨bl, 0, none⟩) ln ln, .slice (some ⟨br, 0, none⟩) rn rn] HL.out HR.out hnl hnr HX0.out (by rw [← HBB.out]; exact Nat.le_add_right _ _))
      have hres : (w4_.setRow (b + 2) #[.slice (some ⟨bl, 0, none⟩) ln ln, .slice (some ⟨br, 0, none⟩) rn rn]).heap[b + 2]? = some (.cells #[.slice (some ⟨bl, 0, none⟩) ln ln, .slice (some ⟨br, 0, none⟩) rn rn] 170 (0, 0)) := setRow_heap _ _ _ _ _ _ hg4
      refine wpList_store_row rfl 170 (.tmp 4) (.tmp 23) rfl (b + 2) _ rfl rfl 170 _ hg4 (eqinfo2 _ _) rfl (one2 _ _ _ _ _ _) ?_
      go_wp2
      exact bodyPost_ret (v := .agg #[.slice (some ⟨bl, 0, none⟩) ln ln, .slice (some ⟨br, 0, none⟩) rn rn]) (results_cell_row rfl _ _ (b + 2) 170 _ (0, 0) _ rfl hres Tryz.underlying170 rfl (eqinfo2 _ _)) rfl ⟨bl, br, by rw [RM.sum_length, RM.sum_length], HFIN.out⟩
    · skip
      go_simp
      generalize hw : World.alloc _ _ = w5_
      have hx : w1_.Extends w5_ := by subst hw; exact ext_alloc _ _
      have HB0 : Rws w5_ (.slice (some ⟨w1_.heap.size, 0, none⟩) 2 2) [r1, r2] := by subst hw; exact rws_two _ _ _ _ _ _ _ (HV.out.ext (Gr.ext_trans HX2.out HX.out)) (HQ.out.ext (Gr.ext_trans HX2.out HX.out))
      clear hw
      refine hK.out _ _ hx ?_
      clear hK K
      have HA := Lib.hid (HA.out.ext hx)
      have HB := Lib.hid HB0
      clear HB0
      have HX := Lib.hid (Gr.ext_trans HX.out hx)
      clear hx
      refine Gr.Left.one (i := 8) (by kernel_rfl) (by kernel_rfl) (Gr.Step.mk rfl (fun K hK => ?_))
      go_simp
      refine (sum_own ln _ [l1, l2] _ hl HA.out).mono ?_
      rintro e w6_ ⟨bl, he, hx, ho⟩
      rw [RM.sum_length] at he
      subst he
      have HL0 := ho
      clear ho
      try go_simp
      refine hK.out _ _ hx ?_
      clear hK K
      have HA := Lib.hid (HA.out.ext hx)
      have HB := Lib.hid (HB.out.ext hx)
      have HL := Lib.hid HL0
      clear HL0
      have HX := Lib.hid (Gr.ext_trans HX.out hx)
      clear hx
      refine Gr.Left.one (i := 17) (by kernel_rfl) (by kernel_rfl) (Gr.Step.mk rfl (fun K hK => ?_))
      go_simp
      refine (sum_own rn _ [r1, r2] _ hr HB.out).mono ?_
      rintro e w7_ ⟨br, he, hx, ho⟩
      rw [RM.sum_length] at he
      subst he
      have HR0 := ho
      clear ho
      try go_simp
      refine hK.out _ _ hx ?_
      clear hK K
      have HA := Lib.hid (HA.out.ext hx)
      have HB := Lib.hid (HB.out.ext hx)
      have HL := Lib.hid (HL.out.ext hx)
      have HR := Lib.hid HR0
      clear HR0
      have HX := Lib.hid (Gr.ext_trans HX.out hx)
      clear hx
      refine Gr.Left.take (i := 18) rfl (by kernel_rfl) (fun d _ _ _ _ h => by cases d <;> exact h) ?_ (Or.inl ⟨by rfl, ?_⟩) ?_
      rotate_left
      · intro w' hw'
        clear hw'
        go_simp
        try with_reducible rfl
      simp only [Act.put, List.setIfInBounds_toArray, List.set_cons_zero, List.set_cons_succ]
      refine Gr.Left.done (by kernel_rfl) ?_
      simp only [List.drop_succ_cons, List.drop_zero]
      have hg4 := (HX.out.block (b + 2) hbs).trans HG2.out
      have hnl : bl ≠ b + 2 := fun h => own_not HL.out (by decide) (h ▸ hg4)
      have hnr : br ≠ b + 2 := fun h => own_not HR.out (by decide) (h ▸ hg4)
      have HX0 := Lib.hid (Gr.ext_trans HX2.out HX.out)
      have HFIN := Lib.hid (eqn_fin w7_ w b bl br ln rn (RM.sum ln [l1, l2]) (RM.sum rn [r1, r2]) #[.slice (some ⟨bl, 0, none⟩) ln ln, .slice (some ⟨br, 0, none⟩) rn rn] HL.out HR.out hnl hnr HX0.out (by rw [← HBB.out]; exact Nat.le_add_right _ _))
      have hres : (w7_.setRow (b + 2) #[.slice (some ⟨bl, 0, none⟩) ln ln, .slice (some ⟨br, 0, none⟩) rn rn]).heap[b + 2]? = some (.cells #[.slice (some ⟨bl, 0, none⟩) ln ln, .slice (some ⟨br, 0, none⟩) rn rn] 170 (0, 0)) := setRow_heap _ _ _ _ _ _ hg4
      refine wpList_store_row rfl 170 (.tmp 4) (.tmp 23) rfl (b + 2) _ rfl rfl 170 _ hg4 (eqinfo2 _ _) rfl (one2 _ _ _ _ _ _) ?_
      go_wp2
      exact bodyPost_ret (v := .agg #[.slice (some ⟨bl, 0, none⟩) ln ln, .slice (some ⟨br, 0, none⟩) rn rn]) (results_cell_row rfl _ _ (b + 2) 170 _ (0, 0) _ rfl hres Tryz.underlying170 rfl (eqinfo2 _ _)) rfl ⟨bl, br, by rw [RM.sum_length, RM.sum_length], HFIN.out⟩
  · skip
    go_simp
    generalize hw : World.alloc _ _ = w8_
    have hx : wd.Extends w8_ := by subst hw; exact ext_alloc _ _
    have HB0 : Rws w8_ (.slice (some ⟨wd.heap.size, 0, none⟩) 2 2) [r1, r2] := by subst hw; exact rws_two _ _ _ _ _ _ _ (HV.out.ext (Gr.ext_trans HX2.out HX.out)) (HQ.out.ext (Gr.ext_trans HX2.out HX.out))
    clear hw
    refine hK.out _ _ hx ?_
    clear hK K
    have HB := Lib.hid HB0
    clear HB0
    have HX := Lib.hid (Gr.ext_trans HX.out hx)
    clear hx
    refine Gr.Left.one (i := 7) (by kernel_rfl) (by kernel_rfl) (Gr.Step.mk rfl (fun K hK => ?_))
    go_simp
    generalize hw : World.alloc _ _ = w9_
    have hx : w8_.Extends w9_ := by subst hw; exact ext_alloc _ _
    have HA0 : Rws w9_ (.slice (some ⟨w8_.heap.size, 0, none⟩) 2 2) [l1, l2] := by subst hw; exact rws_two _ _ _ _ _ _ _ (HU.out.ext (Gr.ext_trans HX2.out HX.out)) (HP.out.ext (Gr.ext_trans HX2.out HX.out))
    clear hw
    refine hK.out _ _ hx ?_
    clear hK K
    have HB := Lib.hid (HB.out.ext hx)
    have HA := Lib.hid HA0
    clear HA0
    have HX := Lib.hid (Gr.ext_trans HX.out hx)
    clear hx
    refine Gr.Left.one (i := 8) (by kernel_rfl) (by kernel_rfl) (Gr.Step.mk rfl (fun K hK => ?_))
    go_simp
    refine (sum_own ln _ [l1, l2] _ hl HA.out).mono ?_
    rintro e w10_ ⟨bl, he, hx, ho⟩
    rw [RM.sum_length] at he
    subst he
    have HL0 := ho
    clear ho
    try go_simp
    refine hK.out _ _ hx ?_
    clear hK K
    have HB := Lib.hid (HB.out.ext hx)
    have HA := Lib.hid (HA.out.ext hx)
    have HL := Lib.hid HL0
    clear HL0
    have HX := Lib.hid (Gr.ext_trans HX.out hx)
    clear hx
    refine Gr.Left.one (i := 17) (by kernel_rfl) (by kernel_rfl) (Gr.Step.mk rfl (fun K hK => ?_))
    go_simp
    refine (sum_own rn _ [r1, r2] _ hr HB.out).mono ?_
    rintro e w11_ ⟨br, he, hx, ho⟩
    rw [RM.sum_length] at he
    subst he
    have HR0 := ho
    clear ho
    try go_simp
    refine hK.out _ _ hx ?_
    clear hK K
    have HB := Lib.hid (HB.out.ext hx)
    have HA := Lib.hid (HA.out.ext hx)
    have HL := Lib.hid (HL.out.ext hx)
    have HR := Lib.hid HR0
    clear HR0
    have HX := Lib.hid (Gr.ext_trans HX.out hx)
    clear hx
    refine Gr.Left.take (i := 18) rfl (by kernel_rfl) (fun d _ _ _ _ h => by cases d <;> exact h) ?_ (Or.inl ⟨by rfl, ?_⟩) ?_
    rotate_left
    · intro w' hw'
      clear hw'
      go_simp
      try with_reducible rfl
    simp only [Act.put, List.setIfInBounds_toArray, List.set_cons_zero, List.set_cons_succ]
    refine Gr.Left.done (by kernel_rfl) ?_
    simp only [List.drop_succ_cons, List.drop_zero]
    have hg4 := (HX.out.block (b + 2) hbs).trans HG2.out
    have hnl : bl ≠ b + 2 := fun h => own_not HL.out (by decide) (h ▸ hg4)
    have hnr : br ≠ b + 2 := fun h => own_not HR.out (by decide) (h ▸ hg4)
    have HX0 := Lib.hid (Gr.ext_trans HX2.out HX.out)
    have HFIN := Lib.hid (eqn_fin w11_ w b bl br ln rn (RM.sum ln [l1, l2]) (RM.sum rn [r1, r2]) #[.slice (some ⟨bl, 0, none⟩) ln ln, .slice (some ⟨br, 0, none⟩) rn rn] HL.out HR.out hnl hnr HX0.out (by rw [← HBB.out]; exact Nat.le_add_right _ _))
    have hres : (w11_.setRow (b + 2) #[.slice (some ⟨bl, 0, none⟩) ln ln, .slice (some ⟨br, 0, none⟩) rn rn]).heap[b + 2]? = some (.cells #[.slice (some ⟨bl, 0, none⟩) ln ln, .slice (some ⟨br, 0, none⟩) rn rn] 170 (0, 0)) := setRow_heap _ _ _ _ _ _ hg4
    refine wpList_store_row rfl 170 (.tmp 4) (.tmp 23) rfl (b + 2) _ rfl rfl 170 _ hg4 (eqinfo2 _ _) rfl (one2 _ _ _ _ _ _) ?_
    go_wp2
    exact bodyPost_ret (v := .agg #[.slice (some ⟨bl, 0, none⟩) ln ln, .slice (some ⟨br, 0, none⟩) rn rn]) (results_cell_row rfl _ _ (b + 2) 170 _ (0, 0) _ rfl hres Tryz.underlying170 rfl (eqinfo2 _ _)) rfl ⟨bl, br, by rw [RM.sum_length, RM.sum_length], HFIN.out⟩
end Go.Proofs.YtpfmmfapdcbnkaaGreatDoor
namespace Go.Proofs.YtpfmmfapdcbnkaaGreatDoor
set_option maxRecDepth 20000
open Go.RowKit
set_option linter.unusedVariables false
abbrev nilS : Value := .slice none 0 0
/-- What the head of a system holds. -/
def sysHead (g W S r : Nat) (i : Nat) : Value := if i = 0 then .int .i64 S else if i = 1 then .slice (some ⟨g, 0, none⟩) W W else .int .i64 r
/-- The two sides of an equation in memory. -/
def EqAt (w : World) (W S : Nat) (u v : Value) (s : List Nat × List Nat) : Prop :=
  ∃ b1 b2, u = .slice (some ⟨b1, 0, none⟩) W W ∧ v = .slice (some ⟨b2, 0, none⟩) S S ∧ Own w b1 5 s.1 ∧ s.1.length = W ∧ Own w b2 5 s.2 ∧ s.2.length = S
/-- Column c of the steps in memory. -/
def StepAt (w : World) (W S : Nat) (vs : Nat → Value) (c : Nat) : Option (List Nat × List Nat) → Prop
  | none => vs (c * 2) = nilS ∧ vs (c * 2 + 1) = nilS
  | some s => EqAt w W S (vs (c * 2)) (vs (c * 2 + 1)) s
/-- The system at p, its steps at g. -/
structure Sys (w : World) (p g W S r : Nat) (st : Nat → Option (List Nat × List Nat)) : Prop where
  head : w.rowIs p 166 3 (sysHead g W S r)
  steps : ∃ vs, w.rowIs g 170 (W * 2) vs ∧ ∀ c, c < W → StepAt w W S vs c (st c)
  hW : W ≤ 300
  hS : S ≤ 1000
theorem EqAt.block {w w' : World} {W S : Nat} {u v : Value} {s : List Nat × List Nat} (h : EqAt w W S u v s) (hb : ∀ b, b < w.heap.size → (∀ cs T, w.heap[b]? = some (.cells cs T (0, 0)) → T = 5) → w'.heap[b]? = w.heap[b]?) : EqAt w' W S u v s := by
  obtain ⟨b1, b2, h1, h2, h3, h4, h5, h6⟩ := h
  have key : ∀ {b : Nat} {xs : List Nat}, Own w b 5 xs → w'.heap[b]? = w.heap[b]? := fun {b xs} ho => hb b ho.lt fun cs T hT => by
    obtain ⟨c, hc, _⟩ := ho.1
    rw [hc] at hT
    simp only [Option.some.injEq, Obj.cells.injEq] at hT
    exact hT.2.1.symm
  exact ⟨b1, b2, h1, h2, h3.block (key h3), h4, h5.block (key h5), h6⟩
theorem StepAt.block {w w' : World} {W S : Nat} {vs : Nat → Value} {c : Nat} {s : Option (List Nat × List Nat)} (h : StepAt w W S vs c s) (hb : ∀ b, b < w.heap.size → (∀ cs T, w.heap[b]? = some (.cells cs T (0, 0)) → T = 5) → w'.heap[b]? = w.heap[b]?) : StepAt w' W S vs c s := by
  cases s with
  | none => exact h
  | some s => exact EqAt.block h hb
theorem Sys.block {w w' : World} {p g W S r : Nat} {st : Nat → Option (List Nat × List Nat)} (h : Sys w p g W S r st) (hp : w'.heap[p]? = w.heap[p]?) (hg : w'.heap[g]? = w.heap[g]?)
    (hb : ∀ b, b < w.heap.size → (∀ cs T, w.heap[b]? = some (.cells cs T (0, 0)) → T = 5) → w'.heap[b]? = w.heap[b]?) : Sys w' p g W S r st := by
  obtain ⟨vs, h1, h2⟩ := h.steps
  exact ⟨h.head.of_block hp, ⟨vs, h1.of_block hg, fun c hc => (h2 c hc).block hb⟩, h.hW, h.hS⟩
theorem Sys.ext {w w' : World} {p g W S r : Nat} {st : Nat → Option (List Nat × List Nat)} (h : Sys w p g W S r st) (hx : w.Extends w') : Sys w' p g W S r st := by
  obtain ⟨vs, h1, _⟩ := h.steps
  exact h.block (hx.block _ h.head.lt) (hx.block _ h1.lt) fun b hb _ => hx.block b hb
theorem Sys.pg {w : World} {p g W S r : Nat} {st : Nat → Option (List Nat × List Nat)} (h : Sys w p g W S r st) : p < w.heap.size ∧ g < w.heap.size ∧ p ≠ g := by
  obtain ⟨vs, h1, _⟩ := h.steps
  refine ⟨h.head.lt, h1.lt, fun e => ?_⟩
  subst e
  obtain ⟨c, hc, _⟩ := h.head
  obtain ⟨d, hd, _⟩ := h1
  rw [hc] at hd
  simp only [Option.some.injEq, Obj.cells.injEq] at hd
  exact absurd hd.2.1 (by decide)
/-- Over a change of one block of two cells of an equation that is not the steps. -/
theorem Sys.grown {w w' : World} {p g W S r be : Nat} {st : Nat → Option (List Nat × List Nat)} (h : Sys w p g W S r st) (hg : w.grownBy w' (some be)) {f : Nat → Value} {n : Nat} (hbe : w.rowIs be 170 n f) (hne : g ≠ be) : Sys w' p g W S r st := by
  obtain ⟨hp, hgl, _⟩ := h.pg
  obtain ⟨c0, hc0, _⟩ := hbe
  have key : ∀ b cs T, w.heap[b]? = some (.cells cs T (0, 0)) → T ≠ 170 → b ≠ be := fun b cs T hb hT e => by
    subst e
    rw [hb] at hc0
    simp only [Option.some.injEq, Obj.cells.injEq] at hc0
    exact hT hc0.2.1
  obtain ⟨c1, hc1, _⟩ := h.head
  refine h.block (hg.block p hp fun e => key p _ _ hc1 (by decide) (Option.some.inj e)) (hg.block g hgl fun e => hne (Option.some.inj e)) fun b hb hT => hg.block b hb fun e => ?_
  have e' := Option.some.inj e
  subst e'
  exact absurd (hT _ _ hc0) (by decide)
theorem sysinfo : (Tryz.prog.info? 170).map (fun i => (i.zero, i.size, i.bytes)) = some (some (.agg #[.slice none 0 0, .slice none 0 0]), 2, 48) := by kernel_rfl
theorem makeSteps (k : Nat) (hk : k ≤ 300) (w : World) : (Instr.makeSlice 164 (.int .i64 (k : Int)) (.int .i64 (k : Int))).run Tryz.prog w = .ok (.slice (some ⟨w.heap.size, 0, none⟩) k k) (w.alloc (.cells (madeCells #[nilS, nilS] (k * 2)) 170)) := by
  obtain ⟨i, hi, hz, hs, hb⟩ := info_parts sysinfo
  have := run_make (P := Tryz.prog) w 164 170 i _ Tryz.underlying164 hi hz .i64 .i64 k k (by omega) (Int.le_refl _) (by rw [hb]; omega) (by omega)
  rw [hs] at this
  simpa [Value.cells] using this
/-- A new system. -/
def MadeSys (w : World) (W S : Nat) (e : Ending) (w' : World) : Prop := ∃ p g, e = .returned (.pointer (some ⟨p, 0, none⟩)) ∧ Sys w' p g W S 0 (fun _ => none) ∧ w.Extends w' ∧ w.heap.size ≤ p ∧ w.heap.size ≤ g
theorem sys_new (w : World) (W S : Nat) (hW : W ≤ 300) (hS : S ≤ 1000) : Sys ((w.alloc (.cells (madeCells #[nilS, nilS] (W * 2)) 170)).alloc (.cells #[.int .i64 S, .slice (some ⟨w.heap.size, 0, none⟩) W W, .int .i64 0] 166)) (w.heap.size + 1) w.heap.size W S 0 (fun _ => none) := by
  refine ⟨?_, ⟨fun _ => nilS, ?_, fun c hc => ⟨rfl, rfl⟩⟩, hW, hS⟩
  · have := World.rowIs_alloc (w.alloc (.cells (madeCells #[nilS, nilS] (W * 2)) 170)) #[.int .i64 S, .slice (some ⟨w.heap.size, 0, none⟩) W W, .int .i64 0] 166 (sysHead w.heap.size W S 0) (fun i hi => by
      match i, hi with
      | 0, _ => rfl
      | 1, _ => rfl
      | 2, _ => rfl)
    simpa using this
  · refine World.rowIs.alloc ?_ _
    have := World.rowIs_alloc w (madeCells #[nilS, nilS] (W * 2)) 170 (fun _ => nilS) (fun i hi => by
      rw [size_madeCells] at hi
      have h2 : i % 2 < 2 := Nat.mod_lt _ (by omega)
      have : ∀ j, j < 2 → ([nilS, nilS] : List Value)[j]?.getD default = nilS := by intro j hj; match j, hj with | 0, _ => rfl | 1, _ => rfl
      simp [madeCells, hi]
      exact this _ h2)
    rwa [size_madeCells] at this
set_option maxHeartbeats 400000 in
theorem newSystem_any (W S : Nat) (hW : W ≤ 300) (hS : S ≤ 1000) (w : World) : Calls Tryz.prog 97 #[.int .i64 W, .int .i64 S] w (MadeSys w W S) := by
  have hmk := makeSteps W hW
  have HF : Hid (MadeSys w W S (.returned (.pointer (some ⟨w.heap.size + 1, 0, none⟩))) ((w.alloc (.cells (madeCells #[nilS, nilS] (W * 2)) 170)).alloc (.cells #[.int .i64 S, .slice (some ⟨w.heap.size, 0, none⟩) W W, .int .i64 0] 166))) :=
    ⟨_, _, rfl, sys_new w W S hW hS, Gr.ext_trans (ext_alloc _ _) (ext_alloc _ _), Nat.le_succ _, Nat.le_refl _⟩
  go_enter Tryz.func97, Tryz.ntmps97
  go_wp2
  go_ret
  exact HF.out
theorem Sys.cells {w : World} {p g W S r : Nat} {st : Nat → Option (List Nat × List Nat)} (h : Sys w p g W S r st) : w.cell? ⟨p, 0, none⟩ = some (.int .i64 S) ∧ w.cell? ⟨p, 1, none⟩ = some (.slice (some ⟨g, 0, none⟩) W W) ∧ w.cell? ⟨p, 2, none⟩ = some (.int .i64 r) :=
  ⟨h.head.cell (i := 0) (by omega), h.head.cell (i := 1) (by omega), h.head.cell (i := 2) (by omega)⟩
set_option maxHeartbeats 400000 in
theorem full_any (p g W S r : Nat) (st : Nat → Option (List Nat × List Nat)) (w : World) (hs : Sys w p g W S r st) :
    Calls Tryz.prog 99 #[.pointer (some ⟨p, 0, none⟩)] w fun e w' => e = .returned (.bool (decide (r = W))) ∧ w.drew = w' := by
  obtain ⟨_, h1, h2⟩ := hs.cells
  have HD : Hid ((((r : Int) == (W : Int))) = decide (r = W)) := by
    show _ = _
    by_cases h : r = W <;> simp [h]; omega
  go_enter Tryz.func99, Tryz.ntmps99
  go_wp2
  refine Gr.region 10 [(false,0),(false,1),(false,2),(false,3),(false,4),(false,5),(false,6),(false,7),(false,8),(false,9)] (by kernel_rfl) (by kernel_rfl) (fun d _ _ _ _ h => by cases d <;> exact h) ?_
  simp only [Gr.pick, List.getElem?_cons_zero, List.getElem?_cons_succ, List.drop_succ_cons, List.drop_zero]
  iterate 10
    refine Gr.walk_t ?_ (Or.inl ⟨by rfl, ?_⟩) ?_
    rotate_left
    · intro w' hw'
      have hc1 := (Gr.of_drew hw').cell_of h1
      have hc2 := (Gr.of_drew hw').cell_of h2
      clear hw'
      go_simp
      try with_reducible rfl
    simp only [Act.put, List.setIfInBounds_toArray, List.set_cons_zero, List.set_cons_succ]
  refine Gr.walk_nil ?_
  rw [HD.out]
  go_wp2
  go_ret
  exact ⟨rfl, rfl⟩
/-- Whether all are 0. -/
def allZ (xs : List Nat) : Bool := xs.all (· == 0)
theorem allZ_iff (xs : List Nat) : allZ xs = true ↔ ∀ k, k < xs.length → xs.getD k 0 = 0 := by
  unfold allZ
  rw [List.all_eq_true]
  constructor
  · intro h k hk
    have := h _ (List.getElem_mem hk)
    simpa [hk] using this
  · intro h x hx
    obtain ⟨k, hk, rfl⟩ := List.mem_iff_getElem.1 hx
    have := h k hk
    simpa [hk] using this
set_option maxHeartbeats 400000 in
theorem isZero_any (v : Value) (xs : List Nat) (w : World) (hv : U8s w v xs) :
    Calls Tryz.prog 112 #[v] w fun e w' => e = .returned (.bool (allZ xs)) ∧ w = w' := by
  have hm := hv.len
  obtain ⟨a, cap, rfl, _, _⟩ := hv.slice
  have HC := Lib.hid hv.cell.2
  have HZ := Lib.hid (allZ_iff xs)
  clear hv
  generalize xs.length = n at *
  unfold maxLen at hm
  go_enter Tryz.func112, Tryz.ntmps112
  go_wp2
  go_loop [7] (fun i => ∃ k : Nat, k ≤ n ∧ i = .int .i64 k ∧ Hid (∀ j, j < k → xs.getD j 0 = 0)) (fun i => (n - intOf i).toNat)
  case atStart => exact ⟨0, by omega, rfl, fun j hj => absurd hj (Nat.not_lt_zero _)⟩
  case round =>
    obtain ⟨k, hk, rfl, hz⟩ := hrel
    by_cases h1 : k < n
    · obtain ⟨b, off, rfl, _, hc⟩ := HC.out (by omega)
      have hc1 := hc k h1
      clear hc
      by_cases h0 : xs.getD k 0 = 0
      · have hz' : Hid (∀ j, j < k + 1 → xs.getD j 0 = 0) := fun j hj => by
          by_cases h : j < k
          · exact hz.out j h
          · rw [show j = k by omega]; exact h0
        rw [h0] at hc1
        go_wp2
        go_round
        case rel => exact ⟨k + 1, by omega, by go_num, hz'⟩
        case measure => simp [intOf]; omega
      · have hne : Hid (allZ xs = false) := by
          show _ = _
          cases h : allZ xs with
          | false => rfl
          | true => exact absurd (HZ.out.1 h k h1) h0
        have hx : (((xs.getD k 0 : Nat) : Int) != 0) = true := by simp only [bne_iff_ne, ne_eq]; omega
        generalize xs.getD k 0 = x at *
        go_wp2
        go_ret
        exact ⟨by rw [hne.out]; rfl, rfl⟩
    · obtain rfl : k = n := by omega
      have hy : Hid (allZ xs = true) := HZ.out.2 hz.out
      go_wp2
      go_ret
      exact ⟨by rw [hy.out]; rfl, rfl⟩
end Go.Proofs.YtpfmmfapdcbnkaaGreatDoor
