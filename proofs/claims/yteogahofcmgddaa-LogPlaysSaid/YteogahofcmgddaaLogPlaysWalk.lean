/- The walk of LogPlays. -/
import Derived.Test.YteogahofcmgddaaLogStay
import Derived.Test.YteogahofcmgddaaActs
import Derived.Test.YteogahofcmgddaaGrowR
namespace Go.Proofs.Yteogahofcmgddaa
set_option maxRecDepth 20000
open Go.RowKit Go.Deep
set_option linter.unusedVariables false
theorem owns_same {w w' : World} {B s n : Nat} {T : TypeId} {v : Value} {vs : List Value} (h : w.ownsRow B T s v n vs) (e : ∀ g, v.ownBlock = some g → w'.heap[g]? = w.heap[g]?) : w'.ownsRow B T s v n vs := by
  refine ⟨h.1, ?_⟩
  rcases h.2 with h1 | ⟨g, cap, cur, rfl, hb, hh, hr⟩
  · exact .inl h1
  · exact .inr ⟨g, cap, cur, rfl, hb, (e g rfl).trans hh, hr⟩
/-- The block of a struct of two ints and bytes stays. -/
theorem act_cells {w : World} {g : Nat} {way n : Int} {v : Value} (h : w.heap[g]? = some (.cells #[.int .i64 way, .int .i64 n, v] 33 (0, 0))) : w.cell? ⟨g, 0, none⟩ = some (.int .i64 way) ∧ w.cell? ⟨g, 1, none⟩ = some (.int .i64 n) ∧ w.cell? ⟨g, 2, none⟩ = some v :=
  ⟨by rw [cell_of_row _ _ _ _ _ _ h]; rfl, by rw [cell_of_row _ _ _ _ _ _ h]; rfl, by rw [cell_of_row _ _ _ _ _ _ h]; rfl⟩
/-- Another block written, of another type. -/
theorem blk_grown {w w' : World} {g t : Nat} {cs cs' : Array Value} {T T' : TypeId} {f f' : Nat × Nat} (h : w.heap[g]? = some (.cells cs T f)) (ht : w.heap[t]? = some (.cells cs' T' f')) (hT : T ≠ T') (hg : w.grownBy w' (some t)) : w'.heap[g]? = some (.cells cs T f) := by
  rw [hg.block g (Array.getElem?_eq_some_iff.1 h).1 (fun e => by
    have e' := Option.some.inj e
    subst e'
    rw [h] at ht
    simp only [Option.some.injEq, Obj.cells.injEq] at ht
    exact hT ht.2.1)]
  exact h
theorem blk_ext {w w' : World} {g : Nat} {o : Obj} (h : w.heap[g]? = some o) (hx : w.Extends w') : w'.heap[g]? = some o := by
  rw [hx.block g (Array.getElem?_eq_some_iff.1 h).1]; exact h
theorem blk_ne {w : World} {g t : Nat} {cs cs' : Array Value} {T T' : TypeId} {f f' : Nat × Nat} (h : w.heap[g]? = some (.cells cs T f)) (ht : w.heap[t]? = some (.cells cs' T' f')) (hT : T ≠ T') : g ≠ t := fun e => by
  subst e
  rw [h] at ht
  simp only [Option.some.injEq, Obj.cells.injEq] at ht
  exact hT ht.2.1
theorem RAt.row {w : World} {t s : Nat} {D : Nat → Prop} {bs : List Nat} (h : RAt w t D bs s) : ∃ cs, w.heap[t]? = some (.cells cs 31 (0, 0)) := by
  obtain ⟨a, c, h1, _⟩ := h
  exact ⟨_, h1⟩
theorem LAt.fine {w : World} {t s : Nat} {l : List (List Nat)} (h : LAt w t l s) : LM.Fine l := by
  obtain ⟨_, _, _, h⟩ := h
  exact h
/-- It stays where a slice of bytes of the call's own is written, whose array is none of D's. -/
theorem RAt.by_row {w w' : World} {t s B n : Nat} {D : Nat → Prop} {bs : List Nat} {v : Value} {vs : List Value} (h : RAt w t D bs s) (ho : w.ownsRow B 5 1 v n vs) (hD : ∀ g, v.ownBlock = some g → ¬ D g) (hg : w.grownBy w' v.ownBlock) : RAt w' t D bs s := by
  cases hv : v.ownBlock with
  | none => rw [hv] at hg; exact h.ext (grown_none hg)
  | some g =>
    rw [hv] at hg
    obtain ⟨cs, hc⟩ := owns_at ho hv
    obtain ⟨cr, hr⟩ := h.row
    exact h.grown hg (blk_ne hr hc (by decide)) (.inl (hD g hv))
theorem LM.enc_le {l : List (List Nat)} : l.length ≤ LM.size l := by
  induction l with
  | nil => exact Nat.le_refl _
  | cons p l ih => simp only [List.length_cons, LM.size]; omega
set_option maxHeartbeats 8000000 in
theorem LogPlays_walk (v : Value) (l : List Ac) (w : World) (hv : Acts w v l) :
    Calls Try.prog 3 #[v] w fun e w' => e = .returned (.bool true) ∧ Below w.heap.size w w' := by
  obtain ⟨a, c, rfl⟩ := hv.slice
  have hlen := hv.len
  have HV := Lib.hid hv.at.2
  unfold maxLen at hlen
  clear hv
  generalize l.length = n at *
  by_cases h1 : 100 < n
  · go_enter Try.func3, Try.ntmps3
    go_wp2_with fail
    refine (alive15_any w).mono ?_
    rintro e w1 ⟨rfl, hx1⟩
    have HX1 := Lib.hid hx1
    clear hx1
    go_wp2
    go_ret
    exact ⟨rfl, Gr.below_of HX1.out⟩
  have hd1 : decide (100 < (n : Int)) = false := by simp; omega
  have hn2 : n ≤ 100 := by omega
  clear h1 hlen
  obtain ⟨iu, hiu, hu0, hu1, hu2⟩ := info_parts byteinfo
  have HI := Lib.hid hiu
  have HZ0 := Lib.hid hu0
  have HZ1 := Lib.hid hu1
  have HZ2 := Lib.hid hu2
  clear hiu hu0 hu1 hu2
  go_enter Try.func3, Try.ntmps3
  go_wp2_with fail
  refine (alive15_any w).mono ?_
  rintro e w1 ⟨rfl, hx1⟩
  have HX1 := Lib.hid hx1
  clear hx1
  go_wp2_with fail
  clear hd1
  generalize hw2 : World.alloc w1 _ = w2
  generalize hw3 : World.alloc w2 _ = w3
  generalize hw4 : World.alloc w3 _ = w4
  obtain ⟨tx, htx⟩ : ∃ tx, tx = w1.heap.size := ⟨_, rfl⟩
  obtain ⟨D0, hD0⟩ : ∃ D0 : Nat → Prop, D0 = fun g => w.heap.size ≤ g := ⟨_, rfl⟩
  have hD0i : ∀ g, w.heap.size ≤ g → D0 g := fun g hg => by rw [hD0]; exact hg
  have hD0o : ∀ g, D0 g → w.heap.size ≤ g := fun g hg => by rw [hD0] at hg; exact hg
  have hs2 : w2.heap.size = tx + 1 := by subst hw2; simp [htx]
  have hs3 : w3.heap.size = tx + 1 + 1 := by subst hw3; simp [hs2]
  have hl2 : LAt w2 tx [] 0 := by subst hw2; rw [htx]; exact LAt.new w1
  have ho3 : LAt w3 (tx + 1) [] 0 := by
    have h := LAt.new w2
    rw [hw3, hs2] at h
    exact h
  have hr4 : RAt w4 (tx + 1 + 1) D0 (LM.spell []) 0 := by
    have h := RAt.new w3 D0
    rw [hw4, hs3] at h
    exact h
  have hx2 : w1.Extends w2 := by subst hw2; exact ext_alloc _ _
  have hx3 : w2.Extends w3 := by subst hw3; exact ext_alloc _ _
  have hx4 : w3.Extends w4 := by subst hw4; exact ext_alloc _ _
  have hbt : w.heap.size ≤ tx := by rw [htx]; exact HX1.out.size
  rw [← htx]
  have HD0I := Lib.hid hD0i
  have HD0O := Lib.hid hD0o
  have HL := Lib.hid (hl2.ext (Gr.ext_trans hx3 hx4))
  have HO := Lib.hid (ho3.ext hx4)
  have HR := Lib.hid hr4
  have HB : Hid (Below w.heap.size w w4) := Gr.below_of (Gr.ext_trans HX1.out (Gr.ext_trans hx2 (Gr.ext_trans hx3 hx4)))
  obtain ⟨tz, htz⟩ : ∃ tz, tz = tx + 1 := ⟨_, rfl⟩
  rw [← htz] at HO HR ⊢
  obtain ⟨tr, htr⟩ : ∃ tr, tr = tz + 1 := ⟨_, rfl⟩
  rw [← htr] at HR ⊢
  have hxo : tx ≠ tz := by omega
  have hxr : tx ≠ tr := by omega
  have hor : tz ≠ tr := by omega
  have hbo : w.heap.size ≤ tz := by omega
  have hbr : w.heap.size ≤ tr := by omega
  clear hw2 hw3 hw4 hs2 hs3 hl2 ho3 hr4 hx2 hx3 hx4 htx htz htr hD0 hD0i hD0o HX1
  go_loopw [7] (fun s7 wr => ∃ (i : Nat) (L : List (List Nat)) (s : Nat) (O : List (List Nat)), i ≤ n ∧ s7 = .int .i64 (i : Nat) ∧ Hid (LAt wr tx L s) ∧ Hid (RAt wr tr D0 (LM.spell L) s) ∧ Hid (LAt wr tz O 0) ∧ Hid (s ≤ LM.size L) ∧ Hid (LM.size L ≤ 302 * i) ∧ Hid (LM.size O ≤ 3 * i) ∧ Hid (Below w.heap.size w wr)) (fun s7 _ => n - (intOf s7).toNat)
  case atStart => exact ⟨0, [], 0, [], by omega, by rfl, HL, HR, HO, Nat.le_refl _, Nat.le_refl _, Nat.le_refl _, HB⟩
  clear HL HO HR HB
  case round =>
    obtain ⟨i, L, s, O, hi, rfl, HL, HR, HO, HS, HZL, HZO, HB⟩ := hrel
    by_cases h1 : i < n
    · obtain ⟨g0, off, rfl, hgl, hcell⟩ := HV.out (by omega)
      obtain ⟨ba, bc, hc0, hc1, hc2, hub, hww, hwn⟩ := hcell i h1
      have HU := Lib.hid hub
      generalize l.getD i Ac.zero = ac at *
      obtain ⟨way, nn, p⟩ := ac
      simp only at hc0 hc1 hc2 hww hwn
      have HU : Hid (U8s w (.slice ba p.length bc) p) := HU.out
      have HNN := Lib.hid (bounds_i64 hwn)
      have d0 : wr.cell? ⟨g0, off + i * 3, none⟩ = some (.int .i64 way) := (HB.out.cell (p := ⟨g0, off + i * 3, none⟩) hgl).trans hc0
      have d1 : wr.cell? ⟨g0, off + i * 3 + 1, none⟩ = some (.int .i64 nn) := (HB.out.cell (p := ⟨g0, off + i * 3 + 1, none⟩) hgl).trans hc1
      have d2 : wr.cell? ⟨g0, off + i * 3 + 2, none⟩ = some (.slice ba p.length bc) := (HB.out.cell (p := ⟨g0, off + i * 3 + 2, none⟩) hgl).trans hc2
      have hpl := HU.out.len
      unfold maxLen at hpl
      clear hcell hc0 hc1 hc2 hub hww hwn
      obtain ⟨q, hq⟩ : ∃ q, q = p.length := ⟨_, rfl⟩
      rw [← hq] at d2 hpl HU
      have HQ := Lib.hid hq
      clear hq
      by_cases h3 : 300 < q
      · have HB2 : Hid (∀ o, Below w.heap.size w (wr.alloc o)) := fun o => HB.out.alloc HB.out.size o
        clear HL HR HO HS HZL HZO HB HU HQ
        go_wp2
        go_ret
        exact ⟨rfl, HB2.out _⟩
      · have hq3 : q ≤ 300 := by omega
        clear h3
        go_wp2_with fail
        generalize hw5 : World.alloc wr _ = w5
        generalize hw6 : World.alloc w5 _ = w6
        obtain ⟨ga, hga⟩ : ∃ ga, ga = wr.heap.size := ⟨_, rfl⟩
        have hx5 : wr.Extends w5 := by subst hw5; exact ext_alloc _ _
        have hx6 : w5.Extends w6 := by subst hw6; exact ext_alloc _ _
        have hs5 : w5.heap.size = ga + 1 := by subst hw5; simp [hga]
        have ha5 : w5.heap[ga]? = some (.cells #[.int .i64 way, .int .i64 nn, .slice ba q bc] 33 (0, 0)) := by subst hw5; rw [hga]; exact heap_alloc_new _ _
        have ha6 := blk_ext ha5 hx6
        have hu6 : U8s w6 (.slice (some ⟨ga + 1, 0, none⟩) 1 1) [i] := by
          have h := u8s_new w5 w5.heap.size 1 1 5 #[.int .u8 ((i : Nat) : Int)] [i] rfl rfl rfl (by simp [maxLen]) (by intro x hx; simp at hx; omega)
          rw [hs5] at h
          rw [← hw6]; exact h
        have hx06 := Gr.ext_trans hx5 hx6
        have HL6 := Lib.hid (HL.out.ext hx06)
        have HR6 := Lib.hid (HR.out.ext hx06)
        have HO6 := Lib.hid (HO.out.ext hx06)
        have HB6 : Hid (Below w.heap.size w w6) := HB.out.trans (below_of_ext hx06 HB.out.size)
        have HA6 := Lib.hid ha6
        have HU6 := Lib.hid hu6
        rw [← hga]
        clear hw5 hw6 hx5 hx6 hs5 ha5 ha6 hu6 hx06 hga d0 d1 d2 HL HR HO HB
        refine (append15_ok tz 0 O _ [i] w6 HO6.out HU6.out (by simp) (by have := HZO.out; omega)).mono ?_
        rintro e w7 ⟨rfl, ho7, hg7⟩
        obtain ⟨pz, hbz⟩ := HO6.out.block
        have HL7 := Lib.hid (HL6.out.grown hg7 hbz (by decide) hxo)
        have HR7 := Lib.hid (HR6.out.grown hg7 (Ne.symm hor) (.inr ⟨_, _, _, hbz, by decide⟩))
        have HO7 := Lib.hid ho7
        have HA7 := Lib.hid (blk_grown HA6.out hbz (by decide) hg7)
        have HB7 : Hid (Below w.heap.size w w7) := HB6.out.grown hg7 HB6.out.size (fun g hg => by have := Option.some.inj hg; omega)
        have HZO7 : Hid (LM.size (O ++ [[i]]) ≤ 3 * (i + 1)) := by
          have h := HZO.out
          rw [LM.size_snoc]
          show _ + 1 ≤ _; omega
        generalize O ++ [[i]] = O2 at *
        clear ho7 hg7 hbz HL6 HR6 HO6 HA6 HB6 HU6 HZO
        obtain ⟨a0, a1, a2⟩ := act_cells HA7.out
        have hway : way = 0 ∨ way = 1 ∨ way = 2 ∨ ((way == 0) = false ∧ (way == 1) = false ∧ (way == 2) = false) := by
          by_cases e0 : way = 0
          · exact .inl e0
          by_cases e1 : way = 1
          · exact .inr (.inl e1)
          by_cases e2 : way = 2
          · exact .inr (.inr (.inl e2))
          exact .inr (.inr (.inr ⟨by simp [e0], by simp [e1], by simp [e2]⟩))
        rcases hway with rfl | rfl | rfl | ⟨e0, e1, e2⟩
        · obtain ⟨D1, hD1⟩ : ∃ D1 : Value → Nat → Prop, D1 = fun bv g => w.heap.size ≤ g ∧ bv.ownBlock ≠ some g := ⟨_, rfl⟩
          have HD1 : Hid (∀ bv g, D1 bv g ↔ w.heap.size ≤ g ∧ bv.ownBlock ≠ some g) := fun bv g => by rw [hD1]
          clear hD1
          have HUA : Hid (∀ w', Below w.heap.size w w' → U8s w' (.slice ba q bc) p) := fun w' h => HU.out.ext (Gr.ext_of h)
          have HSRC : Hid (∀ bv, p = [] ∨ ∀ g, (Value.slice ba q bc).ownBlock = some g → ¬ D1 bv g) := fun bv => by
            rcases HU.out with h | ⟨b0, o0, c0, h1, _, _, h3, _⟩
            · exact .inl h.1
            · refine .inr fun g hg hd => ?_
              rw [h1] at hg
              simp only [Value.ownBlock, Option.some.injEq] at hg
              have := ((HD1.out bv g).1 hd).1
              omega
          have hbs7 := HB7.out.size
          go_wp2_with (at_builtin; refine wpList_append_own_src _ rfl _ _ 29 29 rfl w7.heap.size 5 iu (.int .u8 0) 1 1 Try.underlying29 HI.out HZ0.out HZ1.out HZ2.out rfl _ _ _ rfl (World.ownsRow_nil _ _ _ _) _ q (u8vs p) rfl (by have h := (HUA.out w7 HB7.out).src (P := Try.prog) (tx := 29) Try.underlying29; rw [← HQ.out] at h; exact h) (by unfold maxLen; omega) (by omega) (Nat.le_refl _) ?_)
          intro bv w8 hob hgb _
          obtain ⟨b9, c9, rfl⟩ := owns_slice hob
          have hx8 : w7.Extends w8 := grown_none hgb
          obtain ⟨wd, hwd⟩ : ∃ wd, wd = w8.drew := ⟨_, rfl⟩
          have hxd : w7.Extends wd := by rw [hwd]; exact Gr.ext_drew hx8
          have hobd : wd.ownsRow w7.heap.size 5 1 (.slice b9 q c9) q (u8vs p) := by rw [hwd]; exact hob
          have HDN : Hid (∀ g, wd.heap.size ≤ g → D1 (.slice b9 q c9) g) := fun g hg => (HD1.out _ g).2 ⟨by have := hxd.size; omega, fun e => by have := (hobd.lt g e).2; omega⟩
          have HLd := Lib.hid (HL7.out.ext hxd)
          have HRd : Hid (RAt wd tr (D1 (.slice b9 q c9)) (LM.spell L) s) := (HR7.out.mono (D' := D1 (.slice b9 q c9)) (fun g hg hd => (HD1.out _ g).2 ⟨HD0O.out g hd, fun e => by have := (hobd.lt g e).1; omega⟩)).ext hxd
          have HOd := Lib.hid (HO7.out.ext hxd)
          have HBd : Hid (Below w.heap.size w wd) := HB7.out.trans (below_of_ext hxd HB7.out.size)
          have HAd := Lib.hid (blk_ext HA7.out hxd)
          have HOBd := Lib.hid hobd
          clear hob hgb hx8 hxd hobd HL7 HR7 HO7 HB7 HA7 a0 a1 a2
          obtain ⟨px, hbx⟩ := HLd.out.block
          have HBX := Lib.hid hbx
          clear hbx
          have HCA : Hid (∀ w', wd.grownBy w' (some tx) → w'.cell? ⟨ga, 2, none⟩ = some (.slice ba q bc)) := fun w' h => (act_cells (blk_grown HAd.out HBX.out (by decide) h)).2.2
          have HBV : Hid (U8s wd (.slice b9 q c9) p) := owns_u8s HOBd.out HU.out.lt
          have HAD8 : Hid (w8.heap[ga]? = some (.cells #[.int .i64 0, .int .i64 nn, .slice ba q bc] 33 (0, 0))) := by rw [hwd] at HAd; exact HAd.out
          obtain ⟨a0, a1, a2⟩ := act_cells HAD8.out
          clear a1
          go_wp2_with fail
          refine GrR.region (some tx) 7 [(false,0),(false,1),(false,4),(false,5),(false,6),(true,2),(true,3)] (by kernel_rfl) (by kernel_rfl) (fun d _ _ _ _ h => by cases d <;> exact h) ?_
          simp only [Gr.pick, List.getElem?_cons_zero, List.getElem?_cons_succ, List.drop_succ_cons, List.drop_zero]
          rw [← hwd]
          clear hwd a0 a2 HAD8
          iterate 4
            refine GrR.walk_t ?_ (Or.inl ⟨by rfl, ?_⟩) ?_
            rotate_left
            · intro w' hw'
              clear hw'
              go_simp
              try with_reducible rfl
            simp only [Act.put, List.setIfInBounds_toArray, List.set_cons_zero, List.set_cons_succ]
          refine GrR.walk_t ?_ (Or.inl ⟨by rfl, ?_⟩) ?_
          rotate_left
          · intro w' hw'
            have hc0 := HCA.out w' hw'
            clear hw'
            go_simp
            try with_reducible rfl
          simp only [Act.put, List.setIfInBounds_toArray, List.set_cons_zero, List.set_cons_succ]
          refine GrR.walk_c (fun K hK => ?_)
          go_simp
          refine (append15_ok tx s L _ p wd HLd.out HBV.out (by have := HQ.out; omega) (by have := HZL.out; omega)).mono ?_
          rintro e w9 ⟨rfl, hl9, hg9⟩
          have HL9 := Lib.hid hl9
          have HR9 := Lib.hid (HRd.out.grown hg9 (Ne.symm hxr) (.inr ⟨_, _, _, HBX.out, by decide⟩))
          have HO9 := Lib.hid (HOd.out.grown hg9 HBX.out (by decide) (Ne.symm hxo))
          have HB9 : Hid (Below w.heap.size w w9) := HBd.out.grown hg9 HBd.out.size (fun g hg => by have := Option.some.inj hg; omega)
          have HOB9 : Hid (w9.ownsRow w7.heap.size 5 1 (.slice b9 q c9) q (u8vs p)) := HOBd.out.kept hg9 (by
            cases hv : (Value.slice b9 q c9).ownBlock with
            | none => exact .inl rfl
            | some g =>
              obtain ⟨cs, hc⟩ := owns_at HOBd.out hv
              exact .inr fun e => blk_ne hc HBX.out (by decide) (Option.some.inj e))
          have HDN9 : Hid (∀ g, w9.heap.size ≤ g → D1 (.slice b9 q c9) g) := fun g hg => HDN.out g (Nat.le_trans hg9.size hg)
          try go_simp
          refine hK.out _ _ (hg9) ?_
          clear hK K
          clear hl9 hg9 HLd HRd HOd HBd HAd HOBd HDN HCA HBV HBX
          refine GrR.walk_c (fun K hK => ?_)
          go_simp
          refine (num15_any 0 w9).mono ?_
          rintro e w10 ⟨rfl, rfl⟩
          try go_simp
          refine hK.out _ _ ((grown_refl _ _)) ?_
          clear hK K
          refine GrR.walk_nil ?_
          go_wp2_with fail
          refine (rappend15_any tr s (D1 (.slice b9 q c9)) (LM.spell L) (.slice ba q bc) p w9 HR9.out (HUA.out w9 HB9.out) (by have := HQ.out; omega) (by rw [LM.spell_length]; have := HZL.out; omega) (HSRC.out _) HDN9.out).mono ?_
          rintro e w10 ⟨rfl, hr10, ht10⟩
          rw [← LM.spell_snoc] at hr10
          have HL10 := Lib.hid (HL9.out.touch ht10 HR9.out.shape)
          have HO10 := Lib.hid (HO9.out.touch ht10 HR9.out.shape)
          have HB10 : Hid (Below w.heap.size w w10) := HB9.out.trans (ht10.below hbr HB9.out.size (fun g hd => ((HD1.out _ g).1 hd).1))
          have HOB10 : Hid (w10.ownsRow w7.heap.size 5 1 (.slice b9 q c9) q (u8vs p)) := owns_same HOB9.out (fun g hg => by
            obtain ⟨cs, hc⟩ := owns_at HOB9.out hg
            obtain ⟨cr, hr⟩ := HR9.out.row
            exact ht10.away g (HOB9.out.lt g hg).2 (blk_ne hc hr (by decide)) (fun hd => ((HD1.out _ g).1 hd).2 hg))
          have HR10 := Lib.hid hr10
          have HSP : Hid (s ≤ LM.size (L ++ [p])) := by have h := HS.out; rw [LM.size_append]; show _ ≤ _; omega
          have HZP : Hid (LM.size (L ++ [p]) ≤ 302 * (i + 1)) := by have h := HZL.out; have h2 := HQ.out; rw [LM.size_snoc]; show _ ≤ _; omega
          have hbs10 := HB10.out.size
          clear hr10 ht10 HL9 HR9 HO9 HB9 HOB9 HDN9 HUA HSRC HU
          generalize L ++ [p] = LP at *
          go_wp2_with fail
          go_loopw [10] (fun s10 wy => ∃ k : Nat, k ≤ q ∧ s10 = .int .i64 (k : Nat) ∧ Hid (∃ ys : List Nat, ys.length = q ∧ wy.ownsRow w7.heap.size 5 1 (.slice b9 q c9) q (u8vs ys)) ∧ Hid (w10.grownBy wy (Value.slice b9 q c9).ownBlock)) (fun s10 _ => q - (intOf s10).toNat)
          case atStart => exact ⟨0, by omega, by rfl, Lib.hid ⟨p, HQ.out.symm, HOB10.out⟩, grown_refl _ _⟩
          case round =>
            rename_i wy
            obtain ⟨k, hk, rfl, HY, HGY⟩ := hrel
            by_cases hkq : k < q
            · obtain ⟨ys, hyl, hoy⟩ := HY.out
              rcases id hoy.2 with ⟨e, h0⟩ | ⟨g9, cap, cur, e, hb9, hg9, hnc, hcm, hcs, htk⟩
              · omega
              · simp only [Value.slice.injEq] at e
                obtain ⟨rfl, -, rfl⟩ := e
                have hcy : wr.cell? ⟨g9, k, none⟩ = some (.int .u8 ((ys.getD k 0 : Nat) : Int)) := by
                  rw [hoy.cellAt k (by omega)]
                  simp [u8vs, List.getElem?_eq_getElem (show k < ys.length by omega), List.getD_eq_getElem?_getD]
                have hfy := hoy.frozenAt k
                have HP : Hid (∀ w2, w2 = wr.setCell ⟨g9, k, none⟩ (.int .u8 99) → (∃ ys : List Nat, ys.length = q ∧ w2.ownsRow w7.heap.size 5 1 (.slice (some ⟨g9, 0, none⟩) q c9) q (u8vs ys)) ∧ w10.grownBy w2 (some g9)) := fun w2 e => by
                  subst e
                  refine ⟨⟨ys.set k 99, by rw [List.length_set]; exact hyl, ?_⟩, grown_setCell HGY.out _ _⟩
                  have h := (hoy.stored k (.int .u8 99)).1
                  rw [show (u8vs ys).set k (.int .u8 99) = u8vs (ys.set k 99) by simp [u8vs, List.map_set]] at h
                  exact h
                clear HY HGY hoy htk hg9 hcs
                go_wp2
                go_roundw
                case rel => exact ⟨k + 1, by omega, by go_num, Lib.hid (HP.out _ rfl).1, Lib.hid (HP.out _ rfl).2⟩
                case measure => simp [intOf]; omega
            · have HD1n : Hid (∀ g, (Value.slice b9 q c9).ownBlock = some g → ¬ D1 (.slice b9 q c9) g) := fun g hg hd => ((HD1.out _ g).1 hd).2 hg
              have HLy := Lib.hid (HL10.out.row HOB10.out (by decide) (by decide) HGY.out)
              have HOy := Lib.hid (HO10.out.row HOB10.out (by decide) (by decide) HGY.out)
              have HRy : Hid (RAt wr tr D0 (LM.spell LP) s) := (HR10.out.by_row HOB10.out HD1n.out HGY.out).mono (fun g _ hd => HD0I.out g ((HD1.out _ g).1 hd).1)
              have HBy : Hid (Below w.heap.size w wr) := HB10.out.grown HGY.out hbs10 (fun g hg => Nat.le_trans hbs7 (HOB10.out.lt g hg).1)
              clear HL10 HO10 HR10 HB10 HGY HY HOB10 HD1n
              go_wp2_with fail
              obtain ⟨wd, hwd⟩ : ∃ wd, wd = wr.drew := ⟨_, rfl⟩
              have hxd : wr.Extends wd := by rw [hwd]; exact Gr.ext_drew (Gr.ext_refl _)
              have HLd := Lib.hid (HLy.out.ext hxd)
              have HRd := Lib.hid (HRy.out.ext hxd)
              have HOd := Lib.hid (HOy.out.ext hxd)
              have HBd : Hid (Below w.heap.size w wd) := HBy.out.trans (below_of_ext hxd HBy.out.size)
              have HFd := Lib.hid HLy.out.fine
              have hzz : LM.size (LP) ≤ 31000 := by have := HZP.out; omega
              have HLE : Hid ((LP).length ≤ 1000000) := Nat.le_trans LM.enc_le (by omega)
              obtain ⟨L2, hL2⟩ : ∃ L2, L2 = LP := ⟨_, rfl⟩
              have HZL2 := Lib.hid HZP.out
              have HS2 := Lib.hid HSP.out
              rw [← hL2] at HLd HRd HFd HLE hzz HZL2 HS2
              have HZL2s := Lib.hid (LM.spell_length L2)
              clear hL2
              refine Gr.region 15 [(false,0),(false,2),(true,1),(true,3),(true,4),(false,5),(false,6),(false,7),(false,9),(false,10),(false,11),(false,12),(false,13),(true,8),(false,14)] (by kernel_rfl) (by kernel_rfl) (fun d _ _ _ _ h => by cases d <;> exact h) ?_
              simp only [Gr.pick, List.getElem?_cons_zero, List.getElem?_cons_succ, List.drop_succ_cons, List.drop_zero]
              rw [← hwd]
              clear hwd hxd
              iterate 2
                refine Gr.walk_t ?_ (Or.inl ⟨by rfl, ?_⟩) ?_
                rotate_left
                · intro w' hw'
                  clear hw'
                  go_simp
                  try with_reducible rfl
                simp only [Act.put, List.setIfInBounds_toArray, List.set_cons_zero, List.set_cons_succ]
              refine Gr.walk_c (fun K hK => ?_)
              go_simp
              refine (all15_any tx _ L2 wd HLd.out HLE.out).mono ?_
              rintro e wa ⟨va, rfl, hxa, hra⟩
              obtain ⟨xa, ya, rfl, _⟩ := hra.slice
              have HLa := Lib.hid (HLd.out.ext hxa)
              have HRa := Lib.hid (HRd.out.ext hxa)
              have HOa := Lib.hid (HOd.out.ext hxa)
              have HBa : Hid (Below w.heap.size w wa) := HBd.out.trans (below_of_ext hxa HBd.out.size)
              have HVa := Lib.hid hra
              try go_simp
              refine hK.out _ _ (hxa) ?_
              clear hK K
              clear hxa hra HLd HRd HOd HBd
              refine Gr.walk_c (fun K hK => ?_)
              go_simp
              refine (rall15_any tr _ D0 L2 wa HRa.out HFd.out (by omega)).mono ?_
              rintro e wb ⟨vb, rfl, hxb, hrb⟩
              obtain ⟨xb, yb, rfl, _⟩ := hrb.slice
              have HLb := Lib.hid (HLa.out.ext hxb)
              have HRb := Lib.hid (HRa.out.ext hxb)
              have HOb := Lib.hid (HOa.out.ext hxb)
              have HBb : Hid (Below w.heap.size w wb) := HBa.out.trans (below_of_ext hxb HBa.out.size)
              have HVb := Lib.hid (HVa.out.ext hxb)
              have HWb := Lib.hid hrb
              try go_simp
              refine hK.out _ _ (hxb) ?_
              clear hK K
              clear hxb hrb HLa HRa HOa HBa HVa
              refine Gr.walk_c (fun K hK => ?_)
              go_simp
              refine (same_any _ _ L2 wb HVb.out HWb.out).mono ?_
              rintro e wc ⟨rfl, hbc⟩
              have hxc := Gr.ext_of hbc
              have HLc := Lib.hid (HLb.out.ext hxc)
              have HRc := Lib.hid (HRb.out.ext hxc)
              have HOc := Lib.hid (HOb.out.ext hxc)
              have HBc : Hid (Below w.heap.size w wc) := HBb.out.trans (below_of_ext hxc HBb.out.size)
              try go_simp
              refine hK.out _ _ (hxc) ?_
              clear hK K
              clear hxc hbc HLb HRb HOb HBb HVb HWb
              obtain ⟨ra, rc, hr0, _, _, _, _, _, _⟩ := HRc.out.cells
              rw [HZL2s.out] at hr0
              have HR0 := Lib.hid hr0
              clear hr0
              iterate 3
                refine Gr.walk_t ?_ (Or.inl ⟨by rfl, ?_⟩) ?_
                rotate_left
                · intro w' hw'
                  clear hw'
                  go_simp
                  try with_reducible rfl
                simp only [Act.put, List.setIfInBounds_toArray, List.set_cons_zero, List.set_cons_succ]
              iterate 3
                refine Gr.walk_t ?_ (Or.inl ⟨by rfl, ?_⟩) ?_
                rotate_left
                · intro w' hw'
                  clear hw'
                  go_simp
                  try with_reducible rfl
                simp only [Act.put, List.setIfInBounds_toArray, List.set_cons_zero, List.set_cons_succ]
              refine Gr.walk_t ?_ (Or.inl ⟨by rfl, ?_⟩) ?_
              rotate_left
              · intro w' hw'
                have hr0 := hw'.cell_of HR0.out
                clear hw'
                go_simp
                try with_reducible rfl
              simp only [Act.put, List.setIfInBounds_toArray, List.set_cons_zero, List.set_cons_succ]
              refine Gr.walk_t ?_ (Or.inl ⟨by rfl, ?_⟩) ?_
              rotate_left
              · intro w' hw'
                clear hw'
                go_simp
                try with_reducible rfl
              simp only [Act.put, List.setIfInBounds_toArray, List.set_cons_zero, List.set_cons_succ]
              refine Gr.walk_c (fun K hK => ?_)
              go_simp
              refine (len15_any tx _ L2 wc HLc.out).mono ?_
              rintro e we ⟨rfl, rfl⟩
              try go_simp
              refine hK.out _ _ ((Gr.ext_refl _)) ?_
              clear hK K
              refine Gr.walk_t ?_ (Or.inl ⟨by rfl, ?_⟩) ?_
              rotate_left
              · intro w' hw'
                clear hw'
                go_simp
                try with_reducible rfl
              simp only [Act.put, List.setIfInBounds_toArray, List.set_cons_zero, List.set_cons_succ]
              refine Gr.walk_nil ?_
              clear HR0
              go_wp2
              go_roundw
              case rel => exact ⟨i + 1, L2, _, O2, by omega, by go_num, HLc, HRc, HOc, HS2, HZL2, HZO7, HBc⟩
              case measure => simp [intOf]; omega
        · go_wp2_with fail
          refine (sure15_any tx s L w7 HL7.out).mono ?_
          rintro e w8 ⟨rfl, hl8, hg8⟩
          obtain ⟨px, hbx⟩ := HL7.out.block
          have HL8 := Lib.hid hl8
          have HR8 := Lib.hid (HR7.out.grown hg8 (Ne.symm hxr) (.inr ⟨_, _, _, hbx, by decide⟩))
          have HO8 := Lib.hid (HO7.out.grown hg8 hbx (by decide) (Ne.symm hxo))
          have HA8 := Lib.hid (blk_grown HA7.out hbx (by decide) hg8)
          have HB8 : Hid (Below w.heap.size w w8) := HB7.out.grown hg8 HB7.out.size (fun g hg => by have := Option.some.inj hg; omega)
          clear hl8 hg8 hbx HL7 HR7 HO7 HA7 HB7 a0 a1 a2
          obtain ⟨a0, a1, a2⟩ := act_cells HA8.out
          go_wp2_with fail
          refine (rsure15_any tr s D0 (LM.spell L) w8 HR8.out).mono ?_
          rintro e w9 ⟨rfl, hr9, hg9⟩
          rw [LM.spell_length] at hr9
          obtain ⟨cr, hbr9⟩ := HR8.out.row
          have HR9 := Lib.hid hr9
          have HL9 := Lib.hid (HL8.out.grown hg9 hbr9 (by decide) hxr)
          have HO9 := Lib.hid (HO8.out.grown hg9 hbr9 (by decide) hor)
          have HA9 := Lib.hid (blk_grown HA8.out hbr9 (by decide) hg9)
          have HB9 : Hid (Below w.heap.size w w9) := HB8.out.grown hg9 HB8.out.size (fun g hg => by have := Option.some.inj hg; omega)
          have HS9 : Hid (LM.size L ≤ LM.size L) := Nat.le_refl _
          have HZ9 : Hid (LM.size L ≤ 302 * (i + 1)) := by have h := HZL.out; show _ ≤ _; omega
          clear hr9 hg9 hbr9 HL8 HR8 HO8 HA8 HB8 a0 a1 a2
          obtain ⟨a0, a1, a2⟩ := act_cells HA9.out
          go_wp2_with fail
          obtain ⟨wd, hwd⟩ : ∃ wd, wd = w9.drew := ⟨_, rfl⟩
          have hxd : w9.Extends wd := by rw [hwd]; exact Gr.ext_drew (Gr.ext_refl _)
          have HLd := Lib.hid (HL9.out.ext hxd)
          have HRd := Lib.hid (HR9.out.ext hxd)
          have HOd := Lib.hid (HO9.out.ext hxd)
          have HBd : Hid (Below w.heap.size w wd) := HB9.out.trans (below_of_ext hxd HB9.out.size)
          have HFd := Lib.hid HL9.out.fine
          have hzz : LM.size (L) ≤ 31000 := by have := HZ9.out; omega
          have HLE : Hid ((L).length ≤ 1000000) := Nat.le_trans LM.enc_le (by omega)
          obtain ⟨L2, hL2⟩ : ∃ L2, L2 = L := ⟨_, rfl⟩
          have HZL2 := Lib.hid HZ9.out
          have HS2 := Lib.hid HS9.out
          rw [← hL2] at HLd HRd HFd HLE hzz HZL2 HS2
          have HZL2s := Lib.hid (LM.spell_length L2)
          clear hL2
          refine Gr.region 15 [(false,0),(false,2),(true,1),(true,3),(true,4),(false,5),(false,6),(false,7),(false,9),(false,10),(false,11),(false,12),(false,13),(true,8),(false,14)] (by kernel_rfl) (by kernel_rfl) (fun d _ _ _ _ h => by cases d <;> exact h) ?_
          simp only [Gr.pick, List.getElem?_cons_zero, List.getElem?_cons_succ, List.drop_succ_cons, List.drop_zero]
          rw [← hwd]
          clear hwd hxd
          iterate 2
            refine Gr.walk_t ?_ (Or.inl ⟨by rfl, ?_⟩) ?_
            rotate_left
            · intro w' hw'
              clear hw'
              go_simp
              try with_reducible rfl
            simp only [Act.put, List.setIfInBounds_toArray, List.set_cons_zero, List.set_cons_succ]
          refine Gr.walk_c (fun K hK => ?_)
          go_simp
          refine (all15_any tx _ L2 wd HLd.out HLE.out).mono ?_
          rintro e wa ⟨va, rfl, hxa, hra⟩
          obtain ⟨xa, ya, rfl, _⟩ := hra.slice
          have HLa := Lib.hid (HLd.out.ext hxa)
          have HRa := Lib.hid (HRd.out.ext hxa)
          have HOa := Lib.hid (HOd.out.ext hxa)
          have HBa : Hid (Below w.heap.size w wa) := HBd.out.trans (below_of_ext hxa HBd.out.size)
          have HVa := Lib.hid hra
          try go_simp
          refine hK.out _ _ (hxa) ?_
          clear hK K
          clear hxa hra HLd HRd HOd HBd
          refine Gr.walk_c (fun K hK => ?_)
          go_simp
          refine (rall15_any tr _ D0 L2 wa HRa.out HFd.out (by omega)).mono ?_
          rintro e wb ⟨vb, rfl, hxb, hrb⟩
          obtain ⟨xb, yb, rfl, _⟩ := hrb.slice
          have HLb := Lib.hid (HLa.out.ext hxb)
          have HRb := Lib.hid (HRa.out.ext hxb)
          have HOb := Lib.hid (HOa.out.ext hxb)
          have HBb : Hid (Below w.heap.size w wb) := HBa.out.trans (below_of_ext hxb HBa.out.size)
          have HVb := Lib.hid (HVa.out.ext hxb)
          have HWb := Lib.hid hrb
          try go_simp
          refine hK.out _ _ (hxb) ?_
          clear hK K
          clear hxb hrb HLa HRa HOa HBa HVa
          refine Gr.walk_c (fun K hK => ?_)
          go_simp
          refine (same_any _ _ L2 wb HVb.out HWb.out).mono ?_
          rintro e wc ⟨rfl, hbc⟩
          have hxc := Gr.ext_of hbc
          have HLc := Lib.hid (HLb.out.ext hxc)
          have HRc := Lib.hid (HRb.out.ext hxc)
          have HOc := Lib.hid (HOb.out.ext hxc)
          have HBc : Hid (Below w.heap.size w wc) := HBb.out.trans (below_of_ext hxc HBb.out.size)
          try go_simp
          refine hK.out _ _ (hxc) ?_
          clear hK K
          clear hxc hbc HLb HRb HOb HBb HVb HWb
          obtain ⟨ra, rc, hr0, _, _, _, _, _, _⟩ := HRc.out.cells
          rw [HZL2s.out] at hr0
          have HR0 := Lib.hid hr0
          clear hr0
          iterate 3
            refine Gr.walk_t ?_ (Or.inl ⟨by rfl, ?_⟩) ?_
            rotate_left
            · intro w' hw'
              clear hw'
              go_simp
              try with_reducible rfl
            simp only [Act.put, List.setIfInBounds_toArray, List.set_cons_zero, List.set_cons_succ]
          iterate 3
            refine Gr.walk_t ?_ (Or.inl ⟨by rfl, ?_⟩) ?_
            rotate_left
            · intro w' hw'
              clear hw'
              go_simp
              try with_reducible rfl
            simp only [Act.put, List.setIfInBounds_toArray, List.set_cons_zero, List.set_cons_succ]
          refine Gr.walk_t ?_ (Or.inl ⟨by rfl, ?_⟩) ?_
          rotate_left
          · intro w' hw'
            have hr0 := hw'.cell_of HR0.out
            clear hw'
            go_simp
            try with_reducible rfl
          simp only [Act.put, List.setIfInBounds_toArray, List.set_cons_zero, List.set_cons_succ]
          refine Gr.walk_t ?_ (Or.inl ⟨by rfl, ?_⟩) ?_
          rotate_left
          · intro w' hw'
            clear hw'
            go_simp
            try with_reducible rfl
          simp only [Act.put, List.setIfInBounds_toArray, List.set_cons_zero, List.set_cons_succ]
          refine Gr.walk_c (fun K hK => ?_)
          go_simp
          refine (len15_any tx _ L2 wc HLc.out).mono ?_
          rintro e we ⟨rfl, rfl⟩
          try go_simp
          refine hK.out _ _ ((Gr.ext_refl _)) ?_
          clear hK K
          refine Gr.walk_t ?_ (Or.inl ⟨by rfl, ?_⟩) ?_
          rotate_left
          · intro w' hw'
            clear hw'
            go_simp
            try with_reducible rfl
          simp only [Act.put, List.setIfInBounds_toArray, List.set_cons_zero, List.set_cons_succ]
          refine Gr.walk_nil ?_
          clear HR0
          go_wp2
          go_roundw
          case rel => exact ⟨i + 1, L2, _, O2, by omega, by go_num, HLc, HRc, HOc, HS2, HZL2, HZO7, HBc⟩
          case measure => simp [intOf]; omega
        · go_wp2_with fail
          refine (crash15_any tx s L nn w7 HL7.out HS.out (by have := HZL.out; omega) HNN.out).mono ?_
          rintro e w8 ⟨rfl, hl8, hg8⟩
          obtain ⟨px, hbx⟩ := HL7.out.block
          have HL8 := Lib.hid hl8
          have HF8 := Lib.hid HL7.out.fine
          have HR8 := Lib.hid (HR7.out.grown hg8 (Ne.symm hxr) (.inr ⟨_, _, _, hbx, by decide⟩))
          have HO8 := Lib.hid (HO7.out.grown hg8 hbx (by decide) (Ne.symm hxo))
          have HA8 := Lib.hid (blk_grown HA7.out hbx (by decide) hg8)
          have HB8 : Hid (Below w.heap.size w w8) := HB7.out.grown hg8 HB7.out.size (fun g hg => by have := Option.some.inj hg; omega)
          clear hl8 hg8 hbx HL7 HR7 HO7 HA7 HB7 a0 a1 a2
          obtain ⟨a0, a1, a2⟩ := act_cells HA8.out
          go_wp2_with fail
          refine (rcrash15_any tr s D0 L nn w8 HR8.out HS.out HF8.out (by have := HZL.out; omega) HNN.out (fun g hg => HD0I.out g (Nat.le_trans HB8.out.size hg))).mono ?_
          rintro e w9 ⟨rfl, hr9, hg9⟩
          obtain ⟨cr, hbr9⟩ := HR8.out.row
          have HR9 := Lib.hid hr9
          have HL9 := Lib.hid (HL8.out.grown hg9 hbr9 (by decide) hxr)
          have HO9 := Lib.hid (HO8.out.grown hg9 hbr9 (by decide) hor)
          have HA9 := Lib.hid (blk_grown HA8.out hbr9 (by decide) hg9)
          have HB9 : Hid (Below w.heap.size w w9) := HB8.out.grown hg9 HB8.out.size (fun g hg => by have := Option.some.inj hg; omega)
          have HUL := Lib.hid (LM.upto_le (LM.keep s nn (LM.size L)) L)
          clear hr9 hg9 hbr9 HL8 HR8 HO8 HA8 HB8 a0 a1 a2
          generalize LM.upto (LM.keep s nn (LM.size L)) L = L9 at *
          have HS9 : Hid (LM.size L9 ≤ LM.size L9) := Nat.le_refl _
          have HZ9 : Hid (LM.size L9 ≤ 302 * (i + 1)) := by have h := HZL.out; have h2 := HUL.out; show _ ≤ _; omega
          obtain ⟨a0, a1, a2⟩ := act_cells HA9.out
          go_wp2_with fail
          obtain ⟨wd, hwd⟩ : ∃ wd, wd = w9.drew := ⟨_, rfl⟩
          have hxd : w9.Extends wd := by rw [hwd]; exact Gr.ext_drew (Gr.ext_refl _)
          have HLd := Lib.hid (HL9.out.ext hxd)
          have HRd := Lib.hid (HR9.out.ext hxd)
          have HOd := Lib.hid (HO9.out.ext hxd)
          have HBd : Hid (Below w.heap.size w wd) := HB9.out.trans (below_of_ext hxd HB9.out.size)
          have HFd := Lib.hid HL9.out.fine
          have hzz : LM.size (L9) ≤ 31000 := by have := HZ9.out; omega
          have HLE : Hid ((L9).length ≤ 1000000) := Nat.le_trans LM.enc_le (by omega)
          obtain ⟨L2, hL2⟩ : ∃ L2, L2 = L9 := ⟨_, rfl⟩
          have HZL2 := Lib.hid HZ9.out
          have HS2 := Lib.hid HS9.out
          rw [← hL2] at HLd HRd HFd HLE hzz HZL2 HS2
          have HZL2s := Lib.hid (LM.spell_length L2)
          clear hL2
          refine Gr.region 15 [(false,0),(false,2),(true,1),(true,3),(true,4),(false,5),(false,6),(false,7),(false,9),(false,10),(false,11),(false,12),(false,13),(true,8),(false,14)] (by kernel_rfl) (by kernel_rfl) (fun d _ _ _ _ h => by cases d <;> exact h) ?_
          simp only [Gr.pick, List.getElem?_cons_zero, List.getElem?_cons_succ, List.drop_succ_cons, List.drop_zero]
          rw [← hwd]
          clear hwd hxd
          iterate 2
            refine Gr.walk_t ?_ (Or.inl ⟨by rfl, ?_⟩) ?_
            rotate_left
            · intro w' hw'
              clear hw'
              go_simp
              try with_reducible rfl
            simp only [Act.put, List.setIfInBounds_toArray, List.set_cons_zero, List.set_cons_succ]
          refine Gr.walk_c (fun K hK => ?_)
          go_simp
          refine (all15_any tx _ L2 wd HLd.out HLE.out).mono ?_
          rintro e wa ⟨va, rfl, hxa, hra⟩
          obtain ⟨xa, ya, rfl, _⟩ := hra.slice
          have HLa := Lib.hid (HLd.out.ext hxa)
          have HRa := Lib.hid (HRd.out.ext hxa)
          have HOa := Lib.hid (HOd.out.ext hxa)
          have HBa : Hid (Below w.heap.size w wa) := HBd.out.trans (below_of_ext hxa HBd.out.size)
          have HVa := Lib.hid hra
          try go_simp
          refine hK.out _ _ (hxa) ?_
          clear hK K
          clear hxa hra HLd HRd HOd HBd
          refine Gr.walk_c (fun K hK => ?_)
          go_simp
          refine (rall15_any tr _ D0 L2 wa HRa.out HFd.out (by omega)).mono ?_
          rintro e wb ⟨vb, rfl, hxb, hrb⟩
          obtain ⟨xb, yb, rfl, _⟩ := hrb.slice
          have HLb := Lib.hid (HLa.out.ext hxb)
          have HRb := Lib.hid (HRa.out.ext hxb)
          have HOb := Lib.hid (HOa.out.ext hxb)
          have HBb : Hid (Below w.heap.size w wb) := HBa.out.trans (below_of_ext hxb HBa.out.size)
          have HVb := Lib.hid (HVa.out.ext hxb)
          have HWb := Lib.hid hrb
          try go_simp
          refine hK.out _ _ (hxb) ?_
          clear hK K
          clear hxb hrb HLa HRa HOa HBa HVa
          refine Gr.walk_c (fun K hK => ?_)
          go_simp
          refine (same_any _ _ L2 wb HVb.out HWb.out).mono ?_
          rintro e wc ⟨rfl, hbc⟩
          have hxc := Gr.ext_of hbc
          have HLc := Lib.hid (HLb.out.ext hxc)
          have HRc := Lib.hid (HRb.out.ext hxc)
          have HOc := Lib.hid (HOb.out.ext hxc)
          have HBc : Hid (Below w.heap.size w wc) := HBb.out.trans (below_of_ext hxc HBb.out.size)
          try go_simp
          refine hK.out _ _ (hxc) ?_
          clear hK K
          clear hxc hbc HLb HRb HOb HBb HVb HWb
          obtain ⟨ra, rc, hr0, _, _, _, _, _, _⟩ := HRc.out.cells
          rw [HZL2s.out] at hr0
          have HR0 := Lib.hid hr0
          clear hr0
          iterate 3
            refine Gr.walk_t ?_ (Or.inl ⟨by rfl, ?_⟩) ?_
            rotate_left
            · intro w' hw'
              clear hw'
              go_simp
              try with_reducible rfl
            simp only [Act.put, List.setIfInBounds_toArray, List.set_cons_zero, List.set_cons_succ]
          iterate 3
            refine Gr.walk_t ?_ (Or.inl ⟨by rfl, ?_⟩) ?_
            rotate_left
            · intro w' hw'
              clear hw'
              go_simp
              try with_reducible rfl
            simp only [Act.put, List.setIfInBounds_toArray, List.set_cons_zero, List.set_cons_succ]
          refine Gr.walk_t ?_ (Or.inl ⟨by rfl, ?_⟩) ?_
          rotate_left
          · intro w' hw'
            have hr0 := hw'.cell_of HR0.out
            clear hw'
            go_simp
            try with_reducible rfl
          simp only [Act.put, List.setIfInBounds_toArray, List.set_cons_zero, List.set_cons_succ]
          refine Gr.walk_t ?_ (Or.inl ⟨by rfl, ?_⟩) ?_
          rotate_left
          · intro w' hw'
            clear hw'
            go_simp
            try with_reducible rfl
          simp only [Act.put, List.setIfInBounds_toArray, List.set_cons_zero, List.set_cons_succ]
          refine Gr.walk_c (fun K hK => ?_)
          go_simp
          refine (len15_any tx _ L2 wc HLc.out).mono ?_
          rintro e we ⟨rfl, rfl⟩
          try go_simp
          refine hK.out _ _ ((Gr.ext_refl _)) ?_
          clear hK K
          refine Gr.walk_t ?_ (Or.inl ⟨by rfl, ?_⟩) ?_
          rotate_left
          · intro w' hw'
            clear hw'
            go_simp
            try with_reducible rfl
          simp only [Act.put, List.setIfInBounds_toArray, List.set_cons_zero, List.set_cons_succ]
          refine Gr.walk_nil ?_
          clear HR0
          go_wp2
          go_roundw
          case rel => exact ⟨i + 1, L2, _, O2, by omega, by go_num, HLc, HRc, HOc, HS2, HZL2, HZO7, HBc⟩
          case measure => simp [intOf]; omega
        · have HZ7 : Hid (LM.size L ≤ 302 * (i + 1)) := by have h := HZL.out; show _ ≤ _; omega
          go_wp2_with fail
          obtain ⟨wd, hwd⟩ : ∃ wd, wd = w7.drew := ⟨_, rfl⟩
          have hxd : w7.Extends wd := by rw [hwd]; exact Gr.ext_drew (Gr.ext_refl _)
          have HLd := Lib.hid (HL7.out.ext hxd)
          have HRd := Lib.hid (HR7.out.ext hxd)
          have HOd := Lib.hid (HO7.out.ext hxd)
          have HBd : Hid (Below w.heap.size w wd) := HB7.out.trans (below_of_ext hxd HB7.out.size)
          have HFd := Lib.hid HL7.out.fine
          have hzz : LM.size (L) ≤ 31000 := by have := HZ7.out; omega
          have HLE : Hid ((L).length ≤ 1000000) := Nat.le_trans LM.enc_le (by omega)
          obtain ⟨L2, hL2⟩ : ∃ L2, L2 = L := ⟨_, rfl⟩
          have HZL2 := Lib.hid HZ7.out
          have HS2 := Lib.hid HS.out
          rw [← hL2] at HLd HRd HFd HLE hzz HZL2 HS2
          have HZL2s := Lib.hid (LM.spell_length L2)
          clear hL2
          refine Gr.region 15 [(false,0),(false,2),(true,1),(true,3),(true,4),(false,5),(false,6),(false,7),(false,9),(false,10),(false,11),(false,12),(false,13),(true,8),(false,14)] (by kernel_rfl) (by kernel_rfl) (fun d _ _ _ _ h => by cases d <;> exact h) ?_
          simp only [Gr.pick, List.getElem?_cons_zero, List.getElem?_cons_succ, List.drop_succ_cons, List.drop_zero]
          rw [← hwd]
          clear hwd hxd
          iterate 2
            refine Gr.walk_t ?_ (Or.inl ⟨by rfl, ?_⟩) ?_
            rotate_left
            · intro w' hw'
              clear hw'
              go_simp
              try with_reducible rfl
            simp only [Act.put, List.setIfInBounds_toArray, List.set_cons_zero, List.set_cons_succ]
          refine Gr.walk_c (fun K hK => ?_)
          go_simp
          refine (all15_any tx _ L2 wd HLd.out HLE.out).mono ?_
          rintro e wa ⟨va, rfl, hxa, hra⟩
          obtain ⟨xa, ya, rfl, _⟩ := hra.slice
          have HLa := Lib.hid (HLd.out.ext hxa)
          have HRa := Lib.hid (HRd.out.ext hxa)
          have HOa := Lib.hid (HOd.out.ext hxa)
          have HBa : Hid (Below w.heap.size w wa) := HBd.out.trans (below_of_ext hxa HBd.out.size)
          have HVa := Lib.hid hra
          try go_simp
          refine hK.out _ _ (hxa) ?_
          clear hK K
          clear hxa hra HLd HRd HOd HBd
          refine Gr.walk_c (fun K hK => ?_)
          go_simp
          refine (rall15_any tr _ D0 L2 wa HRa.out HFd.out (by omega)).mono ?_
          rintro e wb ⟨vb, rfl, hxb, hrb⟩
          obtain ⟨xb, yb, rfl, _⟩ := hrb.slice
          have HLb := Lib.hid (HLa.out.ext hxb)
          have HRb := Lib.hid (HRa.out.ext hxb)
          have HOb := Lib.hid (HOa.out.ext hxb)
          have HBb : Hid (Below w.heap.size w wb) := HBa.out.trans (below_of_ext hxb HBa.out.size)
          have HVb := Lib.hid (HVa.out.ext hxb)
          have HWb := Lib.hid hrb
          try go_simp
          refine hK.out _ _ (hxb) ?_
          clear hK K
          clear hxb hrb HLa HRa HOa HBa HVa
          refine Gr.walk_c (fun K hK => ?_)
          go_simp
          refine (same_any _ _ L2 wb HVb.out HWb.out).mono ?_
          rintro e wc ⟨rfl, hbc⟩
          have hxc := Gr.ext_of hbc
          have HLc := Lib.hid (HLb.out.ext hxc)
          have HRc := Lib.hid (HRb.out.ext hxc)
          have HOc := Lib.hid (HOb.out.ext hxc)
          have HBc : Hid (Below w.heap.size w wc) := HBb.out.trans (below_of_ext hxc HBb.out.size)
          try go_simp
          refine hK.out _ _ (hxc) ?_
          clear hK K
          clear hxc hbc HLb HRb HOb HBb HVb HWb
          obtain ⟨ra, rc, hr0, _, _, _, _, _, _⟩ := HRc.out.cells
          rw [HZL2s.out] at hr0
          have HR0 := Lib.hid hr0
          clear hr0
          iterate 3
            refine Gr.walk_t ?_ (Or.inl ⟨by rfl, ?_⟩) ?_
            rotate_left
            · intro w' hw'
              clear hw'
              go_simp
              try with_reducible rfl
            simp only [Act.put, List.setIfInBounds_toArray, List.set_cons_zero, List.set_cons_succ]
          iterate 3
            refine Gr.walk_t ?_ (Or.inl ⟨by rfl, ?_⟩) ?_
            rotate_left
            · intro w' hw'
              clear hw'
              go_simp
              try with_reducible rfl
            simp only [Act.put, List.setIfInBounds_toArray, List.set_cons_zero, List.set_cons_succ]
          refine Gr.walk_t ?_ (Or.inl ⟨by rfl, ?_⟩) ?_
          rotate_left
          · intro w' hw'
            have hr0 := hw'.cell_of HR0.out
            clear hw'
            go_simp
            try with_reducible rfl
          simp only [Act.put, List.setIfInBounds_toArray, List.set_cons_zero, List.set_cons_succ]
          refine Gr.walk_t ?_ (Or.inl ⟨by rfl, ?_⟩) ?_
          rotate_left
          · intro w' hw'
            clear hw'
            go_simp
            try with_reducible rfl
          simp only [Act.put, List.setIfInBounds_toArray, List.set_cons_zero, List.set_cons_succ]
          refine Gr.walk_c (fun K hK => ?_)
          go_simp
          refine (len15_any tx _ L2 wc HLc.out).mono ?_
          rintro e we ⟨rfl, rfl⟩
          try go_simp
          refine hK.out _ _ ((Gr.ext_refl _)) ?_
          clear hK K
          refine Gr.walk_t ?_ (Or.inl ⟨by rfl, ?_⟩) ?_
          rotate_left
          · intro w' hw'
            clear hw'
            go_simp
            try with_reducible rfl
          simp only [Act.put, List.setIfInBounds_toArray, List.set_cons_zero, List.set_cons_succ]
          refine Gr.walk_nil ?_
          clear HR0
          go_wp2
          go_roundw
          case rel => exact ⟨i + 1, L2, _, O2, by omega, by go_num, HLc, HRc, HOc, HS2, HZL2, HZO7, HBc⟩
          case measure => simp [intOf]; omega
    · obtain rfl : i = n := by omega
      have HP := Lib.hid HB.out
      clear HL HR HO HB
      go_wp2
      go_ret
      exact ⟨rfl, HP.out⟩
end Go.Proofs.Yteogahofcmgddaa
