/- In one text: TabBy, TabSort, TabNear. -/
import Derived.Test.YtffcjnabhblbaaaMA8
namespace Go.Proofs.Ytffcjnabhblbaaa
set_option maxRecDepth 20000
open Go.RowKit Go.Deep
set_option linter.unusedVariables false
/-- How two contacts compare: by how far they are from K, then by their peers. -/
def cfK (K : List Nat) (x y : Ct) : Int := if KY.lt (KY.dist x.k K) (KY.dist y.k K) = true then -1 else if KY.lt (KY.dist y.k K) (KY.dist x.k K) = true then 1 else Lib.compareInt x.p y.p
theorem ct_range_key {w : World} {g : Nat} {c : Ct} {T : TypeId} (h : CAt w g T [] [c] []) : w.rangeAt g 1 (KC c.k).toList := fun j v hv => by
  have := h.range (o := 0) (k := 0) rfl Nat.zero_lt_one (j + 1) v (by
    rw [List.getD_cons_zero]
    unfold CL
    rw [List.getElem?_cons_succ]
    simpa [KC] using hv)
  rw [show 1 + j = 0 + (j + 1) by omega]
  exact this
/-- The key of a contact's variable is read. -/
theorem ckey_yields {w : World} {g : Nat} {c : Ct} {T : TypeId} (h : CAt w g T [] [c] []) {a : Act} {o : Oper} {x : Operand} (ho : o.op = .load 24 x) (hx : a.eval x = .pointer (some ⟨g, 1, none⟩)) {v : Value} (hv : KV c.k = v) :
    (execOp a.eval o).run Try.prog w = .ok (.value v) w := by
  subst hv
  have hr := run_loadVar_mid w g 1 24 (KC c.k).toList _ (ct_range_key h) Try.underlying24 rfl (by rw [Array.length_toList]; exact key_info c.h)
  unfold execOp
  simp only [ho, hx, Instr.loadAt, Instr.sureAddr, Sem.run_bind, Sem.run_pure, Result.andThen_ok, hr]
theorem key_yields {w : World} {b : Nat} {k : List Nat} (h : KAt w b k) (hl : k.length = 20) {a : Act} {o : Oper} {x : Operand} (ho : o.op = .load 24 x) (hx : a.eval x = .pointer (some ⟨b, 0, none⟩)) {v : Value} (hv : KV k = v) :
    (execOp a.eval o).run Try.prog w = .ok (.value v) w := by subst hv; exact h.yields hl ho hx
/-- What stands where byDistance has boxed its three. -/
structure Box3 (w w1 : World) (s : Nat) (K : List Nat) (a b : Ct) : Prop where
  ahd : Ahd w w1
  at_ : w.heap.size = s
  k : KAt w1 s K
  a : CAt w1 (s + 1) 47 [] [a] []
  b : CAt w1 (s + 1 + 1) 47 [] [b] []
theorem Box3.made (w : World) {K : List Nat} (hK : KY.Ok K) (a b : Ct) : Box3 w (((w.alloc (.cells (KC K) 24)).alloc (.cells (CL a).toArray 47)).alloc (.cells (CL b).toArray 47)) w.heap.size K a b := by
  have h2 := CAt.box (w.alloc (.cells (KC K) 24)) 47 a
  have h3 := CAt.box ((w.alloc (.cells (KC K) 24)).alloc (.cells (CL a).toArray 47)) 47 b
  have e : ∀ (w : World) (o : Obj), (w.alloc o).heap.size = w.heap.size + 1 := fun w o => by simp
  rw [e] at h2
  rw [e, e] at h3
  exact ⟨((Ahd.alloc _ _).trans (Ahd.alloc _ _)).trans (Ahd.alloc _ _), rfl, ((KAt.new w hK.1).alloc _).alloc _, h2.ext (ext_alloc _ _), h3⟩
theorem Box3.on {w w1 w2 : World} {s : Nat} {K : List Nat} {a b : Ct} (h : Box3 w w1 s K a b) (hx : Ahd w1 w2) : Box3 w w2 s K a b := ⟨h.ahd.trans hx, h.at_, h.k.ext hx.ext, h.a.ext hx.ext, h.b.ext hx.ext⟩
/-- The two distances' variables. -/
structure ByMid (w : World) (s : Nat) (K : List Nat) (a b : Ct) (da db : List Nat) (s7 s8 : Value) (wx : World) : Prop where
  box : Box3 w wx s K a b
  vars : ∃ y7 y8, s7 = .pointer (some ⟨y7, 0, none⟩) ∧ s8 = .pointer (some ⟨y8, 0, none⟩) ∧ KAt wx y7 da ∧ KAt wx y8 db
theorem KAt.zero_new (w : World) : KAt (w.alloc (.cells (KC KY.zero) 24)) w.heap.size KY.zero := KAt.new w rfl
theorem kat_put {w : World} {y : Nat} {k d : List Nat} (h : KAt w y k) (hd : d.length = 20) : KAt (w.setRow y (KC d)) y d := by
  obtain ⟨z, hz, _⟩ := key_block h
  refine ⟨KC d, setRow_heap w y z (KC d) _ _ hz, by rw [KC_size, hd], fun i hi => KC_get hd i hi⟩
theorem ahd_row {w0 w : World} {y : Nat} {cs : Array Value} (h : Ahd w0 w) (hy : w0.heap.size ≤ y) : Ahd w0 (w.setRow y cs) :=
  ⟨Gr.ext_of ((Gr.below_of h.ext).trans ⟨rfl, rfl, rfl, by simp, fun i hi => setRow_other _ _ i _ (by omega)⟩), by rw [setRow_drawn]; exact h.drawn⟩
theorem by_end {w wd W : World} {s y7 y8 : Nat} {K : List Nat} {a b : Ct} {da db : List Nat} (h : Box3 w wd s K a b) (hx : Ahd wd W) (h7 : KAt W y7 KY.zero ∧ wd.heap.size ≤ y7) (h8 : KAt W y8 KY.zero ∧ wd.heap.size ≤ y8) (hne : y7 ≠ y8) (hda : da.length = 20) (hdb : db.length = 20) :
    ByMid w s K a b da db (.pointer (some ⟨y7, 0, none⟩)) (.pointer (some ⟨y8, 0, none⟩)) ((W.setRow y7 (KC da)).setRow y8 (KC db)) := by
  have h7' := kat_put (d := da) h7.1 hda
  have h8' : KAt (W.setRow y7 (KC da)) y8 KY.zero := h8.1.of_block (setRow_other _ _ _ _ (fun e => hne e.symm))
  refine ⟨h.on (ahd_row (ahd_row hx h7.2) h8.2), y7, y8, rfl, rfl, h7'.of_block (setRow_other _ _ _ _ hne), kat_put h8' hdb⟩
set_option maxHeartbeats 8000000 in
theorem bydist_any (K : List Nat) (a b : Ct) (w : World) (hK : KY.Ok K) (ha : KY.Ok a.k) (hb : KY.Ok b.k) :
    Calls Try.prog 33 #[KV K, CV a, CV b] w fun e w' => e = .returned (.int .i64 (cfK K a b)) ∧ Ahd w w' := by
  obtain ⟨da, hda⟩ : ∃ d, d = KY.dist a.k K := ⟨_, rfl⟩
  obtain ⟨db, hdb⟩ : ∃ d, d = KY.dist b.k K := ⟨_, rfl⟩
  have hoa : KY.Ok da := by rw [hda]; exact KY.dist_ok ha hK
  have hob : KY.Ok db := by rw [hdb]; exact KY.dist_ok hb hK
  have HD1 : Hid (∀ w1, Calls Try.prog 48 #[KV a.k, KV K] w1 fun e w' => e = .returned (KV da) ∧ Ahd w1 w') := fun w1 => by rw [hda]; exact kdist_d ha hK w1
  have HD2 : Hid (∀ w1, Calls Try.prog 48 #[KV b.k, KV K] w1 fun e w' => e = .returned (KV db) ∧ Ahd w1 w') := fun w1 => by rw [hdb]; exact kdist_d hb hK w1
  have HL1 : Hid (∀ w1, Calls Try.prog 49 #[KV da, KV db] w1 fun e w' => e = .returned (.bool (KY.lt da db)) ∧ Ahd w1 w') := fun w1 => kless_d hoa hob w1
  have HL2 : Hid (∀ w1, Calls Try.prog 49 #[KV db, KV da] w1 fun e w' => e = .returned (.bool (KY.lt db da)) ∧ Ahd w1 w') := fun w1 => kless_d hob hoa w1
  have HCM : Hid (∀ w1, Calls Try.prog 50 #[.int .i64 a.p, .int .i64 b.p] w1 fun e w' => e = .returned (.int .i64 (Lib.compareInt a.p b.p)) ∧ w' = w1) := fun w1 => AnyG.cmp_Compare_int cmpInt a.p b.p w1
  have HCF : Hid (cfK K a b = if KY.lt da db = true then -1 else if KY.lt db da = true then 1 else Lib.compareInt a.p b.p) := by unfold cfK; rw [← hda, ← hdb]; rfl
  have HLA := Lib.hid hoa.1
  have HLB := Lib.hid hob.1
  have HLK := Lib.hid hK.1
  have HB := Lib.hid (Box3.made w hK a b)
  obtain ⟨xa, hxa⟩ : ∃ x, KV a.k = x := ⟨_, rfl⟩
  obtain ⟨xb, hxb⟩ : ∃ x, KV b.k = x := ⟨_, rfl⟩
  obtain ⟨xk, hxk⟩ : ∃ x, KV K = x := ⟨_, rfl⟩
  rw [hxa, hxk] at HD1
  rw [hxb, hxk] at HD2
  have HXA := Lib.hid hxa
  have HXB := Lib.hid hxb
  have HXK := Lib.hid hxk
  have HIA := Lib.hid (key_info hoa.1)
  have HIB := Lib.hid (key_info hob.1)
  have HSA : Hid ((KC KY.zero).size = (KC da).size) := by show _ = _; rw [KC_size, KC_size, hoa.1]; rfl
  have HSB : Hid ((KC KY.zero).size = (KC db).size) := by show _ = _; rw [KC_size, KC_size, hob.1]; rfl
  obtain ⟨ya, hya⟩ : ∃ x, KV da = x := ⟨_, rfl⟩
  obtain ⟨yb, hyb⟩ : ∃ x, KV db = x := ⟨_, rfl⟩
  have HYA := Lib.hid hya
  have HYB := Lib.hid hyb
  rw [hya] at HD1 HL1 HL2
  rw [hyb] at HD2 HL1 HL2
  clear hda hdb hoa hob ha hb hK hxa hxb hxk hya hyb
  generalize KY.lt da db = q1 at *
  generalize KY.lt db da = q2 at *
  go_enter Try.func33, Try.ntmps33
  go_upto_region 1 with fail
  generalize hw1 : World.alloc _ _ = w1
  obtain ⟨s, hs⟩ : ∃ s, s = w.heap.size := ⟨_, rfl⟩
  rw [← hs] at HB ⊢
  have HB1 : Hid (Box3 w w1 s K a b) := by rw [← hw1]; exact HB.out
  clear hw1 HB hs
  go_cut [7, 8] (fun s7 s8 wx => ByMid w s K a b da db s7 s8 wx)
  case first =>
    refine Gr.regionE 10 4 [(false,0),(false,1),(false,2),(false,4),(false,5),(false,6)] (by kernel_rfl) (by kernel_rfl) (fun d _ _ _ _ h => by cases d <;> exact h) ?_
    simp only [Gr.pick, List.getElem?_cons_zero, List.getElem?_cons_succ]
    generalize hwd0 : w1.drew = wd
    have HA0 : Hid (Ahd w1 wd) := by rw [← hwd0]; exact ⟨Gr.ext_drew (Gr.ext_refl w1), Nat.le_succ _⟩
    clear hwd0
    have HBX := Lib.hid (HB1.out.on HA0.out)
    have HX : Hid (Ahd wd wd) := ⟨Gr.ext_refl _, Nat.le_refl _⟩
    refine Gr.walkE_t ?_ (Or.inl ⟨by rfl, ?_⟩) ?_
    rotate_left
    · intro w' hw'
      clear hw'
      go_simp
      try with_reducible rfl
    simp only [Act.put, List.setIfInBounds_toArray, List.set_cons_zero, List.set_cons_succ]
    refine Gr.walkE_t _ (Or.inl ⟨by rfl, fun w' hw' => ckey_yields (HBX.out.a.ext hw') (by rfl) (by rfl) (by exact HXA.out) ⟩) ?_
    simp only [Act.put, List.setIfInBounds_toArray, List.set_cons_zero, List.set_cons_succ]
    refine Gr.walkE_t _ (Or.inl ⟨by rfl, fun w' hw' => key_yields (HBX.out.k.ext hw') HLK.out (by rfl) (by rfl) (by exact HXK.out)⟩) ?_
    simp only [Act.put, List.setIfInBounds_toArray, List.set_cons_zero, List.set_cons_succ]
    refine Gr.walkE_t ?_ (Or.inl ⟨by rfl, ?_⟩) ?_
    rotate_left
    · intro w' hw'
      clear hw'
      go_simp
      try with_reducible rfl
    simp only [Act.put, List.setIfInBounds_toArray, List.set_cons_zero, List.set_cons_succ]
    refine Gr.walkE_t _ (Or.inl ⟨by rfl, fun w' hw' => ckey_yields (HBX.out.b.ext hw') (by rfl) (by rfl) (by exact HXB.out) ⟩) ?_
    simp only [Act.put, List.setIfInBounds_toArray, List.set_cons_zero, List.set_cons_succ]
    refine Gr.walkE_t _ (Or.inl ⟨by rfl, fun w' hw' => key_yields (HBX.out.k.ext hw') HLK.out (by rfl) (by rfl) (by exact HXK.out)⟩) ?_
    simp only [Act.put, List.setIfInBounds_toArray, List.set_cons_zero, List.set_cons_succ]
    refine Gr.walkE_nil ?_
    refine Gr.Left.three (i := 3) (j := 8) (k := 9) (by kernel_rfl) (by kernel_rfl) (Gr.Step.mk rfl (fun K hK => ?_)) (Gr.Step.mk rfl (fun K hK => ?_)) (Gr.Step.mk rfl (fun K hK => ?_))
    · skip
      go_simp
      refine (HD1.out _).mono ?_
      rintro e w1_ ⟨rfl, hx⟩
      try go_simp
      refine hK.out _ _ (hx.ext) ?_
      clear hK K
      have HX := Lib.hid (HX.out.trans hx)
      clear hx
      refine Gr.Left.three (i := 7) (j := 8) (k := 9) (by kernel_rfl) (by kernel_rfl) (Gr.Step.mk rfl (fun K hK => ?_)) (Gr.Step.mk rfl (fun K hK => ?_)) (Gr.Step.mk rfl (fun K hK => ?_))
      · skip
        go_simp
        refine (HD2.out _).mono ?_
        rintro e w2_ ⟨rfl, hx⟩
        try go_simp
        refine hK.out _ _ (hx.ext) ?_
        clear hK K
        have HX := Lib.hid (HX.out.trans hx)
        clear hx
        refine Gr.Left.two (i := 8) (j := 9) (by kernel_rfl) (by kernel_rfl) (Gr.Step.mk rfl (fun K hK => ?_)) (Gr.Step.mk rfl (fun K hK => ?_))
        · skip
          go_simp
          try have HNE := Lib.hid (Nat.ne_of_lt Y8.out.1.lt)
          generalize hw : World.alloc _ _ = w3_
          have hx : Ahd w2_ w3_ := by subst hw; exact Ahd.alloc _ _
          have Y70 : KAt w3_ w2_.heap.size KY.zero ∧ wd.heap.size ≤ w2_.heap.size := by subst hw; exact ⟨KAt.zero_new w2_, HX.out.ext.size⟩
          clear hw
          refine hK.out _ _ (hx.ext) ?_
          clear hK K
          have HX := Lib.hid (HX.out.trans hx)
          have Y7 := Lib.hid Y70
          clear Y70
          clear hx
          refine Gr.Left.one (i := 9) (by kernel_rfl) (by kernel_rfl) (Gr.Step.mk rfl (fun K hK => ?_))
          go_simp
          try have HNE := Lib.hid (Nat.ne_of_lt Y7.out.1.lt)
          generalize hw : World.alloc _ _ = w4_
          have hx : Ahd w3_ w4_ := by subst hw; exact Ahd.alloc _ _
          have Y80 : KAt w4_ w3_.heap.size KY.zero ∧ wd.heap.size ≤ w3_.heap.size := by subst hw; exact ⟨KAt.zero_new w3_, HX.out.ext.size⟩
          clear hw
          refine hK.out _ _ (hx.ext) ?_
          clear hK K
          have HX := Lib.hid (HX.out.trans hx)
          have Y7 := Lib.hid (And.intro (Y7.out.1.ext hx.ext) Y7.out.2)
          have Y8 := Lib.hid Y80
          clear Y80
          clear hx
          refine Gr.Left.done (by kernel_rfl) ?_
          simp only [List.drop_succ_cons, List.drop_zero]
          have b7 := Y7.out.1.block rfl
          have b8 : (World.setRow w4_ _ (KC da)).heap[_]? = _ := (setRow_other _ _ _ (KC da) (by first | exact HNE.out | exact (Ne.symm HNE.out))).trans (Y8.out.1.block rfl)
          have HE := Lib.hid (by_end (da := da) (db := db) HBX.out HX.out Y7.out Y8.out (by first | exact HNE.out | exact (Ne.symm HNE.out)) HLA.out HLB.out)
          go_wp2_with (first | (refine wpList_store_row rfl 24 (.tmp 7) (.tmp 12) rfl _ (KC da) rfl HYA.out.symm 24 (KC KY.zero) b7 HIA.out HSA.out KC_one ?_) | (refine wpList_store_row rfl 24 (.tmp 8) (.tmp 16) rfl _ (KC db) rfl HYB.out.symm 24 (KC KY.zero) b8 HIB.out HSB.out KC_one ?_) | fail)
          go_meet
          exact HE.out
        · skip
          go_simp
          try have HNE := Lib.hid (Nat.ne_of_lt Y7.out.1.lt)
          generalize hw : World.alloc _ _ = w5_
          have hx : Ahd w2_ w5_ := by subst hw; exact Ahd.alloc _ _
          have Y80 : KAt w5_ w2_.heap.size KY.zero ∧ wd.heap.size ≤ w2_.heap.size := by subst hw; exact ⟨KAt.zero_new w2_, HX.out.ext.size⟩
          clear hw
          refine hK.out _ _ (hx.ext) ?_
          clear hK K
          have HX := Lib.hid (HX.out.trans hx)
          have Y8 := Lib.hid Y80
          clear Y80
          clear hx
          refine Gr.Left.one (i := 8) (by kernel_rfl) (by kernel_rfl) (Gr.Step.mk rfl (fun K hK => ?_))
          go_simp
          try have HNE := Lib.hid (Nat.ne_of_lt Y8.out.1.lt)
          generalize hw : World.alloc _ _ = w6_
          have hx : Ahd w5_ w6_ := by subst hw; exact Ahd.alloc _ _
          have Y70 : KAt w6_ w5_.heap.size KY.zero ∧ wd.heap.size ≤ w5_.heap.size := by subst hw; exact ⟨KAt.zero_new w5_, HX.out.ext.size⟩
          clear hw
          refine hK.out _ _ (hx.ext) ?_
          clear hK K
          have HX := Lib.hid (HX.out.trans hx)
          have Y8 := Lib.hid (And.intro (Y8.out.1.ext hx.ext) Y8.out.2)
          have Y7 := Lib.hid Y70
          clear Y70
          clear hx
          refine Gr.Left.done (by kernel_rfl) ?_
          simp only [List.drop_succ_cons, List.drop_zero]
          have b7 := Y7.out.1.block rfl
          have b8 : (World.setRow w6_ _ (KC da)).heap[_]? = _ := (setRow_other _ _ _ (KC da) (by first | exact HNE.out | exact (Ne.symm HNE.out))).trans (Y8.out.1.block rfl)
          have HE := Lib.hid (by_end (da := da) (db := db) HBX.out HX.out Y7.out Y8.out (by first | exact HNE.out | exact (Ne.symm HNE.out)) HLA.out HLB.out)
          go_wp2_with (first | (refine wpList_store_row rfl 24 (.tmp 7) (.tmp 12) rfl _ (KC da) rfl HYA.out.symm 24 (KC KY.zero) b7 HIA.out HSA.out KC_one ?_) | (refine wpList_store_row rfl 24 (.tmp 8) (.tmp 16) rfl _ (KC db) rfl HYB.out.symm 24 (KC KY.zero) b8 HIB.out HSB.out KC_one ?_) | fail)
          go_meet
          exact HE.out
      · skip
        go_simp
        try have HNE := Lib.hid (Nat.ne_of_lt Y8.out.1.lt)
        generalize hw : World.alloc _ _ = w7_
        have hx : Ahd w1_ w7_ := by subst hw; exact Ahd.alloc _ _
        have Y70 : KAt w7_ w1_.heap.size KY.zero ∧ wd.heap.size ≤ w1_.heap.size := by subst hw; exact ⟨KAt.zero_new w1_, HX.out.ext.size⟩
        clear hw
        refine hK.out _ _ (hx.ext) ?_
        clear hK K
        have HX := Lib.hid (HX.out.trans hx)
        have Y7 := Lib.hid Y70
        clear Y70
        clear hx
        refine Gr.Left.two (i := 7) (j := 9) (by kernel_rfl) (by kernel_rfl) (Gr.Step.mk rfl (fun K hK => ?_)) (Gr.Step.mk rfl (fun K hK => ?_))
        · skip
          go_simp
          refine (HD2.out _).mono ?_
          rintro e w8_ ⟨rfl, hx⟩
          try go_simp
          refine hK.out _ _ (hx.ext) ?_
          clear hK K
          have HX := Lib.hid (HX.out.trans hx)
          have Y7 := Lib.hid (And.intro (Y7.out.1.ext hx.ext) Y7.out.2)
          clear hx
          refine Gr.Left.one (i := 9) (by kernel_rfl) (by kernel_rfl) (Gr.Step.mk rfl (fun K hK => ?_))
          go_simp
          try have HNE := Lib.hid (Nat.ne_of_lt Y7.out.1.lt)
          generalize hw : World.alloc _ _ = w9_
          have hx : Ahd w8_ w9_ := by subst hw; exact Ahd.alloc _ _
          have Y80 : KAt w9_ w8_.heap.size KY.zero ∧ wd.heap.size ≤ w8_.heap.size := by subst hw; exact ⟨KAt.zero_new w8_, HX.out.ext.size⟩
          clear hw
          refine hK.out _ _ (hx.ext) ?_
          clear hK K
          have HX := Lib.hid (HX.out.trans hx)
          have Y7 := Lib.hid (And.intro (Y7.out.1.ext hx.ext) Y7.out.2)
          have Y8 := Lib.hid Y80
          clear Y80
          clear hx
          refine Gr.Left.done (by kernel_rfl) ?_
          simp only [List.drop_succ_cons, List.drop_zero]
          have b7 := Y7.out.1.block rfl
          have b8 : (World.setRow w9_ _ (KC da)).heap[_]? = _ := (setRow_other _ _ _ (KC da) (by first | exact HNE.out | exact (Ne.symm HNE.out))).trans (Y8.out.1.block rfl)
          have HE := Lib.hid (by_end (da := da) (db := db) HBX.out HX.out Y7.out Y8.out (by first | exact HNE.out | exact (Ne.symm HNE.out)) HLA.out HLB.out)
          go_wp2_with (first | (refine wpList_store_row rfl 24 (.tmp 7) (.tmp 12) rfl _ (KC da) rfl HYA.out.symm 24 (KC KY.zero) b7 HIA.out HSA.out KC_one ?_) | (refine wpList_store_row rfl 24 (.tmp 8) (.tmp 16) rfl _ (KC db) rfl HYB.out.symm 24 (KC KY.zero) b8 HIB.out HSB.out KC_one ?_) | fail)
          go_meet
          exact HE.out
        · skip
          go_simp
          try have HNE := Lib.hid (Nat.ne_of_lt Y7.out.1.lt)
          generalize hw : World.alloc _ _ = w10_
          have hx : Ahd w7_ w10_ := by subst hw; exact Ahd.alloc _ _
          have Y80 : KAt w10_ w7_.heap.size KY.zero ∧ wd.heap.size ≤ w7_.heap.size := by subst hw; exact ⟨KAt.zero_new w7_, HX.out.ext.size⟩
          clear hw
          refine hK.out _ _ (hx.ext) ?_
          clear hK K
          have HX := Lib.hid (HX.out.trans hx)
          have Y7 := Lib.hid (And.intro (Y7.out.1.ext hx.ext) Y7.out.2)
          have Y8 := Lib.hid Y80
          clear Y80
          clear hx
          refine Gr.Left.one (i := 7) (by kernel_rfl) (by kernel_rfl) (Gr.Step.mk rfl (fun K hK => ?_))
          go_simp
          refine (HD2.out _).mono ?_
          rintro e w11_ ⟨rfl, hx⟩
          try go_simp
          refine hK.out _ _ (hx.ext) ?_
          clear hK K
          have HX := Lib.hid (HX.out.trans hx)
          have Y7 := Lib.hid (And.intro (Y7.out.1.ext hx.ext) Y7.out.2)
          have Y8 := Lib.hid (And.intro (Y8.out.1.ext hx.ext) Y8.out.2)
          clear hx
          refine Gr.Left.done (by kernel_rfl) ?_
          simp only [List.drop_succ_cons, List.drop_zero]
          have b7 := Y7.out.1.block rfl
          have b8 : (World.setRow w11_ _ (KC da)).heap[_]? = _ := (setRow_other _ _ _ (KC da) (by first | exact HNE.out | exact (Ne.symm HNE.out))).trans (Y8.out.1.block rfl)
          have HE := Lib.hid (by_end (da := da) (db := db) HBX.out HX.out Y7.out Y8.out (by first | exact HNE.out | exact (Ne.symm HNE.out)) HLA.out HLB.out)
          go_wp2_with (first | (refine wpList_store_row rfl 24 (.tmp 7) (.tmp 12) rfl _ (KC da) rfl HYA.out.symm 24 (KC KY.zero) b7 HIA.out HSA.out KC_one ?_) | (refine wpList_store_row rfl 24 (.tmp 8) (.tmp 16) rfl _ (KC db) rfl HYB.out.symm 24 (KC KY.zero) b8 HIB.out HSB.out KC_one ?_) | fail)
          go_meet
          exact HE.out
      · skip
        go_simp
        try have HNE := Lib.hid (Nat.ne_of_lt Y7.out.1.lt)
        generalize hw : World.alloc _ _ = w12_
        have hx : Ahd w1_ w12_ := by subst hw; exact Ahd.alloc _ _
        have Y80 : KAt w12_ w1_.heap.size KY.zero ∧ wd.heap.size ≤ w1_.heap.size := by subst hw; exact ⟨KAt.zero_new w1_, HX.out.ext.size⟩
        clear hw
        refine hK.out _ _ (hx.ext) ?_
        clear hK K
        have HX := Lib.hid (HX.out.trans hx)
        have Y8 := Lib.hid Y80
        clear Y80
        clear hx
        refine Gr.Left.two (i := 7) (j := 8) (by kernel_rfl) (by kernel_rfl) (Gr.Step.mk rfl (fun K hK => ?_)) (Gr.Step.mk rfl (fun K hK => ?_))
        · skip
          go_simp
          refine (HD2.out _).mono ?_
          rintro e w13_ ⟨rfl, hx⟩
          try go_simp
          refine hK.out _ _ (hx.ext) ?_
          clear hK K
          have HX := Lib.hid (HX.out.trans hx)
          have Y8 := Lib.hid (And.intro (Y8.out.1.ext hx.ext) Y8.out.2)
          clear hx
          refine Gr.Left.one (i := 8) (by kernel_rfl) (by kernel_rfl) (Gr.Step.mk rfl (fun K hK => ?_))
          go_simp
          try have HNE := Lib.hid (Nat.ne_of_lt Y8.out.1.lt)
          generalize hw : World.alloc _ _ = w14_
          have hx : Ahd w13_ w14_ := by subst hw; exact Ahd.alloc _ _
          have Y70 : KAt w14_ w13_.heap.size KY.zero ∧ wd.heap.size ≤ w13_.heap.size := by subst hw; exact ⟨KAt.zero_new w13_, HX.out.ext.size⟩
          clear hw
          refine hK.out _ _ (hx.ext) ?_
          clear hK K
          have HX := Lib.hid (HX.out.trans hx)
          have Y8 := Lib.hid (And.intro (Y8.out.1.ext hx.ext) Y8.out.2)
          have Y7 := Lib.hid Y70
          clear Y70
          clear hx
          refine Gr.Left.done (by kernel_rfl) ?_
          simp only [List.drop_succ_cons, List.drop_zero]
          have b7 := Y7.out.1.block rfl
          have b8 : (World.setRow w14_ _ (KC da)).heap[_]? = _ := (setRow_other _ _ _ (KC da) (by first | exact HNE.out | exact (Ne.symm HNE.out))).trans (Y8.out.1.block rfl)
          have HE := Lib.hid (by_end (da := da) (db := db) HBX.out HX.out Y7.out Y8.out (by first | exact HNE.out | exact (Ne.symm HNE.out)) HLA.out HLB.out)
          go_wp2_with (first | (refine wpList_store_row rfl 24 (.tmp 7) (.tmp 12) rfl _ (KC da) rfl HYA.out.symm 24 (KC KY.zero) b7 HIA.out HSA.out KC_one ?_) | (refine wpList_store_row rfl 24 (.tmp 8) (.tmp 16) rfl _ (KC db) rfl HYB.out.symm 24 (KC KY.zero) b8 HIB.out HSB.out KC_one ?_) | fail)
          go_meet
          exact HE.out
        · skip
          go_simp
          try have HNE := Lib.hid (Nat.ne_of_lt Y8.out.1.lt)
          generalize hw : World.alloc _ _ = w15_
          have hx : Ahd w12_ w15_ := by subst hw; exact Ahd.alloc _ _
          have Y70 : KAt w15_ w12_.heap.size KY.zero ∧ wd.heap.size ≤ w12_.heap.size := by subst hw; exact ⟨KAt.zero_new w12_, HX.out.ext.size⟩
          clear hw
          refine hK.out _ _ (hx.ext) ?_
          clear hK K
          have HX := Lib.hid (HX.out.trans hx)
          have Y8 := Lib.hid (And.intro (Y8.out.1.ext hx.ext) Y8.out.2)
          have Y7 := Lib.hid Y70
          clear Y70
          clear hx
          refine Gr.Left.one (i := 7) (by kernel_rfl) (by kernel_rfl) (Gr.Step.mk rfl (fun K hK => ?_))
          go_simp
          refine (HD2.out _).mono ?_
          rintro e w16_ ⟨rfl, hx⟩
          try go_simp
          refine hK.out _ _ (hx.ext) ?_
          clear hK K
          have HX := Lib.hid (HX.out.trans hx)
          have Y8 := Lib.hid (And.intro (Y8.out.1.ext hx.ext) Y8.out.2)
          have Y7 := Lib.hid (And.intro (Y7.out.1.ext hx.ext) Y7.out.2)
          clear hx
          refine Gr.Left.done (by kernel_rfl) ?_
          simp only [List.drop_succ_cons, List.drop_zero]
          have b7 := Y7.out.1.block rfl
          have b8 : (World.setRow w16_ _ (KC da)).heap[_]? = _ := (setRow_other _ _ _ (KC da) (by first | exact HNE.out | exact (Ne.symm HNE.out))).trans (Y8.out.1.block rfl)
          have HE := Lib.hid (by_end (da := da) (db := db) HBX.out HX.out Y7.out Y8.out (by first | exact HNE.out | exact (Ne.symm HNE.out)) HLA.out HLB.out)
          go_wp2_with (first | (refine wpList_store_row rfl 24 (.tmp 7) (.tmp 12) rfl _ (KC da) rfl HYA.out.symm 24 (KC KY.zero) b7 HIA.out HSA.out KC_one ?_) | (refine wpList_store_row rfl 24 (.tmp 8) (.tmp 16) rfl _ (KC db) rfl HYB.out.symm 24 (KC KY.zero) b8 HIB.out HSB.out KC_one ?_) | fail)
          go_meet
          exact HE.out
    · skip
      go_simp
      try have HNE := Lib.hid (Nat.ne_of_lt Y8.out.1.lt)
      generalize hw : World.alloc _ _ = w17_
      have hx : Ahd wd w17_ := by subst hw; exact Ahd.alloc _ _
      have Y70 : KAt w17_ wd.heap.size KY.zero ∧ wd.heap.size ≤ wd.heap.size := by subst hw; exact ⟨KAt.zero_new wd, HX.out.ext.size⟩
      clear hw
      refine hK.out _ _ (hx.ext) ?_
      clear hK K
      have HX := Lib.hid (HX.out.trans hx)
      have Y7 := Lib.hid Y70
      clear Y70
      clear hx
      refine Gr.Left.two (i := 3) (j := 9) (by kernel_rfl) (by kernel_rfl) (Gr.Step.mk rfl (fun K hK => ?_)) (Gr.Step.mk rfl (fun K hK => ?_))
      · skip
        go_simp
        refine (HD1.out _).mono ?_
        rintro e w18_ ⟨rfl, hx⟩
        try go_simp
        refine hK.out _ _ (hx.ext) ?_
        clear hK K
        have HX := Lib.hid (HX.out.trans hx)
        have Y7 := Lib.hid (And.intro (Y7.out.1.ext hx.ext) Y7.out.2)
        clear hx
        refine Gr.Left.two (i := 7) (j := 9) (by kernel_rfl) (by kernel_rfl) (Gr.Step.mk rfl (fun K hK => ?_)) (Gr.Step.mk rfl (fun K hK => ?_))
        · skip
          go_simp
          refine (HD2.out _).mono ?_
          rintro e w19_ ⟨rfl, hx⟩
          try go_simp
          refine hK.out _ _ (hx.ext) ?_
          clear hK K
          have HX := Lib.hid (HX.out.trans hx)
          have Y7 := Lib.hid (And.intro (Y7.out.1.ext hx.ext) Y7.out.2)
          clear hx
          refine Gr.Left.one (i := 9) (by kernel_rfl) (by kernel_rfl) (Gr.Step.mk rfl (fun K hK => ?_))
          go_simp
          try have HNE := Lib.hid (Nat.ne_of_lt Y7.out.1.lt)
          generalize hw : World.alloc _ _ = w20_
          have hx : Ahd w19_ w20_ := by subst hw; exact Ahd.alloc _ _
          have Y80 : KAt w20_ w19_.heap.size KY.zero ∧ wd.heap.size ≤ w19_.heap.size := by subst hw; exact ⟨KAt.zero_new w19_, HX.out.ext.size⟩
          clear hw
          refine hK.out _ _ (hx.ext) ?_
          clear hK K
          have HX := Lib.hid (HX.out.trans hx)
          have Y7 := Lib.hid (And.intro (Y7.out.1.ext hx.ext) Y7.out.2)
          have Y8 := Lib.hid Y80
          clear Y80
          clear hx
          refine Gr.Left.done (by kernel_rfl) ?_
          simp only [List.drop_succ_cons, List.drop_zero]
          have b7 := Y7.out.1.block rfl
          have b8 : (World.setRow w20_ _ (KC da)).heap[_]? = _ := (setRow_other _ _ _ (KC da) (by first | exact HNE.out | exact (Ne.symm HNE.out))).trans (Y8.out.1.block rfl)
          have HE := Lib.hid (by_end (da := da) (db := db) HBX.out HX.out Y7.out Y8.out (by first | exact HNE.out | exact (Ne.symm HNE.out)) HLA.out HLB.out)
          go_wp2_with (first | (refine wpList_store_row rfl 24 (.tmp 7) (.tmp 12) rfl _ (KC da) rfl HYA.out.symm 24 (KC KY.zero) b7 HIA.out HSA.out KC_one ?_) | (refine wpList_store_row rfl 24 (.tmp 8) (.tmp 16) rfl _ (KC db) rfl HYB.out.symm 24 (KC KY.zero) b8 HIB.out HSB.out KC_one ?_) | fail)
          go_meet
          exact HE.out
        · skip
          go_simp
          try have HNE := Lib.hid (Nat.ne_of_lt Y7.out.1.lt)
          generalize hw : World.alloc _ _ = w21_
          have hx : Ahd w18_ w21_ := by subst hw; exact Ahd.alloc _ _
          have Y80 : KAt w21_ w18_.heap.size KY.zero ∧ wd.heap.size ≤ w18_.heap.size := by subst hw; exact ⟨KAt.zero_new w18_, HX.out.ext.size⟩
          clear hw
          refine hK.out _ _ (hx.ext) ?_
          clear hK K
          have HX := Lib.hid (HX.out.trans hx)
          have Y7 := Lib.hid (And.intro (Y7.out.1.ext hx.ext) Y7.out.2)
          have Y8 := Lib.hid Y80
          clear Y80
          clear hx
          refine Gr.Left.one (i := 7) (by kernel_rfl) (by kernel_rfl) (Gr.Step.mk rfl (fun K hK => ?_))
          go_simp
          refine (HD2.out _).mono ?_
          rintro e w22_ ⟨rfl, hx⟩
          try go_simp
          refine hK.out _ _ (hx.ext) ?_
          clear hK K
          have HX := Lib.hid (HX.out.trans hx)
          have Y7 := Lib.hid (And.intro (Y7.out.1.ext hx.ext) Y7.out.2)
          have Y8 := Lib.hid (And.intro (Y8.out.1.ext hx.ext) Y8.out.2)
          clear hx
          refine Gr.Left.done (by kernel_rfl) ?_
          simp only [List.drop_succ_cons, List.drop_zero]
          have b7 := Y7.out.1.block rfl
          have b8 : (World.setRow w22_ _ (KC da)).heap[_]? = _ := (setRow_other _ _ _ (KC da) (by first | exact HNE.out | exact (Ne.symm HNE.out))).trans (Y8.out.1.block rfl)
          have HE := Lib.hid (by_end (da := da) (db := db) HBX.out HX.out Y7.out Y8.out (by first | exact HNE.out | exact (Ne.symm HNE.out)) HLA.out HLB.out)
          go_wp2_with (first | (refine wpList_store_row rfl 24 (.tmp 7) (.tmp 12) rfl _ (KC da) rfl HYA.out.symm 24 (KC KY.zero) b7 HIA.out HSA.out KC_one ?_) | (refine wpList_store_row rfl 24 (.tmp 8) (.tmp 16) rfl _ (KC db) rfl HYB.out.symm 24 (KC KY.zero) b8 HIB.out HSB.out KC_one ?_) | fail)
          go_meet
          exact HE.out
      · skip
        go_simp
        try have HNE := Lib.hid (Nat.ne_of_lt Y7.out.1.lt)
        generalize hw : World.alloc _ _ = w23_
        have hx : Ahd w17_ w23_ := by subst hw; exact Ahd.alloc _ _
        have Y80 : KAt w23_ w17_.heap.size KY.zero ∧ wd.heap.size ≤ w17_.heap.size := by subst hw; exact ⟨KAt.zero_new w17_, HX.out.ext.size⟩
        clear hw
        refine hK.out _ _ (hx.ext) ?_
        clear hK K
        have HX := Lib.hid (HX.out.trans hx)
        have Y7 := Lib.hid (And.intro (Y7.out.1.ext hx.ext) Y7.out.2)
        have Y8 := Lib.hid Y80
        clear Y80
        clear hx
        refine Gr.Left.one (i := 3) (by kernel_rfl) (by kernel_rfl) (Gr.Step.mk rfl (fun K hK => ?_))
        go_simp
        refine (HD1.out _).mono ?_
        rintro e w24_ ⟨rfl, hx⟩
        try go_simp
        refine hK.out _ _ (hx.ext) ?_
        clear hK K
        have HX := Lib.hid (HX.out.trans hx)
        have Y7 := Lib.hid (And.intro (Y7.out.1.ext hx.ext) Y7.out.2)
        have Y8 := Lib.hid (And.intro (Y8.out.1.ext hx.ext) Y8.out.2)
        clear hx
        refine Gr.Left.one (i := 7) (by kernel_rfl) (by kernel_rfl) (Gr.Step.mk rfl (fun K hK => ?_))
        go_simp
        refine (HD2.out _).mono ?_
        rintro e w25_ ⟨rfl, hx⟩
        try go_simp
        refine hK.out _ _ (hx.ext) ?_
        clear hK K
        have HX := Lib.hid (HX.out.trans hx)
        have Y7 := Lib.hid (And.intro (Y7.out.1.ext hx.ext) Y7.out.2)
        have Y8 := Lib.hid (And.intro (Y8.out.1.ext hx.ext) Y8.out.2)
        clear hx
        refine Gr.Left.done (by kernel_rfl) ?_
        simp only [List.drop_succ_cons, List.drop_zero]
        have b7 := Y7.out.1.block rfl
        have b8 : (World.setRow w25_ _ (KC da)).heap[_]? = _ := (setRow_other _ _ _ (KC da) (by first | exact HNE.out | exact (Ne.symm HNE.out))).trans (Y8.out.1.block rfl)
        have HE := Lib.hid (by_end (da := da) (db := db) HBX.out HX.out Y7.out Y8.out (by first | exact HNE.out | exact (Ne.symm HNE.out)) HLA.out HLB.out)
        go_wp2_with (first | (refine wpList_store_row rfl 24 (.tmp 7) (.tmp 12) rfl _ (KC da) rfl HYA.out.symm 24 (KC KY.zero) b7 HIA.out HSA.out KC_one ?_) | (refine wpList_store_row rfl 24 (.tmp 8) (.tmp 16) rfl _ (KC db) rfl HYB.out.symm 24 (KC KY.zero) b8 HIB.out HSB.out KC_one ?_) | fail)
        go_meet
        exact HE.out
    · skip
      go_simp
      try have HNE := Lib.hid (Nat.ne_of_lt Y7.out.1.lt)
      generalize hw : World.alloc _ _ = w26_
      have hx : Ahd wd w26_ := by subst hw; exact Ahd.alloc _ _
      have Y80 : KAt w26_ wd.heap.size KY.zero ∧ wd.heap.size ≤ wd.heap.size := by subst hw; exact ⟨KAt.zero_new wd, HX.out.ext.size⟩
      clear hw
      refine hK.out _ _ (hx.ext) ?_
      clear hK K
      have HX := Lib.hid (HX.out.trans hx)
      have Y8 := Lib.hid Y80
      clear Y80
      clear hx
      refine Gr.Left.two (i := 3) (j := 8) (by kernel_rfl) (by kernel_rfl) (Gr.Step.mk rfl (fun K hK => ?_)) (Gr.Step.mk rfl (fun K hK => ?_))
      · skip
        go_simp
        refine (HD1.out _).mono ?_
        rintro e w27_ ⟨rfl, hx⟩
        try go_simp
        refine hK.out _ _ (hx.ext) ?_
        clear hK K
        have HX := Lib.hid (HX.out.trans hx)
        have Y8 := Lib.hid (And.intro (Y8.out.1.ext hx.ext) Y8.out.2)
        clear hx
        refine Gr.Left.two (i := 7) (j := 8) (by kernel_rfl) (by kernel_rfl) (Gr.Step.mk rfl (fun K hK => ?_)) (Gr.Step.mk rfl (fun K hK => ?_))
        · skip
          go_simp
          refine (HD2.out _).mono ?_
          rintro e w28_ ⟨rfl, hx⟩
          try go_simp
          refine hK.out _ _ (hx.ext) ?_
          clear hK K
          have HX := Lib.hid (HX.out.trans hx)
          have Y8 := Lib.hid (And.intro (Y8.out.1.ext hx.ext) Y8.out.2)
          clear hx
          refine Gr.Left.one (i := 8) (by kernel_rfl) (by kernel_rfl) (Gr.Step.mk rfl (fun K hK => ?_))
          go_simp
          try have HNE := Lib.hid (Nat.ne_of_lt Y8.out.1.lt)
          generalize hw : World.alloc _ _ = w29_
          have hx : Ahd w28_ w29_ := by subst hw; exact Ahd.alloc _ _
          have Y70 : KAt w29_ w28_.heap.size KY.zero ∧ wd.heap.size ≤ w28_.heap.size := by subst hw; exact ⟨KAt.zero_new w28_, HX.out.ext.size⟩
          clear hw
          refine hK.out _ _ (hx.ext) ?_
          clear hK K
          have HX := Lib.hid (HX.out.trans hx)
          have Y8 := Lib.hid (And.intro (Y8.out.1.ext hx.ext) Y8.out.2)
          have Y7 := Lib.hid Y70
          clear Y70
          clear hx
          refine Gr.Left.done (by kernel_rfl) ?_
          simp only [List.drop_succ_cons, List.drop_zero]
          have b7 := Y7.out.1.block rfl
          have b8 : (World.setRow w29_ _ (KC da)).heap[_]? = _ := (setRow_other _ _ _ (KC da) (by first | exact HNE.out | exact (Ne.symm HNE.out))).trans (Y8.out.1.block rfl)
          have HE := Lib.hid (by_end (da := da) (db := db) HBX.out HX.out Y7.out Y8.out (by first | exact HNE.out | exact (Ne.symm HNE.out)) HLA.out HLB.out)
          go_wp2_with (first | (refine wpList_store_row rfl 24 (.tmp 7) (.tmp 12) rfl _ (KC da) rfl HYA.out.symm 24 (KC KY.zero) b7 HIA.out HSA.out KC_one ?_) | (refine wpList_store_row rfl 24 (.tmp 8) (.tmp 16) rfl _ (KC db) rfl HYB.out.symm 24 (KC KY.zero) b8 HIB.out HSB.out KC_one ?_) | fail)
          go_meet
          exact HE.out
        · skip
          go_simp
          try have HNE := Lib.hid (Nat.ne_of_lt Y8.out.1.lt)
          generalize hw : World.alloc _ _ = w30_
          have hx : Ahd w27_ w30_ := by subst hw; exact Ahd.alloc _ _
          have Y70 : KAt w30_ w27_.heap.size KY.zero ∧ wd.heap.size ≤ w27_.heap.size := by subst hw; exact ⟨KAt.zero_new w27_, HX.out.ext.size⟩
          clear hw
          refine hK.out _ _ (hx.ext) ?_
          clear hK K
          have HX := Lib.hid (HX.out.trans hx)
          have Y8 := Lib.hid (And.intro (Y8.out.1.ext hx.ext) Y8.out.2)
          have Y7 := Lib.hid Y70
          clear Y70
          clear hx
          refine Gr.Left.one (i := 7) (by kernel_rfl) (by kernel_rfl) (Gr.Step.mk rfl (fun K hK => ?_))
          go_simp
          refine (HD2.out _).mono ?_
          rintro e w31_ ⟨rfl, hx⟩
          try go_simp
          refine hK.out _ _ (hx.ext) ?_
          clear hK K
          have HX := Lib.hid (HX.out.trans hx)
          have Y8 := Lib.hid (And.intro (Y8.out.1.ext hx.ext) Y8.out.2)
          have Y7 := Lib.hid (And.intro (Y7.out.1.ext hx.ext) Y7.out.2)
          clear hx
          refine Gr.Left.done (by kernel_rfl) ?_
          simp only [List.drop_succ_cons, List.drop_zero]
          have b7 := Y7.out.1.block rfl
          have b8 : (World.setRow w31_ _ (KC da)).heap[_]? = _ := (setRow_other _ _ _ (KC da) (by first | exact HNE.out | exact (Ne.symm HNE.out))).trans (Y8.out.1.block rfl)
          have HE := Lib.hid (by_end (da := da) (db := db) HBX.out HX.out Y7.out Y8.out (by first | exact HNE.out | exact (Ne.symm HNE.out)) HLA.out HLB.out)
          go_wp2_with (first | (refine wpList_store_row rfl 24 (.tmp 7) (.tmp 12) rfl _ (KC da) rfl HYA.out.symm 24 (KC KY.zero) b7 HIA.out HSA.out KC_one ?_) | (refine wpList_store_row rfl 24 (.tmp 8) (.tmp 16) rfl _ (KC db) rfl HYB.out.symm 24 (KC KY.zero) b8 HIB.out HSB.out KC_one ?_) | fail)
          go_meet
          exact HE.out
      · skip
        go_simp
        try have HNE := Lib.hid (Nat.ne_of_lt Y8.out.1.lt)
        generalize hw : World.alloc _ _ = w32_
        have hx : Ahd w26_ w32_ := by subst hw; exact Ahd.alloc _ _
        have Y70 : KAt w32_ w26_.heap.size KY.zero ∧ wd.heap.size ≤ w26_.heap.size := by subst hw; exact ⟨KAt.zero_new w26_, HX.out.ext.size⟩
        clear hw
        refine hK.out _ _ (hx.ext) ?_
        clear hK K
        have HX := Lib.hid (HX.out.trans hx)
        have Y8 := Lib.hid (And.intro (Y8.out.1.ext hx.ext) Y8.out.2)
        have Y7 := Lib.hid Y70
        clear Y70
        clear hx
        refine Gr.Left.one (i := 3) (by kernel_rfl) (by kernel_rfl) (Gr.Step.mk rfl (fun K hK => ?_))
        go_simp
        refine (HD1.out _).mono ?_
        rintro e w33_ ⟨rfl, hx⟩
        try go_simp
        refine hK.out _ _ (hx.ext) ?_
        clear hK K
        have HX := Lib.hid (HX.out.trans hx)
        have Y8 := Lib.hid (And.intro (Y8.out.1.ext hx.ext) Y8.out.2)
        have Y7 := Lib.hid (And.intro (Y7.out.1.ext hx.ext) Y7.out.2)
        clear hx
        refine Gr.Left.one (i := 7) (by kernel_rfl) (by kernel_rfl) (Gr.Step.mk rfl (fun K hK => ?_))
        go_simp
        refine (HD2.out _).mono ?_
        rintro e w34_ ⟨rfl, hx⟩
        try go_simp
        refine hK.out _ _ (hx.ext) ?_
        clear hK K
        have HX := Lib.hid (HX.out.trans hx)
        have Y8 := Lib.hid (And.intro (Y8.out.1.ext hx.ext) Y8.out.2)
        have Y7 := Lib.hid (And.intro (Y7.out.1.ext hx.ext) Y7.out.2)
        clear hx
        refine Gr.Left.done (by kernel_rfl) ?_
        simp only [List.drop_succ_cons, List.drop_zero]
        have b7 := Y7.out.1.block rfl
        have b8 : (World.setRow w34_ _ (KC da)).heap[_]? = _ := (setRow_other _ _ _ (KC da) (by first | exact HNE.out | exact (Ne.symm HNE.out))).trans (Y8.out.1.block rfl)
        have HE := Lib.hid (by_end (da := da) (db := db) HBX.out HX.out Y7.out Y8.out (by first | exact HNE.out | exact (Ne.symm HNE.out)) HLA.out HLB.out)
        go_wp2_with (first | (refine wpList_store_row rfl 24 (.tmp 7) (.tmp 12) rfl _ (KC da) rfl HYA.out.symm 24 (KC KY.zero) b7 HIA.out HSA.out KC_one ?_) | (refine wpList_store_row rfl 24 (.tmp 8) (.tmp 16) rfl _ (KC db) rfl HYB.out.symm 24 (KC KY.zero) b8 HIB.out HSB.out KC_one ?_) | fail)
        go_meet
        exact HE.out
  case rest =>
    obtain ⟨hbx, y7, y8, rfl, rfl, h7, h8⟩ := hcut
    have HBX := Lib.hid hbx
    have H7 := Lib.hid h7
    have H8 := Lib.hid h8
    have HXC : Hid (Ahd w wc) := hbx.ahd
    have hpa := range_peer (hbx.a.range (o := 0) (k := 0) rfl Nat.zero_lt_one)
    have hpb := range_peer (hbx.b.range (o := 0) (k := 0) rfl Nat.zero_lt_one)
    simp only [List.getD_cons_zero] at hpa hpb
    have HPA := Lib.hid hpa
    have HPB := Lib.hid hpb
    clear hbx h7 h8 hpa hpb
    have b7 := H7.out.block HLA.out
    have b8 := H8.out.block HLB.out
    have HV7 : Hid (∀ W, wc.Extends W → W.heap[y7]? = some (.cells (KC da) 24 (0, 0))) := fun W hx => (H7.out.ext hx).block HLA.out
    have HV8 : Hid (∀ W, wc.Extends W → W.heap[y8]? = some (.cells (KC db) 24 (0, 0))) := fun W hx => (H8.out.ext hx).block HLB.out
    clear b7 b8
    rw [← HYA.out, ← HYB.out] at HL1 HL2
    obtain ⟨w2, hw2⟩ : ∃ w2, w2 = wc := ⟨_, rfl⟩
    have HX2 : Hid (Ahd wc w2) := by rw [hw2]; exact ⟨Gr.ext_refl _, Nat.le_refl _⟩
    have b7 := HV7.out w2 HX2.out.ext
    have b8 := HV8.out w2 HX2.out.ext
    rw [← hw2]
    clear hw2
    go_wp2_with (first | (refine wpList_load_row rfl 24 (.tmp 7) rfl y7 rfl 24 (KC da) (0, 0) _ b7 Try.underlying24 rfl HIA.out ?_) | (refine wpList_load_row rfl 24 (.tmp 8) rfl y8 rfl 24 (KC db) (0, 0) _ b8 Try.underlying24 rfl HIB.out ?_) | fail)
    refine (HL1.out w2).mono ?_
    rintro e w3 ⟨rfl, hx3⟩
    have HX3 := Lib.hid (HX2.out.trans hx3)
    clear hx3 b7 b8
    cases q1 with
    | true =>
      have HP : Hid ((.returned (.int .i64 (-1)) : Ending) = .returned (.int .i64 (cfK K a b)) ∧ Ahd w w3) := ⟨by rw [HCF.out]; rfl, HXC.out.trans HX3.out⟩
      go_wp2
      go_ret
      exact HP.out
    | false =>
      have b7 := HV7.out w3 HX3.out.ext
      have b8 := HV8.out w3 HX3.out.ext
      go_wp2_with (first | (refine wpList_load_row rfl 24 (.tmp 7) rfl y7 rfl 24 (KC da) (0, 0) _ b7 Try.underlying24 rfl HIA.out ?_) | (refine wpList_load_row rfl 24 (.tmp 8) rfl y8 rfl 24 (KC db) (0, 0) _ b8 Try.underlying24 rfl HIB.out ?_) | fail)
      refine (HL2.out w3).mono ?_
      rintro e w4 ⟨rfl, hx4⟩
      have HX4 := Lib.hid (HX3.out.trans hx4)
      clear hx4 b7 b8
      cases q2 with
      | true =>
        have HP : Hid ((.returned (.int .i64 1) : Ending) = .returned (.int .i64 (cfK K a b)) ∧ Ahd w w4) := ⟨by rw [HCF.out]; rfl, HXC.out.trans HX4.out⟩
        go_wp2
        go_ret
        exact HP.out
      | false =>
        have hpa := HX4.out.ext.cell_of HPA.out
        have hpb := HX4.out.ext.cell_of HPB.out
        have HP : Hid ((.returned (.int .i64 (Lib.compareInt a.p b.p)) : Ending) = .returned (.int .i64 (cfK K a b)) ∧ Ahd w w4) := ⟨by rw [HCF.out]; rfl, HXC.out.trans HX4.out⟩
        go_wp2_with fail
        refine (HCM.out w4).mono ?_
        rintro e w5 ⟨rfl, rfl⟩
        generalize Lib.compareInt a.p b.p = cm at *
        go_wp2
        go_ret
        exact HP.out
end Go.Proofs.Ytffcjnabhblbaaa
namespace Go.Proofs.Ytffcjnabhblbaaa
set_option maxRecDepth 20000
open Go.RowKit Go.Deep
set_option linter.unusedVariables false
set_option maxHeartbeats 1000000 in
theorem near1_any (K : List Nat) (a b : Ct) (c : Nat) (w : World) (hK : KY.Ok K) (ha : KY.Ok a.k) (hb : KY.Ok b.k) (hc : KAt w c K) :
    Calls Try.prog 32 #[CV a, CV b, .pointer (some ⟨c, 0, none⟩)] w fun e w' => e = .returned (.int .i64 (cfK K a b)) ∧ Ahd w w' := by
  have HBY := Lib.hid fun w1 => bydist_any K a b w1 hK ha hb
  have HI := Lib.hid (key_info hK.1)
  obtain ⟨s, hs⟩ : ∃ s, w.heap.size = s := ⟨_, rfl⟩
  have HBOX : Hid (∀ w2, w2 = (w.alloc (.cells (CL a).toArray 47)).alloc (.cells (CL b).toArray 47) → Ahd w w2 ∧ CAt w2 s 47 [] [a] [] ∧ CAt w2 (s + 1) 47 [] [b] [] ∧ w2.heap[c]? = some (.cells (KC K) 24 (0, 0))) := fun w2 e => by
    subst e
    subst hs
    have b1 := CAt.box w 47 a
    have b2 := CAt.box (w.alloc (.cells (CL a).toArray 47)) 47 b
    have e1 : (w.alloc (.cells (CL a).toArray 47)).heap.size = w.heap.size + 1 := by simp
    rw [e1] at b2
    exact ⟨(Ahd.alloc _ _).trans (Ahd.alloc _ _), b1.ext (ext_alloc _ _), b2, ((ext_alloc _ _).block c (by simp; exact Nat.lt_succ_of_lt hc.lt)).trans (((ext_alloc _ _).block c hc.lt).trans (hc.block hK.1))⟩
  obtain ⟨xa, hxa⟩ : ∃ x, CV a = x := ⟨_, rfl⟩
  obtain ⟨xb, hxb⟩ : ∃ x, CV b = x := ⟨_, rfl⟩
  have HXA := Lib.hid hxa
  have HXB := Lib.hid hxb
  generalize cfK K a b = r at *
  clear hxa hxb ha hb hK hc
  go_enter Try.func32, Try.ntmps32
  go_upto_region 1 with fail
  generalize hw1 : World.alloc w _ = w1
  generalize hw2 : World.alloc w1 _ = w2
  obtain ⟨hx2, h1, h2, h3⟩ := HBOX.out w2 (by rw [← hw2, ← hw1])
  have HX2 := Lib.hid hx2
  have hr1 := h1.range (o := 0) (k := 0) rfl Nat.zero_lt_one
  have hr2 := h2.range (o := 0) (k := 0) rfl Nat.zero_lt_one
  clear hw1 hw2 HBOX hs hx2 h1 h2
  go_wp2_with (first | (refine wpList_load_row rfl 24 (.tmp 2) rfl c rfl 24 (KC K) (0, 0) _ h3 Try.underlying24 rfl HI.out ?_) | (refine wpList_load_ct rfl (.tmp 3) rfl s 0 a xa HXA.out rfl hr1 ?_) | (refine wpList_load_ct rfl (.tmp 4) rfl (s + 1) 0 b xb HXB.out rfl hr2 ?_) | fail)
  rw [← HXA.out, ← HXB.out]
  refine (HBY.out w2).mono ?_
  rintro e w3 ⟨rfl, hx3⟩
  have HP : Hid (Ahd w w3) := HX2.out.trans hx3
  clear hx3 hr1 hr2 h3
  go_wp2
  go_ret
  exact ⟨rfl, HP.out⟩
/-- Contacts whose keys are keys. -/
abbrev CtK := {c : Ct // KY.Ok c.k}
instance : Inhabited CtK := ⟨⟨z21, KY.zero_ok⟩⟩
abbrev encC (x : CtK) : List Value := CL x.1
abbrev cfC (K : List Nat) (x y : CtK) : Int := cfK K x.1 y.1
theorem cf_lex (K : List Nat) (x y : Ct) : decide (cfK K x y < 0) = lex (KY.dist x.k K) x.p (KY.dist y.k K) y.p := by
  unfold cfK lex Lib.compareInt
  cases KY.lt (KY.dist x.k K) (KY.dist y.k K)
  · cases KY.lt (KY.dist y.k K) (KY.dist x.k K)
    · by_cases h : x.p < y.p
      · simp [h]
      · by_cases h2 : y.p < x.p <;> simp [h, h2]
    · simp
  · simp
theorem lt_lex (K : List Nat) (x y : CtK) : ltOf (cfC K) x y = lex (KY.dist x.1.k K) x.1.p (KY.dist y.1.k K) y.1.p := cf_lex K x.1 y.1
theorem cf_swo {K : List Nat} (hK : KY.Ok K) : Sort.SWO (ltOf (cfC K)) := by
  have hd : ∀ x : CtK, (KY.dist x.1.k K).length = 20 := fun x => KY.dist_len x.1.h hK.1
  refine ⟨fun x => by rw [lt_lex]; exact lex_irr (hd x) _, fun x y z h1 h2 => by rw [lt_lex] at *; exact lex_trans (hd x) (hd y) (hd z) h1 h2, fun x y z h1 h2 => ?_⟩
  rw [lt_lex] at *
  cases e : lex (KY.dist x.1.k K) x.1.p (KY.dist z.1.k K) z.1.p with
  | false => rfl
  | true =>
    cases e2 : lex (KY.dist y.1.k K) y.1.p (KY.dist x.1.k K) x.1.p with
    | true => rw [lex_trans (hd y) (hd x) (hd z) e2 e] at h2; cases h2
    | false =>
      obtain ⟨e3, e4⟩ := lex_tot (hd x) (hd y) h1 e2
      rw [e3, e4, h2] at e; cases e
theorem cf_tot {K : List Nat} (hK : KY.Ok K) (x y : CtK) (h1 : ltOf (cfC K) x y = false) (h2 : ltOf (cfC K) y x = false) : x = y := by
  rw [lt_lex] at h1 h2
  obtain ⟨e1, e2⟩ := lex_tot (KY.dist_len x.1.h hK.1) (KY.dist_len y.1.h hK.1) h1 h2
  exact Subtype.ext (Ct.ext e2 (dist_inj x.1.h y.1.h hK.1 e1))
/-- The contacts in their order. -/
def sortC (K : List Nat) (ds : List CtK) : List Ct := (ds.mergeSort fun x y => !(ltOf (cfC K)) y x).map Subtype.val
/-- What sorting leaves of a row of contacts. -/
def SortC (B : Nat) (v : Value) (K : List Nat) (ds : List CtK) (w : World) (e : Ending) (w' : World) : Prop := e = .returned (.tuple #[]) ∧ Below B w w' ∧ Cts w' v (sortC K ds)
theorem flat_getC (d : Array CtK) {i c : Nat} (hi : i < d.size) (hc : c < 21) : (Sort.flatK encC 21 d)[i * 21 + c]! = (encC d[i]!)[c]! := by
  rw [Sort.get_flatK _ _ _ _ (by omega), show (i * 21 + c) / 21 = i by omega, show (i * 21 + c) % 21 = c by omega]
theorem holdsC {w : World} {g : Nat} {post : List Value} {ds : List CtK} (h : CAt w g 47 [] (ds.map Subtype.val) post) : Sort.HoldsK encC 21 w g 0 ds.toArray := by
  intro j hj
  rw [Sort.size_flatK] at hj
  have hj2 : j < ds.length * 21 := by simpa using hj
  refine ⟨?_, h.frozen _⟩
  have hr := h.range (o := j / 21 * 21) (k := j / 21) (by simp) (by simp; omega) (j % 21)
  have e : j = j / 21 * 21 + j % 21 := by omega
  have hi : j / 21 < ds.length := by omega
  have hget : (ds.map Subtype.val).getD (j / 21) z21 = ds[j / 21].1 := by simp [hi]
  rw [hget] at hr
  have hcl : j % 21 < (CL ds[j / 21].1).length := by rw [CL_length]; omega
  have h2 := hr (CL ds[j / 21].1)[j % 21] (List.getElem?_eq_getElem hcl)
  have hf := flat_getC ds.toArray (i := j / 21) (c := j % 21) (by simpa using hi) (by omega)
  rw [← e] at hf
  rw [hf]
  rw [← e] at h2
  rw [Nat.zero_add, h2]
  simp [encC, hi, List.getElem?_eq_getElem hcl]
theorem tsortc_any (B : Nat) (v : Value) (K : List Nat) (c : Nat) (ds : List CtK) (w : World) (hK : KY.Ok K) (hB : B ≤ w.heap.size) (ho : OwnC w B v (ds.map Subtype.val)) (hl : ds.length ≤ 100000) (hc : KAt w c K) :
    Calls Try.prog 31 #[v, .func (.func 32) #[] #[.pointer (some ⟨c, 0, none⟩)]] w (SortC B v K ds w) := by
  rcases ho.kinds with ⟨rfl, h0⟩ | ⟨g, cap, rfl⟩
  · obtain rfl : ds = [] := List.map_eq_nil_iff.1 h0
    have hr := AnyF.slices_SortFunc_none sortCt none 0 (.func (.func 32) #[] #[.pointer (some ⟨c, 0, none⟩)]) w
    refine Calls.mono (show Calls Try.prog 31 _ _ _ from hr) fun e w' ⟨he, hw⟩ => ⟨he, by rw [hw]; exact Below.refl _ _, ?_⟩
    exact .inl ⟨by unfold sortC; rw [List.mergeSort_nil]; rfl, _, _, rfl⟩
  · obtain ⟨_, hcap, hlt, post, hat⟩ := ho.at_
    have hbg : B ≤ g := (ho.block rfl).1
    have hne : c ≠ g := fun e => by
      have h1 := hc.block hK.1
      rw [e, show w.heap[g]? = _ from hat] at h1
      simp only [Option.some.injEq, Obj.cells.injEq] at h1
      exact absurd h1.2.1 (by decide)
    rw [List.length_map] at hcap ⊢
    have eg : ∀ args w, (callFunc 32 args).run Try.prog w = .ok (.enter 32 args) w := enters_of Try.func32 (by kernel_rfl) rfl
    have hcmp : CmpLays Try.prog 32 #[.pointer (some ⟨c, 0, none⟩)] encC 21 (cfC K) g 0 ds.toArray.size w := fun m os dk _ x y => by
      have hk : KAt (sortWorldK encC 21 w g 0 m dk os) c K := World.rowIs.of_block hc (by
        show ((Sort.putRow id (Sort.ahead w m) g 0 (Sort.flatK encC 21 dk)).heap ++ os)[c]? = _
        rw [Array.getElem?_append_left (by rw [Sort.size_putRow]; exact hc.lt), put_other _ _ _ _ _ _ hne]
        rfl)
      exact (near1_any K x.1 y.1 c _ hK x.2 y.2 hk).mono fun e w' ⟨he, ha⟩ => ⟨he, ha.grow⟩
    have hr := AnyQ.slices_SortFunc_total sortCt 21 Try.isAgg47 Try.sizeOf47 encC (fun x => CL_length x.1) (fun x v hv => CL_one x.1 v hv) (cfC K) (cf_swo hK) 32 #[.pointer (some ⟨c, 0, none⟩)] g 0 cap ds.toArray w eg hcmp (holdsC hat) hlt (by simp; omega) (cf_tot hK)
    rw [List.size_toArray] at hr
    refine Calls.mono (show Calls Try.prog 31 _ _ _ from hr) fun e w' ⟨he, n, os, hw⟩ => ⟨he, by rw [hw]; exact below_sort _ _ _ _ _ _ _ hbg hB, ?_⟩
    have hlen : (ds.mergeSort fun x y => !(ltOf (cfC K)) y x).length = ds.length := (List.mergeSort_perm ds _).length_eq
    unfold sortC
    generalize (ds.mergeSort fun x y => !(ltOf (cfC K)) y x) = ys at *
    have hh := holdsK_sortWorldK_c encC 21 w g 0 ds.toArray ys.toArray n os (holdsC hat) hlt (by simp [hlen])
    rw [← hw] at hh
    refine .inr ⟨g, 0, cap, by rw [List.length_map, hlen], by rw [List.length_map]; omega, ?_, fun k hk j v hv => ?_⟩
    · rw [hw]; exact Nat.lt_of_lt_of_le hlt (size_sortWorldK_c encC 21 w g 0 n ys.toArray os)
    · rw [List.length_map] at hk
      have hget : (ys.map Subtype.val).getD k z21 = ys[k].1 := by simp [hk]
      rw [hget] at hv
      have hj : j < 21 := by have := (List.getElem?_eq_some_iff.1 hv).1; rwa [CL_length] at this
      have := (hh.cell (i := k) (c := j) (by simpa using hk) hj).1
      rw [this]
      have e2 : encC ys.toArray[k]! = CL ys[k].1 := by simp [encC, hk]
      rw [e2, ← hv]
      have hjl : j < (CL ys[k].1).length := by rw [CL_length]; exact hj
      simp [hjl]
end Go.Proofs.Ytffcjnabhblbaaa
namespace Go.Proofs.Ytffcjnabhblbaaa
set_option maxRecDepth 20000
open Go.RowKit Go.Deep
set_option linter.unusedVariables false
theorem ctk_of : ∀ {l : List Ct}, (∀ c ∈ l, KY.Ok c.k) → ∃ ds : List CtK, ds.map Subtype.val = l
  | [], _ => ⟨[], rfl⟩
  | c :: l, h => by
    obtain ⟨ds, hd⟩ := ctk_of (l := l) fun x hx => h x (by simp [hx])
    exact ⟨⟨c, h c (by simp)⟩ :: ds, by rw [List.map_cons, hd]⟩
theorem TInv.keys {p : Int} {b : Nat → List Ct} (h : TInv p b) : ∀ c ∈ flatT b, KY.Ok c.k := fun c hc => by
  rw [(h.peer c hc).1]; exact KY.of_ok _
theorem sortC_perm (K : List Nat) (ds : List CtK) : (sortC K ds).Perm (ds.map Subtype.val) := (List.mergeSort_perm ds _).map _
theorem near_eq {p : Int} {b : Nat → List Ct} {K : List Nat} (hi : TInv p b) (hK : KY.Ok K) {ds : List CtK} (hds : ds.map Subtype.val = flatT b) : (sortC K ds).map Ct.p = nearT K b := by
  refine Srt.uniq (nlt_ord hK) ?_ (nearT_srt hK b) ?_
  · have hs := cf_swo hK
    have hp := List.pairwise_mergeSort (le := fun x y : CtK => !(ltOf (cfC K)) y x) (fun x y z h1 h2 => by
        simp only [Bool.not_eq_true'] at *
        exact hs.ntrans z y x h2 h1) (fun x y => by
        cases h : ltOf (cfC K) y x with
        | false => rfl
        | true =>
          cases h2 : ltOf (cfC K) x y with
          | false => rfl
          | true => have := hs.trans x y x h2 h; rw [hs.irrefl] at this; cases this) ds
    unfold Srt sortC
    rw [List.pairwise_map, List.pairwise_map]
    refine hp.imp_of_mem fun {x y} hx hy h => ?_
    have hm : ∀ z, z ∈ (ds.mergeSort fun x y => !(ltOf (cfC K)) y x) → z.1 = ctOf z.1.p := fun z hz => by
      have h1 : z ∈ ds := (List.mergeSort_perm ds _).subset hz
      exact (hi.peer z.1 (by rw [← hds]; exact List.mem_map_of_mem h1)).1
    have kx := congrArg Ct.k (hm x hx)
    have ky := congrArg Ct.k (hm y hy)
    have h2 : ltOf (cfC K) y x = false := by simpa using h
    rw [lt_lex, kx, ky] at h2
    exact h2
  · exact ((sortC_perm K ds).map Ct.p).trans (by rw [hds]; exact (nearT_perm K b).symm)
/-- x[:m] of contacts. -/
theorem cut_cts {w : World} {a : Option Addr} {len c m : Nat} {l : List Ct} (h : Cts w (.slice a len c) l) (hl : l.length = len) (hm : m ≤ len) : Cts w (.slice a m c) (l.take m) := by
  rcases h with ⟨rfl, a', c', hv⟩ | ⟨g', o, cap', hv, hc, hlt, hr⟩
  · cases hv
    obtain rfl : m = 0 := by omega
    exact .inl ⟨rfl, _, _, rfl⟩
  · cases hv
    refine .inr ⟨g', o, c, by rw [List.length_take]; congr 1; omega, by rw [List.length_take]; omega, hlt, fun k hk => ?_⟩
    rw [List.length_take] at hk
    have := hr k (by omega)
    have e : (l.take m).getD k z21 = l.getD k z21 := by simp [show k < m by omega]
    rw [e]
    exact this
theorem own_cap {w : World} {B : Nat} {a : Option Addr} {len c : Nat} {l : List Ct} (h : OwnC w B (.slice a len c) l) : len ≤ c := by
  rcases h.cts with ⟨rfl, a', c', hv⟩ | ⟨g', o, cap', hv, hc, _⟩
  · cases hv; exact Nat.zero_le _
  · cases hv; exact hc
set_option maxHeartbeats 2000000 in
theorem tnear_any (g : Nat) (p : Int) (b : Nat → List Ct) (K : List Nat) (n : Int) (w : World) (h : TAt w g p b) (hi : TInv p b) (hK : KY.Ok K) :
    Calls Try.prog 16 #[.pointer (some ⟨g, 0, none⟩), KV K, .int .i64 n] w (IntsOut w ((nearT K b).take (cutN n))) := by
  obtain ⟨ds, hds⟩ := ctk_of hi.keys
  have hlen := hi.len
  obtain ⟨len, hln⟩ : ∃ len, (flatT b).length = len := ⟨_, rfl⟩
  have hdl : ds.length = len := by rw [← hln, ← hds, List.length_map]
  have hsl : (sortC K ds).length = len := by rw [(sortC_perm K ds).length_eq, hds, hln]
  obtain ⟨x, hx⟩ : ∃ x : Nat, x = (max n 0).toNat := ⟨_, rfl⟩
  have h1 : max n 0 = (x : Int) := by omega
  obtain ⟨y, hy⟩ : ∃ y : Nat, y = min x 1000 := ⟨_, rfl⟩
  obtain ⟨m, hm⟩ : ∃ m : Nat, m = min y len := ⟨_, rfl⟩
  have hml : m ≤ (sortC K ds).length := by omega
  have hcut : (nearT K b).take (cutN n) = ((sortC K ds).take m).map Ct.p := by
    rw [List.map_take, near_eq hi hK hds]
    have hnl : (nearT K b).length = len := by rw [← near_eq hi hK hds, List.length_map, hsl]
    have hc : cutN n = y := by unfold cutN; omega
    rw [hc, hm]
    by_cases e : y ≤ len
    · rw [Nat.min_eq_left e]
    · rw [Nat.min_eq_right (by omega), List.take_of_length_le (by omega), List.take_of_length_le (by omega)]
  rw [hcut]
  obtain ⟨s, hs⟩ : ∃ s, w.heap.size = s := ⟨_, rfl⟩
  have HBOX : Hid (∀ w1, w1 = w.alloc (.cells (KC K) 24) → w.Extends w1 ∧ KAt w1 s K ∧ TAt w1 g p b) := fun w1 e => by
    subst e; subst hs
    exact ⟨ext_alloc _ _, KAt.new w hK.1, h.ext (ext_alloc _ _)⟩
  have HC : Hid (∀ w1, TAt w1 g p b → Calls Try.prog 29 #[.pointer (some ⟨g, 0, none⟩)] w1 (fun e w2 => ∃ a c, e = .returned (.slice a len c) ∧ w1.Extends w2 ∧ OwnC w2 w1.heap.size (.slice a len c) (ds.map Subtype.val))) := fun w1 h1 => by
    rw [hds, ← hln]
    exact contacts_any g p b w1 h1
  have HS : Hid (∀ B v w1, B ≤ w1.heap.size → OwnC w1 B v (ds.map Subtype.val) → KAt w1 s K → Calls Try.prog 31 #[v, .func (.func 32) #[] #[.pointer (some ⟨s, 0, none⟩)]] w1 (SortC B v K ds w1)) := fun B v w1 hB ho hk => tsortc_any B v K s ds w1 hK hB ho (by omega) hk
  have HP : Hid (∀ u w1, Cts w1 u ((sortC K ds).take m) → Calls Try.prog 28 #[u] w1 (MadeI w1 (((sortC K ds).take m).map Ct.p))) := fun u w1 hu => peers_any u _ w1 hu (by rw [List.length_take]; omega)
  have HCUT : Hid (∀ w1 a c, Cts w1 (.slice a len c) (sortC K ds) → Cts w1 (.slice a m c) ((sortC K ds).take m)) := fun w1 a c h1 => cut_cts h1 hsl (by omega)
  have hways : (1000 < (x : Int) ∧ (len : Int) < 1000 ∧ m = len) ∨ (1000 < (x : Int) ∧ ¬ (len : Int) < 1000 ∧ m = 1000) ∨ (¬ 1000 < (x : Int) ∧ (len : Int) < (x : Int) ∧ m = len) ∨ (¬ 1000 < (x : Int) ∧ ¬ (len : Int) < (x : Int) ∧ m = x) := by omega
  have HW := Lib.hid hways
  have HEND : Hid (∀ w1 w2 v, w.Extends w1 → w1.Extends w2 → w2.ownsRow w1.heap.size 3 1 v (((sortC K ds).take m).map Ct.p).length (i64vs (((sortC K ds).take m).map Ct.p)) → IntsOut w (((sortC K ds).take m).map Ct.p) (.returned v) w2) := fun w1 w2 v hx hx2 ho => ⟨v, rfl, Gr.ext_trans hx hx2, owns_ints ho⟩
  unfold SortC at HS
  generalize IntsOut w (((sortC K ds).take m).map Ct.p) = POST at *
  unfold MadeI at HP
  generalize ((sortC K ds).take m).map Ct.p = ps at *
  generalize (sortC K ds).take m = tk at *
  clear hds hdl hsl hln hx hy hm hml hcut h hi hK hlen hways
  have HX0 := Lib.hid h1
  clear h1
  generalize sortC K ds = sc at *
  generalize ds.map Subtype.val = dv at *
  go_enter Try.func16, Try.ntmps16
  go_upto_region 1 with fail
  generalize hw1 : World.alloc w _ = w1
  obtain ⟨hx1, hk1, ht1⟩ := HBOX.out w1 hw1.symm
  have HX1 := Lib.hid hx1
  have HK1 := Lib.hid hk1
  have HT1 := Lib.hid ht1
  clear hw1 HBOX hx1 hk1 ht1
  have HSW : Hid (w.heap.size = s) := hs
  clear hs
  go_wp2_with fail
  refine (HC.out w1 HT1.out).mono ?_
  rintro e w2 ⟨a, c, rfl, hx2, ho2⟩
  have HX2 : Hid (w.Extends w2) := Gr.ext_trans HX1.out hx2
  have HK2 : Hid (KAt w2 s K) := HK1.out.ext hx2
  have HO2 : Hid (OwnC w2 w1.heap.size (.slice a len c) dv) := ho2
  have HB2 : Hid (w1.heap.size ≤ w2.heap.size) := hx2.size
  clear hx2 ho2
  go_wp2_with fail
  refine (HS.out _ _ w2 HB2.out HO2.out HK2.out).mono ?_
  rintro e w3 ⟨rfl, hb3, hc3⟩
  have hcl := own_cap HO2.out
  have HX3 : Hid (w.Extends w3) := Gr.ext_of ((Gr.below_of HX2.out).trans (hb3.mono HX1.out.size))
  have HU := Lib.hid (HCUT.out w3 _ _ hc3)
  clear hb3 hc3 HS HC HCUT
  go_upto_region 3 with fail
  have h1 := HX0.out
  rcases HW.out with ⟨h2, h3, rfl⟩ | ⟨h2, h3, rfl⟩ | ⟨h2, h3, rfl⟩ | ⟨h2, h3, rfl⟩
  all_goals
    go_wp2_with fail
    refine (HP.out _ w3 HU.out).mono ?_
    rintro e w4 ⟨v, rfl, hx4, ho4⟩
    have HE := Lib.hid (HEND.out w3 w4 v HX3.out hx4 ho4)
    clear hx4 ho4
    go_wp2
    exact HE.out
end Go.Proofs.Ytffcjnabhblbaaa
