/- In one text: LokKnow, LokCall. -/
import Derived.Laws.Build
import Derived.Test.YtgjnkfbckbkcnaaMA3
import Derived.Test.YtgjnkfbckbkcnaaMA6
namespace Go.Proofs.Ytgjnkfbckbkcnaa
set_option maxRecDepth 20000
open Go.RowKit Go.Deep
set_option linter.unusedVariables false
theorem cd_fill (p : Int) (n : Nat) (a0 a1 a2 a3 a4 a5 a6 a7 a8 a9 a10 a11 a12 a13 a14 a15 a16 a17 a18 a19 : Nat) : Instr.fill ([(0, 1), (1, 1), (2, 20)].toArray[·]?) (DV z22).cells [(0, .int .i64 p), (1, .int .i64 (n : Nat)), (2, KV [a0, a1, a2, a3, a4, a5, a6, a7, a8, a9, a10, a11, a12, a13, a14, a15, a16, a17, a18, a19])] = some (DL ⟨p, n, [a0, a1, a2, a3, a4, a5, a6, a7, a8, a9, a10, a11, a12, a13, a14, a15, a16, a17, a18, a19], rfl⟩).toArray := by kernel_rfl
theorem cd_struct : Try.prog.underlying 55 = some (.struct (Try.prog.fieldsOf 55)) := by
  unfold Program.fieldsOf
  rw [Try.underlying55]
theorem cd_built (p : Int) (n : Nat) (k : List Nat) (h : k.length = 20) : Try.prog.built 55 [(0, .int .i64 p), (1, .int .i64 (n : Nat)), (2, KV k)] = some (DL ⟨p, n, k, h⟩).toArray := by
  obtain ⟨it, hit, hz, _⟩ := cdParts
  have hpl : ((Try.prog.fieldsOf 55).toList.mapM fun f => (Try.prog.info? f.type).map fun i => (f.offset, i.size)) = some [(0, 1), (1, 1), (2, 20)] := by kernel_rfl
  unfold Program.built
  simp only [hit, cd_struct, hz, hpl]
  obtain ⟨a0, a1, a2, a3, a4, a5, a6, a7, a8, a9, a10, a11, a12, a13, a14, a15, a16, a17, a18, a19, rfl⟩ := list20 h
  exact cd_fill p n a0 a1 a2 a3 a4 a5 a6 a7 a8 a9 a10 a11 a12 a13 a14 a15 a16 a17 a18 a19
theorem cd_make (c : Cd) {a : Act} {o : Oper} {x y z : Operand} (ho : o.op = .build 55 #[(0, x), (1, y), (2, z)]) (hx : a.eval x = .int .i64 c.p) (hy : a.eval y = .int .i64 (c.a : Nat)) (hz : a.eval z = KV c.k) {v : Value} (hv : DV c = v) (w : World) :
    (execOp a.eval o).run Try.prog w = .ok (.value v) w := by
  subst hv
  unfold execOp
  have hb := run_build (P := Try.prog) w 55 #[(0, .int .i64 c.p), (1, .int .i64 (c.a : Nat)), (2, KV c.k)] _ (cd_built c.p c.a c.k c.h)
  have e : (Array.map (fun (u : Nat × Operand) => (u.1, a.eval u.2)) #[(0, x), (1, y), (2, z)]) = #[(0, .int .i64 c.p), (1, .int .i64 (c.a : Nat)), (2, KV c.k)] := by
    rw [← hx, ← hy, ← hz]; simp
  simp only [ho, Sem.run_bind]
  show (Sem.run _ (Instr.build _ (Array.map (fun (u : Nat × Operand) => (u.1, a.eval u.2)) #[(0, x), (1, y), (2, z)])) w).andThen _ = _
  rw [e, hb]
  rfl
theorem zkey_new (w : World) : KAt (w.alloc (.cells (KC KY.zero) 23)) w.heap.size KY.zero := KAt.new w rfl
theorem key_put {w : World} {y : Nat} {k d : List Nat} (h : KAt w y k) (hd : d.length = 20) : KAt (w.setRow y (KC d)) y d := by
  obtain ⟨z, hz, _⟩ := key_block h
  refine ⟨KC d, setRow_heap w y z (KC d) _ _ hz, by rw [KC_size, hd], fun i hi => KC_get hd i hi⟩
theorem ext_row {w0 w : World} {y : Nat} {cs : Array Value} (h : w0.Extends w) (hy : w0.heap.size ≤ y) : w0.Extends (w.setRow y cs) :=
  Gr.ext_of ((Gr.below_of h).trans ⟨rfl, rfl, rfl, by simp, fun i hi => setRow_other _ _ i _ (by omega)⟩)
def KnowOut (t : Nat) (D : Nat → Prop) (s : Lk) (w : World) (e : Ending) (w' : World) : Prop := e = .returned (.tuple #[]) ∧ Fr D w w' ∧ LAt w' t (Nx D w w') s
theorem LAtX.added {w w2 w3 w4 : World} {t mk mo : Nat} {s : Lk} {q q' v : Value} {hs l' : List Cd} {D : Nat → Prop} {x : Int} (h : LAtX w t s mk mo q v hs) (hin : LIn D t mk mo q v) (hx2 : w.Extends w2) (hx : In64 x)
    (h1 : ¬ x < 0) (h2 : x ≠ s.self) (h3 : x ∉ s.known) (hp : l'.Perm (hs ++ [s.cand x h.inv.k])) (hh : HM.Heap dlt z22 l'.length l') (hq : QIs w3 t 22 q' l') (hw : QW w2 t 22 q q' w3) (h4 : SetAt w4 mk (s.known ++ [x])) (hg : w3.grownBy w4 (some mk)) (hl : s.known.length + 1 ≤ 8000) :
    Fr D w w4 ∧ LAt w4 t (Nx D w w4) (s.add x) := by
  have e : s.add x = { s with known := s.known ++ [x] } := by
    unfold Lk.add
    rw [if_neg (by rintro (h | h | h); exact h1 h; exact h2 h; exact h3 h)]
  have hsep := h.sep
  have hb2 := h.ext hx2
  obtain ⟨r3, k3, o3, a3⟩ := hb2.turned hw
  have f3 : Fr D w w3 := (Fr.ext hx2).trans (Fr.of_qw hw hin.ht hin.q) fun i _ h => h
  have f4 : Fr D w w4 := f3.trans (Fr.grown hg fun g e => by rw [← Option.some.inj e]; exact hin.hk) fun i _ h => h
  have hqb : ∀ g, q'.ownBlock = some g → g < w3.heap.size ∧ g ≠ mk := fun g e => by
    obtain ⟨_, hl, cs, hc⟩ := hq.own.block e
    refine ⟨hl, fun e2 => ?_⟩
    subst e2
    obtain ⟨es, c, hm⟩ := k3.block
    rw [hc] at hm; cases hm
  have hob := o3.lt
  refine ⟨f4, mk, mo, q', v, l', ⟨?_, ?_, ?_, h.ne, ?_, ?_, hh, ?_, ?_, ?_⟩, ⟨.inl hin.ht, .inl hin.hk, .inl hin.ho, fun g e => ?_, fun g e => .inl (hin.v g e)⟩⟩
  · rw [hg.block t hq.lt (by simpa using hsep.tk.symm), r3, e]
  · rw [e]; exact h4
  · rw [e]; exact o3.kept (hg.block mo hob (by simpa using hsep.ko.symm))
  · exact hq.own.stay fun g e => hg.block g (hqb g e).1 (by simpa using (hqb g e).2)
  · rw [e]; exact a3.kept fun g e => hg.block g (a3.block e).1 (fun e2 => hsep.vk (by rw [e, e2]))
  · exact (h.ok.add h.inv h1 h2 h3).perm hp
  · exact h.inv.add hx
  · rw [e]; show (s.known ++ [x]).length ≤ 8000; rw [List.length_append, List.length_singleton]; exact hl
  · rcases hw.new with e2 | ⟨g', e2, h5⟩
    · exact .inl (hin.q g (e2 ▸ e))
    · rw [e2] at e
      have := Option.some.inj e
      subst this
      exact .inr ⟨Nat.le_trans hx2.size h5, Nat.lt_of_lt_of_le (hqb g' e2).1 hg.size⟩
theorem Lk.more_take (s : Lk) (m : List Int) (k : Nat) (hk : k < m.length) : s.more (m.take (k + 1)) = (s.more (m.take k)).add (m.getD k 0) := by
  have e : m.take (k + 1) = m.take k ++ [m.getD k 0] := by
    rw [List.take_add_one]
    have : m[k]?.toList = [m.getD k 0] := by simp [hk]
    rw [this]
  rw [e, Lk.more_snoc]
theorem Ints.away {w w' : World} {D : Nat → Prop} {a : Option Addr} {n cap : Nat} {l : List Int} (h : Ints w (.slice a n cap) l) (hf : Fr D w w') (hd : l = [] ∨ ∀ g, (Value.slice a n cap).ownBlock = some g → ¬ D g) : Ints w' (.slice a n cap) l := by
  rcases h with h | ⟨b, off, cap', hv, h1, h2, h3, h4⟩
  · exact .inl h
  · rcases hd with rfl | hd
    · exact .inl ⟨rfl, _, _, hv, Nat.le_trans (by cases hv; exact Nat.le_refl _) h2⟩
    · cases hv
      refine .inr ⟨b, off, cap, rfl, h1, h2, Nat.lt_of_lt_of_le h3 hf.size, fun k hk => ?_⟩
      rw [World.cell?_of_block (w := w) (w' := w') (a := ⟨b, off + k, none⟩) (hf.away b h3 (hd b rfl))]
      exact h4 k hk
theorem Ints.old {w : World} {v : Value} {l : List Int} (h : Ints w v l) : l = [] ∨ ∀ g, v.ownBlock = some g → g < w.heap.size := by
  rcases h with ⟨rfl, _⟩ | ⟨b, off, cap, rfl, h1, h2, h3, h4⟩
  · exact .inl rfl
  · exact .inr fun g hg => by cases hg; exact h3
set_option maxHeartbeats 8000000 in
theorem know_any (t : Nat) (D : Nat → Prop) (s : Lk) (v : Value) (m : List Int) (w : World) (h : LAt w t D s) (hv : Ints w v m) (hm : ∀ x ∈ m, In64 x) (hl : s.known.length + m.length ≤ 8000) (hd : m = [] ∨ ∀ g, v.ownBlock = some g → ¬ D g) :
    Calls Try.prog 21 #[.pointer (some ⟨t, 0, none⟩), v] w (KnowOut t D (s.more m) w) := by
  obtain ⟨n, hn⟩ : ∃ n, m.length = n := ⟨_, rfl⟩
  obtain ⟨a, cap, hva, _⟩ := hv.slice
  subst hva
  rw [hn] at hv hl hd ⊢
  have hnb : n ≤ 8000 := by omega
  have HV : Hid (∀ wr, Fr D w wr → Ints wr (.slice a n cap) m) := fun wr hf => hv.away hf hd
  have H0 := Lib.hid h
  have HMM := Lib.hid hm
  have HL := Lib.hid hl
  have HN := Lib.hid hn
  have HST := Lib.hid (s.more_take m)
  have HLN : Hid (∀ k, (s.more (m.take k)).known.length ≤ s.known.length + k) := fun k => by
    have := s.more_len (m.take k)
    have : (m.take k).length ≤ k := by rw [List.length_take]; exact Nat.min_le_left _ _
    omega
  have HALL : Hid (s.more (m.take n) = s.more m) := by
    show _ = _
    rw [List.take_of_length_le (by omega)]
  clear h hv hm hl hd hn
  go_enter Try.func21, Try.ntmps21
  go_wp2_with fail
  go_loopw [9] (fun s9 wr => ∃ k : Nat, k ≤ n ∧ s9 = .int .i64 k ∧ Hid (Fr D w wr) ∧ Hid (LAt wr t (Nx D w wr) (s.more (m.take k)))) (fun s9 _ => (n - intOf s9).toNat)
  case atStart => exact ⟨0, by omega, rfl, Fr.refl _ _, H0.out.mono fun i hi => .inl hi⟩
  case round =>
    obtain ⟨k, hk, rfl, HF, HLT⟩ := hrel
    by_cases h1 : k < n
    · have hkl : k < m.length := by have := HN.out; omega
      obtain ⟨b1, o1, rfl, hb1, hc1⟩ := (HV.out wr HF.out).cell.2 (by omega)
      have hc := hc1 k h1
      have HXI : Hid (In64 (m.getD k 0))   := HMM.out _ (by rw [List.getD_eq_getElem?_getD, List.getElem?_eq_getElem hkl]; exact List.getElem_mem _)
      have hst := HST.out k hkl
      have hlk := HLN.out k
      have hll := HL.out
      generalize m.getD k 0 = x at *
      generalize hs1 : s.more (m.take k) = st at *
      generalize hs2 : s.more (m.take (k + 1)) = st2 at *
      have HS2 := Lib.hid hs2
      have HST1 := Lib.hid hst
      have HLK : Hid (st.known.length + 1 ≤ 8000) := by show _ ≤ _; omega
      clear hc1 hb1 hs1 hs2 hst hlk hll hkl
      have HSAME : Hid (x < 0 ∨ x = st.self ∨ x ∈ st.known → st2 = st) := fun h => by
        rw [HST1.out]; unfold Lk.add; rw [if_pos h]
      by_cases h2 : x < 0
      · have HE := Lib.hid (HSAME.out (.inl h2))
        go_wp2
        go_roundw
        case rel => exact ⟨k + 1, by omega, by go_num, HF.out, by rw [HS2.out, HE.out]; exact HLT.out⟩
        case measure => simp [intOf]; omega
      · obtain ⟨mk, mo, q, v, hs, hX, hin⟩ := HLT.out
        obtain ⟨c20, c21, c22, c23, c24⟩ := hX.cells
        have HX := Lib.hid hX
        have HIN := Lib.hid hin
        by_cases h3 : x = st.self
        · have HE := Lib.hid (HSAME.out (.inr (.inl h3)))
          have h4 : (x == st.self) = true := by simp [h3]
          generalize st.self = y at *
          clear h3 hX hin c22 c23 c24 c21
          go_wp2
          go_roundw
          case rel => exact ⟨k + 1, by omega, by go_num, HF.out, by rw [HS2.out, HE.out]; exact HLT.out⟩
          case measure => simp [intOf]; omega
        · have HH := Lib.hid (shas_any mk st.known x wr HX.out.known HXI.out)
          have h4 : (x == st.self) = false := by simp [h3]
          have H3 := Lib.hid h3
          have H2 := Lib.hid h2
          clear h3 hX hin c22 c23 c24
          go_wp2_with fail
          refine HH.out.mono ?_
          rintro e w1 ⟨rfl, hx1⟩
          have HX1 := Lib.hid hx1
          clear hx1 HH
          by_cases h5 : x ∈ st.known
          · have HE := Lib.hid (HSAME.out (.inr (.inr h5)))
            rw [decide_eq_true h5]
            clear h5
            have HF1 : Hid (Fr D w w1) := HF.out.trans (Fr.ext HX1.out) (fun i _ h => h)
            have HLT1 : Hid (LAt w1 t (Nx D w w1) st) := (HLT.out.ext HX1.out).mono fun i hi => by
              rcases hi with hi | hi
              · exact .inl hi
              · exact .inr ⟨hi.1, Nat.lt_of_lt_of_le hi.2 HX1.out.size⟩
            go_wp2
            go_roundw
            case rel => exact ⟨k + 1, by omega, by go_num, HF1.out, by rw [HS2.out, HE.out]; exact HLT1.out⟩
            case measure => simp [intOf]; omega
          · have H5 := Lib.hid h5
            rw [decide_eq_false h5]
            clear h5 hc c20 c21 h4
            have HKO := Lib.hid HX.out.inv.k
            have HK1 : Hid (∀ w v, Ints w v [x] → Calls Try.prog 30 #[v] w fun e w' => e = .returned (KV (KY.of [x])) ∧ w.Extends w') := fun w v h => kof_any w h
            have HD1 : Hid (∀ w, Calls Try.prog 29 #[KV (KY.of [x]), KV st.k] w fun e w' => e = .returned (KV (far st.k x)) ∧ w.Extends w') := fun w => (kdist_any (KY.of_ok _) HKO.out w).mono fun e w' h => h
            obtain ⟨d, hd⟩ : ∃ d, far st.k x = d := ⟨_, rfl⟩
            have hdo : KY.Ok d := by rw [← hd]; exact far_ok HKO.out x
            have HCD : Hid (∀ h, (st.cand x h).p = x ∧ (st.cand x h).a = st.known.length ∧ (st.cand x h).k = d) := fun h => ⟨rfl, rfl, hd⟩
            rw [hd] at HD1
            have HDO := Lib.hid hdo
            have HDI := Lib.hid (key_info hdo.1)
            have HDS : Hid ((KC KY.zero).size = (KC d).size) := by show _ = _; rw [KC_size, KC_size, hdo.1]; rfl
            obtain ⟨xk, hxk⟩ : ∃ z, KV st.k = z := ⟨_, rfl⟩
            have HXK := Lib.hid hxk
            rw [hxk] at HD1
            obtain ⟨xd, hxd⟩ : ∃ z, KV d = z := ⟨_, rfl⟩
            have HXD := Lib.hid hxd
            rw [hxd] at HD1
            generalize KV (KY.of [x]) = xo at *
            have HADD : Hid (∀ w5, w1.Extends w5 → Calls Try.prog 31 #[.pointer (some ⟨t, 22, none⟩), DV (st.cand x HKO.out)] w5 (AddOut t 22 hs (st.cand x HKO.out) q w5)) := fun w5 hx =>
              add_any t 22 q hs _ w5 (HX.out.ext (Gr.ext_trans HX1.out hx)).qis (Nat.le_trans HX.out.qlen (by decide)) HX.out.heap (HX.out.ok.ok HKO.out) (far_ok HKO.out x)
            have HFIN : Hid (∀ w5 w6 w7, w1.Extends w5 → ∀ q' l', l'.Perm (hs ++ [st.cand x HKO.out]) → HM.Heap dlt z22 l'.length l' → QIs w6 t 22 q' l' → QW w5 t 22 q q' w6 → SetAt w7 mk (st.known ++ [x]) → w6.grownBy w7 (some mk) → Fr D w w7 ∧ LAt w7 t (Nx D w w7) st2) := fun w5 w6 w7 hx q' l' a1 a2 a3 a4 a5 a6 => by
              obtain ⟨b1, b2⟩ := HX.out.added HIN.out (Gr.ext_trans HX1.out hx) HXI.out (by have := H2.out; omega) H3.out H5.out a1 a2 a3 a4 a5 a6 HLK.out
              rw [HST1.out]
              exact ⟨HF.out.next b1, b2.mono fun i hi => Nx.next HF.out.size b1.size hi⟩
            have HBX : Hid (LAtX w1 t st mk mo q v hs) := HX.out.ext HX1.out
            generalize hcd : st.cand x HKO.out = cd at *
            have HCE : Hid (cd.p = x ∧ cd.a = st.known.length ∧ cd.k = d) := by rw [← hcd]; exact HCD.out _
            clear hcd hd hdo hxk hxd HCD HX HX1 HF HLT HSAME HST1
            go_wp2_with fail
            refine Gr.regionE 9 4 [(false,0),(false,3),(false,4),(false,5),(false,6)] (by kernel_rfl) (by kernel_rfl) (fun d _ _ _ _ h => by cases d <;> exact h) ?_
            simp only [Gr.pick, List.getElem?_cons_zero, List.getElem?_cons_succ]
            generalize hwd0 : w1.drew = wd
            have HXD0 : Hid (w1.Extends wd) := by rw [← hwd0]; exact Gr.ext_drew (Gr.ext_refl w1)
            have HX : Hid (wd.Extends wd) := Gr.ext_refl _
            clear hwd0
            iterate 4
              refine Gr.walkE_t ?_ (Or.inl ⟨by rfl, ?_⟩) ?_
              rotate_left
              · intro w' hw'
                clear hw'
                go_simp
                try with_reducible rfl
              simp only [Act.put, List.setIfInBounds_toArray, List.set_cons_zero, List.set_cons_succ]
            refine Gr.walkE_t _ (Or.inl ⟨by rfl, fun w' hw' => dist_yields HKO.out.1 (HBX.out.ext (Gr.ext_trans HXD0.out hw')).key (by rfl) (by rfl) (by exact HXK.out)⟩) ?_
            simp only [Act.put, List.setIfInBounds_toArray, List.set_cons_zero, List.set_cons_succ]
            refine Gr.walkE_nil ?_
            refine Gr.Left.two (i := 1) (j := 8) (by kernel_rfl) (by kernel_rfl) (Gr.Step.mk rfl (fun K hK => ?_)) (Gr.Step.mk rfl (fun K hK => ?_))
            · skip
              go_simp
              generalize hw : World.alloc _ _ = w1_
              have hx : wd.Extends w1_ := by subst hw; exact ext_alloc _ _
              have I10 : Ints w1_ (.slice (some ⟨wd.heap.size, 0, none⟩) 1 1) [x] := by subst hw; exact ints_one wd x 3
              clear hw
              refine hK.out _ _ hx ?_
              clear hK K
              have HX := Lib.hid (Gr.ext_trans HX.out hx)
              have I1 := Lib.hid I10
              clear I10
              clear hx
              refine Gr.Left.two (i := 2) (j := 8) (by kernel_rfl) (by kernel_rfl) (Gr.Step.mk rfl (fun K hK => ?_)) (Gr.Step.mk rfl (fun K hK => ?_))
              · skip
                go_simp
                refine (HK1.out _ _ I1.out).mono ?_
                rintro e w2_ ⟨rfl, hx⟩
                try go_simp
                refine hK.out _ _ hx ?_
                clear hK K
                have HX := Lib.hid (Gr.ext_trans HX.out hx)
                clear I1
                clear hx
                refine Gr.Left.two (i := 7) (j := 8) (by kernel_rfl) (by kernel_rfl) (Gr.Step.mk rfl (fun K hK => ?_)) (Gr.Step.mk rfl (fun K hK => ?_))
                · skip
                  go_simp
                  refine (HD1.out _).mono ?_
                  rintro e w3_ ⟨rfl, hx⟩
                  try go_simp
                  refine hK.out _ _ hx ?_
                  clear hK K
                  have HX := Lib.hid (Gr.ext_trans HX.out hx)
                  clear hx
                  refine Gr.Left.one (i := 8) (by kernel_rfl) (by kernel_rfl) (Gr.Step.mk rfl (fun K hK => ?_))
                  go_simp
                  generalize hw : World.alloc _ _ = w4_
                  have hx : w3_.Extends w4_ := by subst hw; exact ext_alloc _ _
                  have Y60 : KAt w4_ w3_.heap.size KY.zero ∧ wd.heap.size ≤ w3_.heap.size := by subst hw; exact ⟨zkey_new w3_, HX.out.size⟩
                  clear hw
                  refine hK.out _ _ hx ?_
                  clear hK K
                  have HX := Lib.hid (Gr.ext_trans HX.out hx)
                  have Y6 := Lib.hid Y60
                  clear Y60
                  clear hx
                  refine Gr.Left.done (by kernel_rfl) ?_
                  simp only [List.drop_succ_cons, List.drop_zero]
                  have b6 := Y6.out.1.block rfl
                  have HYL : Hid (w1.heap.size ≤ w3_.heap.size) := Nat.le_trans HXD0.out.size Y6.out.2
                  generalize hyy : w3_.heap.size = yy at *
                  go_wp2_with (refine wpList_store_row rfl 23 (.tmp 6) (.tmp 38) rfl _ (KC d) rfl HXD.out.symm 23 (KC KY.zero) b6 HDI.out HDS.out KC_one ?_)
                  have HKY := Lib.hid (key_put (d := d) Y6.out.1 HDO.out.1)
                  have HXY := Lib.hid (ext_row (cs := KC d) (Gr.ext_trans HXD0.out HX.out) HYL.out)
                  generalize hw8 : World.setRow w4_ _ _ = w8 at *
                  clear hw8 Y6 HX HXD0 hyy b6
                  refine Gr.region 11 [(false,0),(false,1),(false,2),(false,3),(false,4),(false,5),(false,6),(false,7),(false,8),(false,9),(false,10)] (by kernel_rfl) (by kernel_rfl) (fun d _ _ _ _ h => by cases d <;> exact h) ?_
                  simp only [Gr.pick, List.getElem?_cons_zero, List.getElem?_cons_succ, List.drop_succ_cons, List.drop_zero]
                  generalize hwd9 : w8.drew = w9 at *
                  have HX9 : Hid (w1.Extends w9) := by rw [← hwd9]; exact Gr.ext_drew HXY.out
                  have HK9 : Hid (KAt w9 yy d) := by rw [← hwd9]; exact HKY.out.ext (Gr.ext_drew (Gr.ext_refl _))
                  clear hwd9 HXY HKY
                  iterate 7
                    refine Gr.walk_t ?_ (Or.inl ⟨by rfl, ?_⟩) ?_
                    rotate_left
                    · intro w' hw'
                      clear hw'
                      go_simp
                      try with_reducible rfl
                    simp only [Act.put, List.setIfInBounds_toArray, List.set_cons_zero, List.set_cons_succ]
                  refine Gr.walk_t ?_ (Or.inl ⟨by rfl, ?_⟩) ?_
                  rotate_left
                  · intro w' hw'
                    have hc0 := (HBX.out.ext (Gr.ext_trans HX9.out hw')).cells.2.1
                    clear hw'
                    go_simp
                    try with_reducible rfl
                  simp only [Act.put, List.setIfInBounds_toArray, List.set_cons_zero, List.set_cons_succ]
                  refine Gr.walk_t ?_ (Or.inl ⟨by rfl, ?_⟩) ?_
                  rotate_left
                  · intro w' hw'
                    have hl0 := fun ty => (HBX.out.ext (Gr.ext_trans HX9.out hw')).known.len ty
                    clear hw'
                    go_simp
                    try with_reducible rfl
                  simp only [Act.put, List.setIfInBounds_toArray, List.set_cons_zero, List.set_cons_succ]
                  refine Gr.walk_t _ (Or.inl ⟨by rfl, fun w' hw' => key_yields (HK9.out.ext hw') HDO.out.1 (by rfl) (by rfl) (by exact HXD.out)⟩) ?_
                  simp only [Act.put, List.setIfInBounds_toArray, List.set_cons_zero, List.set_cons_succ]
                  refine Gr.walk_t _ (Or.inl ⟨by rfl, fun w' hw' => cd_make cd (by rfl) (by exact congrArg _ HCE.out.1.symm) (by exact congrArg (fun z : Nat => Value.int .i64 (z : Int)) HCE.out.2.1.symm) (by rw [HCE.out.2.2]; exact HXD.out.symm) rfl w'⟩) ?_
                  simp only [Act.put, List.setIfInBounds_toArray, List.set_cons_zero, List.set_cons_succ]
                  refine Gr.walk_nil ?_
                  obtain ⟨xc, hxc⟩ : ∃ z, DV cd = z := ⟨_, rfl⟩
                  have HA9 := Lib.hid (HADD.out w9 HX9.out)
                  rw [hxc] at HA9
                  have HFI := Lib.hid (fun w6 w7 => HFIN.out w9 w6 w7 HX9.out)
                  have HTU : Hid (∀ q' w6, QW w9 t 22 q q' w6 → w6.heap[t]? = some (.cells (LC st.k st.self mk mo q' v) 50 (0, 0)) ∧ SetAt w6 mk st.known ∧ SetAt w6 mo st.opn ∧ OwnI w6 0 v st.asked) := fun q' w6 hw => (HBX.out.ext HX9.out).turned hw
                  rw [hxc]
                  clear hxc HADD HFIN HX9 HK9
                  go_wp2_with fail
                  refine HA9.out.mono ?_
                  rintro e w10 ⟨rfl, q', l', hp, hh, hq, hw⟩
                  obtain ⟨r10, k10, _, _⟩ := HTU.out q' w10 hw
                  obtain ⟨w11, hr11, hs11, hg11⟩ := k10.put HXI.out H5.out (by have := HLK.out; omega)
                  have HP := Lib.hid (HFI.out w10 w11 q' l' hp hh hq hw hs11 hg11)
                  have hc10 : w10.cell? ⟨t, 21, none⟩ = some (.map (some mk)) := by rw [cell_of_row _ _ _ _ _ _ r10]; exact (LC_get HKO.out.1).2.1
                  clear hp hh hq hw r10 k10 hs11 hg11 HFI HTU HA9 HBX HKO HCE
                  go_wp2
                  go_roundw
                  case rel => exact ⟨k + 1, by omega, by go_num, HP.out.1, by rw [HS2.out]; exact HP.out.2⟩
                  case measure => simp [intOf]; omega
                · skip
                  go_simp
                  generalize hw : World.alloc _ _ = w5_
                  have hx : w2_.Extends w5_ := by subst hw; exact ext_alloc _ _
                  have Y60 : KAt w5_ w2_.heap.size KY.zero ∧ wd.heap.size ≤ w2_.heap.size := by subst hw; exact ⟨zkey_new w2_, HX.out.size⟩
                  clear hw
                  refine hK.out _ _ hx ?_
                  clear hK K
                  have HX := Lib.hid (Gr.ext_trans HX.out hx)
                  have Y6 := Lib.hid Y60
                  clear Y60
                  clear hx
                  refine Gr.Left.one (i := 7) (by kernel_rfl) (by kernel_rfl) (Gr.Step.mk rfl (fun K hK => ?_))
                  go_simp
                  refine (HD1.out _).mono ?_
                  rintro e w6_ ⟨rfl, hx⟩
                  try go_simp
                  refine hK.out _ _ hx ?_
                  clear hK K
                  have HX := Lib.hid (Gr.ext_trans HX.out hx)
                  have Y6 := Lib.hid (And.intro (Y6.out.1.ext hx) Y6.out.2)
                  clear hx
                  refine Gr.Left.done (by kernel_rfl) ?_
                  simp only [List.drop_succ_cons, List.drop_zero]
                  have b6 := Y6.out.1.block rfl
                  have HYL : Hid (w1.heap.size ≤ w2_.heap.size) := Nat.le_trans HXD0.out.size Y6.out.2
                  generalize hyy : w2_.heap.size = yy at *
                  go_wp2_with (refine wpList_store_row rfl 23 (.tmp 6) (.tmp 38) rfl _ (KC d) rfl HXD.out.symm 23 (KC KY.zero) b6 HDI.out HDS.out KC_one ?_)
                  have HKY := Lib.hid (key_put (d := d) Y6.out.1 HDO.out.1)
                  have HXY := Lib.hid (ext_row (cs := KC d) (Gr.ext_trans HXD0.out HX.out) HYL.out)
                  generalize hw8 : World.setRow w6_ _ _ = w8 at *
                  clear hw8 Y6 HX HXD0 hyy b6
                  refine Gr.region 11 [(false,0),(false,1),(false,2),(false,3),(false,4),(false,5),(false,6),(false,7),(false,8),(false,9),(false,10)] (by kernel_rfl) (by kernel_rfl) (fun d _ _ _ _ h => by cases d <;> exact h) ?_
                  simp only [Gr.pick, List.getElem?_cons_zero, List.getElem?_cons_succ, List.drop_succ_cons, List.drop_zero]
                  generalize hwd9 : w8.drew = w9 at *
                  have HX9 : Hid (w1.Extends w9) := by rw [← hwd9]; exact Gr.ext_drew HXY.out
                  have HK9 : Hid (KAt w9 yy d) := by rw [← hwd9]; exact HKY.out.ext (Gr.ext_drew (Gr.ext_refl _))
                  clear hwd9 HXY HKY
                  iterate 7
                    refine Gr.walk_t ?_ (Or.inl ⟨by rfl, ?_⟩) ?_
                    rotate_left
                    · intro w' hw'
                      clear hw'
                      go_simp
                      try with_reducible rfl
                    simp only [Act.put, List.setIfInBounds_toArray, List.set_cons_zero, List.set_cons_succ]
                  refine Gr.walk_t ?_ (Or.inl ⟨by rfl, ?_⟩) ?_
                  rotate_left
                  · intro w' hw'
                    have hc0 := (HBX.out.ext (Gr.ext_trans HX9.out hw')).cells.2.1
                    clear hw'
                    go_simp
                    try with_reducible rfl
                  simp only [Act.put, List.setIfInBounds_toArray, List.set_cons_zero, List.set_cons_succ]
                  refine Gr.walk_t ?_ (Or.inl ⟨by rfl, ?_⟩) ?_
                  rotate_left
                  · intro w' hw'
                    have hl0 := fun ty => (HBX.out.ext (Gr.ext_trans HX9.out hw')).known.len ty
                    clear hw'
                    go_simp
                    try with_reducible rfl
                  simp only [Act.put, List.setIfInBounds_toArray, List.set_cons_zero, List.set_cons_succ]
                  refine Gr.walk_t _ (Or.inl ⟨by rfl, fun w' hw' => key_yields (HK9.out.ext hw') HDO.out.1 (by rfl) (by rfl) (by exact HXD.out)⟩) ?_
                  simp only [Act.put, List.setIfInBounds_toArray, List.set_cons_zero, List.set_cons_succ]
                  refine Gr.walk_t _ (Or.inl ⟨by rfl, fun w' hw' => cd_make cd (by rfl) (by exact congrArg _ HCE.out.1.symm) (by exact congrArg (fun z : Nat => Value.int .i64 (z : Int)) HCE.out.2.1.symm) (by rw [HCE.out.2.2]; exact HXD.out.symm) rfl w'⟩) ?_
                  simp only [Act.put, List.setIfInBounds_toArray, List.set_cons_zero, List.set_cons_succ]
                  refine Gr.walk_nil ?_
                  obtain ⟨xc, hxc⟩ : ∃ z, DV cd = z := ⟨_, rfl⟩
                  have HA9 := Lib.hid (HADD.out w9 HX9.out)
                  rw [hxc] at HA9
                  have HFI := Lib.hid (fun w6 w7 => HFIN.out w9 w6 w7 HX9.out)
                  have HTU : Hid (∀ q' w6, QW w9 t 22 q q' w6 → w6.heap[t]? = some (.cells (LC st.k st.self mk mo q' v) 50 (0, 0)) ∧ SetAt w6 mk st.known ∧ SetAt w6 mo st.opn ∧ OwnI w6 0 v st.asked) := fun q' w6 hw => (HBX.out.ext HX9.out).turned hw
                  rw [hxc]
                  clear hxc HADD HFIN HX9 HK9
                  go_wp2_with fail
                  refine HA9.out.mono ?_
                  rintro e w10 ⟨rfl, q', l', hp, hh, hq, hw⟩
                  obtain ⟨r10, k10, _, _⟩ := HTU.out q' w10 hw
                  obtain ⟨w11, hr11, hs11, hg11⟩ := k10.put HXI.out H5.out (by have := HLK.out; omega)
                  have HP := Lib.hid (HFI.out w10 w11 q' l' hp hh hq hw hs11 hg11)
                  have hc10 : w10.cell? ⟨t, 21, none⟩ = some (.map (some mk)) := by rw [cell_of_row _ _ _ _ _ _ r10]; exact (LC_get HKO.out.1).2.1
                  clear hp hh hq hw r10 k10 hs11 hg11 HFI HTU HA9 HBX HKO HCE
                  go_wp2
                  go_roundw
                  case rel => exact ⟨k + 1, by omega, by go_num, HP.out.1, by rw [HS2.out]; exact HP.out.2⟩
                  case measure => simp [intOf]; omega
              · skip
                go_simp
                generalize hw : World.alloc _ _ = w7_
                have hx : w1_.Extends w7_ := by subst hw; exact ext_alloc _ _
                have Y60 : KAt w7_ w1_.heap.size KY.zero ∧ wd.heap.size ≤ w1_.heap.size := by subst hw; exact ⟨zkey_new w1_, HX.out.size⟩
                clear hw
                refine hK.out _ _ hx ?_
                clear hK K
                have HX := Lib.hid (Gr.ext_trans HX.out hx)
                have I1 := Lib.hid (I1.out.ext hx)
                have Y6 := Lib.hid Y60
                clear Y60
                clear hx
                refine Gr.Left.one (i := 2) (by kernel_rfl) (by kernel_rfl) (Gr.Step.mk rfl (fun K hK => ?_))
                go_simp
                refine (HK1.out _ _ I1.out).mono ?_
                rintro e w8_ ⟨rfl, hx⟩
                try go_simp
                refine hK.out _ _ hx ?_
                clear hK K
                have HX := Lib.hid (Gr.ext_trans HX.out hx)
                clear I1
                have Y6 := Lib.hid (And.intro (Y6.out.1.ext hx) Y6.out.2)
                clear hx
                refine Gr.Left.one (i := 7) (by kernel_rfl) (by kernel_rfl) (Gr.Step.mk rfl (fun K hK => ?_))
                go_simp
                refine (HD1.out _).mono ?_
                rintro e w9_ ⟨rfl, hx⟩
                try go_simp
                refine hK.out _ _ hx ?_
                clear hK K
                have HX := Lib.hid (Gr.ext_trans HX.out hx)
                have Y6 := Lib.hid (And.intro (Y6.out.1.ext hx) Y6.out.2)
                clear hx
                refine Gr.Left.done (by kernel_rfl) ?_
                simp only [List.drop_succ_cons, List.drop_zero]
                have b6 := Y6.out.1.block rfl
                have HYL : Hid (w1.heap.size ≤ w1_.heap.size) := Nat.le_trans HXD0.out.size Y6.out.2
                generalize hyy : w1_.heap.size = yy at *
                go_wp2_with (refine wpList_store_row rfl 23 (.tmp 6) (.tmp 38) rfl _ (KC d) rfl HXD.out.symm 23 (KC KY.zero) b6 HDI.out HDS.out KC_one ?_)
                have HKY := Lib.hid (key_put (d := d) Y6.out.1 HDO.out.1)
                have HXY := Lib.hid (ext_row (cs := KC d) (Gr.ext_trans HXD0.out HX.out) HYL.out)
                generalize hw8 : World.setRow w9_ _ _ = w8 at *
                clear hw8 Y6 HX HXD0 hyy b6
                refine Gr.region 11 [(false,0),(false,1),(false,2),(false,3),(false,4),(false,5),(false,6),(false,7),(false,8),(false,9),(false,10)] (by kernel_rfl) (by kernel_rfl) (fun d _ _ _ _ h => by cases d <;> exact h) ?_
                simp only [Gr.pick, List.getElem?_cons_zero, List.getElem?_cons_succ, List.drop_succ_cons, List.drop_zero]
                generalize hwd9 : w8.drew = w9 at *
                have HX9 : Hid (w1.Extends w9) := by rw [← hwd9]; exact Gr.ext_drew HXY.out
                have HK9 : Hid (KAt w9 yy d) := by rw [← hwd9]; exact HKY.out.ext (Gr.ext_drew (Gr.ext_refl _))
                clear hwd9 HXY HKY
                iterate 7
                  refine Gr.walk_t ?_ (Or.inl ⟨by rfl, ?_⟩) ?_
                  rotate_left
                  · intro w' hw'
                    clear hw'
                    go_simp
                    try with_reducible rfl
                  simp only [Act.put, List.setIfInBounds_toArray, List.set_cons_zero, List.set_cons_succ]
                refine Gr.walk_t ?_ (Or.inl ⟨by rfl, ?_⟩) ?_
                rotate_left
                · intro w' hw'
                  have hc0 := (HBX.out.ext (Gr.ext_trans HX9.out hw')).cells.2.1
                  clear hw'
                  go_simp
                  try with_reducible rfl
                simp only [Act.put, List.setIfInBounds_toArray, List.set_cons_zero, List.set_cons_succ]
                refine Gr.walk_t ?_ (Or.inl ⟨by rfl, ?_⟩) ?_
                rotate_left
                · intro w' hw'
                  have hl0 := fun ty => (HBX.out.ext (Gr.ext_trans HX9.out hw')).known.len ty
                  clear hw'
                  go_simp
                  try with_reducible rfl
                simp only [Act.put, List.setIfInBounds_toArray, List.set_cons_zero, List.set_cons_succ]
                refine Gr.walk_t _ (Or.inl ⟨by rfl, fun w' hw' => key_yields (HK9.out.ext hw') HDO.out.1 (by rfl) (by rfl) (by exact HXD.out)⟩) ?_
                simp only [Act.put, List.setIfInBounds_toArray, List.set_cons_zero, List.set_cons_succ]
                refine Gr.walk_t _ (Or.inl ⟨by rfl, fun w' hw' => cd_make cd (by rfl) (by exact congrArg _ HCE.out.1.symm) (by exact congrArg (fun z : Nat => Value.int .i64 (z : Int)) HCE.out.2.1.symm) (by rw [HCE.out.2.2]; exact HXD.out.symm) rfl w'⟩) ?_
                simp only [Act.put, List.setIfInBounds_toArray, List.set_cons_zero, List.set_cons_succ]
                refine Gr.walk_nil ?_
                obtain ⟨xc, hxc⟩ : ∃ z, DV cd = z := ⟨_, rfl⟩
                have HA9 := Lib.hid (HADD.out w9 HX9.out)
                rw [hxc] at HA9
                have HFI := Lib.hid (fun w6 w7 => HFIN.out w9 w6 w7 HX9.out)
                have HTU : Hid (∀ q' w6, QW w9 t 22 q q' w6 → w6.heap[t]? = some (.cells (LC st.k st.self mk mo q' v) 50 (0, 0)) ∧ SetAt w6 mk st.known ∧ SetAt w6 mo st.opn ∧ OwnI w6 0 v st.asked) := fun q' w6 hw => (HBX.out.ext HX9.out).turned hw
                rw [hxc]
                clear hxc HADD HFIN HX9 HK9
                go_wp2_with fail
                refine HA9.out.mono ?_
                rintro e w10 ⟨rfl, q', l', hp, hh, hq, hw⟩
                obtain ⟨r10, k10, _, _⟩ := HTU.out q' w10 hw
                obtain ⟨w11, hr11, hs11, hg11⟩ := k10.put HXI.out H5.out (by have := HLK.out; omega)
                have HP := Lib.hid (HFI.out w10 w11 q' l' hp hh hq hw hs11 hg11)
                have hc10 : w10.cell? ⟨t, 21, none⟩ = some (.map (some mk)) := by rw [cell_of_row _ _ _ _ _ _ r10]; exact (LC_get HKO.out.1).2.1
                clear hp hh hq hw r10 k10 hs11 hg11 HFI HTU HA9 HBX HKO HCE
                go_wp2
                go_roundw
                case rel => exact ⟨k + 1, by omega, by go_num, HP.out.1, by rw [HS2.out]; exact HP.out.2⟩
                case measure => simp [intOf]; omega
            · skip
              go_simp
              generalize hw : World.alloc _ _ = w10_
              have hx : wd.Extends w10_ := by subst hw; exact ext_alloc _ _
              have Y60 : KAt w10_ wd.heap.size KY.zero ∧ wd.heap.size ≤ wd.heap.size := by subst hw; exact ⟨zkey_new wd, HX.out.size⟩
              clear hw
              refine hK.out _ _ hx ?_
              clear hK K
              have HX := Lib.hid (Gr.ext_trans HX.out hx)
              have Y6 := Lib.hid Y60
              clear Y60
              clear hx
              refine Gr.Left.one (i := 1) (by kernel_rfl) (by kernel_rfl) (Gr.Step.mk rfl (fun K hK => ?_))
              go_simp
              generalize hw : World.alloc _ _ = w11_
              have hx : w10_.Extends w11_ := by subst hw; exact ext_alloc _ _
              have I10 : Ints w11_ (.slice (some ⟨w10_.heap.size, 0, none⟩) 1 1) [x] := by subst hw; exact ints_one w10_ x 3
              clear hw
              refine hK.out _ _ hx ?_
              clear hK K
              have HX := Lib.hid (Gr.ext_trans HX.out hx)
              have Y6 := Lib.hid (And.intro (Y6.out.1.ext hx) Y6.out.2)
              have I1 := Lib.hid I10
              clear I10
              clear hx
              refine Gr.Left.one (i := 2) (by kernel_rfl) (by kernel_rfl) (Gr.Step.mk rfl (fun K hK => ?_))
              go_simp
              refine (HK1.out _ _ I1.out).mono ?_
              rintro e w12_ ⟨rfl, hx⟩
              try go_simp
              refine hK.out _ _ hx ?_
              clear hK K
              have HX := Lib.hid (Gr.ext_trans HX.out hx)
              have Y6 := Lib.hid (And.intro (Y6.out.1.ext hx) Y6.out.2)
              clear I1
              clear hx
              refine Gr.Left.one (i := 7) (by kernel_rfl) (by kernel_rfl) (Gr.Step.mk rfl (fun K hK => ?_))
              go_simp
              refine (HD1.out _).mono ?_
              rintro e w13_ ⟨rfl, hx⟩
              try go_simp
              refine hK.out _ _ hx ?_
              clear hK K
              have HX := Lib.hid (Gr.ext_trans HX.out hx)
              have Y6 := Lib.hid (And.intro (Y6.out.1.ext hx) Y6.out.2)
              clear hx
              refine Gr.Left.done (by kernel_rfl) ?_
              simp only [List.drop_succ_cons, List.drop_zero]
              have b6 := Y6.out.1.block rfl
              have HYL : Hid (w1.heap.size ≤ wd.heap.size) := Nat.le_trans HXD0.out.size Y6.out.2
              generalize hyy : wd.heap.size = yy at *
              go_wp2_with (refine wpList_store_row rfl 23 (.tmp 6) (.tmp 38) rfl _ (KC d) rfl HXD.out.symm 23 (KC KY.zero) b6 HDI.out HDS.out KC_one ?_)
              have HKY := Lib.hid (key_put (d := d) Y6.out.1 HDO.out.1)
              have HXY := Lib.hid (ext_row (cs := KC d) (Gr.ext_trans HXD0.out HX.out) HYL.out)
              generalize hw8 : World.setRow w13_ _ _ = w8 at *
              clear hw8 Y6 HX HXD0 hyy b6
              refine Gr.region 11 [(false,0),(false,1),(false,2),(false,3),(false,4),(false,5),(false,6),(false,7),(false,8),(false,9),(false,10)] (by kernel_rfl) (by kernel_rfl) (fun d _ _ _ _ h => by cases d <;> exact h) ?_
              simp only [Gr.pick, List.getElem?_cons_zero, List.getElem?_cons_succ, List.drop_succ_cons, List.drop_zero]
              generalize hwd9 : w8.drew = w9 at *
              have HX9 : Hid (w1.Extends w9) := by rw [← hwd9]; exact Gr.ext_drew HXY.out
              have HK9 : Hid (KAt w9 yy d) := by rw [← hwd9]; exact HKY.out.ext (Gr.ext_drew (Gr.ext_refl _))
              clear hwd9 HXY HKY
              iterate 7
                refine Gr.walk_t ?_ (Or.inl ⟨by rfl, ?_⟩) ?_
                rotate_left
                · intro w' hw'
                  clear hw'
                  go_simp
                  try with_reducible rfl
                simp only [Act.put, List.setIfInBounds_toArray, List.set_cons_zero, List.set_cons_succ]
              refine Gr.walk_t ?_ (Or.inl ⟨by rfl, ?_⟩) ?_
              rotate_left
              · intro w' hw'
                have hc0 := (HBX.out.ext (Gr.ext_trans HX9.out hw')).cells.2.1
                clear hw'
                go_simp
                try with_reducible rfl
              simp only [Act.put, List.setIfInBounds_toArray, List.set_cons_zero, List.set_cons_succ]
              refine Gr.walk_t ?_ (Or.inl ⟨by rfl, ?_⟩) ?_
              rotate_left
              · intro w' hw'
                have hl0 := fun ty => (HBX.out.ext (Gr.ext_trans HX9.out hw')).known.len ty
                clear hw'
                go_simp
                try with_reducible rfl
              simp only [Act.put, List.setIfInBounds_toArray, List.set_cons_zero, List.set_cons_succ]
              refine Gr.walk_t _ (Or.inl ⟨by rfl, fun w' hw' => key_yields (HK9.out.ext hw') HDO.out.1 (by rfl) (by rfl) (by exact HXD.out)⟩) ?_
              simp only [Act.put, List.setIfInBounds_toArray, List.set_cons_zero, List.set_cons_succ]
              refine Gr.walk_t _ (Or.inl ⟨by rfl, fun w' hw' => cd_make cd (by rfl) (by exact congrArg _ HCE.out.1.symm) (by exact congrArg (fun z : Nat => Value.int .i64 (z : Int)) HCE.out.2.1.symm) (by rw [HCE.out.2.2]; exact HXD.out.symm) rfl w'⟩) ?_
              simp only [Act.put, List.setIfInBounds_toArray, List.set_cons_zero, List.set_cons_succ]
              refine Gr.walk_nil ?_
              obtain ⟨xc, hxc⟩ : ∃ z, DV cd = z := ⟨_, rfl⟩
              have HA9 := Lib.hid (HADD.out w9 HX9.out)
              rw [hxc] at HA9
              have HFI := Lib.hid (fun w6 w7 => HFIN.out w9 w6 w7 HX9.out)
              have HTU : Hid (∀ q' w6, QW w9 t 22 q q' w6 → w6.heap[t]? = some (.cells (LC st.k st.self mk mo q' v) 50 (0, 0)) ∧ SetAt w6 mk st.known ∧ SetAt w6 mo st.opn ∧ OwnI w6 0 v st.asked) := fun q' w6 hw => (HBX.out.ext HX9.out).turned hw
              rw [hxc]
              clear hxc HADD HFIN HX9 HK9
              go_wp2_with fail
              refine HA9.out.mono ?_
              rintro e w10 ⟨rfl, q', l', hp, hh, hq, hw⟩
              obtain ⟨r10, k10, _, _⟩ := HTU.out q' w10 hw
              obtain ⟨w11, hr11, hs11, hg11⟩ := k10.put HXI.out H5.out (by have := HLK.out; omega)
              have HP := Lib.hid (HFI.out w10 w11 q' l' hp hh hq hw hs11 hg11)
              have hc10 : w10.cell? ⟨t, 21, none⟩ = some (.map (some mk)) := by rw [cell_of_row _ _ _ _ _ _ r10]; exact (LC_get HKO.out.1).2.1
              clear hp hh hq hw r10 k10 hs11 hg11 HFI HTU HA9 HBX HKO HCE
              go_wp2
              go_roundw
              case rel => exact ⟨k + 1, by omega, by go_num, HP.out.1, by rw [HS2.out]; exact HP.out.2⟩
              case measure => simp [intOf]; omega
    · obtain rfl : k = n := by omega
      have HP : Hid (KnowOut t D (s.more m) w (.returned (.tuple #[])) wr) := ⟨rfl, HF.out, by have := HLT.out; rwa [HALL.out] at this⟩
      go_wp2
      go_end0
      exact HP.out
end Go.Proofs.Ytgjnkfbckbkcnaa
namespace Go.Proofs.Ytgjnkfbckbkcnaa
set_option maxRecDepth 20000
open Go.RowKit Go.Deep
set_option linter.unusedVariables false
/-- A key is read whole. -/
theorem wpList_load_key {ops : Array Oper} {rest : List Oper} {o : Oper} {a : Act} {w : World} {Q : Exit → Act → World → Prop} (hgd : o.guard = none) (x : Operand) (ho : o.op = .load 23 x)
    (g off : Nat) (k : List Nat) (hl : k.length = 20) (v : Value) (hv : KV k = v) (hx : a.eval x = .pointer (some ⟨g, off, none⟩)) (hr : w.rangeAt g off (KC k).toList)
    (h : wpList Try.prog ops Q rest (a.put o.dst v) w) : wpList Try.prog ops Q (o :: rest) a w := by
  subst hv
  exact wpList_load_mid hgd 23 x ho g off hx (KC k).toList _ hr Try.underlying23 rfl (by rw [Array.length_toList, KC_size, hl]; kernel_rfl) h
theorem lk_struct : Try.prog.underlying 50 = some (.struct (Try.prog.fieldsOf 50)) := by
  unfold Program.fieldsOf
  rw [Try.underlying50]
theorem lk_fill (self : Int) (mk mo : Nat) (a0 a1 a2 a3 a4 a5 a6 a7 a8 a9 a10 a11 a12 a13 a14 a15 a16 a17 a18 a19 : Nat) : Instr.fill ([(0, 20), (20, 1), (21, 1), (22, 1), (23, 1), (24, 1)].toArray[·]?) (Value.agg ((KC KY.zero).toList ++ [Value.int .i64 0, Value.map none, Value.slice none 0 0, Value.slice none 0 0, Value.map none]).toArray).cells [(0, KV [a0, a1, a2, a3, a4, a5, a6, a7, a8, a9, a10, a11, a12, a13, a14, a15, a16, a17, a18, a19]), (1, .int .i64 self), (2, Value.map (some mk)), (5, Value.map (some mo))] = some (LC [a0, a1, a2, a3, a4, a5, a6, a7, a8, a9, a10, a11, a12, a13, a14, a15, a16, a17, a18, a19] self mk mo (.slice none 0 0) (.slice none 0 0)) := by kernel_rfl
theorem lk_built (k : List Nat) (self : Int) (mk mo : Nat) (h : k.length = 20) : Try.prog.built 50 [(0, KV k), (1, .int .i64 self), (2, Value.map (some mk)), (5, Value.map (some mo))] = some (LC k self mk mo (.slice none 0 0) (.slice none 0 0)) := by
  obtain ⟨it, hit⟩ : ∃ i, Try.prog.info? 50 = some i := info_of_underlying Try.underlying50
  have hz : (Try.prog.info? 50).map (·.zero) = some (some (.agg ((KC KY.zero).toList ++ [Value.int .i64 0, Value.map none, Value.slice none 0 0, Value.slice none 0 0, Value.map none]).toArray)) := by kernel_rfl
  have hf := lk_fill self mk mo
  rw [hit] at hz
  simp only [Option.map_some, Option.some.injEq] at hz
  have hpl : ((Try.prog.fieldsOf 50).toList.mapM fun f => (Try.prog.info? f.type).map fun i => (f.offset, i.size)) = some [(0, 20), (20, 1), (21, 1), (22, 1), (23, 1), (24, 1)] := by kernel_rfl
  unfold Program.built
  simp only [hit, lk_struct, hz, hpl]
  obtain ⟨a0, a1, a2, a3, a4, a5, a6, a7, a8, a9, a10, a11, a12, a13, a14, a15, a16, a17, a18, a19, rfl⟩ := list20 h
  exact hf a0 a1 a2 a3 a4 a5 a6 a7 a8 a9 a10 a11 a12 a13 a14 a15 a16 a17 a18 a19
/-- A look is built. -/
theorem wpList_build_lk {ops : Array Oper} {rest : List Oper} {o : Oper} {a : Act} {w : World} {Q : Exit → Act → World → Prop} (hgd : o.guard = none) (x y z u : Operand) (ho : o.op = .build 50 #[(0, x), (1, y), (2, z), (5, u)])
    (k : List Nat) (self : Int) (mk mo : Nat) (hl : k.length = 20) (hx : a.eval x = KV k) (hy : a.eval y = .int .i64 self) (hz : a.eval z = .map (some mk)) (hu : a.eval u = .map (some mo))
    (h : wpList Try.prog ops Q rest (a.put o.dst (.agg (LC k self mk mo (.slice none 0 0) (.slice none 0 0)))) w) : wpList Try.prog ops Q (o :: rest) a w := by
  refine wpList_plain hgd fun K hK => ?_
  have hb := run_build (P := Try.prog) w 50 #[(0, KV k), (1, Value.int .i64 self), (2, Value.map (some mk)), (5, Value.map (some mo))] _ (lk_built k self mk mo hl)
  have e : (Array.map (fun (z : Nat × Operand) => (z.1, a.eval z.2)) #[(0, x), (1, y), (2, z), (5, u)]) = #[(0, KV k), (1, Value.int .i64 self), (2, Value.map (some mk)), (5, Value.map (some mo))] := by
    rw [← hx, ← hy, ← hz, ← hu]; simp
  unfold Oper.wp execOp
  simp only [ho, Sem.run_bind]
  have hr : (Sem.run Try.prog (Instr.build 50 (Array.map (fun (z : Nat × Operand) => (z.1, a.eval z.2)) #[(0, x), (1, y), (2, z), (5, u)])) w) = .ok (.agg (LC k self mk mo (.slice none 0 0) (.slice none 0 0))) w := by rw [e, hb]
  rw [hr]
  exact hK _ _ h
theorem LAt.start {w w1 w2 w3 w4 : World} {k : List Nat} {self : Int} (hk : KY.Ok k) (hx : w.Extends w1) (h2 : w2 = w1.alloc (.map #[] 0)) (h3 : w3 = w2.alloc (.map #[] 0)) (h4 : w4 = w3.alloc (.cells (LC k self w1.heap.size w2.heap.size (.slice none 0 0) (.slice none 0 0)) 50)) :
    w.Extends w4 ∧ LAt w4 w3.heap.size (fun i => w.heap.size ≤ i ∧ i < w4.heap.size) (Lk.new k self) := by
  have x12 : w1.Extends w2 := by rw [h2]; exact ext_alloc _ _
  have x23 : w2.Extends w3 := by rw [h3]; exact ext_alloc _ _
  have x34 : w3.Extends w4 := by rw [h4]; exact ext_alloc _ _
  have s2 : w2.heap.size = w1.heap.size + 1 := by rw [h2]; simp
  have s3 : w3.heap.size = w2.heap.size + 1 := by rw [h3]; simp
  have s4 : w4.heap.size = w3.heap.size + 1 := by rw [h4]; simp
  have s0 := hx.size
  have m1 : SetAt w2 w1.heap.size [] := by rw [h2]; exact SetAt.new w1
  have m2 : SetAt w3 w2.heap.size [] := by rw [h3]; exact SetAt.new w2
  refine ⟨Gr.ext_trans hx (Gr.ext_trans x12 (Gr.ext_trans x23 x34)), w1.heap.size, w2.heap.size, .slice none 0 0, .slice none 0 0, [], ⟨?_, m1.ext (Gr.ext_trans x23 x34), m2.ext x34, by omega, OwnD.nil _ _, OwnI.nil _ _, HM.Heap.empty _, Lk.QOk.new k self, Lk.Inv.new hk self, Nat.zero_le _⟩, ⟨⟨by omega, by omega⟩, ⟨by omega, by omega⟩, ⟨by omega, by omega⟩, fun g hg => (nomatch hg), fun g hg => (nomatch hg)⟩⟩
  rw [h4]
  exact heap_alloc_new _ _
def NewLOut (s : Lk) (w : World) (e : Ending) (w' : World) : Prop := ∃ t, e = .returned (.pointer (some ⟨t, 0, none⟩)) ∧ w.Extends w' ∧ LAt w' t (fun i => w.heap.size ≤ i ∧ i < w'.heap.size) s
set_option maxHeartbeats 1000000 in
theorem lnew_any (k : List Nat) (self : Int) (v : Value) (m : List Int) (w : World) (hk : KY.Ok k) (hv : Ints w v m) (hm : ∀ x ∈ m, In64 x) (hl : m.length ≤ 8000) :
    Calls Try.prog 7 #[KV k, .int .i64 self, v] w (NewLOut ((Lk.new k self).more m) w) := by
  have hmm := @run_makeMap Try.prog
  have HB : Hid (∀ mk mo w, (Instr.build 50 #[(0, KV k), (1, .int .i64 self), (2, Value.map (some mk)), (5, Value.map (some mo))]).run Try.prog w = .ok (.agg (LC k self mk mo (.slice none 0 0) (.slice none 0 0))) w) := fun mk mo w => run_build (P := Try.prog) w 50 _ _ (lk_built k self mk mo hk.1)
  have HK : Hid (∀ w1, w1 = w.alloc (.cells (KC k) 23) → w.Extends w1 ∧ w1.rangeAt w.heap.size 0 (KC k).toList) := fun w1 e => by
    subst e
    refine ⟨ext_alloc _ _, fun j u hu => ?_⟩
    rw [cell_of_row _ _ _ _ _ _ (heap_alloc_new _ _), Nat.zero_add]
    simpa using hu
  have HI := Lib.hid (key_info hk.1)
  have HKN : Hid (∀ w4 t, w.Extends w4 → LAt w4 t (fun i => w.heap.size ≤ i ∧ i < w4.heap.size) (Lk.new k self) → Calls Try.prog 21 #[.pointer (some ⟨t, 0, none⟩), v] w4 (NewLOut ((Lk.new k self).more m) w |> fun P => fun e w' => e = .returned (.tuple #[]) ∧ P (.returned (.pointer (some ⟨t, 0, none⟩))) w')) := fun w4 t hx hL =>
    (know_any t _ _ v m w4 hL (hv.ext hx) hm (by show 0 + m.length ≤ 8000; omega) (by
      rcases hv.old with h | h
      · exact .inl h
      · exact .inr fun g hg e => by have := h g hg; omega)).mono fun e w' ⟨he, hf, hl⟩ => ⟨he, t, rfl, Gr.ext_of ((Gr.below_of hx).trans (hf.below hx.size fun i hi => hi.1)), hl.mono fun i hi => by
        have := hx.size
        rcases hi with hi | hi
        · exact ⟨hi.1, Nat.lt_of_lt_of_le hi.2 hf.size⟩
        · exact ⟨by omega, hi.2⟩⟩
  have HST : Hid (∀ w1 w2 w3 w4 : World, w.Extends w1 → w2 = w1.alloc (.map #[] 0) → w3 = w2.alloc (.map #[] 0) → w4 = w3.alloc (.cells (LC k self w1.heap.size w2.heap.size (.slice none 0 0) (.slice none 0 0)) 50) → w.Extends w4 ∧ LAt w4 w3.heap.size (fun i => w.heap.size ≤ i ∧ i < w4.heap.size) (Lk.new k self)) := fun w1 w2 w3 w4 => LAt.start hk
  have hkl := hk.1
  have HLS : Hid (∀ mk mo, (LC k self mk mo (.slice none 0 0) (.slice none 0 0)).size = 25) := fun mk mo => by
    unfold LC
    rw [List.size_toArray, List.length_append, Array.length_toList, KC_size, hk.1]; rfl
  clear hv hm hl hk
  generalize NewLOut ((Lk.new k self).more m) w = POST at *
  go_enter Try.func7, Try.ntmps7
  go_upto_region 1 with fail
  generalize hw1 : World.alloc w _ = w1
  obtain ⟨hx1, hk1⟩ := HK.out w1 hw1.symm
  have HX1 := Lib.hid hx1
  clear hx1 HK hw1
  have HKL := Lib.hid hkl
  obtain ⟨xk, hxk⟩ : ∃ x, KV k = x := ⟨_, rfl⟩
  have HXK := Lib.hid hxk
  rw [hxk]
  clear hxk hkl HB
  go_wp2_with (first | (refine wpList_load_key rfl (.tmp 3) rfl w.heap.size 0 k HKL.out xk HXK.out rfl hk1 ?_) | (refine wpList_build_lk rfl (.tmp 8) (.tmp 9) (.tmp 10) (.tmp 11) rfl k self w1.heap.size (w1.heap.size + 1) HKL.out (by exact HXK.out.symm) rfl rfl rfl ?_))
  generalize hw2 : World.alloc w1 _ = w2
  generalize hw3 : World.alloc w2 _ = w3
  generalize hw4 : World.alloc w3 _ = w4
  have s2 : w2.heap.size = w1.heap.size + 1 := by rw [← hw2]; simp
  have s3 : w3.heap.size = w1.heap.size + 1 + 1 := by rw [← hw3]; simp [s2]
  have HL4 := Lib.hid (HST.out w1 w2 w3 w4 HX1.out hw2.symm hw3.symm (by rw [s2]; exact hw4.symm))
  rw [s3] at HL4
  generalize w1.heap.size + 1 + 1 = t at *
  clear hw2 hw3 hw4 s2 s3 HST
  refine (HKN.out w4 t HL4.out.1 HL4.out.2).mono ?_
  rintro e w5 ⟨rfl, hp⟩
  have HP := Lib.hid hp
  clear hp
  go_wp2
  exact HP.out
def OverOut (t : Nat) (D : Nat → Prop) (s : Lk) (p : Int) (w : World) (e : Ending) (w' : World) : Prop := e = .returned (.bool (decide (p ∈ s.opn))) ∧ Fr D w w' ∧ LAt w' t (Nx D w w') (s.over p)
theorem LAt.far {w w' : World} {t : Nat} {D : Nat → Prop} {s : Lk} (h : LAt w t D s) (hx : w.Extends w') : Fr D w w' ∧ LAt w' t (Nx D w w') s := ⟨Fr.ext hx, (h.ext hx).mono fun i hi => .inl hi⟩
theorem Lk.over_not {s : Lk} {p : Int} (h : p ∉ s.opn) : s.over p = s := by unfold Lk.over; rw [outI_not h]
set_option maxHeartbeats 1000000 in
theorem over_any (t : Nat) (D : Nat → Prop) (s : Lk) (p : Int) (w : World) (h : LAt w t D s) (hp : In64 p) :
    Calls Try.prog 25 #[.pointer (some ⟨t, 0, none⟩), .int .i64 p] w (OverOut t D s p w) := by
  obtain ⟨mk, mo, q, v, hs, hX, hin⟩ := h
  obtain ⟨c20, c21, c22, c23, c24⟩ := hX.cells
  have HH := Lib.hid (shas_any mo s.opn p w hX.opn hp)
  have HX := Lib.hid hX
  have HIN := Lib.hid hin
  have HPP := Lib.hid hp
  clear hX hin hp c20 c21 c22 c23
  go_enter Try.func25, Try.ntmps25
  go_wp2_with fail
  refine HH.out.mono ?_
  rintro e w1 ⟨rfl, hx1⟩
  have HX1 := Lib.hid hx1
  by_cases h5 : p ∈ s.opn
  · have hX1 := HX.out.ext HX1.out
    obtain ⟨w2, hdel, hs2, hg2⟩ := hX1.opn.del HPP.out h5 HX.out.inv.opn
    have hc24 := hX1.cells.2.2.2.2
    have HP : Hid (OverOut t D s p w (.returned (.bool true)) w2) := by
      have hsep := hX1.sep
      have f2 : Fr D w w2 := (Fr.ext HX1.out).trans (Fr.grown hg2 fun g e => by rw [← Option.some.inj e]; exact HIN.out.ho) fun i _ h => h
      refine ⟨by rw [decide_eq_true h5], f2, mk, mo, q, v, hs, ⟨?_, ?_, hs2, hX1.ne, ?_, ?_, hX1.heap, hX1.ok.over p, hX1.inv.over p, hX1.len⟩, HIN.out.mono fun i hi => .inl hi⟩
      · exact (hg2.block t hX1.lt (by simpa using hsep.ot.symm)).trans hX1.row
      · exact hX1.known.kept (hg2.block mk hX1.known.lt (by simpa using hsep.ko))
      · exact hX1.queue.stay fun g e => hg2.block g (hX1.queue.block e).2.1 (fun e2 => hsep.qo (by rw [e, e2]))
      · exact hX1.asked.kept fun g e => hg2.block g (hX1.asked.block e).1 (fun e2 => hsep.vo (by rw [e, e2]))
    rw [decide_eq_true h5]
    clear hX1 hs2 hg2 hx1 HX HIN HX1 HH h5 c24
    go_wp2
    go_ret
    exact HP.out
  · have HP : Hid (OverOut t D s p w (.returned (.bool false)) w1) := by
      have hl : LAt w t D s := ⟨mk, mo, q, v, hs, HX.out, HIN.out⟩
      obtain ⟨f1, l1⟩ := hl.far HX1.out
      exact ⟨by rw [decide_eq_false h5], f1, by rw [Lk.over_not h5]; exact l1⟩
    rw [decide_eq_false h5]
    clear hx1 HX HIN HX1 HH h5 c24
    go_wp2
    go_ret
    exact HP.out
set_option maxHeartbeats 1000000 in
theorem lheard_any (t : Nat) (D : Nat → Prop) (s : Lk) (p : Int) (v : Value) (m : List Int) (w : World) (h : LAt w t D s) (hp : In64 p) (hv : Ints w v m) (hm : ∀ x ∈ m, In64 x) (hl : s.known.length + m.length ≤ 8000) (hd : m = [] ∨ ∀ g, v.ownBlock = some g → g < w.heap.size ∧ ¬ D g) :
    Calls Try.prog 11 #[.pointer (some ⟨t, 0, none⟩), .int .i64 p, v] w (KnowOut t D (s.heard p m) w) := by
  have HO := Lib.hid (over_any t D s p w h hp)
  have HK : Hid (∀ w1, Fr D w w1 → LAt w1 t (Nx D w w1) (s.over p) → Calls Try.prog 21 #[.pointer (some ⟨t, 0, none⟩), v] w1 (KnowOut t D ((s.over p).more m) w)) := fun w1 hf hL => by
    have hv1 : Ints w1 v m := by
      obtain ⟨a, cap, rfl, _⟩ := hv.slice
      exact hv.away hf (hd.imp id fun h g hg => (h g hg).2)
    refine (know_any t _ _ v m w1 hL hv1 hm hl (hd.imp id fun h g hg e => ?_)).mono fun e w2 ⟨he, hf2, hl2⟩ => ⟨he, hf.next hf2, hl2.mono fun i hi => Nx.next hf.size hf2.size hi⟩
    obtain ⟨h1, h2⟩ := h g hg
    rcases e with e | e
    · exact h2 e
    · omega
  have HY : Hid (p ∈ s.opn → s.heard p m = (s.over p).more m) := fun h => by unfold Lk.heard; rw [if_pos h]
  have HN : Hid (p ∉ s.opn → s.heard p m = s) := fun h => by unfold Lk.heard; rw [if_neg h]
  generalize s.heard p m = s2 at *
  clear h hp hv hm hl hd
  go_enter Try.func11, Try.ntmps11
  go_wp2_with fail
  refine HO.out.mono ?_
  rintro e w1 ⟨rfl, hf1, hl1⟩
  have HF1 := Lib.hid hf1
  have HL1 := Lib.hid hl1
  clear hf1 hl1 HO
  by_cases h5 : p ∈ s.opn
  · rw [decide_eq_true h5]
    have HE := Lib.hid (HY.out h5)
    clear h5 HY HN
    go_wp2_with fail
    refine (HK.out w1 HF1.out HL1.out).mono ?_
    rintro e w2 hp
    have HP := Lib.hid hp
    rw [← HE.out] at HP
    obtain ⟨rfl, _⟩ := hp
    go_wp2
    go_end0
    exact HP.out
  · rw [decide_eq_false h5]
    have HP : Hid (KnowOut t D s2 w (.returned (.tuple #[])) w1) := ⟨rfl, HF1.out, by have := HL1.out; rw [Lk.over_not h5] at this; rw [HN.out h5]; exact this⟩
    clear h5 HF1 HL1 HY HN
    go_wp2
    go_end0
    exact HP.out
theorem llost_any (t : Nat) (D : Nat → Prop) (s : Lk) (p : Int) (w : World) (h : LAt w t D s) (hp : In64 p) :
    Calls Try.prog 13 #[.pointer (some ⟨t, 0, none⟩), .int .i64 p] w (KnowOut t D (s.over p) w) := by
  have HO := Lib.hid (over_any t D s p w h hp)
  clear h hp
  go_enter Try.func13, Try.ntmps13
  go_wp2_with fail
  refine HO.out.mono ?_
  rintro e w1 ⟨rfl, hf1, hl1⟩
  have HP : Hid (KnowOut t D (s.over p) w (.returned (.tuple #[])) w1) := ⟨rfl, hf1, hl1⟩
  clear hf1 hl1 HO
  go_wp2
  go_end0
  exact HP.out
/-- Is nobody open, and were all asked? -/
def Lk.done (s : Lk) : Bool := decide (s.opn.length = 0) && decide (s.asked.length = s.known.length)
theorem ldone_any (t : Nat) (D : Nat → Prop) (s : Lk) (w : World) (h : LAt w t D s) :
    Calls Try.prog 15 #[.pointer (some ⟨t, 0, none⟩)] w fun e w' => e = .returned (.bool s.done) ∧ w = w' := by
  obtain ⟨mk, mo, q, v, hs, hX, hin⟩ := h
  obtain ⟨c20, c21, c22, c23, c24⟩ := hX.cells
  have hlen := fun ty => hX.opn.len ty
  obtain ⟨qa, qc, rfl⟩ := hX.queue.slice
  have hk := hX.ok.len
  have HS : Hid (s.done = (decide (s.opn.length = 0) && decide (hs.length = 0))) := by
    show s.done = _
    unfold Lk.done
    have : decide (s.asked.length = s.known.length) = decide (hs.length = 0) := by rw [decide_eq_decide]; omega
    rw [this]
  rw [HS.out]
  clear hX hin c20 c21 c23 hk HS
  generalize s.opn.length = n1 at *
  generalize hs.length = n2 at *
  have e1 : ∀ n : Nat, ((n : Int) == 0) = decide (n = 0) := fun n => by rw [Bool.eq_iff_iff, beq_iff_eq, decide_eq_true_eq]; omega
  by_cases h1 : n1 = 0
  · by_cases h2 : n2 = 0
    · subst h1; subst h2
      go_enter Try.func15, Try.ntmps15
      go_wp2
      go_ret
      exact ⟨rfl, rfl⟩
    · have h3 : ((n2 : Int) == 0) = false := by rw [e1]; simp [h2]
      have HD : Hid (decide (n2 = 0) = false) := by simp [Hid, h2]
      rw [HD.out]
      subst h1
      clear h2 HD e1
      go_enter Try.func15, Try.ntmps15
      go_wp2
      go_ret
      exact ⟨rfl, rfl⟩
  · have h3 : ((n1 : Int) == 0) = false := by rw [e1]; simp [h1]
    have HD : Hid (decide (n1 = 0) = false) := by simp [Hid, h1]
    rw [HD.out, Bool.false_and]
    clear h1 HD e1
    go_enter Try.func15, Try.ntmps15
    go_wp2
    go_ret
    exact ⟨rfl, rfl⟩
end Go.Proofs.Ytgjnkfbckbkcnaa
