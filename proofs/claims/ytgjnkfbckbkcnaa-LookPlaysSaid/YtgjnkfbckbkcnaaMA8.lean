/- In one text: OwnI3, LokNext, LokLive, Has, LokRAt. -/
import Derived.WalkKit
import Derived.Handy
import Derived.Lib.Hide
import Derived.IntWalk
import Derived.Test.YtgjnkfbckbkcnaaMA1
import Derived.Test.YtgjnkfbckbkcnaaMA2
import Derived.Test.YtgjnkfbckbkcnaaMA3
import Derived.Test.YtgjnkfbckbkcnaaMA7
namespace Go.Proofs.Ytgjnkfbckbkcnaa
set_option maxRecDepth 20000
open Go.RowKit Go.Deep
set_option linter.unusedVariables false
theorem wp_app_ints3 {o : Oper} {a : Act} {K : Act → World → Prop} {Q : Exit → Act → World → Prop} {w : World} (s x : Operand)
    (ho : o.op = .call { callee := .builtin .append, args := #[s, x], argTypes := #[24, 24] })
    (B : Nat) (v : Value) (l : List Int) (hs : a.eval s = v) (hown : OwnI w B v l) (y : Value) (m : Nat) (r : List Int) (hx : a.eval x = y) (hm : r.length = m) (hsrc : Src Try.prog 1 24 y m (i64vs r) w)
    (h63 : l.length + r.length ≤ 10000) (hB : B ≤ w.heap.size) (h : ∀ v' w', OwnI w' B v' (l ++ r) → w.grownBy w' v.ownBlock → (v'.ownBlock = v.ownBlock ∨ ∃ g, v'.ownBlock = some g ∧ w.heap.size ≤ g) → K (a.put o.dst v') w') : o.wp Try.prog a w K Q := by
  subst hm
  obtain ⟨i, hi, hz0, hz1, hz2⟩ := info_parts owniinfo
  refine wp_append_own_src3 w s x 24 24 ho B 3 i (.int .i64 0) 1 8 Try.underlying24 hi hz0 hz1 hz2 rfl v l.length (i64vs l) hs hown y r.length (i64vs r) hx hsrc (by unfold maxLen; omega) (by omega) hB (fun _ => True) (fun _ _ _ _ _ _ _ _ => trivial) (fun _ _ => trivial) (fun _ _ => trivial) ?_
  intro v' w' ho' hg' hn' _
  refine h v' w' ?_ hg' hn'
  unfold OwnI
  rw [List.length_append, i64vs_app]
  exact ho'
theorem wpList_app_ints3 {ops : Array Oper} {rest : List Oper} {o : Oper} {a : Act} {Q : Exit → Act → World → Prop} {w : World} (hgd : o.guard = none) (s x : Operand)
    (ho : o.op = .call { callee := .builtin .append, args := #[s, x], argTypes := #[24, 24] })
    (B : Nat) (v : Value) (l : List Int) (hs : a.eval s = v) (hown : OwnI w B v l) (y : Value) (m : Nat) (r : List Int) (hx : a.eval x = y) (hm : r.length = m) (hsrc : Src Try.prog 1 24 y m (i64vs r) w)
    (h63 : l.length + r.length ≤ 10000) (hB : B ≤ w.heap.size) (h : ∀ v' w', OwnI w' B v' (l ++ r) → w.grownBy w' v.ownBlock → (v'.ownBlock = v.ownBlock ∨ ∃ g, v'.ownBlock = some g ∧ w.heap.size ≤ g) → wpList Try.prog ops Q rest (a.put o.dst v') w') : wpList Try.prog ops Q (o :: rest) a w := by
  refine wpList_plain hgd fun K hK => ?_
  refine wp_app_ints3 s x ho B v l hs hown y m r hx hm hsrc h63 hB fun v' w' h1 h2 h3 => hK _ _ (h v' w' h1 h2 h3)
/-- Ints as a source of append. -/
theorem Ints.src {w : World} {a : Option Addr} {n c : Nat} {l : List Int} (h : Ints w (.slice a n c) l) : Src Try.prog 1 24 (.slice a n c) n (i64vs l) w := by
  obtain ⟨hn, hc⟩ := h.cell
  rcases Nat.eq_zero_or_pos n with h0 | h0
  · subst h0
    have : l = [] := List.eq_nil_of_length_eq_zero hn.symm
    subst this
    cases a with
    | none => exact Src.ofNil w Try.underlying24 c
    | some p => exact Src.ofSlice w Try.underlying24 p 0 c [] rfl (by simp) (by simp)
  · obtain ⟨b, off, rfl, hb, hcell⟩ := hc h0
    exact ints_src hn.symm hcell
end Go.Proofs.Ytgjnkfbckbkcnaa
namespace Go.Proofs.Ytgjnkfbckbkcnaa
set_option maxRecDepth 20000
open Go.RowKit Go.Deep
set_option linter.unusedVariables false
theorem LAtX.asks_of {w w2 w3 w4 w5 w6 : World} {t mk mo : Nat} {s : Lk} {q q' v v' : Value} {hs l' : List Cd} {c : Cd} {D : Nat → Prop} (h : LAtX w t s mk mo q v hs) (hin : LIn D t mk mo q v) (hw : QW w t 22 q q' w2) (hq : QIs w2 t 22 q' l')
    (hp : (c :: l').Perm hs) (hh : HM.Heap dlt z22 l'.length l') (h3 : SetAt w3 mo (s.opn ++ [c.p])) (g3 : w2.grownBy w3 (some mo)) (x4 : w3.Extends w4) (h5 : OwnI w5 0 v' (s.asked ++ [c.p])) (g5 : w4.grownBy w5 v.ownBlock)
    (loc : v'.ownBlock = v.ownBlock ∨ ∃ g, v'.ownBlock = some g ∧ w4.heap.size ≤ g) (h6 : w6 = w5.setCell ⟨t, 23, none⟩ v') (hm : c.p ∈ s.known ∧ c.p ∉ s.asked) : Fr D w w6 ∧ LAt w6 t (Nx D w w6) (s.asks c.p) := by
  have hsep := h.sep
  obtain ⟨r2, k2, o2, a2⟩ := h.turned hw
  have hqb : ∀ g, q'.ownBlock = some g → g < w2.heap.size ∧ g ≠ mo ∧ v.ownBlock ≠ some g := fun g e => by
    obtain ⟨_, hl, cs, hc⟩ := hq.own.block e
    refine ⟨hl, fun e2 => ?_, fun e2 => ?_⟩
    · subst e2
      obtain ⟨es, c, hm⟩ := o2.block
      rw [hc] at hm; cases hm
    · obtain ⟨_, cs2, hc2⟩ := a2.block e2
      rw [hc] at hc2
      simp only [Option.some.injEq, Obj.cells.injEq] at hc2
      exact absurd hc2.2.1 (by decide)
  have f2 : Fr D w w2 := Fr.of_qw hw hin.ht hin.q
  have f3 : Fr D w w3 := f2.trans (Fr.grown g3 fun g e => by rw [← Option.some.inj e]; exact hin.ho) fun i _ h => h
  have f4 : Fr D w w4 := f3.trans (Fr.ext x4) fun i _ h => h
  have f5 : Fr D w w5 := f4.trans (Fr.grown g5 hin.v) fun i _ h => h
  have g6 : w5.grownBy w6 (some t) := by rw [h6]; exact grown_setCell (grown_refl _ _) 23 v'
  have f6 : Fr D w w6 := f5.trans (Fr.grown g6 fun g e => by rw [← Option.some.inj e]; exact hin.ht) fun i _ h => h
  -- a block of w2 that is none of mo, v's, t stays
  have stay : ∀ i, i < w2.heap.size → i ≠ mo → v.ownBlock ≠ some i → w5.heap[i]? = w2.heap[i]? := fun i hi h1 h2 => by
    have l3 := Nat.lt_of_lt_of_le hi g3.size
    exact (g5.block i (Nat.lt_of_lt_of_le l3 x4.size) (fun e => h2 e.symm)).trans ((x4.block i l3).trans (g3.block i hi (by simpa using h1)))
  have stay6 : ∀ i, i < w2.heap.size → i ≠ mo → v.ownBlock ≠ some i → i ≠ t → w6.heap[i]? = w2.heap[i]? := fun i hi h1 h2 h3 => by
    have l5 : i < w5.heap.size := Nat.lt_of_lt_of_le hi (Nat.le_trans g3.size (Nat.le_trans x4.size g5.size))
    exact (g6.block i l5 (by simpa using h3)).trans (stay i hi h1 h2)
  have r5 : w5.heap[t]? = some (.cells (LC s.k s.self mk mo q' v) 50 (0, 0)) := (stay t hq.lt hsep.ot.symm hsep.vt).trans r2
  have hvt : ∀ g, v'.ownBlock = some g → g < w5.heap.size ∧ g ≠ t := fun g e => by
    obtain ⟨hl, cs, hc⟩ := h5.block e
    refine ⟨hl, fun e2 => ?_⟩
    subst e2
    rw [r5] at hc
    simp only [Option.some.injEq, Obj.cells.injEq] at hc
    exact absurd hc.2.1 (by decide)
  have m6 : w6.heap[mo]? = w3.heap[mo]? := by
    have l3 := h3.lt
    exact (g6.block mo (Nat.lt_of_lt_of_le l3 (Nat.le_trans x4.size g5.size)) (by simpa using hsep.ot)).trans ((g5.block mo (Nat.lt_of_lt_of_le l3 x4.size) (fun e => hsep.vo e.symm)).trans (x4.block mo l3))
  have hok : s.QOk (c :: l') := h.ok.perm hp
  refine ⟨f6, mk, mo, q', v', l', ⟨?_, ?_, h3.kept m6, h.ne, ?_, ?_, hh, hok.asks, h.inv.asks hm.1 hm.2, h.len⟩, ⟨.inl hin.ht, .inl hin.hk, .inl hin.ho, fun g e => ?_, fun g e => ?_⟩⟩
  · rw [h6, heap_setCell_same _ _ _ _ _ _ r5, LC_v h.kl]; rfl
  · exact k2.kept (stay6 mk k2.lt hsep.ko hsep.vk hsep.tk)
  · exact hq.own.stay fun g e => stay6 g (hqb g e).1 (hqb g e).2.1 (hqb g e).2.2 (fun e2 => hq.ne (by rw [e, e2]))
  · exact h5.kept fun g e => g6.block g (hvt g e).1 (by simpa using (hvt g e).2)
  · rcases hw.new with e2 | ⟨g', e2, h7⟩
    · exact .inl (hin.q g (e2 ▸ e))
    · rw [e2] at e
      have := Option.some.inj e
      subst this
      exact .inr ⟨h7, Nat.lt_of_lt_of_le (hqb g' e2).1 (Nat.le_trans g3.size (Nat.le_trans x4.size (Nat.le_trans g5.size g6.size)))⟩
  · rcases loc with e2 | ⟨g', e2, h7⟩
    · exact .inl (hin.v g (e2 ▸ e))
    · rw [e2] at e
      have := Option.some.inj e
      subst this
      exact .inr ⟨Nat.le_trans f4.size h7, Nat.lt_of_lt_of_le (hvt g' e2).1 g6.size⟩
theorem run_cd_field (c : Cd) (w : World) : (Instr.field 55 (DV c) 0).run Try.prog w = .ok (.int .i64 c.p) w := by
  obtain ⟨f1, fs, e1, e2, hf⟩ : ∃ (f1 : Field) (fs : List Field), f1.type = 3 ∧ f1.offset = 0 ∧ Try.prog.underlying 55 = some (.struct (f1 :: fs).toArray) := by
    rw [Try.underlying55]
    exact ⟨_, _, rfl, rfl, rfl⟩
  have hpt : (part 3 (DL c).toArray 0).run Try.prog w = .ok (.int .i64 c.p) w := run_part_plain w (P := Try.prog) (e := 3) (by kernel_rfl) (by simp [DL])
  have hu := run_underlying (P := Try.prog) hf w
  simp [Instr.field, hu, e1, e2, asAgg, hpt]
def LNextOut (t : Nat) (D : Nat → Prop) (s : Lk) (w : World) (e : Ending) (w' : World) : Prop :=
  (s.Left0 s.known.length ∧ e = .returned (.tuple #[.int .i64 0, .bool false]) ∧ w = w') ∨
  ∃ p, s.Best s.known.length p ∧ e = .returned (.tuple #[.int .i64 p, .bool true]) ∧ Fr D w w' ∧ LAt w' t (Nx D w w') (s.asks p)
set_option maxHeartbeats 1000000 in
theorem lnext_any (t : Nat) (D : Nat → Prop) (s : Lk) (w : World) (h : LAt w t D s) :
    Calls Try.prog 9 #[.pointer (some ⟨t, 0, none⟩)] w (LNextOut t D s w) := by
  obtain ⟨mk, mo, q, v, hs, hX, hin⟩ := h
  obtain ⟨c20, c21, c22, c23, c24⟩ := hX.cells
  obtain ⟨qa, qc, hqe⟩ := hX.queue.slice
  rcases Nat.eq_zero_or_pos hs.length with h0 | h0
  · have : hs = [] := List.eq_nil_of_length_eq_zero h0
    subst this
    subst hqe
    have HP : Hid (LNextOut t D s w (.returned (.tuple #[.int .i64 0, .bool false])) w) := .inl ⟨hX.ok.left, rfl, rfl⟩
    clear hX hin c20 c21 c23 c24 h0
    generalize LNextOut t D s w = POST at *
    go_enter Try.func9, Try.ntmps9
    go_wp2
    exact HP.out
  · have hok := hX.ok.ok hX.inv.k
    have HT := Lib.hid (take_any t 22 q hs w hX.qis h0 (Nat.le_trans hX.qlen (by decide)) hX.heap hok)
    have HBEST : Hid (∀ c, c = hs.getD 0 z22 → s.Best s.known.length c.p) := fun c e => by
      refine hX.ok.best hX.inv.k (c := c) ?_ fun d hd => ?_
      · rw [e, List.getD_eq_getElem?_getD, List.getElem?_eq_getElem h0]; exact List.getElem_mem _
      · obtain ⟨i, hi, e2⟩ := List.mem_iff_getElem.1 hd
        have := hX.heap.root dlt_wk i hi
        rw [← e] at this
        rwa [List.getD_eq_getElem?_getD, List.getElem?_eq_getElem hi, Option.getD_some, e2] at this
    have h4 : ((hs.length : Nat) : Int) ≠ 0 := by omega
    have h3 : (((hs.length : Nat) : Int) == 0) = false := by simp only [beq_eq_false_iff_ne]; exact h4
    have HX := Lib.hid hX
    have HIN := Lib.hid hin
    have HQE := Lib.hid hqe
    rw [hqe] at c22
    clear hX hin c20 c21 c23 c24 hok h4 h0 hqe
    generalize hs.length = n at *
    go_enter Try.func9, Try.ntmps9
    go_wp2_with fail
    refine HT.out.mono ?_
    rintro e w2 ⟨q', l', c, hc, rfl, hp, hh, hq, hw⟩
    have hfe := run_cd_field c
    have HC : Hid (s.Best s.known.length c.p) := HBEST.out c hc
    obtain ⟨r2, k2, o2, a2⟩ := HX.out.turned hw
    have hin64 : In64 c.p := by
      have := HX.out.inv.range c.p HC.out.mem.1
      omega
    obtain ⟨w3, hr3, h3s, g3⟩ := o2.put hin64 (fun e => HC.out.mem.2 (HX.out.inv.wait _ e)) (by
      have := HX.out.inv.few; have := HX.out.inv.most; have := HX.out.len; omega)
    have hc24 : w2.cell? ⟨t, 24, none⟩ = some (.map (some mo)) := by
      rw [cell_of_row _ _ _ _ _ _ r2]; exact (LC_get HX.out.kl).2.2.2.2
    have HR2 := Lib.hid r2
    have HG3 := Lib.hid g3
    have HS3 := Lib.hid h3s
    have HW := Lib.hid hw
    have HQ := Lib.hid hq
    have HPM := Lib.hid hp
    have HH := Lib.hid hh
    have hc23 : w3.cell? ⟨t, 23, none⟩ = some v := by
      have hsep := HX.out.sep
      rw [World.cell?_of_block (w := w2) (w' := w3) (a := ⟨t, 23, none⟩) (g3.block t hq.lt (by simpa using hsep.ot.symm)), cell_of_row _ _ _ _ _ _ r2]
      exact (LC_get HX.out.kl).2.2.2.1
    have HO3 : Hid (OwnI w3 0 v s.asked) := a2.kept fun g e => g3.block g (a2.block e).1 (fun e2 => HX.out.sep.vo (by rw [e, e2]))
    have HLEN : Hid (s.asked.length + 1 ≤ 10000) := by have := HX.out.inv.most; have := HX.out.len; show _ ≤ _; omega
    have HRT : Hid (w3.heap[t]? = some (.cells (LC s.k s.self mk mo q' v) 50 (0, 0))) := (g3.block t hq.lt (by simpa using HX.out.sep.ot.symm)).trans r2
    clear r2 k2 o2 a2 h3s g3 hc hp hh hq hw HBEST HT h3 HQE
    have e0 : id (DV c) = DV c := rfl
    rw [e0]
    have HIX : Hid (∀ w1, w1 = w3.alloc (.cells #[.int .i64 c.p] 3) → w3.Extends w1 ∧ Src Try.prog 1 24 (.slice (some ⟨w3.heap.size, 0, none⟩) 1 1) 1 (i64vs [c.p]) w1) := fun w1 e => by
      subst e
      exact ⟨ext_alloc _ _, one_src (heap_alloc_new _ _)⟩
    generalize hpp : c.p = p at *
    generalize hxc : DV c = xc at *
    go_wp2_with (at_builtin; refine wpList_app_ints3 rfl (.tmp 30) (.tmp 32) rfl 0 v s.asked rfl (HO3.out.ext (HIX.out _ rfl).1) _ 1 [p] rfl rfl (HIX.out _ rfl).2 HLEN.out (Nat.zero_le _) ?_)
    intro v' w5 ho5 hg5 loc
    have hx4 := (HIX.out _ rfl).1
    have hr5 := (hg5.block t (by have := (Array.getElem?_eq_some_iff.1 HRT.out).1; simp; omega) (fun e => HX.out.sep.vt e.symm)).trans ((hx4.block t (Array.getElem?_eq_some_iff.1 HRT.out).1).trans HRT.out)
    have hc5 : w5.cell? ⟨t, 23, none⟩ = some v := by rw [cell_of_row _ _ _ _ _ _ hr5]; exact (LC_get HX.out.kl).2.2.2.1
    have hf5 : w5.frozen? ⟨t, 23, none⟩ = false := frozen_of_row _ _ _ _ _ hr5
    have hfin := HX.out.asks_of HIN.out HW.out HQ.out HPM.out HH.out (by rw [hpp]; exact HS3.out) HG3.out hx4 (by rw [hpp]; exact ho5) hg5 (by simpa using loc) rfl (by rw [hpp]; exact HC.out.mem)
    rw [hpp] at hfin
    have HP : Hid (LNextOut t D s w (.returned (.tuple #[.int .i64 p, .bool true])) (w5.setCell ⟨t, 23, none⟩ v')) := .inr ⟨p, HC.out, rfl, hfin⟩
    obtain ⟨xa, xcap, rfl⟩ := ho5.slice
    generalize (s.asked ++ [p]).length = el at *
    clear hfin hx4 hr5 ho5 hg5 loc HIX HRT HLEN HO3 HH HPM HQ HW HS3 HG3 HR2 HC HIN HX
    generalize LNextOut t D s w = POST at *
    go_wp2
    exact HP.out
/-- A copy of some ints. -/
def IntsBack (w : World) (l : List Int) (e : Ending) (w' : World) : Prop := ∃ v, e = .returned v ∧ w.Extends w' ∧ Ints w' v l
theorem eql_ints_nil (a : Option Addr) (n c : Nat) (w : World) : (binOp .eql 24 (.slice a n c) (.slice none 0 0)).run Try.prog w = .ok (.bool a.isNone) w := by
  have h : ∀ d, (Op.equalIn (d + 1) 24 (.slice a n c) (.slice none 0 0)).run Try.prog w = .ok a.isNone w := fun d => by
    cases a <;> simp [Op.equalIn, run_underlying Try.underlying24]
  simp only [binOp]
  simp [Op.equal, Op.maxDepth, h 9999]
theorem iclone_any (v : Value) (l : List Int) (w : World) (hv : Ints w v l) (hl : l.length ≤ 10000) :
    Calls Try.prog 27 #[v] w (IntsBack w l) := by
  obtain ⟨n, hn⟩ : ∃ n, l.length = n := ⟨_, rfl⟩
  obtain ⟨a, cap, rfl, _⟩ := hv.slice
  rw [hn] at hv hl ⊢
  cases a with
  | none =>
    have HP : Hid (IntsBack w l (.returned (.slice none 0 0)) w) := by
      have : l = [] := by
        rcases hv with ⟨h, _⟩ | ⟨b, off, c, h, _⟩
        · exact h
        · cases h
      subst this
      exact ⟨_, rfl, Gr.ext_refl _, nil_ints w none 0⟩
    have hnil := fun w => eql_ints_nil none n cap w
    rw [show (none : Option Addr).isNone = true from rfl] at hnil
    generalize IntsBack w l = POST at *
    clear hv hl hn
    go_enter Try.func27, Try.ntmps27
    go_wp2
    exact HP.out
  | some p =>
    have hnil := fun w => eql_ints_nil (some p) n cap w
    rw [show (some p).isNone = false from rfl] at hnil
    have hmk : OwnI (w.alloc (.cells #[] 3)) w.heap.size (.slice (some ⟨w.heap.size, 0, none⟩) 0 0) [] := World.ownsRow_made w #[] 0 (Nat.le_refl _) (by decide) rfl
    have HMK := Lib.hid hmk
    have HSR := Lib.hid (hv.ext (ext_alloc w (.cells #[] 3))).src
    have HX1 := Lib.hid (ext_alloc w (.cells #[] 3))
    have HEND : Hid (∀ v' w', OwnI w' w.heap.size v' l → (w.alloc (.cells #[] 3)).grownBy w' (some w.heap.size) → IntsBack w l (.returned v') w') := fun v' w' ho hg =>
      ⟨v', rfl, ext_own (ext_alloc w _) hg (fun k hk => by have := Option.some.inj hk; omega), ho.ints⟩
    have HN := Lib.hid hn
    have HBL : Hid (([] : List Int).length + l.length ≤ 10000) := by show 0 + l.length ≤ 10000; omega
    clear hv hl hn hmk
    generalize IntsBack w l = POST at *
    go_enter Try.func27, Try.ntmps27
    go_wp2_with (at_builtin; refine wpList_app_ints3 rfl (.tmp 5) (.tmp 6) rfl w.heap.size _ [] rfl HMK.out _ n l rfl HN.out HSR.out HBL.out (by simp) ?_)
    intro v' w' ho hg _
    have HP := Lib.hid (HEND.out v' w' ho hg)
    obtain ⟨xa, xcap, rfl⟩ := ho.slice
    generalize (([] : List Int) ++ l).length = el at *
    clear ho hg HEND HMK HSR HX1 HBL
    go_wp2
    exact HP.out
theorem lasked_any (t : Nat) (D : Nat → Prop) (s : Lk) (w : World) (h : LAt w t D s) :
    Calls Try.prog 18 #[.pointer (some ⟨t, 0, none⟩)] w (IntsBack w s.asked) := by
  obtain ⟨mk, mo, q, v, hs, hX, hin⟩ := h
  obtain ⟨c20, c21, c22, c23, c24⟩ := hX.cells
  have HC := Lib.hid (iclone_any v s.asked w hX.asked.ints (by have := hX.inv.most; have := hX.len; omega))
  obtain ⟨va, vc, rfl⟩ := hX.asked.slice
  generalize s.asked.length = el at *
  clear hX hin c20 c21 c22 c24
  go_enter Try.func18, Try.ntmps18
  go_wp2_with fail
  refine HC.out.mono ?_
  rintro e w1 ⟨x, rfl, hx, hi⟩
  have HP : Hid (IntsBack w s.asked (.returned x) w1) := ⟨x, rfl, hx, hi⟩
  generalize IntsBack w s.asked = POST at *
  clear hx hi HC
  go_wp2
  exact HP.out
end Go.Proofs.Ytgjnkfbckbkcnaa
namespace Go.Proofs.Ytgjnkfbckbkcnaa
set_option maxRecDepth 20000
open Go.RowKit Go.Deep
set_option linter.unusedVariables false
theorem KV_zero : (Value.agg Z20) = KV KY.zero := by show Value.agg Z20 = Value.agg (KC KY.zero); rw [KC_zero]
/-- A look of the law's own, and what is not its own. -/
theorem Fr.own {w0 w w' : World} {D : Nat → Prop} (h : Fr D w w') (hx : w0.Extends w) (hD : ∀ i, D i → w0.heap.size ≤ i) : w0.Extends w' :=
  Gr.ext_of ((Gr.below_of hx).trans (h.below hx.size hD))
theorem Lk.done_new (k : List Nat) (self : Int) : (Lk.new k self).done = true := rfl
theorem Lk.best_one {k : List Nat} {self x p : Int} (h : Lk.Best ⟨k, self, [x], [], []⟩ 1 p) : p = x := by
  obtain ⟨j, hj, h1, _⟩ := h
  obtain rfl : j = 0 := by omega
  exact (Option.some.inj h1).symm
set_option maxHeartbeats 1000000 in
theorem alive20_any (w : World) : Calls Try.prog 6 #[] w fun e w' => e = .returned (.bool true) ∧ w.Extends w' := by
  have H4 : Hid ((Lk.new KY.zero 0).more [4] = ⟨KY.zero, 0, [4], [], []⟩) := rfl
  have HN1 : Hid (∀ w1 v, Ints w1 v [] → Calls Try.prog 7 #[KV KY.zero, .int .i64 0, v] w1 (NewLOut (Lk.new KY.zero 0) w1)) := fun w1 v hv => lnew_any KY.zero 0 v [] w1 KY.zero_ok hv (fun x hx => (nomatch hx)) (Nat.zero_le _)
  have HN2 : Hid (∀ w1 v, Ints w1 v [4] → Calls Try.prog 7 #[KV KY.zero, .int .i64 0, v] w1 (NewLOut ⟨KY.zero, 0, [4], [], []⟩ w1)) := fun w1 v hv => lnew_any KY.zero 0 v [4] w1 KY.zero_ok hv (fun x hx => by rw [List.mem_singleton.1 hx]; decide) (by decide)
  go_enter Try.func6, Try.ntmps6
  go_wp2_with fail
  rw [KV_zero]
  refine (HN1.out w _ (nil_ints _ _ _)).mono ?_
  rintro e w1 ⟨ta, rfl, hx1, hl1⟩
  have HX1 := Lib.hid hx1
  have HL1 := Lib.hid hl1
  clear hx1 hl1 HN1
  rw [← KV_zero]
  go_wp2_with fail
  rw [KV_zero]
  have hi := ints_one w1 4 3
  have hx := ext_alloc w1 (.cells #[.int .i64 4] 3)
  generalize hw2 : World.alloc w1 _ = w2 at *
  generalize w1.heap.size = s at *
  have HX2 := Lib.hid (Gr.ext_trans HX1.out hx)
  have HL2 := Lib.hid (HL1.out.ext hx)
  clear hw2 hx HL1 HX1
  refine (HN2.out w2 _ hi).mono ?_
  rintro e w3 ⟨tb, rfl, hx3, hl3⟩
  have HX3 := Lib.hid (Gr.ext_trans HX2.out hx3)
  have HA := Lib.hid (HL2.out.ext hx3)
  have HB := Lib.hid hl3
  have HS2 := Lib.hid HX2.out.size
  clear hx3 hl3 hi HL2 HN2 HX2
  have hda := ldone_any ta _ _ w3 HA.out
  rw [Lk.done_new] at hda
  have HDA := Lib.hid hda
  clear hda HA
  go_wp2_with fail
  refine HDA.out.mono ?_
  rintro e w4 ⟨rfl, rfl⟩
  have HNX := Lib.hid (lnext_any tb _ _ w3 HB.out)
  clear HDA
  go_wp2_with fail
  refine HNX.out.mono ?_
  rintro e w5 hn
  rcases hn with ⟨h0, rfl, rfl⟩ | ⟨p, hp, rfl, hf, hl⟩
  · have := h0 0 4 (by decide) rfl
    cases this
  · obtain rfl := Lk.best_one hp
    have HX5 : Hid (w.Extends w5) := hf.own HX3.out fun i hi => Nat.le_trans HS2.out hi.1
    have HDB : Hid (Calls Try.prog 15 #[.pointer (some ⟨tb, 0, none⟩)] w5 fun e w' => e = .returned (.bool false) ∧ w5 = w') := ldone_any tb _ _ w5 hl
    clear hf hl hp HNX HB
    go_wp2_with fail
    refine HDB.out.mono ?_
    rintro e w6 ⟨rfl, rfl⟩
    go_wp2
    go_ret
    exact ⟨rfl, HX5.out⟩
end Go.Proofs.Ytgjnkfbckbkcnaa
namespace Go.Proofs.Ytgjnkfbckbkcnaa
set_option maxRecDepth 20000
open Go.RowKit Go.Deep
set_option linter.unusedVariables false
set_option maxHeartbeats 1000000 in
theorem tsame_any (u v : Value) (l : List Int) (w : World) (hu : Ints w u l) (hv : Ints w v l) :
    Calls Try.prog 17 #[u, v] w fun e w' => e = .returned (.bool true) ∧ w.Extends w' := by
  have hm := hu.len
  obtain ⟨a, cap, rfl, _⟩ := hu.slice
  obtain ⟨a', cap', rfl, _⟩ := hv.slice
  have HU := Lib.hid hu.cell.2
  have HV := Lib.hid hv.cell.2
  clear hu hv
  generalize l.length = n at *
  unfold maxLen at hm
  go_enter Try.func17, Try.ntmps17
  go_wp2
  go_loopw [5] (fun i wr => ∃ k : Nat, k ≤ n ∧ i = .int .i64 k ∧ Hid (w.Extends wr)) (fun i _ => (n - intOf i).toNat)
  case atStart => exact ⟨0, by omega, rfl, Lib.hid (Gr.ext_refl _)⟩
  case round =>
    obtain ⟨k, hk, rfl, HX⟩ := hrel
    by_cases h1 : k < n
    · obtain ⟨b1, o1, rfl, hb1, hc1⟩ := HU.out (by omega)
      obtain ⟨b2, o2, rfl, hb2, hc2⟩ := HV.out (by omega)
      have HL1 : Hid (∀ w', wr.Extends w' → w'.cell? ⟨b1, o1 + k, none⟩ = some (.int .i64 (l.getD k 0))) := fun w' hw' => hw'.cell_of (HX.out.cell_of (hc1 k h1))
      have HL2 : Hid (∀ w', wr.Extends w' → w'.cell? ⟨b2, o2 + k, none⟩ = some (.int .i64 (l.getD k 0))) := fun w' hw' => hw'.cell_of (HX.out.cell_of (hc2 k h1))
      clear hc1 hc2
      generalize l.getD k 0 = x at *
      go_wp2_with fail
      refine Gr.region 8 [(false,0),(false,1),(false,2),(false,3),(false,4),(false,5),(false,6),(false,7)] (by kernel_rfl) (by kernel_rfl) (fun d _ _ _ _ h => by cases d <;> exact h) ?_
      simp only [Gr.pick, List.getElem?_cons_zero, List.getElem?_cons_succ, List.drop_succ_cons, List.drop_zero]
      iterate 8
        refine Gr.walk_t ?_ (Or.inl ⟨by rfl, ?_⟩) ?_
        rotate_left
        · intro w' hw'
          have hc1 := HL1.out w' (Gr.of_drew hw')
          have hc2 := HL2.out w' (Gr.of_drew hw')
          clear hw'
          go_simp
          try with_reducible rfl
        simp only [Act.put, List.setIfInBounds_toArray, List.set_cons_zero, List.set_cons_succ]
      refine Gr.walk_nil ?_
      go_wp2
      go_roundw
      case rel => exact ⟨k + 1, by omega, by go_num, Lib.hid (Gr.ext_drew HX.out)⟩
      case measure => simp [intOf]; omega
    · obtain rfl : k = n := by omega
      go_wp2
      go_ret
      exact ⟨rfl, HX.out⟩
theorem has_next {l : List Int} {x : Int} {k : Nat} (hk : k < l.length) (h : x ∉ l.take k) (hne : ¬ l.getD k 0 = x) : x ∉ l.take (k + 1) := by
  rw [List.take_add_one]
  simp only [List.mem_append, not_or]
  refine ⟨h, ?_⟩
  have e : l[k]?.toList = [l.getD k 0] := by simp [hk]
  rw [e]
  simpa using fun e => hne e.symm
theorem has_any (v : Value) (l : List Int) (x : Int) (w : World) (hv : Ints w v l) :
    Calls Try.prog 20 #[v, .int .i64 x] w fun e w' => e = .returned (.bool (decide (x ∈ l))) ∧ w' = w := by
  have hm := hv.len
  obtain ⟨n, hn⟩ : ∃ n, l.length = n := ⟨_, rfl⟩
  obtain ⟨a, cap, rfl, _⟩ := hv.slice
  rw [hn] at hv hm ⊢
  have HN := Lib.hid hn
  have HV := Lib.hid hv.cell.2
  obtain ⟨r, hr⟩ : ∃ r, r = decide (x ∈ l) := ⟨_, rfl⟩
  have HR := Lib.hid hr
  rw [← hr]
  unfold maxLen at hm
  clear hv hn hr
  go_enter Try.func20, Try.ntmps20
  go_wp2_with fail
  go_loopw [5] (fun i wr => ∃ k : Nat, k ≤ n ∧ i = .int .i64 k ∧ wr = w ∧ Hid (x ∉ l.take k)) (fun i _ => (n - intOf i).toNat)
  case atStart => exact ⟨0, by omega, rfl, rfl, by simp [Hid]⟩
  case round =>
    obtain ⟨k, hk, rfl, rfl, HB⟩ := hrel
    by_cases h1 : k < n
    · obtain ⟨b1, o1, rfl, hb1, hc1⟩ := HV.out (by omega)
      have hc := hc1 k h1
      obtain ⟨y, hy⟩ : ∃ y, l.getD k 0 = y := ⟨_, rfl⟩
      rw [hy] at hc
      have HY := Lib.hid hy
      clear hc1 hy hb1
      by_cases h2 : y = x
      · have HP : Hid (r = true) := by
          rw [HR.out]
          show decide _ = true
          rw [decide_eq_true_eq, ← h2, ← HY.out]
          have : k < l.length := by rw [HN.out]; exact h1
          simp [this]
        have h3 : (y == x) = true := by simp [h2]
        clear h2
        go_wp2
        go_ret
        exact ⟨by rw [HP.out]; rfl, rfl⟩
      · have HP : Hid (x ∉ l.take (k + 1)) := has_next (by rw [HN.out]; exact h1) HB.out (by rw [HY.out]; exact h2)
        have h3 : (y == x) = false := by simp [h2]
        clear h2
        go_wp2
        go_roundw
        case rel => exact ⟨k + 1, by omega, by go_num, trivial, HP⟩
        case measure => simp [intOf]; omega
    · obtain rfl : k = n := by omega
      have HP : Hid (r = false) := by
        rw [HR.out]
        show decide _ = false
        rw [decide_eq_false_iff_not]
        have := HB.out
        rwa [List.take_of_length_le (by rw [HN.out]; omega)] at this
      go_wp2
      go_ret
      exact ⟨by rw [HP.out]; rfl, rfl⟩
end Go.Proofs.Ytgjnkfbckbkcnaa
namespace Go.Proofs.Ytgjnkfbckbkcnaa
set_option maxRecDepth 20000
open Go.RowKit Go.Deep
set_option linter.unusedVariables false
def RC (k : List Nat) (self : Int) (kn ak op : Value) : Array Value := ((KC k).toList ++ [.int .i64 self, kn, ak, op]).toArray
section
variable {k : List Nat} {self : Int} {kn ak op : Value}
theorem RC_get (h : k.length = 20) : (RC k self kn ak op)[20]? = some (.int .i64 self) ∧ (RC k self kn ak op)[21]? = some kn ∧ (RC k self kn ak op)[22]? = some ak ∧ (RC k self kn ak op)[23]? = some op := by
  obtain ⟨a0, a1, a2, a3, a4, a5, a6, a7, a8, a9, a10, a11, a12, a13, a14, a15, a16, a17, a18, a19, rfl⟩ := list20 h
  exact ⟨rfl, rfl, rfl, rfl⟩
theorem RC_kn (h : k.length = 20) (v : Value) : (RC k self kn ak op).setIfInBounds 21 v = RC k self v ak op := by
  obtain ⟨a0, a1, a2, a3, a4, a5, a6, a7, a8, a9, a10, a11, a12, a13, a14, a15, a16, a17, a18, a19, rfl⟩ := list20 h
  rfl
theorem RC_as (h : k.length = 20) (v : Value) : (RC k self kn ak op).setIfInBounds 22 v = RC k self kn v op := by
  obtain ⟨a0, a1, a2, a3, a4, a5, a6, a7, a8, a9, a10, a11, a12, a13, a14, a15, a16, a17, a18, a19, rfl⟩ := list20 h
  rfl
theorem RC_op (h : k.length = 20) (v : Value) : (RC k self kn ak op).setIfInBounds 23 v = RC k self kn ak v := by
  obtain ⟨a0, a1, a2, a3, a4, a5, a6, a7, a8, a9, a10, a11, a12, a13, a14, a15, a16, a17, a18, a19, rfl⟩ := list20 h
  rfl
theorem RC_key (h : k.length = 20) (j : Nat) (u : Value) (hu : (KC k).toList[j]? = some u) : (RC k self kn ak op)[j]? = some u := by
  have hj := (List.getElem?_eq_some_iff.1 hu).1
  unfold RC
  rw [List.getElem?_toArray, List.getElem?_append_left hj]; exact hu
end
/-- Two slices lie in no common block. -/
def Off2 (u v : Value) : Prop := ∀ g, u.ownBlock = some g → v.ownBlock ≠ some g
theorem Off2.symm {u v : Value} (h : Off2 u v) : Off2 v u := fun g e e2 => h g e2 e
structure RLX (w : World) (t : Nat) (s : Lk) (kn ak op : Value) : Prop where
  row : w.heap[t]? = some (.cells (RC s.k s.self kn ak op) 53 (0, 0))
  known : OwnI w 0 kn s.known
  asked : OwnI w 0 ak s.asked
  opn : OwnI w 0 op s.opn
  ka : Off2 kn ak
  ko : Off2 kn op
  ao : Off2 ak op
  inv : s.Inv
  len : s.known.length ≤ 8000
structure RIn (D : Nat → Prop) (t : Nat) (kn ak op : Value) : Prop where
  ht : D t
  k : ∀ g, kn.ownBlock = some g → D g
  a : ∀ g, ak.ownBlock = some g → D g
  o : ∀ g, op.ownBlock = some g → D g
def RLAt (w : World) (t : Nat) (D : Nat → Prop) (s : Lk) : Prop := ∃ kn ak op, RLX w t s kn ak op ∧ RIn D t kn ak op
section
variable {w w1 w2 w3 w' : World} {t : Nat} {s : Lk} {kn ak op : Value} {D D' : Nat → Prop}
theorem RIn.mono (h : RIn D t kn ak op) (hD : ∀ i, D i → D' i) : RIn D' t kn ak op := ⟨hD _ h.ht, fun g e => hD g (h.k g e), fun g e => hD g (h.a g e), fun g e => hD g (h.o g e)⟩
theorem RLX.lt (h : RLX w t s kn ak op) : t < w.heap.size := (Array.getElem?_eq_some_iff.1 h.row).1
theorem RLX.kl (h : RLX w t s kn ak op) : s.k.length = 20 := h.inv.k.1
theorem RLX.away (h : RLX w t s kn ak op) (hin : RIn D t kn ak op) (hf : Fr D' w w') (hn : ∀ i, D i → ¬ D' i) : RLX w' t s kn ak op := by
  have hb : ∀ g, D g → g < w.heap.size → w'.heap[g]? = w.heap[g]? := fun g hg hl => hf.away g hl (hn g hg)
  exact ⟨(hb t hin.ht h.lt).trans h.row, h.known.kept fun g e => hb g (hin.k g e) (h.known.block e).1, h.asked.kept fun g e => hb g (hin.a g e) (h.asked.block e).1, h.opn.kept fun g e => hb g (hin.o g e) (h.opn.block e).1, h.ka, h.ko, h.ao, h.inv, h.len⟩
theorem RLX.ext (h : RLX w t s kn ak op) (hx : w.Extends w') : RLX w' t s kn ak op :=
  h.away (D := fun _ => True) (D' := fun _ => False) ⟨trivial, fun _ _ => trivial, fun _ _ => trivial, fun _ _ => trivial⟩ (Fr.ext hx) (fun _ _ h => h)
theorem RLAt.mono (h : RLAt w t D s) (hD : ∀ i, D i → D' i) : RLAt w t D' s := by
  obtain ⟨kn, ak, op, h1, h2⟩ := h
  exact ⟨kn, ak, op, h1, h2.mono hD⟩
theorem RLAt.away (h : RLAt w t D s) (hf : Fr D' w w') (hn : ∀ i, D i → ¬ D' i) : RLAt w' t D s := by
  obtain ⟨kn, ak, op, h1, h2⟩ := h
  exact ⟨kn, ak, op, h1.away h2 hf hn, h2⟩
theorem RLAt.ext (h : RLAt w t D s) (hx : w.Extends w') : RLAt w' t D s := by
  obtain ⟨kn, ak, op, h1, h2⟩ := h
  exact ⟨kn, ak, op, h1.ext hx, h2⟩
theorem RLX.cells (h : RLX w t s kn ak op) : w.cell? ⟨t, 20, none⟩ = some (.int .i64 s.self) ∧ w.cell? ⟨t, 21, none⟩ = some kn ∧ w.cell? ⟨t, 22, none⟩ = some ak ∧ w.cell? ⟨t, 23, none⟩ = some op := by
  obtain ⟨h0, h1, h2, h3⟩ := RC_get (self := s.self) (kn := kn) (ak := ak) (op := op) h.kl
  refine ⟨?_, ?_, ?_, ?_⟩ <;> rw [cell_of_row _ _ _ _ _ _ h.row] <;> assumption
theorem RLX.key (h : RLX w t s kn ak op) : w.rangeAt t 0 (KC s.k).toList := fun j u hu => by
  rw [Nat.zero_add, cell_of_row _ _ _ _ _ _ h.row]
  exact RC_key h.kl j u hu
theorem RLX.frozen (h : RLX w t s kn ak op) (o : Nat) : w.frozen? ⟨t, o, none⟩ = false := frozen_of_row _ _ _ _ _ h.row
/-- A slice of ints is none of the look's own block. -/
theorem own_ne_look {u : Value} {l : List Int} {cs : Array Value} (hr : w.heap[t]? = some (.cells cs 53 (0, 0))) (hu : OwnI w 0 u l) : u.ownBlock ≠ some t := fun e => by
  obtain ⟨_, cs2, hc⟩ := hu.block e
  rw [hr] at hc
  simp only [Option.some.injEq, Obj.cells.injEq] at hc
  exact absurd hc.2.1 (by decide)
/-- Behind an append to one of its slices, and the store of what it answers. -/
theorem RLX.turn (h : RLX w t s kn ak op) (x1 : w.Extends w1) {v v' : Value} {l' : List Int} {o : Nat} (g2 : w1.grownBy w2 v.ownBlock) (hv : v.ownBlock ≠ some t) (h2 : OwnI w2 0 v' l') (h3 : w3 = w2.setCell ⟨t, o, none⟩ v') :
    w3.heap[t]? = some (.cells ((RC s.k s.self kn ak op).setIfInBounds o v') 53 (0, 0)) ∧ (∀ u l, OwnI w 0 u l → Off2 u v → OwnI w3 0 u l) ∧ OwnI w3 0 v' l' ∧ (∀ g, v'.ownBlock = some g → g < w3.heap.size) := by
  have r2 : w2.heap[t]? = some (.cells (RC s.k s.self kn ak op) 53 (0, 0)) := (g2.block t (Nat.lt_of_lt_of_le h.lt x1.size) (fun e => hv e.symm)).trans ((x1.block t h.lt).trans h.row)
  have g3 : w2.grownBy w3 (some t) := by rw [h3]; exact grown_setCell (grown_refl _ _) o v'
  refine ⟨?_, fun u l hu ho => ?_, ?_, fun g e => ?_⟩
  · rw [h3, heap_setCell_same _ _ _ _ _ _ r2]
  · have hut := own_ne_look h.row hu
    refine hu.kept fun g e => ?_
    have hl := (hu.block e).1
    have hl1 := Nat.lt_of_lt_of_le hl x1.size
    exact (g3.block g (Nat.lt_of_lt_of_le hl1 g2.size) (fun e2 => hut (by rw [e, e2]))).trans ((g2.block g hl1 (fun e2 => ho g e e2.symm)).trans (x1.block g hl))
  · exact h2.kept fun g e => g3.block g (h2.block e).1 (fun e2 => own_ne_look r2 h2 (by rw [e, e2]))
  · exact Nat.lt_of_lt_of_le (h2.block e).1 g3.size
theorem off_new {u v v' : Value} {n : Nat} (h : Off2 u v) (hu : ∀ g, u.ownBlock = some g → g < n) (loc : v'.ownBlock = v.ownBlock ∨ ∃ g, v'.ownBlock = some g ∧ n ≤ g) : Off2 u v' := fun g e e2 => by
  rcases loc with e3 | ⟨g', e3, h3⟩
  · exact h g e (e3 ▸ e2)
  · rw [e3] at e2
    have := Option.some.inj e2
    have := hu g e
    omega
theorem Fr.turn (hin : RIn D t kn ak op) (x1 : w.Extends w1) {v v' : Value} {o : Nat} (g2 : w1.grownBy w2 v.ownBlock) (hv : ∀ g, v.ownBlock = some g → D g) (h3 : w3 = w2.setCell ⟨t, o, none⟩ v') : Fr D w w3 := by
  have g3 : w2.grownBy w3 (some t) := by rw [h3]; exact grown_setCell (grown_refl _ _) o v'
  exact ((Fr.ext x1).trans (Fr.grown g2 hv) fun i _ h => h).trans (Fr.grown g3 fun g e => by rw [← Option.some.inj e]; exact hin.ht) fun i _ h => h
theorem loc_in {v v' : Value} {n m : Nat} (loc : v'.ownBlock = v.ownBlock ∨ ∃ g, v'.ownBlock = some g ∧ n ≤ g) (hv : ∀ g, v.ownBlock = some g → D g) (hn : w.heap.size ≤ n) (hl : ∀ g, v'.ownBlock = some g → g < w3.heap.size) : ∀ g, v'.ownBlock = some g → Nx D w w3 g := fun g e => by
  rcases loc with e3 | ⟨g', e3, h3⟩
  · exact .inl (hv g (e3 ▸ e))
  · have := hl g e
    rw [e3] at e
    have := Option.some.inj e
    exact .inr ⟨by omega, by omega⟩
theorem RLX.add (h : RLX w t s kn ak op) (hin : RIn D t kn ak op) (x1 : w.Extends w1) {v' : Value} {x : Int} (h2 : OwnI w2 0 v' (s.known ++ [x])) (g2 : w1.grownBy w2 kn.ownBlock) (loc : v'.ownBlock = kn.ownBlock ∨ ∃ g, v'.ownBlock = some g ∧ w1.heap.size ≤ g)
    (h3 : w3 = w2.setCell ⟨t, 21, none⟩ v') (hx : In64 x) (c1 : ¬ x < 0) (c2 : x ≠ s.self) (c3 : x ∉ s.known) (hl : s.known.length + 1 ≤ 8000) : Fr D w w3 ∧ RLAt w3 t (Nx D w w3) (s.add x) := by
  have e : s.add x = { s with known := s.known ++ [x] } := by
    unfold Lk.add
    rw [if_neg (by rintro (h | h | h); exact c1 h; exact c2 h; exact c3 h)]
  obtain ⟨r3, k3, n3, l3⟩ := h.turn x1 g2 (own_ne_look h.row h.known) h2 h3
  rw [RC_kn h.kl] at r3
  have hla : ∀ g, ak.ownBlock = some g → g < w1.heap.size := fun g e => Nat.lt_of_lt_of_le (h.asked.block e).1 x1.size
  have hlo : ∀ g, op.ownBlock = some g → g < w1.heap.size := fun g e => Nat.lt_of_lt_of_le (h.opn.block e).1 x1.size
  refine ⟨Fr.turn hin x1 g2 hin.k h3, v', ak, op, ⟨?_, ?_, ?_, ?_, (off_new h.ka.symm hla loc).symm, (off_new h.ko.symm hlo loc).symm, h.ao, h.inv.add hx, ?_⟩, ⟨.inl hin.ht, loc_in (m := 0) loc hin.k x1.size l3, fun g e => .inl (hin.a g e), fun g e => .inl (hin.o g e)⟩⟩
  · rw [e]; exact r3
  · rw [e]; exact n3
  · rw [e]; exact k3 _ _ h.asked h.ka.symm
  · rw [e]; exact k3 _ _ h.opn h.ko.symm
  · rw [e]; show (s.known ++ [x]).length ≤ 8000; rw [List.length_append, List.length_singleton]; exact hl
/-- Behind the first of Next's two appends: asked has one more. -/
structure RMid (w : World) (t : Nat) (s : Lk) (p : Int) (kn ak op : Value) : Prop where
  row : w.heap[t]? = some (.cells (RC s.k s.self kn ak op) 53 (0, 0))
  known : OwnI w 0 kn s.known
  asked : OwnI w 0 ak (s.asked ++ [p])
  opn : OwnI w 0 op s.opn
  ka : Off2 kn ak
  ko : Off2 kn op
  ao : Off2 ak op
theorem RLX.mid (h : RLX w t s kn ak op) (hin : RIn D t kn ak op) (x1 : w.Extends w1) {v' : Value} {x : Int} (h2 : OwnI w2 0 v' (s.asked ++ [x])) (g2 : w1.grownBy w2 ak.ownBlock) (loc : v'.ownBlock = ak.ownBlock ∨ ∃ g, v'.ownBlock = some g ∧ w1.heap.size ≤ g)
    (h3 : w3 = w2.setCell ⟨t, 22, none⟩ v') : Fr D w w3 ∧ RMid w3 t s x kn v' op ∧ RIn (Nx D w w3) t kn v' op := by
  obtain ⟨r3, k3, n3, l3⟩ := h.turn x1 g2 (own_ne_look h.row h.asked) h2 h3
  rw [RC_as h.kl] at r3
  have hlk : ∀ g, kn.ownBlock = some g → g < w1.heap.size := fun g e => Nat.lt_of_lt_of_le (h.known.block e).1 x1.size
  have hlo : ∀ g, op.ownBlock = some g → g < w1.heap.size := fun g e => Nat.lt_of_lt_of_le (h.opn.block e).1 x1.size
  exact ⟨Fr.turn hin x1 g2 hin.a h3, ⟨r3, k3 _ _ h.known h.ka, n3, k3 _ _ h.opn h.ao.symm, off_new h.ka hlk loc, h.ko, (off_new h.ao.symm hlo loc).symm⟩, ⟨.inl hin.ht, fun g e => .inl (hin.k g e), loc_in (m := 0) loc hin.a x1.size l3, fun g e => .inl (hin.o g e)⟩⟩
theorem RMid.cells {p : Int} (h : RMid w t s p kn ak op) (hk : s.k.length = 20) : w.cell? ⟨t, 23, none⟩ = some op ∧ ∀ o, w.frozen? ⟨t, o, none⟩ = false := by
  obtain ⟨h0, h1, h2, h3⟩ := RC_get (self := s.self) (kn := kn) (ak := ak) (op := op) hk
  exact ⟨by rw [cell_of_row _ _ _ _ _ _ h.row]; exact h3, fun o => frozen_of_row _ _ _ _ _ h.row⟩
theorem RMid.last {p : Int} (h : RMid w t s p kn ak op) (hin : RIn D t kn ak op) (hi : s.Inv) (hl : s.known.length ≤ 8000) (hp : p ∈ s.known ∧ p ∉ s.asked) (x1 : w.Extends w1) {v' : Value} (h2 : OwnI w2 0 v' (s.opn ++ [p])) (g2 : w1.grownBy w2 op.ownBlock)
    (loc : v'.ownBlock = op.ownBlock ∨ ∃ g, v'.ownBlock = some g ∧ w1.heap.size ≤ g) (h3 : w3 = w2.setCell ⟨t, 23, none⟩ v') : Fr D w w3 ∧ RLAt w3 t (Nx D w w3) (s.asks p) := by
  have hX : RLX w t (s.asks p) kn ak op → False ∨ True := fun _ => .inr trivial
  have hlt : t < w.heap.size := (Array.getElem?_eq_some_iff.1 h.row).1
  have hop := own_ne_look h.row h.opn
  have r2 : w2.heap[t]? = some (.cells (RC s.k s.self kn ak op) 53 (0, 0)) := (g2.block t (Nat.lt_of_lt_of_le hlt x1.size) (fun e => hop e.symm)).trans ((x1.block t hlt).trans h.row)
  have g3 : w2.grownBy w3 (some t) := by rw [h3]; exact grown_setCell (grown_refl _ _) 23 v'
  have k3 : ∀ u l, OwnI w 0 u l → Off2 u op → OwnI w3 0 u l := fun u l hu ho => by
    have hut := own_ne_look h.row hu
    refine hu.kept fun g e => ?_
    have hl := (hu.block e).1
    have hl1 := Nat.lt_of_lt_of_le hl x1.size
    exact (g3.block g (Nat.lt_of_lt_of_le hl1 g2.size) (fun e2 => hut (by rw [e, e2]))).trans ((g2.block g hl1 (fun e2 => ho g e e2.symm)).trans (x1.block g hl))
  have l3 : ∀ g, v'.ownBlock = some g → g < w3.heap.size := fun g e => Nat.lt_of_lt_of_le (h2.block e).1 g3.size
  have hlk : ∀ g, kn.ownBlock = some g → g < w1.heap.size := fun g e => Nat.lt_of_lt_of_le (h.known.block e).1 x1.size
  have hla : ∀ g, ak.ownBlock = some g → g < w1.heap.size := fun g e => Nat.lt_of_lt_of_le (h.asked.block e).1 x1.size
  refine ⟨Fr.turn hin x1 g2 hin.o h3, kn, ak, v', ⟨?_, k3 _ _ h.known h.ko, k3 _ _ h.asked h.ao, ?_, h.ka, off_new h.ko hlk loc, off_new h.ao hla loc, hi.asks hp.1 hp.2, hl⟩, ⟨.inl hin.ht, fun g e => .inl (hin.k g e), fun g e => .inl (hin.a g e), loc_in (m := 0) loc hin.o x1.size l3⟩⟩
  · rw [h3, heap_setCell_same _ _ _ _ _ _ r2, RC_op hi.k.1]; rfl
  · exact h2.kept fun g e => g3.block g (h2.block e).1 (fun e2 => own_ne_look r2 h2 (by rw [e, e2]))
/-- Who is open is another slice. -/
theorem RLX.over (h : RLX w t s kn ak op) (hin : RIn D t kn ak op) (x1 : w.Extends w1) {v' : Value} {p : Int} (h2 : OwnI w1 w.heap.size v' (outI p s.opn)) (h3 : w3 = w1.setCell ⟨t, 23, none⟩ v') : Fr D w w3 ∧ RLAt w3 t (Nx D w w3) (s.over p) := by
  have g2 : w1.grownBy w1 (Value.ownBlock (.slice none 0 0)) := grown_refl _ _
  have h2' : OwnI w1 0 v' (outI p s.opn) := h2.mono (Nat.zero_le _)
  obtain ⟨r3, k3, n3, l3⟩ := h.turn (v := .slice none 0 0) x1 g2 (fun e => by cases e) h2' h3
  rw [RC_op h.kl] at r3
  have off : ∀ u : Value, Off2 u (.slice none 0 0) := fun u g _ e => by cases e
  have loc : v'.ownBlock = (Value.slice none 0 0).ownBlock ∨ ∃ g, v'.ownBlock = some g ∧ w.heap.size ≤ g := by
    cases e : v'.ownBlock with
    | none => exact .inl rfl
    | some g => exact .inr ⟨g, rfl, (h2.lt g e).1⟩
  refine ⟨Fr.turn hin x1 g2 (fun g e => by cases e) h3, kn, ak, v', ⟨r3, k3 _ _ h.known (off _), k3 _ _ h.asked (off _), n3, h.ka, off_new (off _) (fun g e => (h.known.block e).1) loc, off_new (off _) (fun g e => (h.asked.block e).1) loc, h.inv.over p, h.len⟩, ⟨.inl hin.ht, fun g e => .inl (hin.k g e), fun g e => .inl (hin.a g e), loc_in (m := 0) loc (fun g e => by cases e) (Nat.le_refl _) l3⟩⟩
end
end Go.Proofs.Ytgjnkfbckbkcnaa
