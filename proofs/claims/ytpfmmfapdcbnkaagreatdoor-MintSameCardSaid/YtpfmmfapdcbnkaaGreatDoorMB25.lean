/- In one text: MntSame, MntSameW. -/
import Derived.Test.YtpfmmfapdcbnkaaGreatDoorMB8
import Derived.Test.YtpfmmfapdcbnkaaGreatDoorMB13
import Derived.Test.YtpfmmfapdcbnkaaGreatDoorMB15
import Derived.Test.YtpfmmfapdcbnkaaGreatDoorMB24
namespace Go.Proofs.YtpfmmfapdcbnkaaGreatDoor
set_option maxRecDepth 20000
open Go.RowKit Go.Deep
set_option linter.unusedVariables false
/-- What stands where the statement has boxed a shape and two ids. -/
structure XB (w w1 : World) (y : Nat) (b s m p n op on : Int) : Prop where
  x : w.Extends w1
  s : ∀ w', w1.Extends w' → w'.cell? ⟨y, 0, none⟩ = some (.int .i64 b) ∧ w'.cell? ⟨y, 1, none⟩ = some (.int .i64 s) ∧ w'.cell? ⟨y, 2, none⟩ = some (.int .i64 m)
  i : ∀ w', w1.Extends w' → w'.cell? ⟨y + 1, 0, none⟩ = some (.int .i64 p) ∧ w'.cell? ⟨y + 1, 1, none⟩ = some (.int .i64 n)
  o : ∀ w', w1.Extends w' → w'.cell? ⟨y + 1 + 1, 0, none⟩ = some (.int .i64 op) ∧ w'.cell? ⟨y + 1 + 1, 1, none⟩ = some (.int .i64 on)
theorem XB.made (w : World) (b s m p n op on : Int) : XB w (((w.alloc (.cells #[.int .i64 b, .int .i64 s, .int .i64 m] 25)).alloc (.cells #[.int .i64 p, .int .i64 n] 23)).alloc (.cells #[.int .i64 op, .int .i64 on] 23)) w.heap.size b s m p n op on := by
  have e : ∀ (w : World) (o : Obj), (w.alloc o).heap.size = w.heap.size + 1 := fun w o => by simp
  have two : ∀ (w : World) (a c : Int), ∀ w', (w.alloc (.cells #[.int .i64 a, .int .i64 c] 23)).Extends w' → w'.cell? ⟨w.heap.size, 0, none⟩ = some (.int .i64 a) ∧ w'.cell? ⟨w.heap.size, 1, none⟩ = some (.int .i64 c) := fun w a c w' hx => by
    have h : w'.heap[w.heap.size]? = some (.cells #[.int .i64 a, .int .i64 c] 23) := (hx.block _ (by simp)).trans (heap_alloc_new _ _)
    exact ⟨by rw [cell_of_row _ _ _ _ _ _ h]; rfl, by rw [cell_of_row _ _ _ _ _ _ h]; rfl⟩
  refine ⟨Gr.ext_trans (ext_alloc _ _) (Gr.ext_trans (ext_alloc _ _) (ext_alloc _ _)), fun w' hx => ((PAt.new w 25 b s m).ext (Gr.ext_trans (ext_alloc _ _) (ext_alloc _ _))).ext hx, fun w' hx => ?_, fun w' hx => ?_⟩
  · have h := two (w.alloc (.cells #[.int .i64 b, .int .i64 s, .int .i64 m] 25)) p n w' (Gr.ext_trans (ext_alloc _ _) hx)
    rwa [e] at h
  · have h := two ((w.alloc (.cells #[.int .i64 b, .int .i64 s, .int .i64 m] 25)).alloc (.cells #[.int .i64 p, .int .i64 n] 23)) op on w' hx
    rwa [e, e] at h
theorem RMats.arr {w : World} {B R k cap : Nat} {la : Option Addr} {l : List Rc} (h : RMats w B R (.slice la k cap) k l) (hk : 0 < k) : ∃ g, la = some ⟨g, 0, none⟩ := by
  obtain ⟨vs, ho, _⟩ := h
  rcases ho.2 with ⟨e, h0⟩ | ⟨g, cap', cur, e, _⟩
  · omega
  · cases e
    exact ⟨g, rfl⟩
/-- A record's data become so many bytes 0. -/
theorem mset_put (wr : World) (B g rl lc k S : Nat) (others : List Rc) (h : RMats wr B 0 (.slice (some ⟨g, 0, none⟩) rl lc) rl others) (hl : rl = others.length) (hk : k < rl) (hS : S ≤ 64) :
    ∀ wa, wa = wr.alloc (.cells (madeCells #[.int .u8 0] S) 5) → wr.Extends wa ∧ (∃ v0, wa.cell? ⟨g, k * 10 + 9, none⟩ = some v0) ∧ wa.frozen? ⟨g, k * 10 + 9, none⟩ = false ∧ B ≤ g ∧ RMats (wa.setCell ⟨g, k * 10 + 9, none⟩ (.slice (some ⟨wr.heap.size, 0, none⟩) S S)) B 0 (.slice (some ⟨g, 0, none⟩) rl lc) rl (others.set k { others.getD k Rc.zero with d := List.replicate S 0 }) := by
  rintro wa rfl
  have hx : wr.Extends (wr.alloc (.cells (madeCells #[.int .u8 0] S) 5)) := ext_alloc _ _
  have hu : RowOk (wr.alloc (.cells (madeCells #[.int .u8 0] S) 5)) 0 (.slice (some ⟨wr.heap.size, 0, none⟩) S S) (List.replicate S 0) := by
    refine RowOk.own ⟨?_, by rw [List.length_replicate]; unfold maxLen; omega, fun x hx => by rw [(List.mem_replicate.1 hx).2]; decide⟩ 0 (by simp) (by simp)
    rw [List.length_replicate]
    exact (World.rowIs_made wr (.int .u8 0) S 5).congr fun i hi => by simp [hi]
  obtain ⟨h1, h2, h3, h4, _⟩ := (h.ext hx).put hl hk hu
  exact ⟨hx, h2, h3, h4, h1⟩
def ksOf (es : List Int) : List Int := es.map fun e => e % 16777216
/-- What all calls of the statement come to, where it asks. -/
structure MSF (b s m p n op on blk esi : Int) (nb : Nat) (es : List Int) (V : World → Nat → Prop) (S : Nat) (D : Nat → Int → List Nat) (F : Nat → Prop) (kc : Nat → Nat) (RL : List Rc) : Prop where
  sz : s = S ∧ S ≤ 64
  few : RL.length + nb * es.length ≤ 9000
  bl : nb ≤ 4000
  oth : ∀ r ∈ RL, r.p = op ∧ r.n = on
  ne : ¬ (p = op ∧ n = on)
  vx : ∀ w w' o, V w o → w.Extends w' → V w' o
  rec_ : ∀ o w, V w o → Calls Tryz.prog 17 #[.pointer (some ⟨o, 0, none⟩), .agg #[.int .i64 op, .int .i64 on], .int .i64 0, .int .i64 9] w (RecsOwn w RL)
  sym : ∀ c : Nat, c < nb → ∀ e, EsiOk e → ∀ o w, V w o → Calls Tryz.prog 18 #[.pointer (some ⟨o, 0, none⟩), .int .i64 c, .int .i64 e] w (SymOut w (D c e) 0)
  kk : ∀ c : Nat, c < nb → ∀ w, Calls Tryz.prog 20 #[PV b s m, .int .i64 c] w fun e w' => e = .returned (.int .i64 (kc c : Nat)) ∧ w.Extends w'
  enough : ∀ c : Nat, c < nb → ∀ v w, Ints w v (ksOf es) → Calls Tryz.prog 19 #[.int .i64 (kc c : Nat), v] w (Says (F c) w)
  yes : ∀ others : List Rc, others.length = RL.length → (∀ r ∈ others, ¬ (r.p = p ∧ r.n = n)) → (∀ c, c < nb → F c) → ∀ v w, Tab w → Recs w v (others ++ MS.got p n b s m D (ksOf es) nb 0) → Calls Tryz.prog 8 #[.agg #[.int .i64 p, .int .i64 n], PV b s m, .int .i64 blk, .int .i64 esi, .int .i64 77, v] w (FreshOut w ⟨p, n, b, s, m, blk, esi, false, 77, D blk.toNat esi⟩ 0)
  no : ∀ others : List Rc, others.length = RL.length → (∀ r ∈ others, ¬ (r.p = p ∧ r.n = n)) → (¬ ∀ c, c < nb → F c) → ∀ v w, Tab w → Recs w v (others ++ MS.got p n b s m D (ksOf es) nb 0) → Calls Tryz.prog 8 #[.agg #[.int .i64 p, .int .i64 n], PV b s m, .int .i64 blk, .int .i64 esi, .int .i64 77, v] w (FreshOut w Rc.zero 4)
set_option maxHeartbeats 8000000 in
theorem msame_main (b s m : Int) (v ve : Value) (xs : List Nat) (es : List Int) (blk esi p n op on : Int) (w : World) (hT : Tab w) (hv : U8s w v xs) (he : Ints w ve es)
    (sm rs : Bool) (hsm : ∀ w, Calls Tryz.prog 6 #[PV b s m] w fun e w' => e = .returned (.bool sm) ∧ w.Extends w') (hrs : ∀ w, Calls Tryz.prog 14 #[PV b s m] w fun e w' => e = .returned (.bool rs) ∧ w.Extends w')
    (nb : Nat) (hb : rs = true → ∀ w, Calls Tryz.prog 15 #[PV b s m] w fun e w' => e = .returned (.int .i64 (nb : Nat)) ∧ w.Extends w')
    (e0 : Int) (V : World → Nat → Prop) (hnew : ∀ v w, U8s w v xs → Calls Tryz.prog 16 #[PV b s m, v] w (ObjOr w e0 V))
    (hmain : e0 = 0 → sm = true → rs = true → (xs.length : Int) = b → es.length ≤ 60 → ¬ (p = op ∧ n = on) → 0 ≤ blk → blk < nb → EsiOk esi → ∃ S D F kc RL, MSF b s m p n op on blk esi nb es V S D F kc RL) :
    Calls Tryz.prog 4 #[PV b s m, v, ve, .int .i64 blk, .int .i64 esi, .agg #[.int .i64 p, .int .i64 n], .agg #[.int .i64 op, .int .i64 on]] w fun e w' => e = .returned (.bool true) ∧ w.Extends w' := by
  have HUI := Lib.hid hv
  have HEI := Lib.hid he
  obtain ⟨va, vc, rfl, -⟩ := hv.slice
  obtain ⟨ea, ec, rfl, hec, _⟩ := he.slice
  have hel := he.len
  have hxl := hv.len
  unfold maxLen at hel hxl
  have HEC := Lib.hid he.cell.2
  have HSM := Lib.hid hsm
  have HRS := Lib.hid hrs
  have HB := Lib.hid hb
  have HN := Lib.hid hnew
  have HM := Lib.hid hmain
  have HT := Lib.hid hT
  have HA := Lib.hid (fun w hT => alive24_any w hT)
  have heq := id_eq_run p n op on
  obtain ⟨q0, hq0⟩ : ∃ q, q = decide (p = op ∧ n = on) := ⟨_, rfl⟩
  rw [← hq0] at heq
  have HQ0 := Lib.hid hq0
  have HE := Lib.hid heq
  clear hsm hrs hb hnew hmain hT hv he hq0 heq
  obtain ⟨el, hel2⟩ : ∃ el, el = es.length := ⟨_, rfl⟩
  obtain ⟨xl, hxl2⟩ : ∃ xl, xl = xs.length := ⟨_, rfl⟩
  rw [← hel2] at HEC hel hec ⊢
  rw [← hxl2] at hxl ⊢
  have HEL : Hid (es.length = el) := hel2.symm
  have HXL : Hid (xs.length = xl) := hxl2.symm
  clear hel2 hxl2
  obtain ⟨y, hy⟩ : ∃ y, y = w.heap.size := ⟨_, rfl⟩
  have HXB := Lib.hid (XB.made w b s m p n op on)
  go_enter Tryz.func4, Tryz.ntmps4
  go_upto_region 1 with fail
  generalize hw1 : World.alloc _ _ = w1 at *
  rw [← hy] at HXB ⊢
  clear hw1 hy
  go_wp2_with fail
  refine (HA.out w1 (HT.out.ext HXB.out.x)).mono ?_
  rintro e w2 ⟨rfl, hx⟩
  have HX2 := Lib.hid hx
  obtain ⟨s0, s1, s2⟩ := HXB.out.s w2 hx
  clear hx HA
  go_wp2_with fail
  clear s0 s1 s2
  refine (HSM.out w2).mono ?_
  rintro e w3 ⟨rfl, hx⟩
  have HX3 := Lib.hid (Gr.ext_trans HX2.out hx)
  clear hx HX2 HSM
  cases sm with
  | false =>
    have HF := Lib.hid (Gr.ext_trans HXB.out.x HX3.out)
    go_wp2
    go_ret
    exact ⟨rfl, HF.out⟩
  | true =>
  obtain ⟨s0, s1, s2⟩ := HXB.out.s w3 HX3.out
  go_wp2_with fail
  clear s0 s1 s2
  refine (HRS.out w3).mono ?_
  rintro e w4 ⟨rfl, hx⟩
  have HX4 := Lib.hid (Gr.ext_trans HX3.out hx)
  have HW4 := Lib.hid (Gr.ext_trans HXB.out.x HX4.out)
  clear hx HX3 HRS
  cases rs with
  | false =>
    go_wp2
    go_ret
    exact ⟨rfl, HW4.out⟩
  | true =>
  have HB2 := Lib.hid (HB.out rfl)
  obtain ⟨s0, s1, s2⟩ := HXB.out.s w4 HX4.out
  obtain ⟨i0, i1⟩ := HXB.out.i w4 HX4.out
  obtain ⟨o0, o1⟩ := HXB.out.o w4 HX4.out
  clear HB
  by_cases hxb : (xl : Int) = b
  case neg =>
    have d1 : ((xl : Int) == b) = false := beq_eq_false_iff_ne.2 hxb
    go_wp2
    go_ret
    exact ⟨rfl, HW4.out⟩
  have d1 : ((xl : Int) == b) = true := beq_iff_eq.2 hxb
  by_cases h60 : 60 < (el : Int)
  · have dh60 : decide (60 < (el : Int)) = true := decide_eq_true h60
    go_wp2
    go_ret
    exact ⟨rfl, HW4.out⟩
  have dh60 : decide (60 < (el : Int)) = false := decide_eq_false h60
  have heq := HE.out
  cases q0 with
  | true =>
    go_wp2
    go_ret
    exact ⟨rfl, HW4.out⟩
  | false =>
  by_cases hb0 : blk < 0
  · have dhb0 : decide (blk < 0) = true := decide_eq_true hb0
    go_wp2
    go_ret
    exact ⟨rfl, HW4.out⟩
  have dhb0 : decide (blk < 0) = false := decide_eq_false hb0
  go_wp2_with fail
  clear s0 s1 s2 i0 i1 o0 o1 d1 dh60 heq dhb0
  refine (HB2.out w4).mono ?_
  rintro e w5 ⟨rfl, hx⟩
  have HX5 := Lib.hid (Gr.ext_trans HX4.out hx)
  have HW5 := Lib.hid (Gr.ext_trans HXB.out.x HX5.out)
  clear hx HX4 HW4 HE
  by_cases hbn : (nb : Int) ≤ blk
  · have d1 : decide ((nb : Int) ≤ blk) = true := decide_eq_true hbn
    go_wp2
    go_ret
    exact ⟨rfl, HW5.out⟩
  have d1 : decide ((nb : Int) ≤ blk) = false := decide_eq_false hbn
  by_cases he0 : esi < 0
  · have dhe0 : decide (esi < 0) = true := decide_eq_true he0
    go_wp2
    go_ret
    exact ⟨rfl, HW5.out⟩
  have dhe0 : decide (esi < 0) = false := decide_eq_false he0
  by_cases he1 : 16777216 ≤ esi
  · have dhe1 : decide (16777216 ≤ esi) = true := decide_eq_true he1
    go_wp2
    go_ret
    exact ⟨rfl, HW5.out⟩
  have dhe1 : decide (16777216 ≤ esi) = false := decide_eq_false he1
  have HM2 : Hid (e0 = 0 → ∃ S D F kc RL, MSF b s m p n op on blk esi nb es V S D F kc RL) := fun h => HM.out h (by simp) (by simp) (by rw [HXL.out]; exact hxb) (by rw [HEL.out]; omega) (by have := HQ0.out; intro h; rw [decide_eq_true h] at this; cases this) (by omega) (by omega) ⟨by omega, by omega⟩
  obtain ⟨s0, s1, s2⟩ := HXB.out.s w5 HX5.out
  clear HM HQ0
  go_wp2_with fail
  clear s0 s1 s2 d1 dhe0 dhe1
  have hnw := HN.out _ w5 (HUI.out.ext HW5.out)
  rw [HXL.out] at hnw
  refine hnw.mono ?_
  rintro e w6 ⟨hx, ⟨hn2, rfl⟩ | ⟨hn2, o, rfl, hok⟩⟩
  · have HW6 := Lib.hid (Gr.ext_trans HW5.out hx)
    have d1 : (e0 == 0) = false := beq_eq_false_iff_ne.2 hn2
    clear hx
    go_wp2
    go_ret
    exact ⟨rfl, HW6.out⟩
  obtain ⟨S, D, F, kc, RL, hF⟩ := HM2.out hn2
  have HX6 := Lib.hid (Gr.ext_trans HX5.out hx)
  have HV6 := Lib.hid hok
  have HF := Lib.hid hF
  clear hx hok hnw HX5 HW5 HN HM2 hF HUI
  obtain ⟨o0, o1⟩ := HXB.out.o w6 HX6.out
  go_wp2_with fail
  clear o0 o1
  refine (HF.out.rec_ o w6 HV6.out).mono ?_
  rintro e w7 ⟨vl, rfl, hx7, hm7⟩
  obtain ⟨la, lc, rfl⟩ := hm7.slice
  obtain ⟨hsS, hS64⟩ := HF.out.sz
  subst hsS
  obtain ⟨rl, hrl⟩ : ∃ rl, rl = RL.length := ⟨_, rfl⟩
  have HRL : Hid (RL.length = rl) := hrl.symm
  have hfew := HF.out.few
  have hnb := HF.out.bl
  rw [← hrl] at hm7 hfew ⊢
  rw [HEL.out] at hfew
  obtain ⟨B6, hB6⟩ : ∃ B, B = w6.heap.size := ⟨_, rfl⟩
  rw [← hB6] at hm7
  have HB6 := Lib.hid hB6
  have HM7 := Lib.hid hm7
  have HX7 := Lib.hid hx7
  have HOTH := Lib.hid HF.out.oth
  clear hrl hm7 hx7 hB6
  go_wp2_with fail
  go_loopw [19] (fun s19 wr => ∃ (k : Nat) (others : List Rc), k ≤ rl ∧ s19 = .int .i64 (k : Nat) ∧ Hid (w6.Extends wr) ∧ Hid (others.length = rl) ∧ Hid (∀ r ∈ others, r.p = op ∧ r.n = on) ∧ Hid (RMats wr B6 0 (.slice la rl lc) rl others)) (fun s19 _ => rl - (intOf s19).toNat)
  case atStart => exact ⟨0, RL, by omega, by rfl, HX7, HRL, HOTH, HM7⟩
  case round =>
    obtain ⟨k, others, hk, rfl, HX, HOL, HOP, HM⟩ := hrel
    by_cases h1 : k < rl
    · obtain ⟨g, rfl⟩ := HM.out.arr (by omega)
      have hmk := fun w => mkBytes S (by omega) w
      obtain ⟨s0, s1, s2⟩ := HXB.out.s wr (Gr.ext_trans HX6.out HX.out)
      have HBS : Hid (w6.heap.size ≤ B6) := Nat.le_of_eq HB6.out.symm
      obtain ⟨hxa, ⟨v0, hv0⟩, hfz, hBg, hput⟩ := mset_put wr B6 g rl lc k S others HM.out HOL.out.symm h1 hS64 _ rfl
      have HX9 : Hid (w6.Extends ((wr.alloc (.cells (madeCells #[.int .u8 0] S) 5)).setCell ⟨g, k * 10 + 9, none⟩ (.slice (some ⟨wr.heap.size, 0, none⟩) S S))) := ext_own (Gr.ext_trans HX.out hxa) (grown_setCell (grown_refl _ _) (k * 10 + 9) _) (fun j hj => by have := Option.some.inj hj; have := HBS.out; omega)
      have HPUT := Lib.hid hput
      have HOL9 : Hid ((others.set k { others.getD k Rc.zero with d := List.replicate S 0 }).length = rl) := by show _ = _; rw [List.length_set]; exact HOL.out
      have HOP9 : Hid (∀ r ∈ others.set k { others.getD k Rc.zero with d := List.replicate S 0 }, r.p = op ∧ r.n = on) := fun r hr => by
        rcases List.mem_or_eq_of_mem_set hr with hr | hr
        · exact HOP.out r hr
        · subst hr
          have hk' : k < others.length := by rw [HOL.out]; exact h1
          have := HOP.out (others.getD k Rc.zero) (by rw [List.getD_eq_getElem?_getD, List.getElem?_eq_getElem hk']; exact List.getElem_mem hk')
          exact this
      generalize others.set k { others.getD k Rc.zero with d := List.replicate S 0 } = others' at *
      clear hput hxa hBg HM HX HOL HOP
      go_wp2
      go_roundw
      case rel => exact ⟨k + 1, others', by omega, by go_num, HX9, HOL9, HOP9, HPUT⟩
      case measure => simp [intOf]; omega
    · obtain rfl : k = rl := by omega
      clear HX7 HM7 HOTH
      obtain ⟨w8, hw8⟩ : ∃ w8, w8 = wr := ⟨_, rfl⟩
      subst hw8
      obtain ⟨ks, hks⟩ : ∃ ks, ks = ksOf es := ⟨_, rfl⟩
      have HKS := Lib.hid hks
      have hkl : ks.length = el := by rw [hks, ← HEL.out]; simp [ksOf]
      have HKZ : Hid (∀ z, z < el → ks.getD z 0 = es.getD z 0 % 16777216) := fun z hz => by rw [hks]; simp [ksOf, show z < es.length by rw [HEL.out]; exact hz]
      have HG0 : Hid (others ++ MS.got p n b S m D ks 0 0 = others) := by show _ = _; rw [MS.got_zero, List.append_nil]
      have HGN : Hid (∀ q z, (others ++ MS.got p n b S m D ks q z) ++ [MS.one p n b S m D q z (ks.getD z 0)] = others ++ MS.got p n b S m D ks q (z + 1)) := fun q z => by rw [List.append_assoc, MS.got_next]
      have HGR : Hid (∀ q, others ++ MS.got p n b S m D ks q el = others ++ MS.got p n b S m D ks (q + 1) 0) := fun q => by rw [← hkl, MS.got_row]
      have HGL : Hid (∀ q z, (others ++ MS.got p n b S m D ks q z).length = k + q * el + z) := fun q z => by rw [List.length_append, MS.got_length, HOL.out, hkl]; omega
      have hnot : ∀ r ∈ others, ¬ (r.p = p ∧ r.n = n) := fun r hr h => HF.out.ne ⟨h.1.symm.trans (HOP.out r hr).1, h.2.symm.trans (HOP.out r hr).2⟩
      have HYES := Lib.hid (HF.out.yes others (by rw [HOL.out, HRL.out]) hnot)
      have HNO := Lib.hid (HF.out.no others (by rw [HOL.out, HRL.out]) hnot)
      rw [← hks] at HYES HNO
      clear hnot hks hkl HOP
      generalize hG : (fun q z => others ++ MS.got p n b S m D ks q z) = G
      have hGe : ∀ q z, others ++ MS.got p n b S m D ks q z = G q z := fun q z => by rw [← hG]
      simp only [hGe] at HG0 HGN HGR HGL HYES HNO
      clear hG hGe
      have HM0 : Hid (RMats w8 B6 0 (.slice la k lc) (k + 0 * el) (G 0 0)) := by show RMats _ _ _ _ _ _; rw [HG0.out, Nat.zero_mul, Nat.add_zero]; exact HM.out
      have HX8 := Lib.hid HX.out
      obtain ⟨i2, hi2, hz0, hz1, hz2⟩ := info_parts recinfo
      have HI := Lib.hid hi2
      have HZ0 := Lib.hid hz0
      have HZ1 := Lib.hid hz1
      have HZ2 := Lib.hid hz2
      have HVX := Lib.hid HF.out.vx
      have HSYM := Lib.hid HF.out.sym
      clear hi2 hz0 hz1 hz2 HM HX HG0 HOL HRL
      go_wp2_with fail
      go_loopw [18, 20] (fun v s20 wr => ∃ q : Nat, q ≤ nb ∧ s20 = .int .i64 (q : Nat) ∧ Hid (w6.Extends wr) ∧ Hid (RMats wr B6 0 v (k + q * el) (G q 0))) (fun _ s20 _ => nb - (intOf s20).toNat)
      case atStart => exact ⟨0, by omega, by rfl, HX8, HM0⟩
      case round =>
        clear HX8 HM0
        obtain ⟨q, hq, rfl, HX, HM⟩ := hrel
        obtain ⟨wo, hwo⟩ : ∃ wo, wo = wr := ⟨_, rfl⟩
        subst hwo
        obtain ⟨la2, lc2, rfl⟩ := HM.out.slice
        obtain ⟨s0, s1, s2⟩ := HXB.out.s wo (Gr.ext_trans HX6.out HX.out)
        go_wp2_with fail
        clear s0 s1 s2
        refine (HB2.out wo).mono ?_
        rintro e w9 ⟨rfl, hx⟩
        have HX9 := Lib.hid (Gr.ext_trans HX.out hx)
        have HM9 := Lib.hid (HM.out.ext hx)
        clear hx HX HM
        by_cases h2 : q < nb
        · have HSQ := Lib.hid (HSYM.out q h2)
          have hlen : q * el + el ≤ nb * el := by
            have : (q + 1) * el ≤ nb * el := Nat.mul_le_mul_right el h2
            rwa [Nat.succ_mul] at this
          obtain ⟨qe, hqe⟩ : ∃ x, x = q * el := ⟨_, rfl⟩
          have HQE := Lib.hid hqe
          rw [← hqe] at hlen HM9 ⊢
          have HLN : Hid (k + qe + el ≤ 9000) := by show _ ≤ _; omega
          have HGNQ := Lib.hid (HGN.out q)
          have HGRQ := Lib.hid (HGR.out q)
          have HGLQ : Hid (∀ z, (G q z).length = k + qe + z) := fun z => by rw [HQE.out]; exact HGL.out q z
          have HMZ : Hid (RMats w9 B6 0 (.slice la2 (k + qe) lc2) (k + qe + 0) (G q 0)) := HM9.out
          clear hlen hqe HM9
          go_wp2_with fail
          go_loopw [18, 21] (fun v s21 wr => ∃ z : Nat, z ≤ el ∧ s21 = .int .i64 (z : Nat) ∧ Hid (w6.Extends wr) ∧ Hid (RMats wr B6 0 v (k + qe + z) (G q z))) (fun _ s21 _ => el - (intOf s21).toNat)
          case atStart => exact ⟨0, by omega, by rfl, HX9, HMZ⟩
          case round =>
            clear HX9 HMZ
            obtain ⟨z, hz, rfl, HX, HM⟩ := hrel
            obtain ⟨la3, lc3, rfl⟩ := HM.out.slice
            by_cases h3 : z < el
            · obtain ⟨be, oe, rfl, hbe, hce⟩ := HEC.out (by omega)
              have hec1 := (Gr.ext_trans HXB.out.x (Gr.ext_trans HX6.out HX.out)).cell_of (hce z h3)
              have hbits := and24 (es.getD z 0)
              have hkz := HKZ.out z h3
              have HGZ := Lib.hid (HGNQ.out z)
              have HOKZ : Hid (EsiOk (ks.getD z 0)) := by show EsiOk _; rw [hkz]; exact ⟨by omega, by omega⟩
              have HSZ := Lib.hid (HSQ.out _ HOKZ.out o wr (HVX.out w6 wr o HV6.out HX.out))
              rw [← hkz] at hbits
              unfold MS.one at HGZ
              clear hce hkz
              generalize D q (ks.getD z 0) = d at *
              generalize ks.getD z 0 = e1 at *
              generalize es.getD z 0 = e2 at *
              go_wp2_with fail
              clear hec1 hbits
              refine HSZ.out.mono ?_
              rintro e w10 ⟨u, rfl, hx, hok⟩
              obtain ⟨ua, uc, rfl, -⟩ := hok.1.slice
              have HX10 := Lib.hid (Gr.ext_trans HX.out hx)
              obtain ⟨vs, hown, hrows⟩ := HM.out.ext hx
              have HOWN := Lib.hid hown
              have HROWS := Lib.hid hrows
              have HOK := Lib.hid hok
              obtain ⟨s0, s1, s2⟩ := HXB.out.s w10 (Gr.ext_trans HX6.out HX10.out)
              obtain ⟨i0, i1⟩ := HXB.out.i w10 (Gr.ext_trans HX6.out HX10.out)
              have HB10 : Hid (B6 ≤ w10.heap.size) := by show _ ≤ _; rw [HB6.out]; exact HX10.out.size
              obtain ⟨rz, hrz⟩ : ∃ x, x = k + qe + z := ⟨_, rfl⟩
              have HRZ := Lib.hid hrz
              have hrz9 : rz ≤ 9000 := by have := HLN.out; omega
              have HRZ9 := Lib.hid hrz9
              rw [← hrz] at HOWN HROWS ⊢
              clear hx hok hown hrows HX HM HSZ hrz hrz9
              go_wp2_with (at_builtin; refine wpList_append_own_src _ rfl _ _ 26 26 rfl B6 32 i2 (Rc.zero.val (.slice none 0 0)) 10 96 Tryz.underlying26 HI.out HZ0.out HZ1.out HZ2.out rfl _ rz vs rfl (owns_ext HOWN.out (ext_alloc _ _)) _ 1 ((⟨p, n, b, S, m, q, e1, false, z, d⟩ : Rc).cells (.slice ua d.length uc)) rfl (src_rec (r := ⟨p, n, b, S, m, q, e1, false, z, d⟩) Tryz.underlying26 _ _ rfl rfl) (by unfold maxLen; have := HRZ9.out; omega) (by have := HRZ9.out; omega) (Nat.le_trans HB10.out (ext_alloc _ _).size) ?_)
              intro v' w11 ho hg _
              have HX11 : Hid (w6.Extends w11) := ext_own (Gr.ext_trans HX10.out (ext_alloc _ _)) hg (fun j hj => by have := (HOWN.out.lt j hj).1; rw [HB6.out] at this; exact this)
              have HM11 : Hid (RMats w11 B6 0 v' (k + qe + (z + 1)) (G q (z + 1))) := by
                show RMats _ _ _ _ _ _
                rw [← HGZ.out, ← Nat.add_assoc, ← HRZ.out]
                refine RMats.snoc (Nat.zero_le _) (by rw [HRZ.out]; exact (HGLQ.out z).symm) (owns_ext HOWN.out (ext_alloc _ _)) (fun j hj => ?_) (HOK.out.ext (ext_alloc _ _)) hg ho
                obtain ⟨u, h4, h5⟩ := HROWS.out j hj
                exact ⟨u, h4, h5.ext (ext_alloc _ _)⟩
              clear ho hg HOWN HROWS HOK HX10 HB10 s0 s1 s2 i0 i1
              go_wp2
              go_roundw
              case rel => exact ⟨z + 1, by omega, by go_num, HX11, HM11⟩
              case measure => simp [intOf]; omega
            · obtain rfl : z = el := by omega
              have HMN : Hid (RMats wr B6 0 (.slice la3 (k + qe + z) lc3) (k + (q + 1) * z) (G (q + 1) 0)) := by
                show RMats _ _ _ _ _ _
                rw [← HGRQ.out, Nat.succ_mul, ← HQE.out, ← Nat.add_assoc]
                exact HM.out
              go_wp2
              go_roundw
              case rel => exact ⟨q + 1, by omega, by go_num, HX, HMN⟩
              case measure => simp [intOf]; omega
        · have hqn : q = nb := by omega
          subst hqn
          have HRM : Hid (Recs w9 (.slice la2 (k + q * el) lc2) (G q 0)) := HM9.out.recs (by rw [HGL.out]; omega)
          have HTW : Hid (Tab w9) := HT.out.ext (Gr.ext_trans HXB.out.x (Gr.ext_trans HX6.out HX9.out))
          have HFR : Hid (∃ (r : Rc) (er : Int), (Calls Tryz.prog 8 #[.agg #[.int .i64 p, .int .i64 n], PV b S m, .int .i64 blk, .int .i64 esi, .int .i64 77, .slice la2 (k + q * el) lc2] w9 (FreshOut w9 r er)) ∧ (((∀ c, c < q → F c) ∧ r = ⟨p, n, b, S, m, blk, esi, false, 77, D blk.toNat esi⟩ ∧ er = 0) ∨ ((¬ ∀ c, c < q → F c) ∧ r = Rc.zero ∧ er = 4))) := by
            classical
            by_cases hall : ∀ c, c < q → F c
            · exact ⟨_, _, HYES.out hall _ w9 HTW.out HRM.out, .inl ⟨hall, rfl, rfl⟩⟩
            · exact ⟨_, _, HNO.out hall _ w9 HTW.out HRM.out, .inr ⟨hall, rfl, rfl⟩⟩
          obtain ⟨r, er, hfr, hcase⟩ := HFR.out
          have HCASE := Lib.hid hcase
          have HFRE := Lib.hid hfr
          obtain ⟨s0, s1, s2⟩ := HXB.out.s w9 (Gr.ext_trans HX6.out HX9.out)
          obtain ⟨i0, i1⟩ := HXB.out.i w9 (Gr.ext_trans HX6.out HX9.out)
          generalize k + q * el = lq at *
          clear HRM HTW HFR hfr hcase HM9 HYES HNO HGL HGN HGR HI HZ0 HZ1 HZ2
          go_wp2_with fail
          clear s0 s1 s2 i0 i1
          refine HFRE.out.mono ?_
          rintro e w12 ⟨a5, c5, rfl, hx, hu⟩
          have HX12 := Lib.hid (Gr.ext_trans HX9.out hx)
          have HU12 := Lib.hid hu
          clear hx hu HX9 HFRE
          have HREQ : Hid (∀ u : Value, r.val u = .agg #[.int .i64 r.p, .int .i64 r.n, .int .i64 r.b, .int .i64 r.s, .int .i64 r.m, .int .i64 r.k, .int .i64 r.e, .bool r.g, .int .i64 r.u, u]) := fun _ => rfl
          rw [HREQ.out]
          obtain ⟨dl, hdl⟩ : ∃ dl, dl = r.d.length := ⟨_, rfl⟩
          have HDL : Hid (r.d.length = dl) := hdl.symm
          rw [← hdl] at HU12 ⊢
          clear hdl
          go_upto_region 22 with fail
          generalize hw : World.alloc w12 _ = w13
          have hx : w12.Extends w13 := by subst hw; exact ext_alloc _ _
          have hb13 : RB w13 w12.heap.size r (.slice a5 dl c5) := by subst hw; exact heap_alloc_new _ _
          obtain ⟨g1, hg1⟩ : ∃ g, g = w12.heap.size := ⟨_, rfl⟩
          rw [← hg1] at hb13 ⊢
          have HX13 := Lib.hid (Gr.ext_trans HX12.out hx)
          have HU13 := Lib.hid (HU12.out.ext hx)
          have HB13 := Lib.hid hb13
          clear hw hx hb13 hg1 HX12 HU12
          go_wp2_with fail
          go_loopw [27] (fun s27 wr => ∃ c : Nat, c ≤ q ∧ s27 = .int .i64 (c : Nat) ∧ Hid (w13.Extends wr) ∧ Hid (∀ j, j < c → F j)) (fun s27 _ => q - (intOf s27).toNat)
          case atStart => exact ⟨0, by omega, by rfl, Gr.ext_refl _, fun j hj => absurd hj (Nat.not_lt_zero _)⟩
          case round =>
            obtain ⟨c, hc, rfl, HX, HFC⟩ := hrel
            obtain ⟨wo, hwo⟩ : ∃ wo, wo = wr := ⟨_, rfl⟩
            subst hwo
            obtain ⟨s0, s1, s2⟩ := HXB.out.s wo (Gr.ext_trans HX6.out (Gr.ext_trans HX13.out HX.out))
            go_wp2_with fail
            clear s0 s1 s2
            refine (HB2.out wo).mono ?_
            rintro e w14 ⟨rfl, hx⟩
            have HX14 := Lib.hid (Gr.ext_trans HX.out hx)
            clear hx HX
            by_cases h2 : c < q
            · have HKC := Lib.hid (HF.out.kk c h2)
              have HEN : Hid (∀ v w, Ints w v ks → Calls Tryz.prog 19 #[.int .i64 (kc c : Nat), v] w (Says (F c) w)) := fun v w hv => HF.out.enough c h2 v w (by rw [← HKS.out]; exact hv)
              have HKL : Hid (ks.length = el) := by show _ = _; rw [HKS.out, ← HEL.out]; simp [ksOf]
              have HTK : Hid (∀ z, z < el → ks.take z ++ [ks.getD z 0] = ks.take (z + 1)) := fun z hz => by
                have hz' : z < ks.length := by rw [HKL.out]; exact hz
                rw [List.take_succ_eq_append_getElem hz']; simp [hz']
              have HTL : Hid (∀ z, z ≤ el → (ks.take z).length = z) := fun z hz => by rw [List.length_take, HKL.out]; omega
              go_wp2_with fail
              go_loopw [28, 29] (fun v s29 wr => ∃ z : Nat, z ≤ el ∧ s29 = .int .i64 (z : Nat) ∧ Hid (w14.Extends wr) ∧ Hid (OI wr w14.heap.size v (ks.take z))) (fun _ s29 _ => el - (intOf s29).toNat)
              case atStart => exact ⟨0, by omega, by rfl, Gr.ext_refl _, OI.nil _ _⟩
              case round =>
                obtain ⟨z, hz, rfl, HX, HO⟩ := hrel
                obtain ⟨ia, ic, hiv⟩ := HO.out.slice
                rw [HTL.out z hz] at hiv
                subst hiv
                by_cases h3 : z < el
                · obtain ⟨be, oe, rfl, hbe, hce⟩ := HEC.out (by omega)
                  have HXW : Hid (w.Extends wr) := Gr.ext_trans HXB.out.x (Gr.ext_trans HX6.out (Gr.ext_trans HX13.out (Gr.ext_trans HX14.out HX.out)))
                  have hec1 := HXW.out.cell_of (hce z h3)
                  have hbits := and24 (es.getD z 0)
                  rw [← HKZ.out z h3] at hbits
                  have HTZ := Lib.hid (HTK.out z h3)
                  have HTLZ := Lib.hid (HTL.out z hz)
                  clear hce HXW
                  generalize ks.getD z 0 = e1 at *
                  generalize es.getD z 0 = e2 at *
                  go_wp2_with (at_builtin; refine wpList_app_oi rfl (.tmp 160) (.tmp 166) rfl w14.heap.size _ (ks.take z) rfl (HO.out.ext (ext_alloc _ _)) _ 1 [e1] rfl rfl (one_src (heap_alloc_new _ _)) (by rw [HTLZ.out]; show z + 1 ≤ _; omega) (Nat.le_trans HX.out.size (ext_alloc _ _).size) ?_)
                  intro v' w15 ho hg
                  have HX15 : Hid (w14.Extends w15) := ext_own (Gr.ext_trans HX.out (ext_alloc _ _)) hg (fun j hj => (HO.out.own.lt j hj).1)
                  have HO15 : Hid (OI w15 w14.heap.size v' (ks.take (z + 1))) := by show OI _ _ _ _; rw [← HTZ.out]; exact ho
                  clear ho hg hec1 hbits HX HO HTZ HTLZ
                  go_wp2
                  go_roundw
                  case rel => exact ⟨z + 1, by omega, by go_num, HX15, HO15⟩
                  case measure => simp [intOf]; omega
                · have hze : z = el := by omega
                  subst hze
                  have HIN : Hid (Ints wr (.slice ia z ic) ks) := by have h := HO.out.own.ints; rw [List.take_of_length_le (by rw [HKL.out]; exact Nat.le_refl _)] at h; exact h
                  have HX16 := Lib.hid (Gr.ext_trans HX14.out HX.out)
                  obtain ⟨s0, s1, s2⟩ := HXB.out.s wr (Gr.ext_trans HX6.out (Gr.ext_trans HX13.out HX16.out))
                  clear HX HO HTK HTL
                  go_wp2_with fail
                  clear s0 s1 s2
                  refine (HKC.out wr).mono ?_
                  rintro e w17 ⟨rfl, hx⟩
                  have HX17 := Lib.hid (Gr.ext_trans HX16.out hx)
                  have HIN17 := Lib.hid (HIN.out.ext hx)
                  clear hx HX16 HIN HKC
                  go_wp2_with fail
                  refine (HEN.out _ w17 HIN17.out).mono ?_
                  rintro e w18 ⟨⟨fb, rfl, hfb⟩, hx⟩
                  have HX18 := Lib.hid (Gr.ext_trans HX17.out hx)
                  have HFB := Lib.hid hfb
                  clear hx hfb HX17 HIN17 HEN
                  cases fb with
                  | true =>
                    have HFC2 : Hid (∀ j, j < c + 1 → F j) := fun j hj => by
                      by_cases e : j = c
                      · subst e; exact HFB.out.1 rfl
                      · exact HFC.out j (by omega)
                    go_wp2
                    go_roundw
                    case rel => exact ⟨c + 1, by omega, by go_num, HX18, HFC2⟩
                    case measure => simp [intOf]; omega
                  | false =>
                    have hF : ¬ F c := fun h => by have := HFB.out.2 h; cases this
                    rcases HCASE.out with ⟨hall, _, _⟩ | ⟨_, hr, her⟩
                    · exact absurd (hall c h2) hF
                    subst hr; subst her
                    have hd0 : dl = 0 := HDL.out.symm
                    subst hd0
                    have HN24 := Lib.hid (fun w => num24_any 4 w)
                    obtain ⟨c0, c1, c2, c3, c4, c5', c6, c7', c8, c9⟩ := RCell.ten (HB13.out.ext HX18.out).range
                    simp only [Nat.zero_add] at c9
                    have hl1 := (HB13.out.ext HX18.out).lt
                    have HFIN : Hid (w.Extends w18) := Gr.ext_trans HXB.out.x (Gr.ext_trans HX6.out (Gr.ext_trans HX13.out HX18.out))
                    clear c0 c1 c2 c3 c4 c5' c6 c7' c8
                    go_wp2_with fail
                    refine (HN24.out w18).mono ?_
                    rintro e w19 ⟨rfl, rfl⟩
                    go_wp2
                    go_ret
                    exact ⟨rfl, HFIN.out⟩
            · have hcq : c = q := by omega
              subst hcq
              rcases HCASE.out with ⟨_, hr, her⟩ | ⟨hno, _, _⟩
              case inr => exact absurd HFC.out hno
              subst hr; subst her
              obtain ⟨bn, rfl⟩ : ∃ bn : Nat, blk = bn := ⟨blk.toNat, by omega⟩
              have HSB : Hid (Calls Tryz.prog 18 #[.pointer (some ⟨o, 0, none⟩), .int .i64 bn, .int .i64 esi] w14 (SymOut w14 (D bn esi) 0)) := HSYM.out bn (by omega) esi ⟨by omega, by omega⟩ o w14 (HVX.out w6 w14 o HV6.out (Gr.ext_trans HX13.out HX14.out))
              go_wp2_with fail
              refine HSB.out.mono ?_
              rintro e w15 ⟨u, rfl, hx, hok⟩
              obtain ⟨ua, uc, rfl, -⟩ := hok.1.slice
              have HX15 := Lib.hid (Gr.ext_trans HX14.out hx)
              have HOK15 := Lib.hid hok.1
              clear hx hok HX14 HSB HSYM
              have HN24 := Lib.hid (fun w => num24_any 0 w)
              go_wp2_with fail
              refine (HN24.out w15).mono ?_
              rintro e w19 ⟨rfl, rfl⟩
              have hb15 := HB13.out.ext HX15.out
              have hu15 := HU13.out.ext HX15.out
              have hdl := HDL.out
              simp only [Int.toNat_natCast] at hb15 hu15 hdl
              have hok := HOK15.out
              clear HB13 HU13 HDL HOK15 HVX
              generalize D bn esi = d at *
              subst hdl
              have HSA : Hid (Calls Tryz.prog 12 #[.agg #[.int .i64 p, .int .i64 n, .int .i64 b, .int .i64 S, .int .i64 m, .int .i64 bn, .int .i64 esi, .bool false, .int .i64 77, .slice a5 d.length c5], .agg #[.int .i64 p, .int .i64 n, .int .i64 b, .int .i64 S, .int .i64 m, .int .i64 bn, .int .i64 esi, .bool false, .int .i64 77, .slice ua d.length uc]] w15 fun e w' => e = .returned (.bool true) ∧ w15.Extends w') :=
                same_rec ⟨p, n, b, S, m, bn, esi, false, 77, d⟩ a5 ua c5 uc w15 hu15 hok
              obtain ⟨c0, c1, c2, c3, c4, c5', c6, c7', c8, c9⟩ := RCell.ten hb15.range
              simp only [Nat.zero_add] at c0 c1 c2 c3 c4 c5' c6 c7' c8 c9
              have hl1 := hb15.lt
              obtain ⟨s0, s1, s2⟩ := HXB.out.s w15 (Gr.ext_trans HX6.out (Gr.ext_trans HX13.out HX15.out))
              obtain ⟨i0, i1⟩ := HXB.out.i w15 (Gr.ext_trans HX6.out (Gr.ext_trans HX13.out HX15.out))
              have HFIN : Hid (w.Extends w15) := Gr.ext_trans HXB.out.x (Gr.ext_trans HX6.out (Gr.ext_trans HX13.out HX15.out))
              clear hb15 hu15 hok HF HKS
              generalize d.length = dl at *
              go_wp2_with fail
              refine HSA.out.mono ?_
              rintro e w20 ⟨rfl, hx⟩
              have HFIN2 := Lib.hid (Gr.ext_trans HFIN.out hx)
              clear c0 c1 c2 c3 c4 c5' c6 c7' c8 c9 s0 s1 s2 i0 i1 hl1 hx HFIN
              go_wp2
              go_ret
              exact ⟨rfl, HFIN2.out⟩
end Go.Proofs.YtpfmmfapdcbnkaaGreatDoor
namespace Go.Proofs.YtpfmmfapdcbnkaaGreatDoor
set_option maxRecDepth 20000
open Go.RowKit Go.Deep
set_option linter.unusedVariables false
theorem recs_mem {p n b s m u : Int} {sz : Nat} {bs : List Bk} {ex : Nat} {r : Rc} (h : r ∈ OM.recs p n b s m u sz bs ex) : r.p = p ∧ r.n = n := by
  unfold OM.recs OM.recsTo OM.blkTo at h
  obtain ⟨i, _, h⟩ := List.mem_flatMap.1 h
  obtain ⟨e, _, rfl⟩ := List.mem_map.1 h
  exact ⟨rfl, rfl⟩
theorem msame_walk (b s m : Int) (v ve : Value) (xs : List Nat) (es : List Int) (blk esi p n op on : Int) (w : World) (hT : Tab w) (hv : U8s w v xs) (he : Ints w ve es) :
    Calls Tryz.prog 4 #[PV b s m, v, ve, .int .i64 blk, .int .i64 esi, .agg #[.int .i64 p, .int .i64 n], .agg #[.int .i64 op, .int .i64 on]] w fun e w' => e = .returned (.bool true) ∧ w.Extends w' := by
  by_cases hR : CM.Right b s m
  case neg =>
    obtain ⟨sm, hsm⟩ := small13_any b s m w
    rcases asked13_new b s m xs hv.lt with ⟨er, h0, _, _, h2⟩ | ⟨S, L, bs, rfl, hR2, _⟩
    · exact msame_main b s m v ve xs es blk esi p n op on w hT hv he sm false hsm (fun w => rright_no b s m w hR) 0 (fun h => by cases h) er (fun _ _ => False) (fun v w hv => (h2 v w hv).mono fun e w' h => objOr_no _ (by omega) h) (fun _ _ h => by cases h)
    · exact absurd hR2 hR
  obtain ⟨B, S, M, rfl, rfl, rfl⟩ := right_nat hR
  have hbl := fun w => rblocks_yes B S M w hR
  have hsm := small13_is B S M (CM.bl B S M : Nat) hbl
  rcases asked13_new B S M xs hv.lt with ⟨er, h0, _, _, h2⟩ | ⟨S', L, bs, e2, _, hx, hLe, hL, hB, h1, h2⟩
  · exact msame_main B S M v ve xs es blk esi p n op on w hT hv he _ true hsm (fun w => rright_yes B S M w hR) (CM.bl B S M) (fun _ => hbl) er (fun _ _ => False) (fun v w hv => (h2 v w hv).mono fun e w' h => objOr_no _ (by omega) h) (fun h => absurd h (by omega))
  obtain rfl : S' = S := by omega
  obtain rfl : B = xs.length := by omega
  rw [Int.toNat_natCast] at hLe
  obtain ⟨g1, g2, g3, g4, g5, g6⟩ := CM.right_of hR
  have hLl : L.length = CM.bl xs.length S' M := by rw [hLe, CM.cut_length]
  refine msame_main xs.length S' M v ve xs es blk esi p n op on w hT hv he _ true hsm (fun w => rright_yes xs.length S' M w hR) (CM.bl xs.length S' M) (fun _ => hbl) (if bs.length = L.length then 0 else 5) (fun w o => OV (RLook S') w o xs.length S' M bs) (fun v w hv => (h2 v w hv).mono fun e w' h => objOr_new (by decide) h) (fun h0 hsmall _ _ h60 hne hb0 hbn hesi => ?_)
  have hfu : bs.length = L.length := by
    by_cases h : bs.length = L.length
    · exact h
    · rw [if_neg h] at h0; cases h0
  have hsml := of_decide_eq_true hsmall
  have hn20 : CM.bl xs.length S' M ≤ 20 := by have := hsml.2.2; omega
  obtain ⟨bn, rfl⟩ : ∃ bn : Nat, blk = bn := ⟨blk.toNat, by omega⟩
  have hfull : bs.length = CM.bl xs.length S' M := by omega
  have hB' : Bks (S' : Nat) S' (CM.cut xs.length S' M xs) bs 5 := by rw [← hLe]; exact hB
  have hk : ∀ c, c < CM.bl xs.length S' M → CM.kk xs.length S' M c = (bs.getD c Bk.zero).k := fun c hc => by
    have := (hB.yes c (by omega)).hk
    rw [hLe, ((CM.cut_fit xs.length S' M xs).2 c (by rw [CM.cut_length]; exact hc)).1] at this
    exact this
  have hcnt : ∀ i, OM.cnt bs 0 i ≤ 140 := fun i => by
    unfold OM.cnt
    by_cases hi : i < bs.length
    · rw [if_pos hi]; have := (hB.yes i hi).k2; omega
    · rw [if_neg hi]; omega
  have hRL : (OM.recs op on xs.length S' M 9 S' bs 0).length ≤ 2800 := by
    have h := OM.recsTo_length (OM.rec1 op on xs.length S' M 9 S' bs) (OM.cnt bs 0) hcnt bs.length
    unfold OM.recs
    have : bs.length * 140 ≤ 20 * 140 := Nat.mul_le_mul_right 140 (by omega)
    omega
  have hmul : CM.bl xs.length S' M * es.length ≤ 20 * 60 := Nat.mul_le_mul hn20 h60
  have hksl : (ksOf es).length = es.length := by simp [ksOf]
  have hok : ∀ e ∈ ksOf es, EsiOk e := fun e he => by
    unfold ksOf at he
    obtain ⟨x, _, rfl⟩ := List.mem_map.1 he
    exact ⟨by omega, by omega⟩
  have hback : ∀ others : List Rc, others.length = (OM.recs op on xs.length S' M 9 S' bs 0).length → (∀ r ∈ others, ¬ (r.p = p ∧ r.n = n)) → _ := fun others hol ho =>
    fresh_back S' M xs hR bs hfull hB' (fun v w hv hT => (h1 v w hv hT).mono fun e w' h => h.1 hfu) p n bn (by omega) esi hesi (ksOf es) (by rw [hksl]; exact h60) hok others ho (by rw [List.length_append, MS.got_length, hksl, hol]; omega)
  refine ⟨S', bsym S' bs, bfull bs (ksOf es), fun c => (bs.getD c Bk.zero).k, OM.recs op on xs.length S' M 9 S' bs 0, ⟨⟨rfl, g4⟩, by omega, by omega, fun r hr => recs_mem hr, hne, fun w w' o h hx => h.ext (rLooks S') hx, fun o w ho => rorecs_own xs.length S' M op on 0 9 o _ bs S' 0 5 w (.inr (.inl ⟨by omega, by omega, rfl⟩)) (by omega) hB ho,
    fun c hc e he o w ho => ?_, fun c hc w => ?_, fun c hc v w hv => ?_, fun others hol ho hall v w hT hv => ?_, fun others hol ho hall v w hT hv => ?_⟩⟩
  · have h := rosym_any xs.length S' M o L bs S' 5 c e w hB ho
    obtain ⟨e1, e2⟩ := sy_bsym (S := S') (bs := bs) (c := c) (e := e) (by omega) he
    rw [e1, e2] at h
    exact h
  · rw [← hk c hc]; exact rk_in _ _ _ c w hR hc
  · have h := hB.yes c (by omega)
    exact renough_yes _ _ v (ksOf es) w h.k1 h.k2 (by omega) hv h.seed fun i hi => hok _ (by rw [List.getD_eq_getElem?_getD, List.getElem?_eq_getElem hi]; exact List.getElem_mem hi)
  · have h := (hback others hol ho).1 hall v w hT hv
    rw [Int.toNat_natCast]
    exact h
  · exact (hback others hol ho).2 hall v w hT hv
theorem MintSame_walk (b s m : Int) (v : Value) (xs : List Nat) (ve : Value) (es : List Int) (blk esi p n op on : Int) (w : World) (hs : (Lit.int .i64 b).wf = true ∧ (Lit.int .i64 s).wf = true ∧ (Lit.int .i64 m).wf = true) (hv : U8s w v xs) (he : Ints w ve es ∧ ∀ y ∈ es, -9223372036854775808 ≤ y ∧ y ≤ 9223372036854775807)
    (h1 : -9223372036854775808 ≤ blk ∧ blk ≤ 9223372036854775807) (h2 : -9223372036854775808 ≤ esi ∧ esi ≤ 9223372036854775807) (h3 : (Lit.int .i64 p).wf = true ∧ (Lit.int .i64 n).wf = true) (h4 : (Lit.int .i64 op).wf = true ∧ (Lit.int .i64 on).wf = true) (hT : Tab w) :
    Calls Tryz.prog 4 #[PV b s m, v, ve, .int .i64 blk, .int .i64 esi, .agg #[.int .i64 p, .int .i64 n], .agg #[.int .i64 op, .int .i64 on]] w fun e w' => e = .returned (.bool true) ∧ Below w.heap.size w w' :=
  (msame_walk b s m v ve xs es blk esi p n op on w hT hv he.1).mono fun _ _ h => ⟨h.1, Gr.below_of h.2⟩
end Go.Proofs.YtpfmmfapdcbnkaaGreatDoor
