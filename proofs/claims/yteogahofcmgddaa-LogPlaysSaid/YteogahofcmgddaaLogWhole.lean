/- The reference's log: whole, All, Crash. -/
import Derived.Test.YteogahofcmgddaaLogRef
import Derived.Test.YteogahofcmgddaaCutS
import Derived.Test.YteogahofcmgddaaRecCur
import Derived.Deep.DeepCutAuto
namespace Go.Proofs.Yteogahofcmgddaa
set_option maxRecDepth 20000
open Go.RowKit Go.Deep
set_option linter.unusedVariables false
theorem owns_rok {w : World} {B n : Nat} {u : Value} {xs : List Nat} (h : w.ownsRow B 5 1 u n (u8vs xs)) (hlt : ∀ x ∈ xs, x < 256) : RowOk w 0 u xs := by
  refine ⟨owns_u8s h hlt, ?_⟩
  rcases h.2 with ⟨rfl, rfl⟩ | ⟨g, cap, cur, rfl, hbg, hg, _⟩
  · refine .inl ?_
    have := h.1
    rw [u8vs_length] at this
    exact List.eq_nil_of_length_eq_zero (by omega)
  · refine .inr fun g' hg' => ?_
    simp only [Value.ownBlock, Option.some.injEq] at hg'
    subst hg'
    exact ⟨(Array.getElem?_eq_some_iff.1 hg).1, .inr ⟨cur, hg⟩⟩
theorem grown_none {w w' : World} (h : w.grownBy w' none) : w.Extends w' := ext_below ⟨h.os, h.tape, h.output, h.size, fun i hi => h.block i hi (by simp)⟩ rfl
/-- How many bytes the whole pieces have, and these. -/
def WholeOut (w : World) (l : List (List Nat)) (e : Ending) (w' : World) : Prop := ∃ v, e = .returned (.tuple #[.int .i64 ((LM.size l : Nat) : Int), v]) ∧ Rws w' v l ∧ w.Extends w'
set_option maxHeartbeats 2000000 in
theorem whole15_any (v : Value) (l : List (List Nat)) (m : Nat) (w : World) (hu : U8s w v ((LM.spell l).take m)) (hm : m ≤ LM.size l) (hf : LM.Fine l) (hz : m ≤ 1000000000) :
    Calls Try.prog 20 #[v] w (WholeOut w (LM.upto m l)) := by
  have hbl : ((LM.spell l).take m).length = m := by rw [List.length_take, LM.spell_length]; omega
  obtain ⟨a, c, rfl, _, _⟩ := hu.slice
  rw [hbl] at hu ⊢
  have HU := Lib.hid hu
  have HUC := Lib.hid hu.cell.2
  have HF := Lib.hid hf
  have HM := Lib.hid hm
  have HBL := Lib.hid hbl
  obtain ⟨iu, hiu, hu0, hu1, hu2⟩ := info_parts byteinfo
  have HI := Lib.hid hiu
  have HZ0 := Lib.hid hu0
  have HZ1 := Lib.hid hu1
  have HZ2 := Lib.hid hu2
  obtain ⟨i1, hi', hz0', hz1', hz2'⟩ := info_parts bytesinfo
  have HI' := Lib.hid hi'
  have HZ0' := Lib.hid hz0'
  have HZ1' := Lib.hid hz1'
  have HZ2' := Lib.hid hz2'
  clear hu hm hf hbl hiu hu0 hu1 hu2 hi' hz0' hz1' hz2'
  go_enter Try.func20, Try.ntmps20
  go_wp2_with fail
  go_loopw [4, 5] (fun s4 s5 wr => ∃ (done rest : List (List Nat)) (n dn : Nat), Hid (l = done ++ rest) ∧ s4 = .int .i64 ((n : Nat) : Int) ∧ Hid (n = LM.size done) ∧ n ≤ m ∧ Hid (LM.upto m l = done ++ LM.upto (m - n) rest) ∧ Hid (w.Extends wr) ∧ Hid (Mats wr w.heap.size 0 29 s5 dn done) ∧ Hid (dn = done.length) ∧ dn ≤ n) (fun s4 _ _ => m - (intOf s4).toNat)
  case atStart => exact ⟨[], l, 0, 0, rfl, by rfl, rfl, by omega, rfl, Gr.ext_refl _, Mats.nil _ _ _ _ _, rfl, by omega⟩
  case round =>
    obtain ⟨done, rest, n, dn, HL, rfl, HN, hnm, HUP, HX, HMT, HDN, hdn⟩ := hrel
    -- where it ends
    have HEND : Hid (LM.upto (m - n) rest = [] → WholeOut w (LM.upto m l) (.returned (.tuple #[.int .i64 ((n : Nat) : Int), u5])) wr) := fun e => by
      have h1 := HUP.out
      rw [e, List.append_nil] at h1
      refine ⟨u5, by rw [h1, HN.out], ?_, HX.out⟩
      rw [h1]
      exact HMT.out.rws HDN.out
    by_cases h2 : m - n < 2
    · have HP : Hid (WholeOut w (LM.upto m l) (.returned (.tuple #[.int .i64 ((n : Nat) : Int), u5])) wr) := HEND.out (LM.upto_few h2)
      clear HEND
      go_wp2
      go_returns
      exact HP.out
    · obtain ⟨p, rest', hrest⟩ : ∃ p rest', rest = p :: rest' := by
        cases rest with
        | nil =>
          have h1 := HM.out
          rw [HL.out, LM.size_append, ← HN.out] at h1
          simp only [LM.size] at h1
          omega
        | cons p r => exact ⟨p, r, rfl⟩
      subst hrest
      have hp := HF.out p (by rw [HL.out]; simp)
      have HPL := Lib.hid hp.2
      obtain ⟨q, hq⟩ : ∃ q, q = p.length := ⟨_, rfl⟩
      have hq2 : q ≤ 65535 := by rw [hq]; exact hp.1
      have hnum := LM.at_num (done := done) (rest := rest') (p := p) (m := m) hp.1 (by rw [← HN.out]; omega)
      rw [← HL.out, ← HN.out, ← hq] at hnum
      obtain ⟨b, off, rfl, hb, hcell⟩ := HUC.out (by omega)
      have hc0 := hcell n (by omega)
      have hc1 := hcell (n + 1) (by omega)
      rw [hnum.1] at hc0
      rw [hnum.2] at hc1
      obtain ⟨hi, hhi⟩ : ∃ hi, hi = q / 256 := ⟨_, rfl⟩
      obtain ⟨lo, hlo⟩ : ∃ lo, lo = q % 256 := ⟨_, rfl⟩
      rw [← hhi] at hc0
      rw [← hlo] at hc1
      have hsum : hi * 256 + lo = q := by omega
      have hhi2 : hi < 256 := by omega
      have hn0 : n < m := by omega
      have hn1 : n + 1 < m := by omega
      have hw1 : IntKind.i64.wrap ((n : Int) + 1) = ((n + 1 : Nat) : Int) := by rw [IntKind.wrap_i64]; omega
      have hlo2 : lo < 256 := by omega
      have hor := i64_or_byte hi lo (by omega) hlo2
      rw [hsum] at hor
      have hn2 : (0 : Int) ≤ (n : Int) + 1 := by omega
      have hn3 : (n : Int) + 1 < (m : Int) := by omega
      have hw2 : IntKind.i64.wrap ((hi : Nat) : Int) = ((hi : Nat) : Int) := by rw [IntKind.wrap_i64]; omega
      have hw3 : IntKind.i64.wrap ((lo : Nat) : Int) = ((lo : Nat) : Int) := by rw [IntKind.wrap_i64]; omega
      have hw4 : IntKind.i64.wrap (((hi : Nat) : Int) * 256) = ((hi : Nat) : Int) * 256 := by rw [IntKind.wrap_i64]; omega
      have HC : Hid (∀ w', wr.drew.Extends w' → w'.cell? ⟨b, off + n, none⟩ = some (.int .u8 ((hi : Nat) : Int)) ∧ w'.cell? ⟨b, off + (n + 1), none⟩ = some (.int .u8 ((lo : Nat) : Int))) := fun w' hw' =>
        ⟨(Gr.ext_trans HX.out (Gr.of_drew hw')).cell_of hc0, (Gr.ext_trans HX.out (Gr.of_drew hw')).cell_of hc1⟩
      have HXD : Hid (w.Extends wr.drew) := Gr.ext_trans HX.out (Gr.ext_drew (Gr.ext_refl _))
      have HMD : Hid (Mats wr.drew w.heap.size 0 29 u5 dn done) := HMT.out.ext (Gr.ext_drew (Gr.ext_refl _))
      have HQ := Lib.hid hq
      clear hc0 hc1 hcell hnum hp hhi hlo hq hsum HX HMT
      have HENDD : Hid (m - n < 2 + q → WholeOut w (LM.upto m l) (.returned (.tuple #[.int .i64 ((n : Nat) : Int), u5])) wr.drew) := fun e => by
        obtain ⟨v, h1, h2, h3⟩ := HEND.out (LM.upto_stop (by rw [← HQ.out]; exact e))
        exact ⟨v, h1, h2.drew, Gr.ext_trans h3 (Gr.ext_drew (Gr.ext_refl _))⟩
      clear HEND
      go_wp2_with fail
      refine Gr.region 13 [(false,0),(false,1),(false,2),(false,3),(false,4),(false,5),(false,6),(false,7),(false,8),(false,9),(false,10),(false,11),(false,12)] (by kernel_rfl) (by kernel_rfl) (fun d _ _ _ _ h => by cases d <;> exact h) ?_
      simp only [Gr.pick, List.getElem?_cons_zero, List.getElem?_cons_succ, List.drop_succ_cons, List.drop_zero]
      generalize wr.drew = wd at *
      iterate 13
        refine Gr.walk_t ?_ (Or.inl ⟨by rfl, ?_⟩) ?_
        rotate_left
        · intro w' hw'
          obtain ⟨hc0, hc1⟩ := HC.out w' hw'
          clear hw'
          go_simp
          try with_reducible rfl
        simp only [Act.put, List.setIfInBounds_toArray, List.set_cons_zero, List.set_cons_succ]
      refine Gr.walk_nil ?_
      by_cases h3 : m - n < 2 + q
      · have HP := Lib.hid (HENDD.out h3)
        clear HENDD HC
        go_wp2
        go_returns
        exact HP.out
      · obtain ⟨a2, c2, hsl, hup⟩ := cut_part HU.out (n + 2) (n + 2 + q) (by omega) (by rw [HBL.out]; omega)
        have hpe := LM.at_piece (done := done) (rest := rest') (p := p) (m := m) (by rw [← HN.out, ← HQ.out]; omega)
        rw [← HL.out, ← HN.out, ← HQ.out] at hpe
        rw [hpe, show n + 2 + q - (n + 2) = q by omega] at hup
        rw [show n + 2 + q - (n + 2) = q by omega] at hsl
        have HSL := Lib.hid hsl
        have HUP2 := Lib.hid hup
        have hbs := HXD.out.size
        clear hsl hup hpe HENDD HC
        go_wp2_with (first | refine wpList_slice rfl 29 (.tmp 33) (some (.tmp 35)) (some (.tmp 39)) rfl elemBytes _ _ _ rfl rfl rfl (HSL.out _) ?_ | at_builtin; refine wpList_append_own_src _ rfl _ _ 29 29 rfl wd.heap.size 5 iu (.int .u8 0) 1 1 Try.underlying29 HI.out HZ0.out HZ1.out HZ2.out rfl _ _ _ rfl (World.ownsRow_nil _ _ _ _) _ q (u8vs p) rfl (by have h := (HUP2.out.ext HXD.out).src (P := Try.prog) (tx := 29) Try.underlying29; rw [← HQ.out] at h; exact h) (by unfold maxLen; omega) (by omega) (Nat.le_refl _) ?_)
        intro v2 w2 ho2 hg2 _
        obtain ⟨a3, c3, rfl⟩ := owns_slice ho2
        have hx2 : wd.Extends w2 := grown_none hg2
        have HOK : Hid (RowOk w2 0 (.slice a3 q c3) p) := owns_rok ho2 HPL.out
        have HX2 : Hid (w.Extends w2) := Gr.ext_trans HXD.out hx2
        obtain ⟨vs, hown, hrows⟩ := HMD.out.ext hx2
        have HOWN := Lib.hid hown
        have HROWS := Lib.hid hrows
        have HOB : Hid (∀ g, u5.ownBlock = some g → w.heap.size ≤ g) := fun g hg => (HOWN.out.lt g hg).1
        have hbs2 := HX2.out.size
        clear ho2 hg2 hx2 hown hrows HMD HXD HU HUP2 hbs
        go_wp2_with (at_builtin; refine wpList_append_own_src _ rfl _ _ 40 40 rfl w.heap.size 29 i1 (.slice none 0 0) 1 24 Try.underlying40 HI'.out HZ0'.out HZ1'.out HZ2'.out rfl _ _ _ rfl (HOWN.out.alloc _) _ 1 [.slice a3 q c3] rfl (src_one Try.underlying40 _ _ rfl rfl) (by unfold maxLen; omega) (by omega) (by simp; omega) ?_)
        intro v' w3 ho3 hg3 _
        have HP : Hid (w.Extends w3 ∧ Mats w3 w.heap.size 0 29 v' (dn + 1) (done ++ [p])) := by
          refine ⟨Gr.ext_of (((Gr.below_of HX2.out).alloc hbs2 _).grown hg3 (by simp; omega) HOB.out), ?_⟩
          exact Mats.snoc (Nat.zero_le _) (by decide) HDN.out (HOWN.out.alloc _) (fun j hj => by obtain ⟨u, h1, h2⟩ := HROWS.out j hj; exact ⟨u, h1, h2.ext (ext_alloc _ _)⟩) (HOK.out.ext (ext_alloc _ _)) hg3 ho3
        clear ho3 hg3
        have HNN : Hid (n + 2 + q = LM.size (done ++ [p])) := by rw [LM.size_snoc, ← HN.out, ← HQ.out]; rfl
        have HUN : Hid (LM.upto m l = (done ++ [p]) ++ LM.upto (m - (n + 2 + q)) rest') := by
          rw [HNN.out, ← LM.upto_next (by rw [← HN.out, ← HQ.out]; omega), ← HN.out]
          exact HUP.out
        go_wp2
        go_roundw
        case rel => exact ⟨done ++ [p], rest', n + 2 + q, dn + 1, Lib.hid (by rw [HL.out, List.append_assoc]; rfl), by go_num, HNN, by omega, HUN, Lib.hid HP.out.1, Lib.hid HP.out.2, Lib.hid (by rw [List.length_append, ← HDN.out]; rfl), by omega⟩
        case measure => simp [intOf]; omega
end Go.Proofs.Yteogahofcmgddaa
