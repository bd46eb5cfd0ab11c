/- Package log: Crash. -/
import Derived.Test.YteogahofcmgddaaLogReal
import Derived.Deep.DeepCutAuto
namespace Go.Proofs.Yteogahofcmgddaa
set_option maxRecDepth 20000
open Go.RowKit Go.Deep
set_option linter.unusedVariables false
/-- How many bytes the log at block t says that it has. -/
def logLen (w : World) (t : Nat) : Nat :=
  match w.cell? ⟨t, 0, none⟩ with
  | some (.pointer (some ⟨k, _, _⟩)) => match w.cell? ⟨k, 2, none⟩ with
    | some (.int _ n) => n.toNat
    | _ => 0
  | _ => 0
theorem LAt.logLen {w : World} {t s : Nat} {l : List (List Nat)} (h : LAt w t l s) : logLen w t = LM.size l := by
  obtain ⟨p, h0, h1, f0, f1, hc, hf, hb⟩ := h.cells
  have hz := LM.size_reverse l
  unfold Go.Proofs.Yteogahofcmgddaa.logLen
  rw [h0]
  cases hr : l.reverse with
  | nil =>
    rw [hr] at hc hz
    have hp : p = none := hc
    subst hp
    exact hz
  | cons x r =>
    rw [hr] at hc hz
    obtain ⟨k, q, hp, c0, c1, c2, hc2⟩ := hc.cells
    subst hp
    simp only [c2]
    rw [hz]; rfl
theorem crash15_any (t s : Nat) (l : List (List Nat)) (keep : Int) (w : World) (h : LAt w t l s) (hs : s ≤ LM.size l) (hz : LM.size l ≤ 1000000000) (hk : -9223372036854775808 ≤ keep ∧ keep ≤ 9223372036854775807) :
    Calls Try.prog 12 #[.pointer (some ⟨t, 0, none⟩), .int .i64 keep] w fun e w' => e = .returned (.tuple #[]) ∧ LAt w' t (LM.upto (LM.keep s keep (LM.size l)) l) (LM.size (LM.upto (LM.keep s keep (LM.size l)) l)) ∧ w.grownBy w' (some t) := by
  obtain ⟨p, h0, h1, f0, f1, hc, hf, hb⟩ := h.cells
  have HA : Hid (LAt w.drew t l s) := h.ext (Gr.ext_drew (Gr.ext_refl w))
  have HC : Hid (∀ w', w.drew.Extends w' → w'.cell? ⟨t, 1, none⟩ = some (.int .i64 ((s : Nat) : Int))) := fun w' hw' => (Gr.of_drew hw').cell_of h1
  have HG : Hid (w.grownBy w.drew (some t)) := grown_drew (grown_refl _ _)
  obtain ⟨m, hm⟩ : ∃ m, m = LM.keep s keep (LM.size l) := ⟨_, rfl⟩
  rw [← hm]
  have HM : Hid (m = s + min keep.toNat (LM.size l - s)) := hm
  obtain ⟨z, hzz⟩ : ∃ z, z = LM.size l := ⟨_, rfl⟩
  have HLEN : Hid (∀ w', LAt w' t l s → Calls Try.prog 17 #[.pointer (some ⟨t, 0, none⟩)] w' fun e w2 => e = .returned (.int .i64 ((z : Nat) : Int)) ∧ w' = w2) := fun w' h' => by rw [hzz]; exact len15_any t s l w' h'
  rw [← hzz] at HM hs hz
  have HZ := Lib.hid hzz
  clear h0 h1 f0 f1 hc hf hb h hm hzz
  have HNEXT : Hid (∀ (wr : World) (c : List (List Nat)) (x : List Nat), LAt wr t (c ++ [x]) s → ∃ k q, wr.cell? ⟨t, 0, none⟩ = some (.pointer (some ⟨k, 0, none⟩)) ∧ wr.cell? ⟨k, 0, none⟩ = some (.pointer q) ∧ wr.frozen? ⟨t, 0, none⟩ = false ∧ ∀ w2, w2 = wr.setCell ⟨t, 0, none⟩ (.pointer q) → LAt w2 t c s ∧ wr.grownBy w2 (some t)) := fun wr c x hw => by
    obtain ⟨p, h0, h1, f0, f1, hc, hf, hb⟩ := hw.cells
    rw [List.reverse_append] at hc
    obtain ⟨k, q, hp, c0, c1, c2, hc2⟩ := Chain.cells (x := x) (r := c.reverse) hc
    subst hp
    exact ⟨k, q, h0, c0, f0, fun w2 e => LAt.pop hb hc2 hf.left e⟩
  go_enter Try.func12, Try.ntmps12
  go_upto_region 1 with fail
  obtain ⟨wd, hwd⟩ : ∃ x, x = w.drew := ⟨_, rfl⟩
  rw [← hwd] at HA HC HG
  go_cut [4] (fun s4 wx => s4 = .int .i64 ((m : Nat) : Int) ∧ wd = wx)
  case first =>
    refine Gr.region 15 [(false,0),(false,1),(false,2),(false,3),(false,4),(false,5),(false,6),(false,8),(false,9),(false,10),(false,11),(true,7),(false,12),(false,13),(false,14)] (by kernel_rfl) (by kernel_rfl) (fun d _ _ _ _ h => by cases d <;> exact h) ?_
    simp only [Gr.pick, List.getElem?_cons_zero, List.getElem?_cons_succ, List.drop_succ_cons, List.drop_zero]
    rw [← hwd]
    clear hwd
    iterate 11
      refine Gr.walk_t ?_ (Or.inl ⟨by rfl, ?_⟩) ?_
      rotate_left
      · intro w' hw'
        have hc0 := HC.out w' hw'
        clear hw'
        go_simp
        try with_reducible rfl
      simp only [Act.put, List.setIfInBounds_toArray, List.set_cons_zero, List.set_cons_succ]
    refine Gr.walk_c (fun K hK => ?_)
    go_simp
    refine (HLEN.out wd HA.out).mono ?_
    rintro e w2 ⟨rfl, rfl⟩
    try go_simp
    refine hK.out _ _ ((Gr.ext_refl _)) ?_
    clear hK K
    iterate 3
      refine Gr.walk_t ?_ (Or.inl ⟨by rfl, ?_⟩) ?_
      rotate_left
      · intro w' hw'
        clear hw'
        go_simp
        try with_reducible rfl
      simp only [Act.put, List.setIfInBounds_toArray, List.set_cons_zero, List.set_cons_succ]
    refine Gr.walk_nil ?_
    go_wp2_with fail
    all_goals
      go_meet
      refine ⟨?_, rfl⟩
      have hm := HM.out
      rw [hm]
      refine congrArg (Value.int .i64) ?_
      have hzs : IntKind.i64.wrap ((z : Int) - (s : Int)) = (z : Int) - (s : Int) := by rw [IntKind.wrap_i64]; omega
      generalize IntKind.i64.wrap ((z : Int) - (s : Int)) = q at *
      rw [IntKind.wrap_i64]
      omega
  obtain ⟨rfl, rfl⟩ := hcut
  clear hwd HC
  have hm0 := HM.out
  have hmz : m ≤ z := by omega
  clear hm0 HM HLEN
  go_wp2_with fail
  go_loopw [] (fun wr => ∃ cur, Hid (LAt wr t cur s) ∧ Hid (LM.upto m cur = LM.upto m l) ∧ Hid (w.grownBy wr (some t)) ∧ LM.size cur ≤ z) (fun wr => logLen wr t)
  case atStart => exact ⟨l, HA, Lib.hid rfl, HG, Nat.le_of_eq HZ.out.symm⟩
  case round =>
    obtain ⟨cur, HA1, HU, HG1, hcz⟩ := hrel
    have hlog := HA1.out.logLen
    obtain ⟨y, hy⟩ : ∃ y, y = LM.size cur := ⟨_, rfl⟩
    have HLEN : Hid (Calls Try.prog 17 #[.pointer (some ⟨t, 0, none⟩)] wr fun e w2 => e = .returned (.int .i64 ((y : Nat) : Int)) ∧ wr = w2) := by rw [hy]; exact len15_any t s cur wr HA1.out
    rw [← hy] at hlog hcz
    have HY := Lib.hid hy
    have HLOG := Lib.hid hlog
    clear hy hlog HA HG
    go_wp2_with fail
    refine HLEN.out.mono ?_
    rintro e w2 ⟨rfl, rfl⟩
    clear HLEN
    by_cases h : m < y
    · obtain ⟨c, x, hcx⟩ : ∃ c x, cur = c ++ [x] := by
        rcases List.eq_nil_or_concat cur with e | ⟨c, x, e⟩
        · rw [e] at HY
          have := HY.out
          simp only [LM.size] at this
          omega
        · exact ⟨c, x, by simpa using e⟩
      subst hcx
      obtain ⟨k, q, c0, c1, f0, hpop⟩ := HNEXT.out wr c x HA1.out
      have HPOP := Lib.hid hpop
      have HUN : Hid (LM.upto m c = LM.upto m l) := by
        have h1 := HU.out
        rwa [LM.upto_snoc (by rw [← HY.out]; exact h)] at h1
      have HCY : Hid (LM.size c < y) := by
        have h1 := HY.out
        rw [LM.size_snoc] at h1
        show _ < _; omega
      clear hpop HA1 HU
      go_wp2
      go_roundw
      case rel => exact ⟨c, Lib.hid (HPOP.out _ rfl).1, HUN, Lib.hid (grown_trans HG1.out (HPOP.out _ rfl).2), by have := HCY.out; omega⟩
      case measure =>
        rw [HLOG.out, (HPOP.out _ rfl).1.logLen]
        exact HCY.out
    · have HE : Hid (cur = LM.upto m l) := by
        have h1 := HU.out
        rwa [LM.upto_all (by have := HY.out; omega)] at h1
      go_wp2_with fail
      refine (sure15_any t s cur wr HA1.out).mono ?_
      rintro e w2 ⟨rfl, hl2, hg2⟩
      have HP : Hid (LAt w2 t (LM.upto m l) (LM.size (LM.upto m l)) ∧ w.grownBy w2 (some t)) := by
        rw [← HE.out]
        exact ⟨hl2, grown_trans HG1.out hg2⟩
      clear hl2 hg2
      go_wp2
      go_end0
      exact ⟨rfl, HP.out⟩
end Go.Proofs.Yteogahofcmgddaa
