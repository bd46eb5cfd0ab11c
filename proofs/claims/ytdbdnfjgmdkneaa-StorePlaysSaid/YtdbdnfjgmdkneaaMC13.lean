/- In one text: StoComp, StoGet, StoIds, PutOwn, LogRef. -/
import Derived.Deep.DeepCutAuto
import Derived.WalkKit
import Derived.IntWalk
import Derived.Test.YtdbdnfjgmdkneaaMC2
import Derived.Test.YtdbdnfjgmdkneaaMC3
import Derived.Test.YtdbdnfjgmdkneaaMC6
import Derived.Test.YtdbdnfjgmdkneaaMC7
import Derived.Test.YtdbdnfjgmdkneaaMC8
import Derived.Test.YtdbdnfjgmdkneaaMC12
namespace Go.Proofs.Ytdbdnfjgmdkneaa
set_option maxRecDepth 20000
open Go.RowKit Go.Deep Go.Maps
set_option linter.unusedVariables false
def CompOut (w : World) (B : Nat) (v : Value) (l : List Ip) (e : Ending) (w' : World) : Prop := ∃ a c, e = .returned (.slice a (SM.comp l).length c) ∧ OwnI w' B (.slice a (SM.comp l).length c) (SM.comp l) ∧ w.grownBy w' v.ownBlock
theorem comp_few {l : List Ip} (h : ∀ j, 0 < j → j < l.length → l.getD j zi ≠ l.getD (j - 1) zi) : SM.comp l = l := by
  unfold SM.comp
  rw [SM.dd_first l.length (Nat.le_refl _) h, List.take_length]
theorem dd_same {l : List Ip} {k : Nat} (h0 : 0 < k) (h : l.getD k zi = l.getD (k - 1) zi) : SM.dd l (k + 1) = SM.dd l k := by
  rw [SM.dd, if_neg]
  rintro (h1 | h1)
  · omega
  · exact h1 h
theorem dd_new {l : List Ip} {k : Nat} (h : l.getD k zi ≠ l.getD (k - 1) zi) : SM.dd l (k + 1) = SM.dd l k ++ [l.getD k zi] := by
  rw [SM.dd, if_pos (.inr h)]
set_option maxHeartbeats 4000000 in
theorem compact_any (B g cap n : Nat) (l : List Ip) (w : World) (hv : OwnI w B (.slice (some ⟨g, 0, none⟩) n cap) l) (hl : n ≤ 1000) :
    Calls Try.prog 77 #[.slice (some ⟨g, 0, none⟩) n cap] w (CompOut w B (.slice (some ⟨g, 0, none⟩) n cap) l) := by
  obtain ⟨harr, hn, hB⟩ := hv.arr
  have HV := Lib.hid hv
  have HARR := Lib.hid harr
  have HN := Lib.hid hn
  have HB := Lib.hid hB
  have hnc : n ≤ cap ∧ cap ≤ 9223372036854775807 := by
    obtain ⟨cur, _, _, h3, h4, _⟩ := harr
    unfold maxLen at h4
    exact ⟨h3, by omega⟩
  have HFEW : Hid (∀ w', w.Extends w' → (∀ j, 0 < j → j < n → l.getD j zi ≠ l.getD (j - 1) zi) → CompOut w B (.slice (some ⟨g, 0, none⟩) n cap) l (.returned (.slice (some ⟨g, 0, none⟩) n cap)) w') := fun w' hx h => by
    have e := comp_few (l := l) (by rw [← HN.out]; exact h)
    refine ⟨some ⟨g, 0, none⟩, cap, by rw [e, ← HN.out], ?_, grown_below (Gr.below_of hx) (Nat.le_refl _)⟩
    rw [e, ← HN.out]
    exact HV.out.ext hx
  clear harr hn hB hv
  go_enter Try.func77, Try.ntmps77
  by_cases h2 : n < 2
  · have HP := Lib.hid (HFEW.out w (Gr.ext_refl w) (fun j h1 h3 => by omega))
    go_wp2
    go_ret
    exact HP.out
  go_wp2_with fail
  go_loopw [3] (fun s3 wr => ∃ k : Nat, 1 ≤ k ∧ k ≤ n ∧ s3 = .int .i64 k ∧ Hid (∀ j, 0 < j → j < k → l.getD j zi ≠ l.getD (j - 1) zi) ∧ Hid (w.Extends wr)) (fun s3 _ => n - (intOf s3).toNat)
  case atStart => exact ⟨1, by omega, by omega, rfl, Lib.hid (fun j h1 h3 => by omega), Lib.hid (Gr.ext_refl w)⟩
  case round =>
    obtain ⟨k, hk1, hk, rfl, HD, HX⟩ := hrel
    by_cases h1 : k < n
    · obtain ⟨q, hq⟩ : ∃ q, k = q + 1 := ⟨k - 1, by omega⟩
      have hwq : IntKind.i64.wrap ((k : Int) - 1) = (q : Int) := by rw [IntKind.wrap_i64]; omega
      have hqn : q < n := by omega
      have HQ := Lib.hid hq
      clear hq
      have HCE : Hid (∀ w', wr.Extends w' → (w'.cell? ⟨g, k * 2, none⟩ = some (.int .i64 (l.getD k zi).1) ∧ w'.cell? ⟨g, k * 2 + 1, none⟩ = some (.int .i64 (l.getD k zi).2)) ∧ (w'.cell? ⟨g, q * 2, none⟩ = some (.int .i64 (l.getD q zi).1) ∧ w'.cell? ⟨g, q * 2 + 1, none⟩ = some (.int .i64 (l.getD q zi).2))) := fun w' hx => ⟨(HARR.out.ext (Gr.ext_trans HX.out hx)).two h1, (HARR.out.ext (Gr.ext_trans HX.out hx)).two hqn⟩
      have HEK : Hid (l.getD k zi = l.getD (k - 1) zi ↔ (l.getD k zi).1 = (l.getD q zi).1 ∧ (l.getD k zi).2 = (l.getD q zi).2) := by
        have e : k - 1 = q := by have := HQ.out; omega
        rw [e]; exact Prod.ext_iff
      have HX1 := Lib.hid (Gr.ext_trans HX.out (Gr.ext_drew (Gr.ext_refl wr)))
      have HXD := Lib.hid (Gr.ext_drew (Gr.ext_refl wr))
      generalize (l.getD k zi).1 = ap at *
      generalize (l.getD k zi).2 = an at *
      generalize (l.getD q zi).1 = bp at *
      generalize (l.getD q zi).2 = bn at *
      go_wp2_with fail
      refine Gr.region 9 [(false,0),(false,1),(false,2),(false,3),(false,4),(false,5),(false,6),(false,7),(false,8)] (by kernel_rfl) (by kernel_rfl) (fun d _ _ _ _ h => by cases d <;> exact h) ?_
      simp only [Gr.pick, List.getElem?_cons_zero, List.getElem?_cons_succ, List.drop_succ_cons, List.drop_zero]
      generalize wr.drew = wd at *
      iterate 9
        refine Gr.walk_t ?_ (Or.inl ⟨by rfl, ?_⟩) ?_
        rotate_left
        · intro w' hw'
          obtain ⟨⟨c0, c1⟩, c2, c3⟩ := HCE.out w' (Gr.ext_trans HXD.out hw')
          clear hw'
          go_simp
          try with_reducible rfl
        simp only [Act.put, List.setIfInBounds_toArray, List.set_cons_zero, List.set_cons_succ]
      refine Gr.walk_nil ?_
      clear HCE
      by_cases heq : ap = bp ∧ an = bn
      · have hsame := HEK.out.2 heq
        have HDS : Hid (SM.dd l (k + 1) = SM.dd l k ∧ SM.dd l k = l.take k) := ⟨dd_same (by omega) hsame, SM.dd_first k (by have := HN.out; omega) HD.out⟩
        obtain ⟨rfl, rfl⟩ := heq
        clear HEK hsame
        have hcf := cuti_from g n cap k h1 hnc.1
        obtain ⟨m, hm⟩ : ∃ m, m = n - k := ⟨_, rfl⟩
        rw [← hm] at hcf
        have hm1 : 1 ≤ m := by omega
        have hm2 : m ≤ 1000 := by omega
        have hm3 : ¬ cap = 0 := by omega
        have HM : Hid (n = k + m) := by show _ = _; omega
        have hcc : cap - k ≤ 9223372036854775807 := by omega
        have hmc : m ≤ cap - k := by omega
        generalize cap - k = cp at *
        clear hm
        go_wp2_with fail
        go_loopw [3, 5] (fun s3 s5 wr => ∃ (i j : Nat) (f : Nat → Ip), 1 ≤ j ∧ j ≤ m ∧ i < k + j ∧ s3 = .int .i64 i ∧ s5 = .int .i64 j ∧ Hid (i = (SM.dd l (k + j)).length) ∧ Hid (Arr2 wr g cap n f) ∧ Hid (∀ x, x < i → f x = (SM.dd l (k + j)).getD x zi) ∧ Hid (∀ x, k + j - 1 ≤ x → x < n → f x = l.getD x zi) ∧ Hid (w.grownBy wr (some g))) (fun _ s5 _ => m - (intOf s5).toNat)
        case atStart =>
          refine ⟨k, 1, _, by omega, by omega, by omega, rfl, rfl, Lib.hid ?_, Lib.hid (HARR.out.ext HX1.out), Lib.hid (fun x hx => ?_), Lib.hid (fun x _ _ => rfl), Lib.hid (grown_below (Gr.below_of HX1.out) (Nat.le_refl _))⟩
          · rw [HDS.out.1, HDS.out.2, List.length_take]; have := HN.out; omega
          · rw [HDS.out.1, HDS.out.2, List.getD_eq_getElem?_getD (l := l.take k), List.getElem?_take, if_pos hx, ← List.getD_eq_getElem?_getD]
        case round =>
          clear HX HX1 HXD HDS HFEW hcf HARR
          obtain ⟨i, j, f, hj1, hj, hij, rfl, rfl, HI, HA, HF1, HF2, HG⟩ := hrel
          by_cases h3 : j < m
          · obtain ⟨p, hp⟩ : ∃ p, j = p + 1 := ⟨j - 1, by omega⟩
            have hwp : IntKind.i64.wrap ((j : Int) - 1) = (p : Int) := by rw [IntKind.wrap_i64]; omega
            have hpm : p < m := by omega
            have hin : i < n := by have := HM.out; omega
            have hj1000 : j ≤ 1000 := by omega
            have hi1000 : i ≤ 1000 := by omega
            have HP := Lib.hid hp
            have HIJ := Lib.hid hij
            clear hp
            have HCE : Hid (∀ w', wr.Extends w' → (w'.cell? ⟨g, k * 2 + j * 2, none⟩ = some (.int .i64 (l.getD (k + j) zi).1) ∧ w'.cell? ⟨g, k * 2 + j * 2 + 1, none⟩ = some (.int .i64 (l.getD (k + j) zi).2)) ∧ (w'.cell? ⟨g, k * 2 + p * 2, none⟩ = some (.int .i64 (l.getD (k + p) zi).1) ∧ w'.cell? ⟨g, k * 2 + p * 2 + 1, none⟩ = some (.int .i64 (l.getD (k + p) zi).2))) := fun w' hx => by
              have hmm := HM.out
              have hpp := HP.out
              have a1 := (HA.out.ext hx).two (k := k + j) (by omega)
              have a2 := (HA.out.ext hx).two (k := k + p) (by omega)
              rw [HF2.out (k + j) (by omega) (by omega), Nat.add_mul] at a1
              rw [HF2.out (k + p) (by omega) (by omega), Nat.add_mul] at a2
              exact ⟨a1, a2⟩
            have HEK : Hid (l.getD (k + j) zi = l.getD (k + j - 1) zi ↔ (l.getD (k + j) zi).1 = (l.getD (k + p) zi).1 ∧ (l.getD (k + j) zi).2 = (l.getD (k + p) zi).2) := by
              have e : k + j - 1 = k + p := by have := HP.out; omega
              rw [e]; exact Prod.ext_iff
            have HXD := Lib.hid (Gr.ext_drew (Gr.ext_refl wr))
            have HAD : Hid (Arr2 wr.drew g cap n f) := HA.out.ext (Gr.ext_drew (Gr.ext_refl wr))
            have HGD : Hid (w.grownBy wr.drew (some g)) := grown_trans HG.out (grown_below (Gr.below_of (Gr.ext_drew (Gr.ext_refl wr))) (Nat.le_refl _))
            have HPR : Hid (l.getD (k + j) zi = ((l.getD (k + j) zi).1, (l.getD (k + j) zi).2)) := rfl
            generalize (l.getD (k + j) zi).1 = xp at *
            generalize (l.getD (k + j) zi).2 = xn at *
            generalize (l.getD (k + p) zi).1 = yp at *
            generalize (l.getD (k + p) zi).2 = yn at *
            go_wp2_with fail
            refine Gr.region 9 [(false,0),(false,1),(false,2),(false,3),(false,4),(false,5),(false,6),(false,7),(false,8)] (by kernel_rfl) (by kernel_rfl) (fun d _ _ _ _ h => by cases d <;> exact h) ?_
            simp only [Gr.pick, List.getElem?_cons_zero, List.getElem?_cons_succ, List.drop_succ_cons, List.drop_zero]
            generalize wr.drew = wd at *
            iterate 9
              refine Gr.walk_t ?_ (Or.inl ⟨by rfl, ?_⟩) ?_
              rotate_left
              · intro w' hw'
                obtain ⟨⟨c0, c1⟩, c2, c3⟩ := HCE.out w' (Gr.ext_trans HXD.out hw')
                clear hw'
                go_simp
                try with_reducible rfl
              simp only [Act.put, List.setIfInBounds_toArray, List.set_cons_zero, List.set_cons_succ]
            refine Gr.walk_nil ?_
            by_cases heq : xp = yp ∧ xn = yn
            · have hd := dd_same (l := l) (k := k + j) (by omega) (HEK.out.2 heq)
              have HR : Hid (i = (SM.dd l (k + (j + 1))).length ∧ (∀ x, x < i → f x = (SM.dd l (k + (j + 1))).getD x zi)) := by
                rw [show k + (j + 1) = k + j + 1 by omega, hd]
                exact ⟨HI.out, HF1.out⟩
              obtain ⟨rfl, rfl⟩ := heq
              clear hd HEK HCE
              go_wp2
              go_roundw
              case rel => exact ⟨i, j + 1, f, by omega, by omega, by omega, rfl, by go_num, Lib.hid HR.out.1, HAD, Lib.hid HR.out.2, Lib.hid (fun x h4 h5 => HF2.out x (by omega) h5), HGD⟩
              case measure => simp [intOf]; omega
            · have hd := dd_new (l := l) (k := k + j) (fun e => heq (HEK.out.1 e))
              obtain ⟨⟨c0, c1⟩, c2, c3⟩ := HCE.out wd HXD.out
              have HD1 := Lib.hid hd
              clear hd HEK HCE c2 c3
              by_cases hpp : xp = yp
              · have hn2 : ¬ xn = yn := fun e => heq ⟨hpp, e⟩
                subst hpp
                clear heq
                go_wp2_with (refine wpList_store_id rfl 23 idsize _ _ rfl g (i * 2) i cap n f (xp, xn) rfl rfl rfl HAD.out hin ?_)
                intro w4 ha4 hg4
                have HR : Hid (Arr2 w4 g cap n (upi f i (xp, xn)) ∧ i + 1 = (SM.dd l (k + (j + 1))).length ∧ (∀ x, x < i + 1 → upi f i (xp, xn) x = (SM.dd l (k + (j + 1))).getD x zi) ∧ (∀ x, k + (j + 1) - 1 ≤ x → x < n → upi f i (xp, xn) x = l.getD x zi) ∧ w.grownBy w4 (some g)) := by
                  have hil := HI.out
                  rw [show k + (j + 1) = k + j + 1 by omega, HD1.out, HPR.out]
                  refine ⟨ha4, by rw [List.length_append, ← hil]; rfl, fun x hx => ?_, fun x h4 h5 => ?_, grown_trans HGD.out hg4⟩
                  · unfold upi
                    rw [List.getD_eq_getElem?_getD]
                    split
                    · rename_i e; subst e
                      rw [List.getElem?_append_right (by omega), hil]; simp
                    · rw [List.getElem?_append_left (by omega), ← List.getD_eq_getElem?_getD]
                      exact HF1.out x (by omega)
                  · unfold upi
                    have := HIJ.out
                    rw [if_neg (by omega)]
                    exact HF2.out x (by omega) h5
                clear ha4 hg4 c0 c1
                go_wp2
                go_roundw
                case rel => exact ⟨i + 1, j + 1, _, by omega, by omega, by have := HIJ.out; omega, by go_num, by go_num, Lib.hid HR.out.2.1, Lib.hid HR.out.1, Lib.hid HR.out.2.2.1, Lib.hid HR.out.2.2.2.1, Lib.hid HR.out.2.2.2.2⟩
                case measure => simp [intOf]; omega
              · clear heq
                go_wp2_with (refine wpList_store_id rfl 23 idsize _ _ rfl g (i * 2) i cap n f (xp, xn) rfl rfl rfl HAD.out hin ?_)
                intro w4 ha4 hg4
                have HR : Hid (Arr2 w4 g cap n (upi f i (xp, xn)) ∧ i + 1 = (SM.dd l (k + (j + 1))).length ∧ (∀ x, x < i + 1 → upi f i (xp, xn) x = (SM.dd l (k + (j + 1))).getD x zi) ∧ (∀ x, k + (j + 1) - 1 ≤ x → x < n → upi f i (xp, xn) x = l.getD x zi) ∧ w.grownBy w4 (some g)) := by
                  have hil := HI.out
                  rw [show k + (j + 1) = k + j + 1 by omega, HD1.out, HPR.out]
                  refine ⟨ha4, by rw [List.length_append, ← hil]; rfl, fun x hx => ?_, fun x h4 h5 => ?_, grown_trans HGD.out hg4⟩
                  · unfold upi
                    rw [List.getD_eq_getElem?_getD]
                    split
                    · rename_i e; subst e
                      rw [List.getElem?_append_right (by omega), hil]; simp
                    · rw [List.getElem?_append_left (by omega), ← List.getD_eq_getElem?_getD]
                      exact HF1.out x (by omega)
                  · unfold upi
                    have := HIJ.out
                    rw [if_neg (by omega)]
                    exact HF2.out x (by omega) h5
                clear ha4 hg4 c0 c1
                go_wp2
                go_roundw
                case rel => exact ⟨i + 1, j + 1, _, by omega, by omega, by have := HIJ.out; omega, by go_num, by go_num, Lib.hid HR.out.2.1, Lib.hid HR.out.1, Lib.hid HR.out.2.2.1, Lib.hid HR.out.2.2.2.1, Lib.hid HR.out.2.2.2.2⟩
                case measure => simp [intOf]; omega
          · obtain rfl : j = m := by omega
            have hin : i < n := by have := HM.out; omega
            have hb1 : ¬ cap = i := by omega
            have hci := cuti_from g n cap i hin hnc.1
            have hct := cuti_to g n cap i (by omega)
            obtain ⟨w5, hcl, ha5, hg5⟩ := HA.out.cleared hin (cap - i)
            have hcl0 := hcl 0
            have HP : Hid (CompOut w B (.slice (some ⟨g, 0, none⟩) n cap) l (.returned (.slice (some ⟨g, 0, none⟩) i cap)) w5) := by
              have hil := HI.out
              have e : SM.dd l (k + j) = SM.comp l := by unfold SM.comp; rw [← HN.out, HM.out]
              rw [e] at hil
              rw [hil]
              refine ⟨_, _, rfl, ?_, grown_trans HG.out hg5⟩
              rw [← hil]
              exact ha5.own HB.out (Nat.le_refl _) hil.symm (fun x hx => by rw [HF1.out x hx, e])
            clear hcl ha5 hg5
            go_wp2
            go_ret
            exact HP.out
      · have hne : ¬ l.getD k zi = l.getD (k - 1) zi := fun e => heq (HEK.out.1 e)
        have HD2 : Hid (∀ j, 0 < j → j < k + 1 → l.getD j zi ≠ l.getD (j - 1) zi) := fun j h4 h5 => by
          by_cases e : j = k
          · subst e; exact hne
          · exact HD.out j h4 (by omega)
        clear hne HEK
        by_cases hp : ap = bp
        · have hn2 : ¬ an = bn := fun e => heq ⟨hp, e⟩
          subst hp
          clear heq
          go_wp2
          go_roundw
          case rel => exact ⟨k + 1, by omega, by omega, by go_num, HD2, HX1⟩
          case measure => simp [intOf]; omega
        · clear heq
          go_wp2
          go_roundw
          case rel => exact ⟨k + 1, by omega, by omega, by go_num, HD2, HX1⟩
          case measure => simp [intOf]; omega
    · obtain rfl : k = n := by omega
      have HP := Lib.hid (HFEW.out wr HX.out HD.out)
      go_wp2
      go_ret
      exact HP.out
end Go.Proofs.Ytdbdnfjgmdkneaa
namespace Go.Proofs.Ytdbdnfjgmdkneaa
set_option maxRecDepth 20000
open Go.RowKit Go.Deep Go.Maps
set_option linter.unusedVariables false
/-- Records that a call answers, in memory of its own. -/
def RcsOut (w : World) (l : List Rc) (e : Ending) (w' : World) : Prop := ∃ v, e = .returned v ∧ w.Extends w' ∧ Recs w' v l
def getTo (r : Rc) (ps : List Pr) (k : Nat) : List Rc := ((ps.take k).map (·.1)).filter (isOf r)
theorem getTo_yes {r : Rc} {ps : List Pr} {k : Nat} (h : k < ps.length) (hq : isOf r (ps.getD k zp).1 = true) : getTo r ps (k + 1) = getTo r ps k ++ [(ps.getD k zp).1] := by
  unfold getTo
  rw [take_snocp ps k h, List.map_append, List.filter_append]
  congr 1
  rw [List.map_singleton, List.filter_cons]
  simp only [hq]
  simp
theorem getTo_no {r : Rc} {ps : List Pr} {k : Nat} (h : k < ps.length) (hq : isOf r (ps.getD k zp).1 = false) : getTo r ps (k + 1) = getTo r ps k := by
  unfold getTo
  rw [take_snocp ps k h, List.map_append, List.filter_append, List.map_singleton, List.filter_cons]
  simp only [hq]
  simp
theorem getTo_le (r : Rc) (ps : List Pr) (k : Nat) : (getTo r ps k).length ≤ k := by
  unfold getTo
  refine Nat.le_trans (List.length_filter_le _ _) ?_
  rw [List.length_map, List.length_take]; omega
theorem copy_rok {w w' : World} {xs : List Nat} {a : Option Addr} {c : Nat} (h : CopyOut w xs (.returned (.slice a xs.length c)) w') : RowOk w' 0 (.slice a xs.length c) xs := by
  obtain ⟨a', c', e, _, hu, hb⟩ := h
  simp only [Ending.returned.injEq, Value.slice.injEq] at e
  obtain ⟨rfl, _, rfl⟩ := e
  exact ⟨hu, .inr fun g hg => ⟨(hb g hg).1.2, .inr (hb g hg).2⟩⟩
theorem RMats.box {w w' : World} {B z k : Nat} {v : Value} {l : List Rc} {cs : Array Value} {f : Nat × Nat} (h : RMats w B 0 v k l) (hg : w.grownBy w' (some z)) (hv : v.ownBlock ≠ some z) (hz : w.heap[z]? = some (.cells cs 28 f)) : RMats w' B 0 v k l := by
  obtain ⟨vs, ho, hr⟩ := h
  refine ⟨vs, ho.kept hg (.inr hv), fun j hj => ?_⟩
  obtain ⟨u, h1, h2⟩ := hr j hj
  refine ⟨u, h1, h2.grown hg ?_⟩
  rcases h2.2 with h3 | h3
  · exact .inl h3
  · refine .inr fun e => ?_
    obtain ⟨_, h4⟩ := h3 z e
    rcases h4 with h4 | ⟨cs', h4⟩
    · omega
    · rw [hz] at h4
      simp only [Option.some.injEq, Obj.cells.injEq] at h4
      exact absurd h4.2.1 (by decide)
set_option maxHeartbeats 2000000 in
theorem get16_any (t : Nat) (D : Nat → Prop) (st : Sto) (r : Rc) (w : World) (h : SAt w t D st) (hl : st.l.length ≤ 1000) (hs : ∀ x ∈ st.l, KM.Right x ∧ x.g = false) :
    Calls Try.prog 43 #[.pointer (some ⟨t, 0, none⟩), .agg #[.int .i64 r.p, .int .i64 r.n]] w (RcsOut w (st.l.filter (isOf r))) := by
  obtain ⟨v, mp, ps, h⟩ := h
  have HH := Lib.hid h
  have HAT := Lib.hid h.range
  have HSL : Hid (∀ k, k < ps.length → Slc (ps.getD k zp)) := fun k hk => h.own.2 _ (getD_mem hk)
  have HDT : Hid (∀ k, k < ps.length → U8s w (ps.getD k zp).2 (ps.getD k zp).1.d ∧ (ps.getD k zp).1.d ≠ [] ∧ (ps.getD k zp).1.d.length ≤ 64) := fun k hk => by
    have hm : (ps.getD k zp).1 ∈ st.l := by rw [← h.recs]; exact List.mem_map.2 ⟨_, getD_mem hk, rfl⟩
    obtain ⟨h1, h2⟩ := hs _ hm
    obtain ⟨⟨⟨_, _, h3, h4, _⟩, _⟩, _, h8⟩ := h1.2.2.2.2 h2
    refine ⟨(h.data _ (getD_mem hk)).1, fun e => ?_, by omega⟩
    have h0 : (ps.getD k zp).1.d.length = 0 := by rw [e]; rfl
    omega
  obtain ⟨p, hb, c2, c3, c4, f3, f4⟩ := h.cells
  have HC := Lib.hid c3
  have HY : Hid (∀ k, k < ps.length → isOf r (ps.getD k zp).1 = true → getTo r ps (k + 1) = getTo r ps k ++ [(ps.getD k zp).1]) := fun k hk hq => getTo_yes hk hq
  have HN : Hid (∀ k, k < ps.length → isOf r (ps.getD k zp).1 = false → getTo r ps (k + 1) = getTo r ps k) := fun k hk hq => getTo_no hk hq
  have HLE := Lib.hid (getTo_le r ps)
  have HG0 : Hid (getTo r ps 0 = []) := by show _ = _; simp [getTo]
  have HGN : Hid (getTo r ps ps.length = st.l.filter (isOf r)) := by
    unfold getTo; rw [List.take_length, ← h.recs]; rfl
  have HIS : Hid (∀ x : Rc, isOf r x = decide (x.p = r.p ∧ x.n = r.n)) := fun x => rfl
  rw [← h.len] at hl
  obtain ⟨a, cap, rfl⟩ := h.own.slice
  obtain ⟨i2, hi', hz0', hz1', hz2'⟩ := info_parts recinfo
  have HI' := Lib.hid hi'; clear hi'
  have HZ0' := Lib.hid hz0'; clear hz0'
  have HZ1' := Lib.hid hz1'; clear hz1'
  have HZ2' := Lib.hid hz2'; clear hz2'
  clear h hb c2 c3 c4 f3 f4 hs HH
  generalize ps.length = n at *
  generalize st.l.filter (isOf r) = L at *
  generalize r.p = rp at *
  generalize r.n = rn at *
  generalize getTo r ps = G at *
  go_enter Try.func43, Try.ntmps43
  go_upto_region 1 with fail
  generalize hw1 : World.alloc w _ = w1
  have hx1 : w.Extends w1 := by subst hw1; exact ext_alloc _ _
  obtain ⟨d0, d1⟩ : w1.cell? ⟨w.heap.size, 0, none⟩ = some (.int .i64 rp) ∧ w1.cell? ⟨w.heap.size, 1, none⟩ = some (.int .i64 rn) := by subst hw1; exact box_id w 23 rp rn
  have HX1 := Lib.hid hx1
  have HD0 := Lib.hid d0
  have HD1 := Lib.hid d1
  have hc := hx1.cell_of HC.out
  clear hw1 hx1 d0 d1
  generalize w.heap.size = y at *
  go_wp2_with fail
  go_loopw [5, 15] (fun s5 s15 wr => ∃ k : Nat, k ≤ n ∧ s15 = .int .i64 k ∧ Hid (w1.Extends wr) ∧ Hid (RMats wr w1.heap.size 0 s5 (G k).length (G k))) (fun _ s15 _ => n - (intOf s15).toNat)
  case atStart => exact ⟨0, by omega, rfl, Gr.ext_refl _, by rw [HG0.out]; exact RMats.nil _ _ _ _⟩
  case round =>
    clear hc
    obtain ⟨k, hk, rfl, HX, HM⟩ := hrel
    by_cases h1 : k < n
    · obtain ⟨g, ⟨cap', e⟩, hr⟩ := HAT.out k h1
      cases e
      have hr := rangeAt_ext hr (Gr.ext_trans HX1.out HX.out)
      obtain ⟨c0, c1, c2, c3, c4, c5, c6, c7, c8, c9⟩ := RCell.ten hr
      have HSK := Lib.hid (HSL.out k h1)
      have HDK := Lib.hid (HDT.out k h1)
      have HYK := Lib.hid (HY.out k h1)
      have HNK := Lib.hid (HN.out k h1)
      have HLK := Lib.hid (HLE.out k)
      have HISK := Lib.hid (HIS.out (ps.getD k zp).1)
      clear hr
      generalize ps.getD k zp = p at *
      obtain ⟨⟨xp, xn, xb, xs, xm, xk, xe, xg, xu, xd⟩, u⟩ := p
      obtain ⟨ua, uc, hu⟩ := HSK.out
      simp only at hu
      subst hu
      simp only at c0 c1 c2 c3 c4 c5 c6 c7 c8 c9
      have d0 := HX.out.cell_of HD0.out
      have d1 := HX.out.cell_of HD1.out
      obtain ⟨va, vc, rfl⟩ := HM.out.slice
      by_cases hid : xp = rp ∧ xn = rn
      · have hG := HYK.out (by rw [HISK.out]; exact decide_eq_true hid)
        obtain ⟨rfl, rfl⟩ := hid
        have HGK := Lib.hid hG
        clear HYK HNK HISK hG
        go_upto_region 7 with fail
        generalize hwb : World.alloc wr _ = wb
        have hxb : wr.Extends wb := by subst hwb; exact ext_alloc _ _
        have ha : Arr wb wr.heap.size 1 1 (fun _ => (⟨xp, xn, xb, xs, xm, xk, xe, xg, xu, xd⟩, .slice ua xd.length uc)) := by subst hwb; exact Arr.box wr ⟨xp, xn, xb, xs, xm, xk, xe, xg, xu, xd⟩ _
        have hzw : w1.heap.size ≤ wr.heap.size := HX.out.size
        obtain ⟨z, hz⟩ : ∃ z, z = wr.heap.size := ⟨_, rfl⟩
        rw [← hz] at ha hzw ⊢
        have HZW := Lib.hid hz
        clear hz hwb c0 c1 c2 c3 c4 c5 c6 c7 c8 c9
        obtain ⟨c0, c1, c2, c3, c4, c5, c6, c7, c8, c9⟩ := RCell.ten (ha.one rfl)
        simp only [Nat.zero_add] at c0 c1 c2 c3 c4 c5 c6 c7 c8 c9
        have d0' := hxb.cell_of d0
        have d1' := hxb.cell_of d1
        have HXB := Lib.hid (Gr.ext_trans HX.out hxb)
        have HMB := Lib.hid (HM.out.ext hxb)
        have HAB := Lib.hid ha
        have HCL := Lib.hid (clone_any (.slice ua xd.length uc) xd wb (HDK.out.1.ext (Gr.ext_trans HX1.out HXB.out)) HDK.out.2.1 (by have := HDK.out.2.2; simp only at this; omega))
        clear hxb ha d0 d1 HDK
        go_wp2_with fail
        refine HCL.out.mono ?_
        rintro e w6 ⟨a2, c2', rfl, hx6, hu6, hb6⟩
        have HRK : Hid (RowOk w6 0 (.slice a2 xd.length c2') xd) := copy_rok ⟨a2, c2', rfl, hx6, hu6, hb6⟩
        have HA6 := Lib.hid (HAB.out.ext hx6)
        have HX6 := Lib.hid (Gr.ext_trans HXB.out hx6)
        have HM6 := Lib.hid (HMB.out.ext hx6)
        have f9 := HA6.out.frozen 9
        clear c0 c1 c2 c3 c4 c5 c6 c7 c8 c9 d0' d1' HCL hx6 hu6 hb6 HXB HMB HAB
        obtain ⟨c0, c1, c2, c3, c4, c5, c6, c7, c8, c9⟩ := RCell.ten (HA6.out.one rfl)
        simp only [Nat.zero_add] at c0 c1 c2 c3 c4 c5 c6 c7 c8 c9
        go_upto_region 9 with fail
        generalize hw7 : World.setCell w6 _ _ = w7
        obtain ⟨ha7, hg7⟩ := HA6.out.datum (i := 0) (w' := w7) (by omega) (.slice a2 xd.length c2') hw7.symm
        have hzb : ∃ cs, w6.heap[z]? = some (.cells cs 28 (0, 0)) := by obtain ⟨cur, hc, _⟩ := HA6.out; exact ⟨_, hc⟩
        have hvz : (Value.slice va (G k).length vc).ownBlock ≠ some z := fun e => by
          obtain ⟨vs, ho, _⟩ := HM.out
          have := (ho.lt z e).2
          have := HZW.out
          omega
        have HM7 : Hid (RMats w7 w1.heap.size 0 (.slice va (G k).length vc) (G k).length (G k)) := by
          obtain ⟨cs, hc⟩ := hzb
          exact HM6.out.box hg7 hvz hc
        have HX7 : Hid (w1.Extends w7) := HX6.out.grown hg7 (fun j hj => by have := Option.some.inj hj; omega)
        have HRK7 : Hid (RowOk w7 0 (.slice a2 xd.length c2') xd) := HRK.out.grown hg7 (by
          rcases HRK.out.2 with h3 | h3
          · exact .inl h3
          · refine .inr fun e => ?_
            obtain ⟨_, h4⟩ := h3 z e
            obtain ⟨cs, hc⟩ := hzb
            rcases h4 with h4 | ⟨cs', h4⟩
            · omega
            · rw [hc] at h4
              simp only [Option.some.injEq, Obj.cells.injEq] at h4
              exact absurd h4.2.1 (by decide))
        clear hw7 hg7 hzb hvz c0 c1 c2 c3 c4 c5 c6 c7 c8 c9 HM HM6 HX HX6 HRK HA6 f9
        obtain ⟨c0, c1, c2, c3, c4, c5, c6, c7, c8, c9⟩ := RCell.ten (ha7.one (p := (⟨xp, xn, xb, xs, xm, xk, xe, xg, xu, xd⟩, .slice a2 xd.length c2')) rfl)
        simp only [Nat.zero_add] at c0 c1 c2 c3 c4 c5 c6 c7 c8 c9
        clear ha7
        have hx8 : w7.Extends (w7.alloc (.cells (Rc.cells ⟨xp, xn, xb, xs, xm, xk, xe, xg, xu, xd⟩ (.slice a2 xd.length c2')).toArray 28)) := ext_alloc _ _
        have HSRC : Hid (Src Try.prog 10 47 (.slice (some ⟨w7.heap.size, 0, none⟩) 1 1) 1 (Rc.cells ⟨xp, xn, xb, xs, xm, xk, xe, xg, xu, xd⟩ (.slice a2 xd.length c2')) (w7.alloc (.cells (Rc.cells ⟨xp, xn, xb, xs, xm, xk, xe, xg, xu, xd⟩ (.slice a2 xd.length c2')).toArray 28))) := src_rec (r := ⟨xp, xn, xb, xs, xm, xk, xe, xg, xu, xd⟩) Try.underlying47 _ _ rfl rfl
        have HM8 := Lib.hid (HM7.out.ext hx8)
        have HRK8 := Lib.hid (HRK7.out.ext hx8)
        have HX8 := Lib.hid (Gr.ext_trans HX7.out hx8)
        obtain ⟨vs, hown, hrows⟩ := HM8.out
        have HOWN := Lib.hid hown
        have HROWS := Lib.hid hrows
        have HOB : Hid (∀ g, (Value.slice va (G k).length vc).ownBlock = some g → w1.heap.size ≤ g) := fun g hg => (HOWN.out.lt g hg).1
        have hbs := HX8.out.size
        have hgk := HLK.out
        clear hx8 hown hrows HM8 HM7 HX7 HRK7
        generalize hgl : (G k).length = gl at *
        have HGL := Lib.hid hgl
        clear hgl
        go_wp2_with (at_builtin; refine wpList_append_own_src _ rfl _ _ 47 47 rfl w1.heap.size 28 i2 (Rc.zero.val (.slice none 0 0)) 10 96 Try.underlying47 HI'.out HZ0'.out HZ1'.out HZ2'.out rfl _ _ _ rfl HOWN.out _ 1 (Rc.cells ⟨xp, xn, xb, xs, xm, xk, xe, xg, xu, xd⟩ (.slice a2 xd.length c2')) rfl HSRC.out (by unfold maxLen; omega) (by omega) hbs ?_)
        intro v' w9 ho9 hg9 _
        have HP : Hid (w1.Extends w9 ∧ RMats w9 w1.heap.size 0 v' (G (k + 1)).length (G (k + 1))) := by
          refine ⟨HX8.out.grown hg9 HOB.out, ?_⟩
          rw [HGK.out, List.length_append, HGL.out]
          exact RMats.snoc (Nat.zero_le _) HGL.out.symm HOWN.out HROWS.out HRK8.out hg9 ho9
        clear ho9 hg9 c0 c1 c2 c3 c4 c5 c6 c7 c8 c9 HSRC HOWN HROWS HOB HX8 HRK8
        go_wp2
        go_roundw
        case rel => exact ⟨k + 1, by omega, by go_num, Lib.hid HP.out.1, Lib.hid HP.out.2⟩
        case measure => simp [intOf]; omega
      · have hG := HNK.out (by rw [HISK.out]; exact decide_eq_false hid)
        have HGK := Lib.hid hG
        clear HYK HNK HISK hG
        have HXA : Hid (∀ w', wr.Extends w' → w1.Extends w' ∧ RMats w' w1.heap.size 0 (.slice va (G k).length vc) (G (k + 1)).length (G (k + 1))) := fun w' hx => ⟨Gr.ext_trans HX.out hx, by rw [HGK.out]; exact HM.out.ext hx⟩
        clear HM
        go_upto_region 7 with fail
        generalize hwb : World.alloc wr _ = wb
        have hxb : wr.Extends wb := by subst hwb; exact ext_alloc _ _
        have ha : Arr wb wr.heap.size 1 1 (fun _ => (⟨xp, xn, xb, xs, xm, xk, xe, xg, xu, xd⟩, .slice ua xd.length uc)) := by subst hwb; exact Arr.box wr ⟨xp, xn, xb, xs, xm, xk, xe, xg, xu, xd⟩ _
        clear hwb c0 c1 c2 c3 c4 c5 c6 c7 c8 c9
        obtain ⟨c0, c1, c2, c3, c4, c5, c6, c7, c8, c9⟩ := RCell.ten (ha.one rfl)
        simp only [Nat.zero_add] at c0 c1 c2 c3 c4 c5 c6 c7 c8 c9
        have d0' := hxb.cell_of d0
        have d1' := hxb.cell_of d1
        have HXB := Lib.hid (HXA.out wb hxb)
        clear hxb ha d0 d1 HXA
        generalize wr.heap.size = z at *
        by_cases hp : xp = rp
        · have hn : ¬ xn = rn := fun e => hid ⟨hp, e⟩
          subst hp
          clear hid
          go_wp2
          go_roundw
          case rel => exact ⟨k + 1, by omega, by go_num, HXB.out.1, HXB.out.2⟩
          case measure => simp [intOf]; omega
        · clear hid
          go_wp2
          go_roundw
          case rel => exact ⟨k + 1, by omega, by go_num, HXB.out.1, HXB.out.2⟩
          case measure => simp [intOf]; omega
    · obtain rfl : k = n := by omega
      obtain ⟨va, vc, rfl⟩ := HM.out.slice
      have HP : Hid (RcsOut w L (.returned (.slice va (G k).length vc)) wr) := by
        refine ⟨_, rfl, Gr.ext_trans HX1.out HX.out, ?_⟩
        rw [← HGN.out]
        exact HM.out.recs rfl
      clear HM
      generalize (G k).length = gl at *
      go_wp2
      go_ret
      exact HP.out
end Go.Proofs.Ytdbdnfjgmdkneaa
namespace Go.Proofs.Ytdbdnfjgmdkneaa
set_option maxRecDepth 20000
open Go.RowKit Go.Deep Go.Maps
set_option linter.unusedVariables false
/-- Ids that a call answers. -/
def IdsOut (w : World) (l : List Ip) (e : Ending) (w' : World) : Prop := ∃ v, e = .returned v ∧ w.Extends w' ∧ IdsAt w' v l
def ipOf (r : Rc) : Ip := (r.p, r.n)
namespace SM
def ids (st : Sto) : List Ip := comp (st.l.map ipOf)
end SM
theorem src_id {P : Program} {W : World} {T tx e' : TypeId} {x : Ip} (hk : P.underlying tx = some (.slice e')) (s c : Nat) (hs : s = W.heap.size) :
    Src P 2 tx (.slice (some ⟨s, 0, none⟩) 1 c) 1 (idc x) (W.alloc (.cells (idc x).toArray T)) := by
  subst hs
  refine Src.ofSlice _ hk ⟨W.heap.size, 0, none⟩ 1 c (idc x) rfl (fun j v hv => ?_) (fun v hv => fl2_one [x] v (by simpa [fl2] using hv))
  have h0 := heap_alloc_new W (.cells (idc x).toArray T)
  rw [Addr.add_mid, cell_of_row _ _ _ _ _ _ h0, List.getElem?_toArray, Nat.zero_add]
  exact hv
theorem compact_all (B : Nat) (v : Value) (l : List Ip) (w : World) (hv : OwnI w B v l) (hl : l.length ≤ 1000) :
    Calls Try.prog 77 #[v] w (CompOut w B v l) := by
  rcases hv.kinds with ⟨rfl, rfl⟩ | ⟨g, cap, rfl⟩
  · have HP : Hid (CompOut w B (.slice none 0 0) [] (.returned (.slice none 0 0)) w) := ⟨none, 0, rfl, OwnI.nil _ _, ⟨rfl, rfl, rfl, Nat.le_refl _, fun _ _ _ => rfl⟩⟩
    clear hv
    go_enter Try.func77, Try.ntmps77
    go_wp2
    go_ret
    exact HP.out
  · exact compact_any B g cap l.length l w hv hl
set_option maxHeartbeats 2000000 in
theorem ids16_any (t : Nat) (D : Nat → Prop) (st : Sto) (w : World) (h : SAt w t D st) (hl : st.l.length ≤ 1000) :
    Calls Try.prog 39 #[.pointer (some ⟨t, 0, none⟩)] w (IdsOut w (SM.ids st)) := by
  obtain ⟨v, mp, ps, h⟩ := h
  have HAT := Lib.hid h.range
  have HSL : Hid (∀ k, k < ps.length → Slc (ps.getD k zp)) := fun k hk => h.own.2 _ (getD_mem hk)
  obtain ⟨p, hb, c2, c3, c4, f3, f4⟩ := h.cells
  have HC := Lib.hid c3
  obtain ⟨G, HGE⟩ : ∃ G : Nat → List Ip, G = fun k => (ps.take k).map (fun p => ipOf p.1) := ⟨_, rfl⟩
  have HG0 : Hid (G 0 = []) := by show _ = _; rw [HGE]; rfl
  have HGS : Hid (∀ k, k < ps.length → G (k + 1) = G k ++ [((ps.getD k zp).1.p, (ps.getD k zp).1.n)]) := fun k hk => by
    rw [HGE]
    show (ps.take (k + 1)).map _ = (ps.take k).map _ ++ _
    rw [take_snocp ps k hk, List.map_append]; rfl
  have HGL : Hid (∀ k, k ≤ ps.length → (G k).length = k) := fun k hk => by rw [HGE]; simp; omega
  have HGN : Hid (G ps.length = st.l.map ipOf) := by
    show _ = _
    rw [HGE, ← h.recs]
    show (ps.take ps.length).map _ = _
    rw [List.take_length]
    unfold recs
    rw [List.map_map]; rfl
  have HFIN : Hid (∀ w' a c, w.Extends w' → OwnI w' w.heap.size (.slice a (SM.ids st).length c) (SM.ids st) → IdsOut w (SM.ids st) (.returned (.slice a (SM.ids st).length c)) w') := fun w' a c hx ho => ⟨_, rfl, hx, ho.at⟩
  have HIDS : Hid (SM.comp (G ps.length) = SM.ids st) := by show _ = _; rw [HGN.out]; rfl
  rw [← h.len] at hl
  obtain ⟨a, cap, rfl⟩ := h.own.slice
  obtain ⟨i2, hi', hz0', hz1', hz2'⟩ := info_parts idinfo
  have HI' := Lib.hid hi'; clear hi'
  have HZ0' := Lib.hid hz0'; clear hz0'
  have HZ1' := Lib.hid hz1'; clear hz1'
  have HZ2' := Lib.hid hz2'; clear hz2'
  have hc := HC.out
  clear h hb c2 c3 c4 f3 f4 HGE HGN
  generalize ps.length = n at *
  generalize SM.ids st = L at *
  go_enter Try.func39, Try.ntmps39
  go_wp2_with fail
  go_loopw [3, 13] (fun s3 s13 wr => ∃ k : Nat, k ≤ n ∧ s13 = .int .i64 k ∧ Hid (w.Extends wr) ∧ Hid (OwnI wr w.heap.size s3 (G k))) (fun _ s13 _ => n - (intOf s13).toNat)
  case atStart => exact ⟨0, by omega, rfl, Lib.hid (Gr.ext_refl _), Lib.hid (by rw [HG0.out]; exact OwnI.nil _ _)⟩
  case round =>
    clear hc
    obtain ⟨k, hk, rfl, HX, HM⟩ := hrel
    by_cases h1 : k < n
    · obtain ⟨g, ⟨cap', e⟩, hr⟩ := HAT.out k h1
      cases e
      have hr := rangeAt_ext hr HX.out
      obtain ⟨c0, c1, c2, c3, c4, c5, c6, c7, c8, c9⟩ := RCell.ten hr
      have HSK := Lib.hid (HSL.out k h1)
      have HGK := Lib.hid (HGS.out k h1)
      have HLK := Lib.hid (HGL.out k hk)
      clear hr
      generalize ps.getD k zp = p at *
      obtain ⟨⟨xp, xn, xb, xs, xm, xk, xe, xg, xu, xd⟩, u⟩ := p
      obtain ⟨ua, uc, hu⟩ := HSK.out
      simp only at hu
      subst hu
      simp only at c0 c1 c2 c3 c4 c5 c6 c7 c8 c9
      go_upto_region 7 with fail
      generalize hwb : World.alloc wr _ = wb
      have hxb : wr.Extends wb := by subst hwb; exact ext_alloc _ _
      have ha : Arr wb wr.heap.size 1 1 (fun _ => (⟨xp, xn, xb, xs, xm, xk, xe, xg, xu, xd⟩, .slice ua xd.length uc)) := by subst hwb; exact Arr.box wr ⟨xp, xn, xb, xs, xm, xk, xe, xg, xu, xd⟩ _
      obtain ⟨z, hz⟩ : ∃ z, z = wr.heap.size := ⟨_, rfl⟩
      rw [← hz] at ha ⊢
      clear hz hwb c0 c1 c2 c3 c4 c5 c6 c7 c8 c9
      obtain ⟨c0, c1, c2, c3, c4, c5, c6, c7, c8, c9⟩ := RCell.ten (ha.one rfl)
      simp only [Nat.zero_add] at c0 c1 c2 c3 c4 c5 c6 c7 c8 c9
      clear c2 c3 c4 c5 c6 c7 c8 c9 ha
      obtain ⟨va, vc, rfl⟩ := HM.out.slice
      have hx8 : wb.Extends (wb.alloc (.cells (idc (xp, xn)).toArray 23)) := ext_alloc _ _
      have HSRC : Hid (Src Try.prog 2 68 (.slice (some ⟨wb.heap.size, 0, none⟩) 1 1) 1 (idc (xp, xn)) (wb.alloc (.cells (idc (xp, xn)).toArray 23))) := src_id (x := (xp, xn)) Try.underlying68 _ _ rfl
      have HX8 := Lib.hid (Gr.ext_trans HX.out (Gr.ext_trans hxb hx8))
      have HOWN := Lib.hid ((HM.out.ext hxb).ext hx8)
      have HOB : Hid (∀ g, (Value.slice va (G k).length vc).ownBlock = some g → w.heap.size ≤ g) := fun g hg => (World.ownsRow.lt HOWN.out g hg).1
      have hbs := HX8.out.size
      rw [HLK.out] at HOB HOWN ⊢
      clear hx8 hxb HM HX
      have HOWN2 : Hid (World.ownsRow (wb.alloc (.cells (idc (xp, xn)).toArray 23)) w.heap.size 23 2 (.slice va k vc) k (fl2 (G k))) := by have := HOWN.out; unfold OwnI at this; rw [HLK.out] at this; exact this
      go_wp2_with (at_builtin; refine wpList_append_own_src _ rfl _ _ 68 68 rfl w.heap.size 23 i2 (.agg #[.int .i64 0, .int .i64 0]) 2 16 Try.underlying68 HI'.out HZ0'.out HZ1'.out HZ2'.out rfl _ _ _ rfl HOWN2.out _ 1 (idc (xp, xn)) rfl HSRC.out (by unfold maxLen; omega) (by omega) hbs ?_)
      intro v' w9 ho9 hg9 _
      have HP : Hid (w.Extends w9 ∧ OwnI w9 w.heap.size v' (G (k + 1))) := by
        refine ⟨HX8.out.grown hg9 HOB.out, ?_⟩
        unfold OwnI
        rw [HGK.out, fl2_snoc, List.length_append, HLK.out]
        exact ho9
      clear ho9 hg9 c0 c1 HSRC HOWN HOWN2 HOB HX8
      go_wp2
      go_roundw
      case rel => exact ⟨k + 1, by omega, by go_num, Lib.hid HP.out.1, Lib.hid HP.out.2⟩
      case measure => simp [intOf]; omega
    · obtain rfl : k = n := by omega
      obtain ⟨va, vc, rfl⟩ := HM.out.slice
      have HCL := Lib.hid (compact_all w.heap.size _ (G k) wr HM.out (by rw [HGL.out k (Nat.le_refl _)]; exact hl))
      have HOB : Hid (∀ g, (Value.slice va (G k).length vc).ownBlock = some g → w.heap.size ≤ g) := fun g hg => (World.ownsRow.lt HM.out g hg).1
      clear HM
      go_wp2_with fail
      refine HCL.out.mono ?_
      rintro e w5 ⟨a5, c5, rfl, ho, hg⟩
      rw [HIDS.out] at ho ⊢
      have HP := Lib.hid (HFIN.out w5 a5 c5 (HX.out.grown hg HOB.out) ho)
      clear ho hg HCL
      go_wp2
      go_ret
      exact HP.out
end Go.Proofs.Ytdbdnfjgmdkneaa
namespace Go.Proofs.Ytdbdnfjgmdkneaa
set_option maxRecDepth 20000
open Go.RowKit Go.Deep
set_option linter.unusedVariables false
/-- The array is that of v, or a new one. -/
def NewBlk (w : World) (v v' : Value) : Prop := v'.ownBlock = v.ownBlock ∨ ∃ g, v'.ownBlock = some g ∧ w.heap.size ≤ g
theorem grown_on {a b c : World} {v v' : Value} (h : a.grownBy b v.ownBlock) (k : b.grownBy c v'.ownBlock) (hn : NewBlk a v v') : a.grownBy c v.ownBlock := by
  rcases hn with e | ⟨g, e, hg⟩
  · rw [e] at k; exact grown_trans h k
  · rw [e] at k
    exact ⟨k.os.trans h.os, k.tape.trans h.tape, k.output.trans h.output, Nat.le_trans h.size k.size, fun i hi hr =>
      (k.block i (Nat.lt_of_lt_of_le hi h.size) (by simp; omega)).trans (h.block i hi hr)⟩
theorem NewBlk.next {a b : World} {v v' v'' : Value} (h : NewBlk a v v') (hs : a.heap.size ≤ b.heap.size) (k : v''.ownBlock = v'.ownBlock ∨ ∃ g, v''.ownBlock = some g ∧ b.heap.size ≤ g) : NewBlk a v v'' := by
  rcases k with e | ⟨g, e, hg⟩
  · rcases h with e' | ⟨g, e', hg⟩
    · exact .inl (e.trans e')
    · exact .inr ⟨g, e.trans e', hg⟩
  · exact .inr ⟨g, e, Nat.le_trans hs hg⟩
theorem clean_any (w : World) (v : Value) : CleanBlk (fun _ => True) w v := fun _ _ _ _ _ _ _ _ => trivial
/-- The reference's put: the array is the old one or a new one. -/
def PutOut (w : World) (v : Value) (zs : List Nat) (e : Ending) (w' : World) : Prop := ∃ a c ys, e = .returned (.slice a ys.length c) ∧ ys = zs ∧ w'.ownsRow 0 5 1 (.slice a ys.length c) ys.length (u8vs ys) ∧ w.grownBy w' v.ownBlock ∧ NewBlk w v (.slice a ys.length c)
theorem put_own (v : Value) (xs : List Nat) (n W : Nat) (w : World) (hW : W ≤ 8) (hn : n < 4611686018427387904) (hx : xs.length ≤ 1000000) (hown : w.ownsRow 0 5 1 v xs.length (u8vs xs)) :
    Calls Try.prog 65 #[v, .int .i64 n, .int .i64 W] w (PutOut w v (xs ++ KM.nb W n)) := by
  obtain ⟨iu, hiu, hz0, hz1, hz2⟩ := info_parts byteinfo
  have HI := Lib.hid hiu
  have HZ0 := Lib.hid hz0
  have HZ1 := Lib.hid hz1
  have HZ2 := Lib.hid hz2
  have HOWN := Lib.hid hown
  obtain ⟨lx, hlx⟩ : ∃ lx, lx = xs.length := ⟨_, rfl⟩
  rw [← hlx] at hx HOWN
  have HLX := Lib.hid hlx
  obtain ⟨va, vc, rfl⟩ := owns_slice HOWN.out
  clear hiu hz0 hz1 hz2 hown hlx
  go_enter Try.func65, Try.ntmps65
  go_wp2_with fail
  go_loopw [0, 7] (fun s0 s7 wr => ∃ q : Nat, q ≤ W ∧ s7 = .int .i64 ((q : Int) - 1) ∧ Hid (wr.ownsRow 0 5 1 s0 (lx + (W - q)) (u8vs (xs ++ (KM.nb W n).take (W - q)))) ∧ Hid (w.grownBy wr (Value.slice va lx vc).ownBlock) ∧ Hid (NewBlk w (.slice va lx vc) s0)) (fun _ s7 _ => (intOf s7 + 1).toNat)
  case atStart => exact ⟨W, by omega, by rfl, by rw [Nat.sub_self, List.take_zero, List.append_nil]; exact HOWN, grown_refl _ _, .inl rfl⟩
  case round =>
    obtain ⟨q, hq, rfl, HO, HG, HN⟩ := hrel
    obtain ⟨a0, c0, rfl⟩ := owns_slice HO.out
    by_cases h : q = 0
    · subst h
      have HP : Hid (PutOut w (.slice va lx vc) (xs ++ KM.nb W n) (.returned (.slice a0 (lx + (W - 0)) c0)) wr) := by
        have ho := HO.out
        have e : lx + (W - 0) = (xs ++ KM.nb W n).length := by rw [List.length_append, KM.nb_length, HLX.out]; rfl
        have hnb := HN.out
        rw [List.take_of_length_le (by rw [KM.nb_length]; omega), e] at ho
        rw [e] at hnb ⊢
        exact ⟨a0, c0, _, rfl, rfl, ho, HG.out, hnb⟩
      go_wp2
      go_ret
      exact HP.out
    · obtain ⟨p, rfl⟩ : ∃ p, q = p + 1 := ⟨q - 1, by omega⟩
      rw [show (((p + 1 : Nat) : Int) - 1) = (p : Int) by omega]
      have hshr := shr_bytes n p
      obtain ⟨m, hm⟩ : ∃ m, m = n / 256 ^ p % 256 := ⟨_, rfl⟩
      have hm2 : m < 256 := hm ▸ Nat.mod_lt _ (by decide)
      have hand : bits .and .i64 ((n : Int) / 256 ^ p) 255 = (m : Int) := by
        rw [i64_and255, hm, Int.natCast_emod, Int.natCast_ediv, Int.natCast_pow]; rfl
      have HM := Lib.hid hm
      clear h hm
      go_wp2_with (at_builtin; refine wpList_append_own_src3 _ rfl _ _ 26 26 rfl 0 5 iu (.int .u8 0) 1 1 Try.underlying26 HI.out HZ0.out HZ1.out HZ2.out rfl _ _ _ rfl (HO.out.alloc _) _ 1 [.int .u8 m] rfl (src_one Try.underlying26 _ _ rfl rfl) (by unfold maxLen; omega) (by omega) (Nat.zero_le _) (fun _ => True) (clean_any _ _) (fun _ _ => trivial) (fun _ _ => trivial) ?_)
      intro v' w9 ho9 hg9 hn9 _
      have HP : Hid (w9.ownsRow 0 5 1 v' (lx + (W - p)) (u8vs (xs ++ (KM.nb W n).take (W - p))) ∧ w.grownBy w9 (Value.slice va lx vc).ownBlock ∧ NewBlk w (.slice va lx vc) v') := by
        refine ⟨?_, grown_on (grown_alloc HG.out _) hg9 HN.out, HN.out.next (b := wr) HG.out.size (hn9.imp id (fun ⟨g, e, h⟩ => ⟨g, e, by omega⟩))⟩
        rw [show lx + (W - p) = lx + (W - (p + 1)) + 1 by omega, ← KM.nb_step p W n (by omega), ← HM.out, ← List.append_assoc, u8vs_app1]
        exact ho9
      clear ho9 hg9 hn9
      go_wp2
      go_roundw
      case rel => exact ⟨p, by omega, by go_num, Lib.hid HP.out.1, Lib.hid HP.out.2.1, Lib.hid HP.out.2.2⟩
      case measure => simp [intOf]
end Go.Proofs.Ytdbdnfjgmdkneaa
namespace Go.Proofs.Ytdbdnfjgmdkneaa
set_option maxRecDepth 20000
open Go.RowKit Go.Deep
set_option linter.unusedVariables false
/-- A log of the reference lies at block t of type T from cell o on, behind L: its bytes, how many are sure; its array is one of D. -/
def RAt (w : World) (t o : Nat) (L : List Value) (T : TypeId) (D : Nat → Prop) (bs : List Nat) (s : Nat) : Prop := ∃ a c, w.heap[t]? = some (.cells (L ++ [Value.slice a bs.length c, Value.int .i64 ((s : Nat) : Int)]).toArray T (0, 0)) ∧ L.length = o ∧ T ≠ 5 ∧ w.ownsRow 0 5 1 (.slice a bs.length c) bs.length (u8vs bs) ∧ ∀ g, (Value.slice a bs.length c).ownBlock = some g → D g
theorem RAt.lt {w : World} {t o s : Nat} {L : List Value} {T : TypeId} {D : Nat → Prop} {bs : List Nat} (h : RAt w t o L T D bs s) : t < w.heap.size := by
  obtain ⟨a, c, h1, _⟩ := h
  exact (Array.getElem?_eq_some_iff.1 h1).1
theorem RAt.new (w : World) (D : Nat → Prop) : RAt (w.alloc (.cells #[.slice none 0 0, .int .i64 0] 62)) w.heap.size 0 [] 62 D [] 0 :=
  ⟨none, 0, heap_alloc_new _ _, rfl, by decide, World.ownsRow_nil _ _ _ _, fun g hg => by cases hg⟩
theorem owns_at {w : World} {v : Value} {n g : Nat} {T : TypeId} {vs : List Value} {B : Nat} (h : w.ownsRow B T 1 v n vs) (hg : v.ownBlock = some g) : ∃ cs, w.heap[g]? = some (.cells cs T (0, 0)) := by
  rcases h.2 with ⟨rfl, _⟩ | ⟨g', cap, cur, rfl, hbg, hh, _⟩
  · cases hg
  · simp only [Value.ownBlock, Option.some.injEq] at hg
    subst hg
    exact ⟨cur, hh⟩
section
variable {w w' : World} {t o s : Nat} {L : List Value} {T : TypeId} {D : Nat → Prop} {bs : List Nat}
theorem two_last (a b : Value) (L : List Value) (h : L.length = o) : (L ++ [a, b]).toArray[o]? = some a ∧ (L ++ [a, b]).toArray[o + 1]? = some b := by subst h; exact ⟨by simp, by simp⟩
theorem last_set0 (a b v : Value) (L : List Value) (h : L.length = o) : (L ++ [a, b]).toArray.setIfInBounds o v = (L ++ [v, b]).toArray := by subst h; simp
theorem last_set1 (a b v : Value) (L : List Value) (h : L.length = o) : (L ++ [a, b]).toArray.setIfInBounds (o + 1) v = (L ++ [a, v]).toArray := by subst h; simp
theorem RAt.keep (h : RAt w t o L T D bs s) (ht : w'.heap[t]? = w.heap[t]?) (hD : ∀ (g : Nat) (cs : Array Value), D g → w.heap[g]? = some (.cells cs 5 (0, 0)) → w'.heap[g]? = w.heap[g]?) : RAt w' t o L T D bs s := by
  obtain ⟨a, c, h1, h5, h6, h2, h3⟩ := h
  refine ⟨a, c, ht.trans h1, h5, h6, ⟨h2.1, ?_⟩, h3⟩
  rcases h2.2 with h4 | ⟨g, cap, cur, hv, hb, hh, hrest⟩
  · exact .inl h4
  · refine .inr ⟨g, cap, cur, hv, hb, ?_, hrest⟩
    rw [hD g cur (h3 g (by rw [hv]; rfl)) hh]; exact hh
theorem RAt.ext (h : RAt w t o L T D bs s) (hx : w.Extends w') : RAt w' t o L T D bs s :=
  h.keep (hx.block t h.lt) fun g cs _ hg => hx.block g (Array.getElem?_eq_some_iff.1 hg).1
theorem RAt.mono {D' : Nat → Prop} (h : RAt w t o L T D bs s) (hD : ∀ g, g < w.heap.size → D g → D' g) : RAt w t o L T D' bs s := by
  obtain ⟨a, c, h1, h5, h6, h2, h3⟩ := h
  refine ⟨a, c, h1, h5, h6, h2, fun g hg => ?_⟩
  obtain ⟨cs, hc⟩ := owns_at h2 hg
  exact hD g (Array.getElem?_eq_some_iff.1 hc).1 (h3 g hg)
/-- It stays where another block may be written, that is none of D's or holds no bytes. -/
theorem RAt.grown {g : Nat} (h : RAt w t o L T D bs s) (hg : w.grownBy w' (some g)) (hn : t ≠ g) (hD : ¬ D g ∨ ∃ cs T f, w.heap[g]? = some (.cells cs T f) ∧ T ≠ 5) : RAt w' t o L T D bs s :=
  h.keep (hg.block t h.lt (by simpa using hn)) fun i cs hi hc => hg.block i (Array.getElem?_eq_some_iff.1 hc).1 (fun e => by
    have e' := Option.some.inj e
    subst e'
    rcases hD with hD | ⟨cs', T, f, hc', hT⟩
    · exact hD hi
    · rw [hc] at hc'
      simp only [Option.some.injEq, Obj.cells.injEq] at hc'
      exact hT hc'.2.1.symm)
end
/-- What an append of the reference's log may write: its block t, and bytes in a block of D. -/
structure Touch (D : Nat → Prop) (t : Nat) (w w' : World) : Prop where
  os : w'.os = w.os
  tape : w'.tape = w.tape
  output : w'.output = w.output
  size : w.heap.size ≤ w'.heap.size
  away : ∀ i, i < w.heap.size → i ≠ t → ¬ D i → w'.heap[i]? = w.heap[i]?
  other : ∀ (i : Nat) (cs : Array Value) (T : TypeId) (f : Nat × Nat), w.heap[i]? = some (.cells cs T f) → i ≠ t → T ≠ 5 → w'.heap[i]? = w.heap[i]?
theorem Touch.below {D : Nat → Prop} {t B : Nat} {w w' : World} (h : Touch D t w w') (hB : B ≤ t) (hs : B ≤ w.heap.size) (hD : ∀ i, D i → B ≤ i) : Below B w w' :=
  ⟨h.os, h.tape, h.output, h.size, fun k hk => h.away k (by omega) (by omega) (fun hd => by have := hD k hd; omega)⟩
theorem RAt.shape {w : World} {t o s : Nat} {L : List Value} {T : TypeId} {D : Nat → Prop} {bs : List Nat} (h : RAt w t o L T D bs s) : ∃ cs f, w.heap[t]? = some (.cells cs T f) := by
  obtain ⟨a, c, h1, _⟩ := h
  exact ⟨_, _, h1⟩
theorem rlog_cells (L : List Value) (hL : ∀ y ∈ L, ∀ n, y ≠ .int .u8 n) (a : Option Addr) (n c : Nat) (s : Int) : ∀ y ∈ (L ++ [Value.slice a n c, .int .i64 s]).toArray.toList, ∀ n, y ≠ .int .u8 n := by
  intro y hy n e
  rw [List.toList_toArray, List.mem_append] at hy
  rcases hy with hy | hy
  · exact hL y hy n e
  · subst e
    simp at hy
theorem RAt.cells {w : World} {t o s : Nat} {L : List Value} {T : TypeId} {D : Nat → Prop} {bs : List Nat} (h : RAt w t o L T D bs s) : ∃ a c, w.cell? ⟨t, o, none⟩ = some (.slice a bs.length c) ∧ w.cell? ⟨t, o + 1, none⟩ = some (.int .i64 ((s : Nat) : Int)) ∧ w.frozen? ⟨t, o, none⟩ = false ∧ w.frozen? ⟨t, o + 1, none⟩ = false ∧
    w.ownsRow 0 5 1 (.slice a bs.length c) bs.length (u8vs bs) ∧ (∀ g, (Value.slice a bs.length c).ownBlock = some g → D g) ∧ w.heap[t]? = some (.cells (L ++ [Value.slice a bs.length c, Value.int .i64 ((s : Nat) : Int)]).toArray T (0, 0)) ∧ L.length = o ∧ T ≠ 5 := by
  obtain ⟨a, c, h1, h5, h6, h2, h3⟩ := h
  exact ⟨a, c, by rw [cell_of_row _ _ _ _ _ _ h1]; exact (two_last _ _ _ h5).1, by rw [cell_of_row _ _ _ _ _ _ h1]; exact (two_last _ _ _ h5).2, frozen_of_row _ _ _ _ _ h1, frozen_of_row _ _ _ _ _ h1, h2, h3, h1, h5, h6⟩
theorem rsure15_any (t s : Nat) {o : Nat} {L : List Value} {T : TypeId} (D : Nat → Prop) (bs : List Nat) (w : World) (h : RAt w t o L T D bs s) :
    Calls Try.prog 33 #[.pointer (some ⟨t, o, none⟩)] w fun e w' => e = .returned (.tuple #[]) ∧ RAt w' t o L T D bs bs.length ∧ w.grownBy w' (some t) := by
  obtain ⟨a, c, h0, h1, f0, f1, ho, hD, hb, hLo, hT8⟩ := h.cells
  have HP : Hid (∀ w2, w2 = w.setCell ⟨t, o + 1, none⟩ (.int .i64 ((bs.length : Nat) : Int)) → RAt w2 t o L T D bs bs.length ∧ w.grownBy w2 (some t)) := fun w2 e => by
    have hg : w.grownBy w2 (some t) := by subst e; exact grown_set _ _ _ _
    refine ⟨⟨a, c, ?_, hLo, hT8, ho.kept hg ?_, hD⟩, hg⟩
    · subst e; rw [heap_setCell_same _ _ _ _ _ _ hb, last_set1 _ _ _ _ hLo]
    · cases hv : (Value.slice a bs.length c).ownBlock with
      | none => exact .inl rfl
      | some g =>
        refine .inr fun e => ?_
        obtain ⟨cs, hc⟩ := owns_at ho hv
        have e' := Option.some.inj e
        subst e'
        rw [hb] at hc
        simp only [Option.some.injEq, Obj.cells.injEq] at hc
        exact absurd hc.2.1 hT8
  clear h ho hD hb hLo hT8
  generalize bs.length = n at *
  go_enter Try.func33, Try.ntmps33
  go_wp2
  go_end0
  exact ⟨rfl, HP.out _ rfl⟩
theorem rappend15_any (t s : Nat) {o : Nat} {L : List Value} {T : TypeId} (D : Nat → Prop) (bs : List Nat) (v : Value) (x : List Nat) (w : World) (h : RAt w t o L T D bs s) (hu : U8s w v x) (hx : x.length ≤ 65535) (hz : bs.length ≤ 900000)
    (hsrc : x = [] ∨ ∀ g, v.ownBlock = some g → ¬ D g) (hnew : ∀ g, w.heap.size ≤ g → D g) :
    Calls Try.prog 93 #[.pointer (some ⟨t, o, none⟩), v] w fun e w' => e = .returned (.int .i64 0) ∧ RAt w' t o L T D (bs ++ KM.nb 2 x.length ++ x) s ∧ Touch D t w w' := by
  obtain ⟨a, c, h0, h1, f0, f1, ho, hD, hb, hLo, hT8⟩ := h.cells
  have hlt := h.lt
  obtain ⟨va, vc, rfl, _, _⟩ := hu.slice
  have hxlt := hu.lt
  obtain ⟨iu, hiu, hz0, hz1, hz2⟩ := info_parts byteinfo
  have HI := Lib.hid hiu
  have HZ0 := Lib.hid hz0
  have HZ1 := Lib.hid hz1
  have HZ2 := Lib.hid hz2
  have hvt : (Value.slice a bs.length c).ownBlock ≠ some t := fun e => by
    obtain ⟨cs, hc⟩ := owns_at ho e
    rw [hb] at hc
    simp only [Option.some.injEq, Obj.cells.injEq] at hc
    exact absurd hc.2.1 hT8
  have hput := put_own (.slice a bs.length c) bs x.length 2 w (by omega) (by omega) (by omega) ho
  have hstay : ∀ w3 : World, w.grownBy w3 (Value.slice a bs.length c).ownBlock → w3.cell? ⟨t, o, none⟩ = some (.slice a bs.length c) ∧ w3.frozen? ⟨t, o, none⟩ = false := fun w3 hg3 => by
    have e : w3.heap[t]? = w.heap[t]? := hg3.block t hlt (Ne.symm hvt)
    exact ⟨by rw [World.cell?_of_block (w := w) (w' := w3) (a := ⟨t, o, none⟩) e]; exact h0, by rw [World.frozen?_of_block (w := w) (w' := w3) (a := ⟨t, o, none⟩) e]; exact f0⟩
  have HSTAY := Lib.hid hstay
  have hmid : ∀ (a2 : Option Addr) (c2 : Nat) (ys : List Nat) (w2 : World), w2.ownsRow 0 5 1 (.slice a2 ys.length c2) ys.length (u8vs ys) → w.grownBy w2 (Value.slice a bs.length c).ownBlock → NewBlk w (.slice a bs.length c) (.slice a2 ys.length c2) →
      U8s w2 (.slice va x.length vc) x ∧ w2.cell? ⟨t, o, none⟩ = some (.slice a bs.length c) ∧ w2.frozen? ⟨t, o, none⟩ = false := fun a2 c2 ys w2 ho2 hg2 hn2 => by
    have e : w2.heap[t]? = w.heap[t]? := hg2.block t hlt (Ne.symm hvt)
    refine ⟨hu.grown hg2 ?_, ?_, ?_⟩
    · rcases hsrc with rfl | hsrc
      · exact .inl rfl
      · cases hv : (Value.slice va x.length vc).ownBlock with
        | none =>
          rcases hu with hu | ⟨b, off, cap, hv', _⟩
          · exact .inl hu.1
          · rw [hv'] at hv; cases hv
        | some g => exact .inr fun e => hsrc g hv (hD g e.symm)
    · rw [World.cell?_of_block (w := w) (w' := w2) (a := ⟨t, o, none⟩) e]; exact h0
    · rw [World.frozen?_of_block (w := w) (w' := w2) (a := ⟨t, o, none⟩) e]; exact f0
  have hlast : ∀ (a2 : Option Addr) (c2 : Nat) (ys : List Nat) (w2 : World) (a3 : Option Addr) (c3 : Nat) (w3 : World) (n3 : Nat) (w4 : World), ys = bs ++ KM.nb 2 x.length → w2.ownsRow 0 5 1 (.slice a2 ys.length c2) ys.length (u8vs ys) → w.grownBy w2 (Value.slice a bs.length c).ownBlock → NewBlk w (.slice a bs.length c) (.slice a2 ys.length c2) →
      w3.ownsRow 0 5 1 (.slice a3 n3 c3) (ys.length + x.length) (u8vs ys ++ u8vs x) → n3 = ys.length + x.length → w2.grownBy w3 (Value.slice a2 ys.length c2).ownBlock → ((Value.slice a3 n3 c3).ownBlock = (Value.slice a2 ys.length c2).ownBlock ∨ ∃ g, (Value.slice a3 n3 c3).ownBlock = some g ∧ w2.heap.size ≤ g) →
      w4 = w3.setCell ⟨t, o, none⟩ (.slice a3 n3 c3) → RAt w4 t o L T D (bs ++ KM.nb 2 x.length ++ x) s ∧ Touch D t w w4 := fun a2 c2 ys w2 a3 c3 w3 n3 w4 hys ho2 hg2 hn2 ho3 hn3 hg3 hnn e4 => by
    have hN3 : NewBlk w (.slice a bs.length c) (.slice a3 n3 c3) := hn2.next hg2.size hnn
    have hG3 : w.grownBy w3 (Value.slice a bs.length c).ownBlock := grown_on hg2 hg3 hn2
    have hb3 : w3.heap[t]? = some (.cells (L ++ [Value.slice a bs.length c, Value.int .i64 ((s : Nat) : Int)]).toArray T (0, 0)) := (hG3.block t hlt (Ne.symm hvt)).trans hb
    have hl : (bs ++ KM.nb 2 x.length ++ x).length = n3 := by rw [hn3, List.length_append, ← hys]
    have hg4 : w3.grownBy w4 (some t) := by subst e4; exact grown_set _ _ _ _
    have hne3 : (Value.slice a3 n3 c3).ownBlock ≠ some t := fun e => by
      rcases hN3 with e' | ⟨g, e', hg⟩
      · exact hvt (e'.symm.trans e)
      · rw [e'] at e; have := Option.some.inj e; omega
    refine ⟨⟨a3, c3, ?_, hLo, hT8, ?_, fun g hg => ?_⟩, ?_⟩
    · subst e4; rw [heap_setCell_same _ _ _ _ _ _ hb3, hl, last_set0 _ _ _ _ hLo]
    · rw [hl]
      have : w4.ownsRow 0 5 1 (.slice a3 n3 c3) (ys.length + x.length) (u8vs ys ++ u8vs x) := ho3.kept hg4 (.inr hne3)
      rw [← hn3, ← u8vs_app1, hys] at this
      exact this
    · rw [hl] at hg
      rcases hN3 with e' | ⟨g', e', hg'⟩
      · exact hD g (e'.symm.trans hg)
      · rw [e'] at hg; have := Option.some.inj hg; subst this; exact hnew _ hg'
    · refine ⟨hg4.os.trans hG3.os, hg4.tape.trans hG3.tape, hg4.output.trans hG3.output, Nat.le_trans hG3.size hg4.size, fun i hi hit hDi => ?_, fun i cs T f hi hit hT => ?_⟩
      · exact (hg4.block i (Nat.lt_of_lt_of_le hi hG3.size) (by simpa using hit)).trans (hG3.block i hi (fun e => hDi (hD i e.symm)))
      · have hil := (Array.getElem?_eq_some_iff.1 hi).1
        refine (hg4.block i (Nat.lt_of_lt_of_le hil hG3.size) (by simpa using hit)).trans (hG3.block i hil (fun e => ?_))
        obtain ⟨cs', hc'⟩ := owns_at ho e.symm
        rw [hi] at hc'
        simp only [Option.some.injEq, Obj.cells.injEq] at hc'
        exact hT hc'.2.1
  have HPUT := Lib.hid hput
  have HMID := Lib.hid hmid
  have HLAST := Lib.hid hlast
  have HLN : Hid (∀ ys : List Nat, ys = bs ++ KM.nb 2 x.length → ys.length ≤ 1000000) := fun ys e => by rw [e, List.length_append, KM.nb_length]; omega
  clear hput hmid hlast hstay hb ho hD hvt hu hxlt hsrc hnew h h1 f0 f1 hlt hiu hz0 hz1 hz2 hLo hT8
  generalize bs.length = n at *
  go_enter Try.func93, Try.ntmps93
  go_wp2_with fail
  refine HPUT.out.mono ?_
  rintro e w2 ⟨a2, c2, ys, rfl, hys, ho2, hg2, hn2⟩
  obtain ⟨hu2, hc2, hf2⟩ := HMID.out a2 c2 ys w2 ho2 hg2 hn2
  have hyl := HLN.out ys hys
  have HO2 := Lib.hid ho2
  have HU2 := Lib.hid hu2
  have HL2 := Lib.hid (HLAST.out a2 c2 ys w2)
  have HG2 := Lib.hid hg2
  have HN2 := Lib.hid hn2
  have HYS := Lib.hid hys
  clear h0 hu2 ho2 hg2 hn2 hys HPUT HMID HLAST HLN
  go_wp2_with (at_builtin; refine wpList_append_own_src3 _ rfl _ _ 26 26 rfl 0 5 iu (.int .u8 0) 1 1 Try.underlying26 HI.out HZ0.out HZ1.out HZ2.out rfl _ _ _ rfl HO2.out _ x.length (u8vs x) rfl (HU2.out.src Try.underlying26) (by unfold maxLen; omega) (by omega) (Nat.zero_le _) (fun _ => True) (clean_any _ _) (fun _ _ => trivial) (fun _ _ => trivial) ?_)
  intro v' w3 ho3 hg3 hn3 _
  obtain ⟨a3, c3, rfl⟩ := owns_slice ho3
  obtain ⟨hc3, hf3⟩ := HSTAY.out w3 (grown_on HG2.out hg3 HN2.out)
  have HP := Lib.hid (fun w4 => HL2.out a3 c3 w3 (ys.length + x.length) w4 HYS.out HO2.out HG2.out HN2.out ho3 rfl hg3 hn3)
  clear ho3 hg3 hn3 hc2 hf2 HL2 HSTAY
  generalize ys.length + x.length = n3 at *
  go_wp2
  go_ret
  exact ⟨rfl, HP.out _ rfl⟩
end Go.Proofs.Ytdbdnfjgmdkneaa
