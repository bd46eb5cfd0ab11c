/- Package solve: Solve. -/
import Derived.Test.YtkpgdgmjeoogdaaUnk
namespace Go.Proofs.Ytkpgdgmjeoogdaa
open Go.RowKit
set_option linter.unusedVariables false
/-- Rows as unknowns: of place k, row i. -/
def xOf (X : List (List Nat)) (k : Nat) : LA.V := fun i => (X.getD i []).getD k 0
def Solvable (W S : Nat) (P : Nat → Prop) (f : Nat → LA.V) : Prop := (∀ c, c < W → LA.Lead P f c) ∧ ∃ x, LA.Sol W S P f x
/-- What solving answers: rows that solve, each column leading; or that there are none. -/
def SolveRes (W S : Nat) (P : Nat → Prop) (f : Nat → LA.V) : Option (List (List Nat)) → Prop
  | none => ¬ Solvable W S P f
  | some X => X.length = W ∧ (∀ i, i < W → (X.getD i []).length = S) ∧ (∀ c, c < W → LA.Lead P f c) ∧ LA.Sol W S P f (xOf X)
def errOf : Option (List (List Nat)) → Nat
  | none => 4
  | some _ => 0
theorem SolveRes.uniq {W S : Nat} {P : Nat → Prop} {f : Nat → LA.V} (hf : ∀ j, P j → LA.Bd (f j)) {a b : Option (List (List Nat))} (ha : SolveRes W S P f a) (hb : SolveRes W S P f b) : a = b := by
  cases a with
  | none =>
    cases b with
    | none => rfl
    | some Y => exact absurd ⟨hb.2.2.1, _, hb.2.2.2⟩ ha
  | some X =>
    cases b with
    | none => exact absurd ⟨ha.2.2.1, _, ha.2.2.2⟩ hb
    | some Y =>
      congr 1
      have hu := LA.Sol.uniq hf ha.2.2.1 ha.2.2.2 hb.2.2.2
      apply List.ext_getElem (by rw [ha.1, hb.1])
      intro i h1 h2
      rw [ha.1] at h1
      have e1 : X.getD i [] = X[i] := by simp [show i < X.length by rw [ha.1]; exact h1]
      have e2 : Y.getD i [] = Y[i] := by simp [show i < Y.length by rw [hb.1]; exact h1]
      rw [← e1, ← e2]
      refine RM.list_ext (by rw [ha.2.1 i h1, hb.2.1 i h1]) fun k hk => ?_
      rw [ha.2.1 i h1] at hk
      exact hu k hk i h1
def SolveOut (w : World) (W S : Nat) (P : Nat → Prop) (f : Nat → LA.V) (e : Ending) (w' : World) : Prop :=
  ∃ res v, SolveRes W S P f res ∧ e = .returned (.tuple #[v, .int .i64 (errOf res : Nat)]) ∧ Below w.heap.size w w' ∧ Rws w' v (res.getD [])
theorem vec_low (W : Nat) (s : LA.Eqn) (i : Nat) (h : i < W) : LA.vec W s i = s.1.getD i 0 := if_pos h
theorem vec_high (W : Nat) (s : LA.Eqn) (k : Nat) : LA.vec W s (W + k) = s.2.getD k 0 := by
  show (if W + k < W then _ else s.2.getD (W + k - W) 0) = _
  rw [if_neg (by omega), show W + k - W = k by omega]
/-- Rows that solve all steps solve all rows. -/
theorem xsol_res {W S r : Nat} {st : Nat → Option LA.Eqn} {P : Nat → Prop} {f : Nat → LA.V} {xf : Nat → List Nat} (hi : LA.Inv W S r st P f) (hf : ∀ j, P j → LA.Bd (f j)) (hr : r = W) (h : XSol W S 0 st xf) (hl : ∀ i, i < W → (xf i).length = S) : SolveRes W S P f (some (known W 0 xf)) := by
  have hk : ∀ i, i < W → (known W 0 xf).getD i [] = xf i := fun i hi => by rw [known_getD W 0 xf i hi, if_neg (by omega)]
  have hlead : ∀ c, c < W → LA.Lead P f c := by have := hi.rankIs; rw [hr] at this; exact this.full
  have hb : ∀ k, LA.Bd (xOf (known W 0 xf) k) := fun k i => by
    unfold xOf
    refine getD_lt _ ?_ k
    by_cases hiW : i < W
    · rw [hk i hiW]; exact h.1 i
    · rw [List.getD_eq_getElem?_getD, List.getElem?_eq_none (by rw [known_length]; omega)]; intro x hx; cases hx
  refine ⟨known_length _ _ _, fun i hi => by rw [hk i hi]; exact hl i hi, hlead, ?_⟩
  have hsol : LA.Sol W S (fun c => c < W ∧ LA.has st c = true) (LA.stF W st) (xOf (known W 0 xf)) := by
    refine ⟨hb, fun c hc k hk' => ?_⟩
    obtain ⟨s, hs⟩ := Option.isSome_iff_exists.1 hc.2
    have hst : LA.stF W st c = LA.vec W s := by unfold LA.stF; rw [hs]
    rw [hst, vec_high, h.2 c (by omega) hc.1 s hs k hk']
    refine LA.dots_congr W _ _ _ _ fun i hi => ?_
    rw [vec_low W s i hi]
    show FM.tm _ ((xf i).getD k 0) = FM.tm _ (((known W 0 xf).getD i []).getD k 0)
    rw [hk i hi]
  exact hsol.sub hi.good.bd fun j hj => hi.from_ _ (LA.Span.mem hf hj)
theorem rettup {v v' : Value} {a b : Int} (h : v = v') (h' : a = b) : Ending.returned (.tuple #[v, .int .i64 a]) = .returned (.tuple #[v', .int .i64 b]) := by rw [h, h']
theorem solve_bad (n m : Int) (u v : Value) (ml dl : List (List Nat)) (w : World) (hu : Rws w u ml) (hv : Rws w v dl) (hbad : n < 1 ∨ 300 < n ∨ m < 1 ∨ 1000 < m ∨ ml.length ≠ dl.length) :
    Calls Try.prog 20 #[.int .i64 n, .int .i64 m, u, v] w fun e w' => e = .returned (.tuple #[nilS, .int .i64 1]) ∧ w = w' := by
  have hm1 := hu.len
  have hm2 := hv.len
  obtain ⟨a, cap, rfl, _⟩ := hu.slice
  obtain ⟨a', cap', rfl, _⟩ := hv.slice
  clear hu hv
  generalize ml.length = n1 at *
  generalize dl.length = n2 at *
  unfold maxLen at hm1 hm2
  go_enter Try.func20, Try.ntmps20
  go_wp2_with fail
  all_goals first
    | (go_ret2; exact ⟨rfl, rfl⟩)
    | (exfalso
       have hne : ∀ x y : Int, (x != y) = false → x = y := fun x y h => by simpa using h
       have h2 : (n1 : Int) = n2 := hne _ _ (by first | assumption | (simp only [*]))
       omega)
def SolveMid (w : World) (W S ll : Nat) (f : Nat → LA.V) (p g : Nat) (wr : World) (r : Nat) (st : Nat → Option LA.Eqn) (k : Nat) : Prop := Below w.heap.size w wr ∧ Sys wr p g W S r st ∧ LA.Inv W S r st (· < k) f
theorem XAt.lens {w : World} {gx W S : Nat} {xf : Nat → List Nat} (h : XAt w gx W S 0 xf) : ∀ i, i < W → (xf i).length = S := fun i hi => by
  obtain ⟨vs, _, h2⟩ := h
  obtain ⟨b, _, _, hl⟩ := (h2 i hi).2 (by omega)
  exact hl
set_option maxHeartbeats 4000000 in
theorem solve_good (W S : Nat) (u v : Value) (ml dl : List (List Nat)) (w : World) (hu : Rws w u ml) (hv : Rws w v dl) (h1 : 1 ≤ W) (h2 : W ≤ 300) (h3 : 1 ≤ S) (h4 : S ≤ 1000) (h5 : dl.length = ml.length) :
    Calls Try.prog 20 #[.int .i64 W, .int .i64 S, u, v] w (SolveOut w W S (· < ml.length) (rowsF W S ml dl)) := by
  have hm1 := hu.len
  have HBD : Hid (∀ j, LA.Bd (rowsF W S ml dl j)) := rowsF_bd _ _ hu.all_lt hv.all_lt
  have HDIM : Hid (∀ k, LA.Dim W S (RM.sum W [ml.getD k []], RM.sum S [dl.getD k []])) := fun k => LA.dim_cut W S (ml.getD k [], dl.getD k []) (getD_mem_lt hu.all_lt k) (getD_mem_lt hv.all_lt k)
  obtain ⟨a, cap, rfl, _⟩ := hu.slice
  obtain ⟨a', cap', rfl, _⟩ := hv.slice
  have HR := Lib.hid hu.at.2
  have HR2 := Lib.hid hv.at.2
  clear hu hv
  have HF : Hid (∀ k, rowsF W S ml dl k = LA.vec W (RM.sum W [ml.getD k []], RM.sum S [dl.getD k []])) := fun k => rfl
  generalize hF : rowsF W S ml dl = f at *
  have HFF := Lib.hid hF; clear hF
  rw [h5] at HR2 ⊢
  have H5 := Lib.hid h5; clear h5
  generalize hll : ml.length = ll at *
  have HL := Lib.hid hll; clear hll
  unfold maxLen at hm1
  go_enter Try.func20, Try.ntmps20
  go_wp2_with fail
  refine (newSystem_any W S h2 h4 _).mono ?_
  rintro e w1 ⟨p, g, rfl, hsys, hx, hp, hg⟩
  have HX1 := Lib.hid hx
  have HS1 := Lib.hid hsys
  clear hx hsys
  go_wp2_with fail
  go_loopw [38] (fun i wr => ∃ (k r : Nat) (st : Nat → Option LA.Eqn), k ≤ ll ∧ i = .int .i64 k ∧ SolveMid w W S ll f p g wr r st k) (fun i _ => (ll - intOf i).toNat)
  case atStart => exact ⟨0, 0, _, by omega, rfl, Gr.below_of HX1.out, HS1.out, (LA.Inv.start W S f).congrP fun j => by simp⟩
  case round =>
    obtain ⟨k, r, st, hk, rfl, hb, hsys, hinv⟩ := hrel
    have HB := Lib.hid hb
    have HS := Lib.hid hsys
    have HI := Lib.hid hinv
    clear hb hsys hinv
    by_cases hlt : k < ll
    · obtain ⟨b1, o1, rfl, hb1, hr1⟩ := HR.out (by omega)
      obtain ⟨b2, o2, rfl, hb2, hr2⟩ := HR2.out (by omega)
      obtain ⟨ra, rc, hc1, hu1⟩ := hr1 k hlt
      obtain ⟨rb, rd, hc2, hu2⟩ := hr2 k hlt
      have HL1 : Hid (∀ w', wr.Extends w' → w'.cell? ⟨b1, o1 + k, none⟩ = some (.slice ra (ml.getD k []).length rc)) := fun w' hw' => hw'.cell_of ((HB.out.cell (p := ⟨b1, o1 + k, none⟩) hb1).trans hc1)
      have HL2 : Hid (∀ w', wr.Extends w' → w'.cell? ⟨b2, o2 + k, none⟩ = some (.slice rb (dl.getD k []).length rd)) := fun w' hw' => hw'.cell_of ((HB.out.cell (p := ⟨b2, o2 + k, none⟩) hb2).trans hc2)
      have HU1 := Lib.hid (hu1.below HB.out rfl)
      have HU2 := Lib.hid (hu2.below HB.out rfl)
      have hr3 : r ≤ 300 := by have := HI.out.rankIs.le; omega
      clear hr1 hr2 hc1 hc2 hu1 hu2
      go_wp2_with fail
      refine Gr.region 9 [(false,0),(false,1),(false,2),(false,3),(false,4),(false,5),(false,6),(false,7),(false,8)] (by kernel_rfl) (by kernel_rfl) (fun d _ _ _ _ h => by cases d <;> exact h) ?_
      simp only [Gr.pick, List.getElem?_cons_zero, List.getElem?_cons_succ, List.drop_succ_cons, List.drop_zero]
      iterate 9
        refine Gr.walk_t ?_ (Or.inl ⟨by rfl, ?_⟩) ?_
        rotate_left
        · intro w' hw'
          have hc1 := HL1.out w' (Gr.of_drew hw')
          have hc2 := HL2.out w' (Gr.of_drew hw')
          clear hw'
          go_simp
          try with_reducible rfl
        simp only [Act.put, List.setIfInBounds_toArray, List.set_cons_zero, List.set_cons_succ]
      clear HL1 HL2
      refine Gr.walk_nil ?_
      go_wp2_with fail
      refine (take_any p g W S r st _ _ (ml.getD k []) (dl.getD k []) _ (HS.out.ext (Gr.ext_drew (Gr.ext_refl _))) HI.out.good hr3 HU1.out.drew HU2.out.drew).mono ?_
      intro e w2 ht
      have hbw := ht.2 w.heap.size hp hg (by exact HB.out.size)
      rcases inv_next HI.out HBD.out (HF.out k) (HDIM.out k) ht with ⟨r', st', rfl, hs', hi'⟩ | ⟨rfl, v, hv, hv0, q, hq, hvq⟩
      · have HP : Hid (SolveMid w W S ll f p g w2 r' st' (k + 1)) := ⟨HB.out.drew.trans hbw, hs', hi'⟩
        clear hbw ht hs' hi'
        go_wp2
        go_roundw
        case rel => exact ⟨k + 1, r', st', by omega, by go_num, HP.out⟩
        case measure => simp [intOf]; omega
      · have HOUT : Hid (SolveOut w W S (· < ll) f (.returned (.tuple #[nilS, .int .i64 4])) w2) := by
          refine ⟨none, nilS, fun ⟨_, x, hx⟩ => ?_, rfl, HB.out.drew.trans hbw, Rws.nil _ _ _⟩
          exact hvq (hx.never (fun j _ => HBD.out j) (hv.mono fun j hj => by omega) hv0 q hq)
        clear hbw ht hv hv0 hvq
        go_wp2
        go_ret2
        exact HOUT.out
    · obtain rfl : k = ll := by omega
      by_cases hfull : r = W
      · have HD : Hid (decide (r = W) = true) := decide_eq_true hfull
        have HFULL := Lib.hid hfull
        have HALL : Hid (∀ c, c < W → ∃ s, st c = some s) := fun c hc => by
          have h := HI.out.rank
          rw [HFULL.out] at h
          exact Option.isSome_iff_exists.1 (LA.cnt_all W h.symm c hc)
        clear hfull
        go_wp2_with fail
        refine (full_any p g W S r st _ HS.out).mono ?_
        rintro _ w2 ⟨rfl, rfl⟩
        rw [HD.out]
        go_wp2_with fail
        refine (unknowns_any p g W S r st _ (HS.out.ext (Gr.ext_drew (Gr.ext_refl _))) HI.out.good HALL.out h1).mono ?_
        rintro _ w2 ⟨gx, xf, rfl, hx2, hxa, hxs⟩
        have HOUT : Hid (SolveOut w W S (· < k) f (.returned (.tuple #[.slice (some ⟨gx, 0, none⟩) W W, .int .i64 0])) w2) :=
          ⟨some (known W 0 xf), _, xsol_res HI.out (fun j _ => HBD.out j) HFULL.out hxs hxa.lens, rfl, HB.out.drew.trans ((Gr.below_of hx2).mono (by exact HB.out.size)), hxa.rws h2⟩
        clear hx2 hxa hxs
        go_wp2
        go_ret2
        exact HOUT.out
      · have HD : Hid (decide (r = W) = false) := decide_eq_false hfull
        have HOUT : Hid (SolveOut w W S (· < k) f (.returned (.tuple #[nilS, .int .i64 4])) wr.drew) :=
          ⟨none, nilS, fun ⟨hl, _⟩ => HI.out.rankIs.notfull (by have := HI.out.rankIs.le; omega) hl, rfl, HB.out.drew, Rws.nil _ _ _⟩
        clear hfull
        go_wp2_with fail
        refine (full_any p g W S r st _ HS.out).mono ?_
        rintro _ w2 ⟨rfl, rfl⟩
        rw [HD.out]
        go_wp2
        go_ret2
        exact HOUT.out
end Go.Proofs.Ytkpgdgmjeoogdaa
