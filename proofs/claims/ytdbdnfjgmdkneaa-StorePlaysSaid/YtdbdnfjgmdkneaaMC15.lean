/- In one text: StoExp, RefExp. -/
import Derived.Laws.IdiomRangeMap
import Derived.Deep.DeepCutAuto
import Derived.Test.YtdbdnfjgmdkneaaMC8
import Derived.Test.YtdbdnfjgmdkneaaMC14
namespace Go.Proofs.Ytdbdnfjgmdkneaa
set_option maxRecDepth 20000
open Go.RowKit Go.Deep Go.Maps
set_option linter.unusedVariables false
/-- Is a record forgotten at this time? -/
def isOld (now : Int) (x : Rc) : Bool := decide (x.u < now)
namespace SM
def expire (st : Sto) (now : Int) : Sto := { st with l := st.l.filter (fun x => !isOld now x), t := st.t.filter (fun x => !isOld now x) }
end SM
/-- The tombstones that stay, and those that are still to be looked at. -/
def leftT (now : Int) (left : Lit → Bool) (t : List Rc) : List Rc := t.filter (fun x => !isOld now x || left (idLit x))
theorem leftT_all {now : Int} {left : Lit → Bool} {t : List Rc} (h : ∀ x ∈ t, left (idLit x) = true) : leftT now left t = t := by
  refine List.filter_eq_self.2 fun x hx => ?_
  rw [h x hx]; simp
theorem leftT_none {now : Int} {left : Lit → Bool} {t : List Rc} (h : ∀ k, left k = false) : leftT now left t = t.filter (fun x => !isOld now x) := by
  unfold leftT
  congr 1
  funext x
  rw [h]; simp
/-- An entry that stays. -/
theorem leftT_keep {now c : Int} {left : Lit → Bool} {t : List Rc} {kl : Lit} (hc : ¬ c < now) (hu : ∀ x ∈ t, idLit x = kl → x.u = c) : leftT now (fun z => left z && !z.sameKey kl) t = leftT now left t := by
  unfold leftT
  refine List.filter_congr fun x hx => ?_
  by_cases e : idLit x = kl
  · have ho : isOld now x = false := by unfold isOld; rw [hu x hx e]; simpa using hc
    rw [ho]; simp
  · show (!isOld now x || (left (idLit x) && !(idLit x).sameKey kl)) = (!isOld now x || left (idLit x))
    rw [sameKey_ne e]; simp
/-- An entry that goes. -/
theorem leftT_drop {now c : Int} {left : Lit → Bool} {t : List Rc} {kl : Lit} (hc : c < now) (hu : ∀ x ∈ t, idLit x = kl → x.u = c) : leftT now (fun z => left z && !z.sameKey kl) t = (leftT now left t).filter (fun r => !(idLit r).sameKey kl) := by
  unfold leftT
  rw [List.filter_filter]
  refine List.filter_congr fun x hx => ?_
  by_cases e : idLit x = kl
  · have ho : isOld now x = true := by unfold isOld; rw [hu x hx e]; simpa using hc
    have hs : (idLit x).sameKey kl = true := by rw [← e]; exact same_self x
    show (!isOld now x || (left (idLit x) && !(idLit x).sameKey kl)) = ((!(idLit x).sameKey kl) && (!isOld now x || left (idLit x)))
    rw [ho, hs]; cases left (idLit x) <;> rfl
  · show (!isOld now x || (left (idLit x) && !(idLit x).sameKey kl)) = ((!(idLit x).sameKey kl) && (!isOld now x || left (idLit x)))
    rw [sameKey_ne e]; simp
theorem ranges_left {w : World} {b r n : Nat} {E : DataW Unit} {left : Lit → Bool} {cnt : Nat} (h : w.ranges Try.prog 23 (plainElem Try.prog 3) b r n E left cnt) {kl : Lit} (hi : WideAt.IsKeyLit kl) (hk : left kl = true) : Maps.has E kl = true := by
  obtain ⟨es, clock, since, seen, c0, _, _, _, hE, _, _, _, _, h9, _⟩ := h
  obtain ⟨x, hx, e⟩ := h9 kl hk
  rw [hE, has_eq, List.any_eq_true]
  have hm : (WideElems.rg Try.prog 23 (plainElem (H := Unit) Try.prog 3) x) ∈ (es.toList.map (WideElems.rg Try.prog 23 (plainElem (H := Unit) Try.prog 3))).foldr DataW.insert [] := mem_sorted.2 (List.mem_map.2 ⟨x, hx, rfl⟩)
  refine ⟨_, hm, ?_⟩
  rw [e]
  exact WideAt.sameKey_self hi
/-- What the range's step meets: a tombstone of these, or several of one Until (there is one alone). -/
theorem Ties.meet {now c : Int} {left : Lit → Bool} {E : DataW Unit} {t : List Rc} (h : Ties E (leftT now left t)) {kl : Lit} (hl : left kl = true) (hk : Maps.has E kl = true) (hat : ∀ zd, E.atKey kl zd = .lit (.int .i64 c)) : (∃ x ∈ leftT now left t, idLit x = kl) ∧ ∀ x ∈ t, idLit x = kl → x.u = c := by
  refine ⟨?_, fun x hx e => ?_⟩
  · rw [h.has, List.any_eq_true] at hk
    obtain ⟨x, hx, hs⟩ := hk
    refine ⟨x, hx, ?_⟩
    by_cases e : idLit x = kl
    · exact e
    · rw [sameKey_ne e] at hs; cases hs
  · have hm : x ∈ leftT now left t := List.mem_filter.2 ⟨hx, by rw [e, hl]; simp⟩
    have h1 := h.at_ x hm (.map [])
    rw [e, hat] at h1
    simpa using h1.symm
theorem id_inv {key : Value} {kl : Lit} (h : keyOf Try.prog 23 key = some kl) : ∃ x : Int × Int, key = .agg #[.int .i64 x.1, .int .i64 x.2] := by
  have hu : ∃ f g : Field, Try.prog.underlying 23 = some (.struct #[f, g]) ∧ f.offset = 0 ∧ g.offset = 1 ∧ f.type = 3 ∧ g.type = 3 := ⟨_, _, Try.underlying23, rfl, rfl, rfl, rfl⟩
  obtain ⟨f, g, hu, hf0, hg0, hft, hgt⟩ := hu
  have hC : Try.prog.cellsOf 23 = 2 := by kernel_rfl
  have hCi : Try.prog.cellsOf 3 = 1 := by kernel_rfl
  have hts : ∃ m, Try.prog.types.size = m + 1 := by
    have h : 23 < Try.prog.types.size := of_decide_eq_true (by kernel_rfl)
    exact ⟨Try.prog.types.size - 1, by omega⟩
  obtain ⟨m, hts⟩ := hts
  have hki : ∀ v l, Try.prog.keyLits (m + 1) 3 [v] = some l → ∃ x, v = .int .i64 x := fun v l hh => by
    unfold Program.keyLits at hh
    simp only [Try.underlying3] at hh
    split at hh <;> simp_all
  unfold keyOf at h
  simp only [hu] at h
  split at h
  · rename_i hc
    rw [Bool.and_eq_true] at hc
    have hf := hc.2
    unfold Value.formed at hf
    cases key <;> simp [hu, hC] at hf
    rename_i cs
    rw [hts] at h
    have hcs : ∃ a b, cs.toList = [a, b] := by
      have hl : cs.toList.length = 2 := by simpa using hf
      match cs.toList, hl with
      | [a, b], _ => exact ⟨a, b, rfl⟩
    obtain ⟨a, b, hcs⟩ := hcs
    have e2 : (Value.agg cs).cells.toList = [a, b] := hcs
    rw [e2] at h
    unfold Program.keyLits at h
    simp only [hu] at h
    split at h
    · simp [hf0, hg0, hft, hgt, hCi] at h
      cases ha : Try.prog.keyLits (m + 1) 3 [a] with
      | none => rw [ha] at h; simp at h
      | some la =>
        cases hb : Try.prog.keyLits (m + 1) 3 [b] with
        | none => rw [ha, hb] at h; simp at h
        | some lb =>
          obtain ⟨x, rfl⟩ := hki a la ha
          obtain ⟨y, rfl⟩ := hki b lb hb
          refine ⟨(x, y), ?_⟩
          have : cs = #[.int .i64 x, .int .i64 y] := Array.toList_inj.1 hcs
          rw [this]
    · simp at h
  · simp at h
theorem enters_exp : Enters 72 := enters_of Try.func72 (by kernel_rfl) (by kernel_rfl)
theorem tells_exp (y : Nat) (now : Int) (w : World) (h : w.cell? ⟨y, 0, none⟩ = some (.int .i64 now)) : Tells 72 y (isOld now) w := fun p w' hs hb => by
  have h0 : w'.cell? ⟨y, 0, none⟩ = some (.int .i64 now) := by rw [World.cell?_of_block (w := w) (w' := w') (a := ⟨y, 0, none⟩) hb]; exact h
  have HQ : Hid (isOld now p.1 = decide (p.1.u < now)) := rfl
  obtain ⟨⟨xp, xn, xb, xs, xm, xk, xe, xg, xu, xd⟩, v⟩ := p
  obtain ⟨ua, uc, hu⟩ := hs
  simp only at hu
  subst hu
  generalize isOld now (⟨xp, xn, xb, xs, xm, xk, xe, xg, xu, xd⟩, Value.slice ua xd.length uc).1 = b at *
  clear hb h
  show Calls Try.prog 72 #[.agg #[.int .i64 xp, .int .i64 xn, .int .i64 xb, .int .i64 xs, .int .i64 xm, .int .i64 xk, .int .i64 xe, .bool xg, .int .i64 xu, .slice ua xd.length uc], _] w' _
  go_enter Try.func72, Try.ntmps72
  go_upto_region 1 with fail
  generalize hw1 : World.alloc w' _ = w1
  have hx1 : w'.Extends w1 := by subst hw1; exact ext_alloc _ _
  have hb1 : w1.rangeAt w'.heap.size 0 (Rc.cells ⟨xp, xn, xb, xs, xm, xk, xe, xg, xu, xd⟩ (.slice ua xd.length uc)) := by subst hw1; exact box_rec w' 28 ⟨xp, xn, xb, xs, xm, xk, xe, xg, xu, xd⟩ _
  have d8 : w1.cell? ⟨w'.heap.size, 8, none⟩ = some (.int .i64 xu) := by simpa using hb1 8 _ rfl
  have e0 := hx1.cell_of h0
  have HX := Lib.hid hx1
  clear hw1 hx1 hb1 h0
  generalize w'.heap.size = z at *
  have HQ2 := HQ.out
  simp only at HQ2
  clear HQ
  by_cases h1 : xu < now
  · rw [decide_eq_true h1] at HQ2
    go_wp2
    go_ret
    first | exact ⟨rfl, HX.out⟩ | exact ⟨by rw [HQ2]; rfl, HX.out⟩
  · rw [decide_eq_false h1] at HQ2
    go_wp2
    go_ret
    first | exact ⟨rfl, HX.out⟩ | exact ⟨by rw [HQ2]; rfl, HX.out⟩
set_option maxHeartbeats 2000000 in
theorem expire_map (t : Nat) (D : Nat → Prop) (st : Sto) (now : Int) (w : World) (v : Value) (b : Nat) (ps : List Pr) (h : SAtX w t D st v (some b) ps) (hl : st.l.length ≤ 1000) (htl : st.t.length ≤ 1000000) :
    Calls Try.prog 30 #[.pointer (some ⟨t, 0, none⟩), .int .i64 now] w fun e w' => e = .returned (.int .i64 ((st.l.length : Nat) + (st.t.length : Nat) - ((SM.expire st now).l.length : Nat) - ((SM.expire st now).t.length : Nat))) ∧ Left w t D (SM.expire st now) w' := by
  obtain ⟨p, hb, c2, c3, c4, f3, f4⟩ := h.cells
  have hln : ps.length ≤ 1000 := by rw [h.len]; exact hl
  have HLEN : Hid (∀ w', w.Extends w' → ∀ ty, (Builtin.len_ #[58] ty #[.map (some b)]).run Try.prog w' = .ok (.int .i64 ((st.t.length : Nat) : Int)) w') := fun w' hx ty => by
    rcases (h.ext hx).tombs with ⟨e, _⟩ | ⟨b', E, e, _, h5, h6⟩
    · cases e
    · cases e
      rw [h5.len Try.underlying58 ty, h6.size]
  have HC : Hid (∀ w', w.Extends w' → w'.cell? ⟨t, 3, none⟩ = some v ∧ w'.cell? ⟨t, 4, none⟩ = some (.map (some b)) ∧ w'.frozen? ⟨t, 3, none⟩ = false) := fun w' hx => ⟨hx.cell_of c3, hx.cell_of c4, (hx.frozen ⟨t, 3, none⟩ h.lt).trans f3⟩
  have HDEL : Hid (∀ (y : Nat) (w1 : World), w.Extends w1 → y = w.heap.size → w1.cell? ⟨y, 0, none⟩ = some (.int .i64 now) → Calls Try.prog 71 #[v, .func (.func 72) #[] #[.pointer (some ⟨y, 0, none⟩)]] w1 (DelOut w1 v (ps.filter (fun p => !isOld now p.1)))) := fun y w1 hx hy hbx => by
    have hyl : y < w1.heap.size := World.block_lt_of_cell? w1 _ hbx
    refine del_all _ y enters_exp (isOld now) v ps w1 (h.own.ext hx) hln (tells_exp y now w1 hbx) hyl (fun e => ?_)
    have := (h.own.1.lt y e).2
    omega
  have HPUT : Hid (∀ w1 w2 w3 a' c', w.Extends w1 → OwnR w2 (.slice a' (ps.filter (fun p => !isOld now p.1)).length c') (ps.filter (fun p => !isOld now p.1)) → w1.grownBy w2 v.ownBlock → (Value.slice a' (ps.filter (fun p => !isOld now p.1)).length c').ownBlock = v.ownBlock → w3 = w2.setCell ⟨t, 3, none⟩ (.slice a' (ps.filter (fun p => !isOld now p.1)).length c') →
      SAtX w3 t (Nx D w w3) { st with l := st.l.filter (fun x => !isOld now x) } (.slice a' (ps.filter (fun p => !isOld now p.1)).length c') (some b) (ps.filter (fun p => !isOld now p.1)) ∧ PFr D w w3) := fun w1 w2 w3 a' c' hx1 ho hg hn hw3 => by
    have h1 := h.ext hx1
    have hst8 : Still 5 w1 w2 := h1.still_own hg (by decide)
    have := h1.put_slice hg ho (.inl hn) (Reads.still (Reads.mono (D := D) (fun p hp => h1.data p (List.mem_filter.1 hp).1) fun i hi => .inl hi) hg.size hst8) hw3
    rw [recs_filter ps (fun x => !isOld now x), h1.recs] at this
    refine ⟨this.1.mono fun i hi => ?_, (PFr.ext hx1).trans this.2⟩
    rcases hi with hi | hi
    · exact .inl hi
    · have := hx1.size; exact .inr (by omega)
  have HST : Hid (∀ w1 w2 : World, w.Extends w1 → w1.grownBy w2 v.ownBlock → w2.frozen? ⟨t, 3, none⟩ = false ∧ w2.cell? ⟨t, 3, none⟩ = some v ∧ w2.cell? ⟨t, 4, none⟩ = some (.map (some b))) := fun w1 w2 hx hg => by
    have h1 := h.ext hx
    have e : w2.heap[t]? = w1.heap[t]? := hg.block t h1.lt (fun e => (h1.apart.1 t e.symm).1 rfl)
    obtain ⟨e0, e1, e2⟩ := HC.out w1 hx
    exact ⟨by rw [World.frozen?_of_block (w := w1) (w' := w2) (a := ⟨t, 3, none⟩) e]; exact e2, by rw [World.cell?_of_block (w := w1) (w' := w2) (a := ⟨t, 3, none⟩) e]; exact e0, by rw [World.cell?_of_block (w := w1) (w' := w2) (a := ⟨t, 4, none⟩) e]; exact e1⟩
  have HYK : Hid (∀ (y : Nat) (w1 w2 w3 : World) (x : Value), w.Extends w1 → y = w.heap.size → w1.cell? ⟨y, 0, none⟩ = some (.int .i64 now) → w1.grownBy w2 v.ownBlock → w3 = w2.setCell ⟨t, 3, none⟩ x → w3.cell? ⟨y, 0, none⟩ = some (.int .i64 now) ∧ y < w3.heap.size) := fun y w1 w2 w3 x hx hy hbx hg hw3 => by
    have hyl : y < w1.heap.size := World.block_lt_of_cell? w1 _ hbx
    have htl := h.lt
    have e : w3.heap[y]? = w1.heap[y]? := by
      subst hw3
      refine ((grown_set w2 t 3 x).block y (Nat.lt_of_lt_of_le hyl hg.size) (by simp; omega)).trans (hg.block y hyl (fun e => ?_))
      have := (h.own.1.lt y e.symm).2
      omega
    refine ⟨?_, ?_⟩
    · rw [World.cell?_of_block (w := w1) (w' := w3) (a := ⟨y, 0, none⟩) e]; exact hbx
    · subst hw3; simp; exact Nat.lt_of_lt_of_le hyl hg.size
  have HFIN : Hid (∀ w3 w4 E' n v' qs, SAtX w3 t (Nx D w w3) { st with l := st.l.filter (fun x => !isOld now x) } v' (some b) qs → PFr D w w3 → w3.grownBy w4 (some b) → w4.ownsMap Try.prog 23 (plainElem Try.prog 3) b n E' → Ties E' (st.t.filter (fun x => !isOld now x)) → Left w t D (SM.expire st now) w4) := fun w3 w4 E' n v' qs hs hf hg ho hE => by
    obtain ⟨h1, h2⟩ := hs.upd_map hg ho hE
    refine ⟨⟨_, _, _, h1.mono fun i hi => ?_⟩, hf.next h2⟩
    rcases hi with hi | hi
    · exact .inl hi
    · have := hg.size; exact .inr (by omega)
  have HQL : Hid ((ps.filter (fun p => !isOld now p.1)).length = (SM.expire st now).l.length) := by
    have := recs_filter ps (fun x => !isOld now x)
    rw [h.recs] at this
    show _ = (st.l.filter (fun x => !isOld now x)).length
    rw [← this, recs_length]
  have HTL : Hid ((st.t.filter (fun x => !isOld now x)).length = (SM.expire st now).t.length) := rfl
  have HPL := Lib.hid h.len
  have hbt := (h.apart.2 b rfl).1
  have hqp : (ps.filter (fun p => !isOld now p.1)).length ≤ ps.length := List.length_filter_le _ _
  have hlb : t < w.heap.size := h.lt
  obtain ⟨va, vc, hv⟩ := h.own.slice
  subst hv
  rw [← h.len]
  clear h hb c2 c3 c4 f3 f4 hl
  have HT1 : Hid (({ st with l := st.l.filter (fun x => !isOld now x) } : Sto).t = st.t) := rfl
  unfold DelOut at HDEL
  generalize (ps.filter (fun p => !isOld now p.1)) = qs at *
  generalize { st with l := st.l.filter (fun x => !isOld now x) } = st1 at *
  rw [← HQL.out, ← HTL.out]
  generalize SM.expire st now = st' at *
  generalize st.t = ts at *
  have HBOX : Hid (∀ w1, w.alloc (.cells #[.int .i64 now] 3) = w1 → w1.cell? ⟨w.heap.size, 0, none⟩ = some (.int .i64 now) ∧ w.heap.size < w1.heap.size) := fun w1 e => by subst e; exact ⟨by simp, by simp⟩
  clear HQL HTL HPL
  generalize hpl : ps.length = pn at *
  generalize hql : qs.length = qn at *
  clear hpl hql
  have HMET : Hid (∀ (E : DataW Unit) (left : Lit → Bool), Ties E ts → (∀ kl, left kl = Maps.has E kl) → leftT now left ts = ts) := fun E left hE hl => leftT_all fun x hx => by rw [hl, hE.has, List.any_eq_true]; exact ⟨x, hx, same_self x⟩
  generalize htn : ts.length = tn at *
  generalize htn2 : (ts.filter (fun x => !isOld now x)).length = tn2 at *
  have HTN := Lib.hid htn
  have HTN2 := Lib.hid htn2
  have htn3 : tn2 ≤ tn := by rw [← htn, ← htn2]; exact List.length_filter_le _ _
  clear htn htn2
  have hwr : IntKind.i64.wrap ((pn : Int) + (tn : Int)) = (pn : Int) + (tn : Int) := by rw [IntKind.wrap_i64]; omega
  go_enter Try.func30, Try.ntmps30
  go_wp2_with fail
  generalize hw1 : World.alloc w _ = w1
  have hx1 : w.Extends w1 := by subst hw1; exact ext_alloc _ _
  obtain ⟨hb1, hy1⟩ := HBOX.out w1 hw1
  have HX1 := Lib.hid hx1
  have HB1 := Lib.hid hb1
  have HXD := Lib.hid (Gr.ext_drew hx1)
  have HBD : Hid (w1.drew.cell? ⟨w.heap.size, 0, none⟩ = some (.int .i64 now)) := hb1
  have hy1d : w.heap.size < w1.drew.heap.size := hy1
  clear hw1 hx1 hb1 hy1 HBOX
  obtain ⟨y, hy⟩ : ∃ y, y = w.heap.size := ⟨_, rfl⟩
  rw [← hy] at HB1 HBD hy1d ⊢
  have HYW := Lib.hid hy
  clear hy
  refine Gr.region 11 [(false,0),(false,1),(false,2),(false,3),(false,4),(false,5),(false,6),(false,7),(false,8),(false,9),(false,10)] (by kernel_rfl) (by kernel_rfl) (fun d _ _ _ _ h => by cases d <;> exact h) ?_
  simp only [Gr.pick, List.getElem?_cons_zero, List.getElem?_cons_succ, List.drop_succ_cons, List.drop_zero]
  generalize w1.drew = wd at *
  iterate 11
    refine Gr.walk_t ?_ (Or.inl ⟨by rfl, ?_⟩) ?_
    rotate_left
    · intro w' hw'
      obtain ⟨e0, e1, e2⟩ := HC.out w' (Gr.ext_trans HXD.out hw')
      have hlm := HLEN.out w' (Gr.ext_trans HXD.out hw')
      clear hw'
      go_simp
      try with_reducible rfl
    simp only [Act.put, List.setIfInBounds_toArray, List.set_cons_zero, List.set_cons_succ]
  refine Gr.walk_nil ?_
  obtain ⟨e0, e1, e2⟩ := HC.out wd HXD.out
  have hF := enters_exp
  go_wp2_with fail
  refine (HDEL.out y wd HXD.out HYW.out HBD.out).mono ?_
  rintro e w2 ⟨a', c', rfl, ho, hg, hn⟩
  obtain ⟨f3', g3', g4'⟩ := HST.out wd w2 HXD.out hg
  have HP3 := Lib.hid (fun w3 hw3 => HPUT.out wd w2 w3 a' c' HXD.out ho hg hn hw3)
  have HY3 := Lib.hid (fun w3 x hw3 => HYK.out y wd w2 w3 x HXD.out HYW.out HBD.out hg hw3)
  clear ho hg hn HDEL HPUT HST HYK e0 e1 e2 HBD HLEN HC hF
  go_upto_region 5 with fail
  generalize hw3 : World.setCell w2 _ _ = w3
  obtain ⟨hs3, hf3⟩ := HP3.out w3 hw3.symm
  obtain ⟨hr3, hy3⟩ := HY3.out w3 _ hw3.symm
  obtain ⟨n, E0, hown, hE⟩ : ∃ n E, w3.ownsMap Try.prog 23 (plainElem (H := Unit) Try.prog 3) b n E ∧ Ties E ts := by
    rcases hs3.tombs with ⟨e, _⟩ | ⟨b', E, e, _, h5, h6⟩
    · cases e
    · cases e; exact ⟨_, E, h5, HT1.out ▸ h6⟩
  obtain ⟨p3, ht3, _, c33, c34, _, _⟩ := hs3.cells
  have HCK : Hid (∀ w', w3.grownBy w' (some b) → w'.cell? ⟨t, 3, none⟩ = some (.slice a' qn c') ∧ w'.cell? ⟨t, 4, none⟩ = some (.map (some b)) ∧ w'.cell? ⟨y, 0, none⟩ = some (.int .i64 now)) := fun w' hg => by
    have htl : t < w3.heap.size := hs3.lt
    have hyb : y ≠ b := fun e => by
      subst e
      obtain ⟨es, ck, hh, _⟩ := hown
      unfold World.cell? at hr3
      rw [hh] at hr3
      simp at hr3
    have e1 := hg.block t htl (by simpa using fun e => hbt e.symm)
    have e2 := hg.block y hy3 (by simpa using hyb)
    exact ⟨by rw [World.cell?_of_block (w := w3) (w' := w') (a := ⟨t, 3, none⟩) e1]; exact c33, by rw [World.cell?_of_block (w := w3) (w' := w') (a := ⟨t, 4, none⟩) e1]; exact c34, by rw [World.cell?_of_block (w := w3) (w' := w') (a := ⟨y, 0, none⟩) e2]; exact hr3⟩
  have HFN : Hid (∀ w4 E' n, w3.grownBy w4 (some b) → w4.ownsMap Try.prog 23 (plainElem (H := Unit) Try.prog 3) b n E' → Ties E' (ts.filter (fun x => !isOld now x)) → Left w t D st' w4) := fun w4 E' n hg ho hE => HFIN.out w3 w4 E' n _ _ hs3 hf3 hg ho hE
  have hb3 : b < w3.heap.size := hown.lt
  have HOWN := Lib.hid hown
  have HE0 := Lib.hid hE
  clear hw3 HP3 HY3 f3' g3' g4' hs3 hf3 hr3 hy3 ht3 c33 c34 HFIN hE hown HX1 HB1 HXD HYW hy1d hlb
  obtain ⟨g3, g4, gy⟩ := HCK.out w3 ⟨rfl, rfl, rfl, Nat.le_refl _, fun _ _ _ => rfl⟩
  go_wp2_with (first | (at_range; refine wpList_range_own _ rfl _ 58 rfl 23 3 idKeyed Try.underlying58 (plainElem (H := Unit) Try.prog 3) b n E0 rfl HOWN.out ?_) | fail)
  intro w0 hrg0 hg0 hs0
  try go_frame
  clear g3 g4 gy
  have HRG0 := Lib.hid hrg0
  have HG0 := Lib.hid hg0
  have HRB : Hid (w3.heap.size ≠ b) := by have : w3.heap.size ≠ b := by omega
                                          exact this
  clear hrg0 hg0 hs0 hb3
  obtain ⟨r, hr⟩ : ∃ r, r = w3.heap.size := ⟨_, rfl⟩
  rw [← hr] at HRG0 HRB ⊢
  have HRW := Lib.hid hr
  clear hr
  go_wp2_with fail
  go_loopw [] (fun wr => ∃ E left cnt, Hid (wr.ranges Try.prog 23 (plainElem (H := Unit) Try.prog 3) b r n E left cnt) ∧ Hid (Ties E (leftT now left ts)) ∧ Hid (w3.grownBy wr (some b))) (fun wr => wr.rangeLeft b r)
  case atStart => exact ⟨E0, _, _, HRG0, Lib.hid (by rw [HMET.out E0 _ HE0.out (fun _ => rfl)]; exact HE0.out), Lib.hid (HG0.out.but _)⟩
  case round =>
    obtain ⟨E, left, cnt, HR, HT, HG⟩ := hrel
    obtain ⟨g3, g4, gy⟩ := HCK.out wr HG.out
    go_wp2_with (first | (at_next; refine wpList_next_ranges _ rfl _ rfl 23 idKeyed (plainElem (H := Unit) Try.prog 3) (fun x : Int × Int => .agg #[.int .i64 x.1, .int .i64 x.2]) (Value.int .i64) (fun key kl hk => id_inv hk) (fun v y hv => by obtain ⟨c, rfl, _⟩ := plainElem_int_inv Try.underlying3 hv; exact ⟨c, rfl⟩) b r n _ _ _ rfl HR.out ?_ ?_) | fail)
    · intro hc0 hl0
      have hTF : Ties E (ts.filter (fun x => !isOld now x)) := by rw [← leftT_none hl0]; exact HT.out
      have hown := HR.out.owns
      have HLN : Hid (∀ w', wr.Extends w' → ∀ ty, (Builtin.len_ #[58] ty #[.map (some b)]).run Try.prog w' = .ok (.int .i64 ((tn2 : Nat) : Int)) w') := fun w' hx ty => by
        have hlb := hown.lt
        have ho : w'.ownsMap Try.prog 23 (plainElem (H := Unit) Try.prog 3) b n E := by
          obtain ⟨es, ck, hh, hrest⟩ := hown
          exact ⟨es, ck, (hx.block b hlb).trans hh, hrest⟩
        rw [ho.len Try.underlying58 ty, hTF.size, HTN2.out]
      have HP := Lib.hid (HFN.out wr E n HG.out hown hTF)
      clear hTF hown hc0 hl0 HR HT
      have hwr1 : IntKind.i64.wrap ((pn : Int) + (tn : Int) - (qn : Int)) = (pn : Int) + (tn : Int) - (qn : Int) := by rw [IntKind.wrap_i64]; omega
      have hwr2 : IntKind.i64.wrap ((pn : Int) + (tn : Int) - (qn : Int) - (tn2 : Int)) = (pn : Int) + (tn : Int) - (qn : Int) - (tn2 : Int) := by rw [IntKind.wrap_i64]; omega
      have HCR : Hid (∀ w', wr.Extends w' → w'.cell? ⟨t, 3, none⟩ = some (.slice a' qn c') ∧ w'.cell? ⟨t, 4, none⟩ = some (.map (some b))) := fun w' hx => ⟨hx.cell_of g3, hx.cell_of g4⟩
      clear g3 g4 gy
      go_wp2_with fail
      refine Gr.region 13 [(false,0),(false,1),(false,2),(false,3),(false,4),(false,5),(false,6),(false,7),(false,8),(false,9),(false,10),(false,11),(false,12)] (by kernel_rfl) (by kernel_rfl) (fun d _ _ _ _ h => by cases d <;> exact h) ?_
      simp only [Gr.pick, List.getElem?_cons_zero, List.getElem?_cons_succ, List.drop_succ_cons, List.drop_zero]
      have HXR := Lib.hid (Gr.ext_drew (Gr.ext_refl wr))
      have HPD : Hid (Left w t D st' wr.drew) := Left.next HP.out (Left.ext HP.out.1 (Gr.ext_drew (Gr.ext_refl wr)))
      generalize wr.drew = wd at *
      iterate 13
        refine Gr.walk_t ?_ (Or.inl ⟨by rfl, ?_⟩) ?_
        rotate_left
        · intro w' hw'
          obtain ⟨g3, g4⟩ := HCR.out w' (Gr.ext_trans HXR.out hw')
          have hln := HLN.out w' (Gr.ext_trans HXR.out hw')
          clear hw'
          go_simp
          try with_reducible rfl
        simp only [Act.put, List.setIfInBounds_toArray, List.set_cons_zero, List.set_cons_succ]
      refine Gr.walk_nil ?_
      go_wp2
      go_ret
      exact ⟨rfl, HPD.out⟩
    · intro xp xn c kl z zl w1 cnt1 hkey hlk hv hat hrg1 hlt hg1 hs1 hen
      have hz : z = .lit (.int .i64 c) := by
        obtain ⟨c', hc', hz', _⟩ := plainElem_int_inv Try.underlying3 hv
        cases hc'
        exact (Prod.mk.inj hz').1
      rw [hz] at hat
      have hik := idKeyed.key hkey
      have HMT := Lib.hid (HT.out.meet hlk (ranges_left HR.out hik hlk) hat)
      have HKEY := Lib.hid hkey
      have HTR := HT
      have HR1 := Lib.hid hrg1
      have HG1 : Hid (w3.grownBy w1 (some b)) := HG.out.andThen hg1 (fun j hj => by have := Option.some.inj hj; subst this; exact .inl (by rw [HRW.out]; exact Nat.le_refl _))
      have HLT : Hid (cnt1 < wr.rangeLeft b r) := by rw [HR.out.left_eq]; exact hlt
      clear hkey hlk hat hrg1 hlt hg1 hs1 hik hz hv g3 g4 gy HR HT HG
      go_upto_region 8 with fail
      generalize hw2 : World.alloc w1 _ = w2
      have hx2 : w1.Extends w2 := by subst hw2; exact ext_alloc _ _
      have hg12 : w1.grownBy w2 none := by subst hw2; exact World.grownBy_alloc _ _ none
      have c0 : w2.cell? ⟨w1.heap.size, 0, none⟩ = some (.int .i64 xp) := by subst hw2; simp
      have c1 : w2.cell? ⟨w1.heap.size, 1, none⟩ = some (.int .i64 xn) := by subst hw2; simp
      have HR2 : Hid (w2.ranges Try.prog 23 (plainElem (H := Unit) Try.prog 3) b r n E (fun z => left z && !z.sameKey kl) cnt1) := by have := HR1.out.alloc (.cells #[.int .i64 xp, .int .i64 xn] 23); subst hw2; exact this
      have HG2 : Hid (w3.grownBy w2 (some b)) := HG1.out.andThen hg12 (fun j hj => by cases hj)
      have HXK : Hid (∀ w', w2.Extends w' → w'.cell? ⟨t, 4, none⟩ = some (.map (some b)) ∧ w'.cell? ⟨w1.heap.size, 0, none⟩ = some (.int .i64 xp) ∧ w'.cell? ⟨w1.heap.size, 1, none⟩ = some (.int .i64 xn)) := fun w' hx => ⟨hx.cell_of (HCK.out w2 HG2.out).2.1, hx.cell_of c0, hx.cell_of c1⟩
      obtain ⟨g3, g4, gy⟩ := HCK.out w2 HG2.out
      clear hw2 hx2 hg12 c0 c1 HR1 HG1
      generalize w1.heap.size = q at *
      by_cases h1 : c < now
      · clear g3 g4
        go_wp2_with fail
        refine Gr.region 5 [(false,0),(false,1),(false,2),(false,3),(false,4)] (by kernel_rfl) (by kernel_rfl) (fun d _ _ _ _ h => by cases d <;> exact h) ?_
        simp only [Gr.pick, List.getElem?_cons_zero, List.getElem?_cons_succ, List.drop_succ_cons, List.drop_zero]
        have HXD2 := Lib.hid (Gr.ext_drew (Gr.ext_refl w2))
        have HRD : Hid (w2.drew.ranges Try.prog 23 (plainElem (H := Unit) Try.prog 3) b r n E (fun z => left z && !z.sameKey kl) cnt1) := HR2.out
        have HGD : Hid (w3.grownBy w2.drew (some b)) := ⟨HG2.out.os, HG2.out.tape, HG2.out.output, HG2.out.size, HG2.out.block⟩
        generalize w2.drew = wd at *
        iterate 5
          refine Gr.walk_t ?_ (Or.inl ⟨by rfl, ?_⟩) ?_
          rotate_left
          · intro w' hw'
            obtain ⟨g4, c0, c1⟩ := HXK.out w' (Gr.ext_trans HXD2.out hw')
            clear hw'
            go_simp
            try with_reducible rfl
          simp only [Act.put, List.setIfInBounds_toArray, List.set_cons_zero, List.set_cons_succ]
        refine Gr.walk_nil ?_
        go_wp2_with (at_delete; refine wpList_delete_ranges _ rfl _ _ 58 23 rfl 3 idKeyed Try.underlying58 (plainElem (H := Unit) Try.prog 3) b r n _ _ _ rfl HRD.out _ kl rfl HKEY.out ?_)
        intro w5 cnt2 hrg2 hle hturn
        try rw [Maps.strike_twice] at hrg2
        have hnew : (∃ E left cnt, Hid (w5.ranges Try.prog 23 (plainElem (H := Unit) Try.prog 3) b r n E left cnt) ∧ Hid (Ties E (leftT now left ts)) ∧ Hid (w3.grownBy w5 (some b))) ∧ w5.rangeLeft b r < wr.rangeLeft b r := by
          obtain ⟨⟨x, hx, hxe⟩, hux⟩ := HMT.out
          refine ⟨⟨_, _, _, Lib.hid hrg2, Lib.hid ?_, Lib.hid (HGD.out.andThen hturn.grown (fun j hj => .inr hj))⟩, ?_⟩
          · rw [leftT_drop h1 hux, ← hxe]
            exact HTR.out.del hx
          · rw [hrg2.left_eq]; have := HLT.out; omega
        clear hrg2 hle hturn
        go_wp2_with fail
        exact hnew
      · go_wp2_with fail
        refine ⟨⟨_, _, _, HR2, Lib.hid ?_, HG2⟩, ?_⟩
        · rw [leftT_keep h1 HMT.out.2]; exact HTR.out
        · rw [HR2.out.left_eq]; exact HLT.out
set_option maxHeartbeats 2000000 in
theorem expire_none (t : Nat) (D : Nat → Prop) (st : Sto) (now : Int) (w : World) (v : Value) (ps : List Pr) (h : SAtX w t D st v none ps) (hl : st.l.length ≤ 1000) (htl : st.t.length ≤ 1000000) :
    Calls Try.prog 30 #[.pointer (some ⟨t, 0, none⟩), .int .i64 now] w fun e w' => e = .returned (.int .i64 ((st.l.length : Nat) + (st.t.length : Nat) - ((SM.expire st now).l.length : Nat) - ((SM.expire st now).t.length : Nat))) ∧ Left w t D (SM.expire st now) w' := by
  obtain ⟨p, hb, c2, c3, c4, f3, f4⟩ := h.cells
  have ht0 : st.t = [] := by
    rcases h.tombs with ⟨_, e⟩ | ⟨b, E, e, _⟩
    · exact e
    · cases e
  have hln : ps.length ≤ 1000 := by rw [h.len]; exact hl
  have HLEN : Hid (∀ w', w.Extends w' → ∀ ty, (Builtin.len_ #[58] ty #[.map none]).run Try.prog w' = .ok (.int .i64 ((st.t.length : Nat) : Int)) w') := fun w' hx ty => by
    rw [ht0]; exact Maps.len_nil Try.underlying58 ty
  have HC : Hid (∀ w', w.Extends w' → w'.cell? ⟨t, 3, none⟩ = some v ∧ w'.cell? ⟨t, 4, none⟩ = some (.map none) ∧ w'.frozen? ⟨t, 3, none⟩ = false) := fun w' hx => ⟨hx.cell_of c3, hx.cell_of c4, (hx.frozen ⟨t, 3, none⟩ h.lt).trans f3⟩
  have HDEL : Hid (∀ (y : Nat) (w1 : World), w.Extends w1 → y = w.heap.size → w1.cell? ⟨y, 0, none⟩ = some (.int .i64 now) → Calls Try.prog 71 #[v, .func (.func 72) #[] #[.pointer (some ⟨y, 0, none⟩)]] w1 (DelOut w1 v (ps.filter (fun p => !isOld now p.1)))) := fun y w1 hx hy hbx => by
    have hyl : y < w1.heap.size := World.block_lt_of_cell? w1 _ hbx
    refine del_all _ y enters_exp (isOld now) v ps w1 (h.own.ext hx) hln (tells_exp y now w1 hbx) hyl (fun e => ?_)
    have := (h.own.1.lt y e).2
    omega
  have HPUT : Hid (∀ w1 w2 w3 a' c', w.Extends w1 → OwnR w2 (.slice a' (ps.filter (fun p => !isOld now p.1)).length c') (ps.filter (fun p => !isOld now p.1)) → w1.grownBy w2 v.ownBlock → (Value.slice a' (ps.filter (fun p => !isOld now p.1)).length c').ownBlock = v.ownBlock → w3 = w2.setCell ⟨t, 3, none⟩ (.slice a' (ps.filter (fun p => !isOld now p.1)).length c') →
      SAtX w3 t (Nx D w w3) { st with l := st.l.filter (fun x => !isOld now x) } (.slice a' (ps.filter (fun p => !isOld now p.1)).length c') none (ps.filter (fun p => !isOld now p.1)) ∧ PFr D w w3) := fun w1 w2 w3 a' c' hx1 ho hg hn hw3 => by
    have h1 := h.ext hx1
    have hst8 : Still 5 w1 w2 := h1.still_own hg (by decide)
    have := h1.put_slice hg ho (.inl hn) (Reads.still (Reads.mono (D := D) (fun p hp => h1.data p (List.mem_filter.1 hp).1) fun i hi => .inl hi) hg.size hst8) hw3
    rw [recs_filter ps (fun x => !isOld now x), h1.recs] at this
    refine ⟨this.1.mono fun i hi => ?_, (PFr.ext hx1).trans this.2⟩
    rcases hi with hi | hi
    · exact .inl hi
    · have := hx1.size; exact .inr (by omega)
  have HST : Hid (∀ w1 w2 : World, w.Extends w1 → w1.grownBy w2 v.ownBlock → w2.frozen? ⟨t, 3, none⟩ = false ∧ w2.cell? ⟨t, 3, none⟩ = some v ∧ w2.cell? ⟨t, 4, none⟩ = some (.map none)) := fun w1 w2 hx hg => by
    have h1 := h.ext hx
    have e : w2.heap[t]? = w1.heap[t]? := hg.block t h1.lt (fun e => (h1.apart.1 t e.symm).1 rfl)
    obtain ⟨e0, e1, e2⟩ := HC.out w1 hx
    exact ⟨by rw [World.frozen?_of_block (w := w1) (w' := w2) (a := ⟨t, 3, none⟩) e]; exact e2, by rw [World.cell?_of_block (w := w1) (w' := w2) (a := ⟨t, 3, none⟩) e]; exact e0, by rw [World.cell?_of_block (w := w1) (w' := w2) (a := ⟨t, 4, none⟩) e]; exact e1⟩
  have HYK : Hid (∀ (y : Nat) (w1 w2 w3 : World) (x : Value), w.Extends w1 → y = w.heap.size → w1.cell? ⟨y, 0, none⟩ = some (.int .i64 now) → w1.grownBy w2 v.ownBlock → w3 = w2.setCell ⟨t, 3, none⟩ x → w3.cell? ⟨y, 0, none⟩ = some (.int .i64 now) ∧ y < w3.heap.size) := fun y w1 w2 w3 x hx hy hbx hg hw3 => by
    have hyl : y < w1.heap.size := World.block_lt_of_cell? w1 _ hbx
    have htl := h.lt
    have e : w3.heap[y]? = w1.heap[y]? := by
      subst hw3
      refine ((grown_set w2 t 3 x).block y (Nat.lt_of_lt_of_le hyl hg.size) (by simp; omega)).trans (hg.block y hyl (fun e => ?_))
      have := (h.own.1.lt y e.symm).2
      omega
    refine ⟨?_, ?_⟩
    · rw [World.cell?_of_block (w := w1) (w' := w3) (a := ⟨y, 0, none⟩) e]; exact hbx
    · subst hw3; simp; exact Nat.lt_of_lt_of_le hyl hg.size
  have HFIN : Hid (∀ w3 w4 v' qs, SAtX w3 t (Nx D w w3) { st with l := st.l.filter (fun x => !isOld now x) } v' none qs → PFr D w w3 → w3.Extends w4 → Left w t D (SM.expire st now) w4) := fun w3 w4 v' qs hs hf hx => by
    have e : ({ st with l := st.l.filter (fun x => !isOld now x) } : Sto) = SM.expire st now := by
      unfold SM.expire
      have : st.t.filter (fun x => !isOld now x) = st.t := by rw [ht0]; rfl
      rw [this]
    rw [e] at hs
    exact Left.next ⟨⟨_, _, _, hs⟩, hf⟩ (Left.ext ⟨_, _, _, hs⟩ hx)
  have HQL : Hid ((ps.filter (fun p => !isOld now p.1)).length = (SM.expire st now).l.length) := by
    have := recs_filter ps (fun x => !isOld now x)
    rw [h.recs] at this
    show _ = (st.l.filter (fun x => !isOld now x)).length
    rw [← this, recs_length]
  have HTL : Hid ((st.t.filter (fun x => !isOld now x)).length = (SM.expire st now).t.length) := rfl
  have HPL := Lib.hid h.len
  have hqp : (ps.filter (fun p => !isOld now p.1)).length ≤ ps.length := List.length_filter_le _ _
  have hlb : t < w.heap.size := h.lt
  obtain ⟨va, vc, hv⟩ := h.own.slice
  subst hv
  rw [← h.len]
  clear h hb c2 c3 c4 f3 f4 hl
  unfold DelOut at HDEL
  generalize (ps.filter (fun p => !isOld now p.1)) = qs at *
  generalize { st with l := st.l.filter (fun x => !isOld now x) } = st1 at *
  rw [← HQL.out, ← HTL.out]
  generalize SM.expire st now = st' at *
  generalize st.t = ts at *
  have HBOX : Hid (∀ w1, w.alloc (.cells #[.int .i64 now] 3) = w1 → w1.cell? ⟨w.heap.size, 0, none⟩ = some (.int .i64 now) ∧ w.heap.size < w1.heap.size) := fun w1 e => by subst e; exact ⟨by simp, by simp⟩
  clear HQL HTL HPL
  generalize hpl : ps.length = pn at *
  generalize hql : qs.length = qn at *
  clear hpl hql
  generalize htn : ts.length = tn at *
  generalize htn2 : (ts.filter (fun x => !isOld now x)).length = tn2 at *
  have HTN := Lib.hid htn
  have HTN2 := Lib.hid htn2
  have htn3 : tn = 0 ∧ tn2 = 0 := by rw [← htn, ← htn2, ht0]; exact ⟨rfl, rfl⟩
  obtain ⟨rfl, rfl⟩ := htn3
  clear htn htn2 HTN HTN2 ht0
  have hwr : IntKind.i64.wrap (pn : Int) = (pn : Int) := by rw [IntKind.wrap_i64]; omega
  go_enter Try.func30, Try.ntmps30
  go_wp2_with fail
  generalize hw1 : World.alloc w _ = w1
  have hx1 : w.Extends w1 := by subst hw1; exact ext_alloc _ _
  obtain ⟨hb1, hy1⟩ := HBOX.out w1 hw1
  have HX1 := Lib.hid hx1
  have HB1 := Lib.hid hb1
  have HXD := Lib.hid (Gr.ext_drew hx1)
  have HBD : Hid (w1.drew.cell? ⟨w.heap.size, 0, none⟩ = some (.int .i64 now)) := hb1
  have hy1d : w.heap.size < w1.drew.heap.size := hy1
  clear hw1 hx1 hb1 hy1 HBOX
  obtain ⟨y, hy⟩ : ∃ y, y = w.heap.size := ⟨_, rfl⟩
  rw [← hy] at HB1 HBD hy1d ⊢
  have HYW := Lib.hid hy
  clear hy
  refine Gr.region 11 [(false,0),(false,1),(false,2),(false,3),(false,4),(false,5),(false,6),(false,7),(false,8),(false,9),(false,10)] (by kernel_rfl) (by kernel_rfl) (fun d _ _ _ _ h => by cases d <;> exact h) ?_
  simp only [Gr.pick, List.getElem?_cons_zero, List.getElem?_cons_succ, List.drop_succ_cons, List.drop_zero]
  generalize w1.drew = wd at *
  iterate 11
    refine Gr.walk_t ?_ (Or.inl ⟨by rfl, ?_⟩) ?_
    rotate_left
    · intro w' hw'
      obtain ⟨e0, e1, e2⟩ := HC.out w' (Gr.ext_trans HXD.out hw')
      have hlm := HLEN.out w' (Gr.ext_trans HXD.out hw')
      clear hw'
      go_simp
      try with_reducible rfl
    simp only [Act.put, List.setIfInBounds_toArray, List.set_cons_zero, List.set_cons_succ]
  refine Gr.walk_nil ?_
  obtain ⟨e0, e1, e2⟩ := HC.out wd HXD.out
  have hF := enters_exp
  go_wp2_with fail
  refine (HDEL.out y wd HXD.out HYW.out HBD.out).mono ?_
  rintro e w2 ⟨a', c', rfl, ho, hg, hn⟩
  obtain ⟨f3', g3', g4'⟩ := HST.out wd w2 HXD.out hg
  have HP3 := Lib.hid (fun w3 hw3 => HPUT.out wd w2 w3 a' c' HXD.out ho hg hn hw3)
  have HY3 := Lib.hid (fun w3 x hw3 => HYK.out y wd w2 w3 x HXD.out HYW.out HBD.out hg hw3)
  clear ho hg hn HDEL HPUT HST HYK e0 e1 e2 HBD HLEN HC hF
  go_upto_region 5 with fail
  generalize hw3 : World.setCell w2 _ _ = w3
  obtain ⟨hs3, hf3⟩ := HP3.out w3 hw3.symm
  obtain ⟨hr3, hy3⟩ := HY3.out w3 _ hw3.symm
  obtain ⟨p3, ht3, _, c33, c34, _, _⟩ := hs3.cells
  have HCK : Hid (∀ w', w3.Extends w' → w'.cell? ⟨t, 3, none⟩ = some (.slice a' qn c') ∧ w'.cell? ⟨t, 4, none⟩ = some (.map none)) := fun w' hg => ⟨hg.cell_of c33, hg.cell_of c34⟩
  have HFN : Hid (∀ w4, w3.Extends w4 → Left w t D st' w4) := fun w4 hx => HFIN.out w3 w4 _ _ hs3 hf3 hx
  clear hw3 HP3 HY3 f3' g3' g4' hs3 hf3 hr3 hy3 ht3 c33 HFIN HX1 HB1 HXD HYW hy1d hlb
  have hrr := run_range_nilMap (P := Try.prog) w3 58 23 3 Try.underlying58
  have hnn : ∀ ty, (Instr.next (.pointer (some ⟨w3.heap.size, 0, none⟩)) false ty).run Try.prog (w3.alloc (.mapIter none 0 #[] 0)) = .ok (.tuple #[.bool false]) (w3.alloc (.mapIter none 0 #[] 0)) := fun ty => run_next_nilMap w3 ty 0 0 #[]
  go_wp2_with fail
  go_loopw [] (fun wr => wr = w3.alloc (.mapIter none 0 #[] 0)) (fun _ => 0)
  case atStart => rfl
  case round =>
    subst hrel
    go_wp2_with fail
    have hx4 : w3.Extends (w3.alloc (.mapIter none 0 #[] 0)) := ext_alloc _ _
    have HP := Lib.hid (HFN.out _ hx4)
    have HCR : Hid (∀ w', (w3.alloc (.mapIter none 0 #[] 0)).Extends w' → w'.cell? ⟨t, 3, none⟩ = some (.slice a' qn c') ∧ w'.cell? ⟨t, 4, none⟩ = some (.map none)) := fun w' hx => HCK.out w' (Gr.ext_trans hx4 hx)
    clear hx4 hrr hnn HCK HFN
    generalize World.alloc w3 _ = wr at *
    have hln : ∀ w' ty, (Builtin.len_ #[58] ty #[.map none]).run Try.prog w' = .ok (.int .i64 0) w' := fun w' ty => Maps.len_nil Try.underlying58 ty
    have hwr1 : IntKind.i64.wrap ((pn : Int) - (qn : Int)) = (pn : Int) - (qn : Int) := by rw [IntKind.wrap_i64]; omega
    refine Gr.region 13 [(false,0),(false,1),(false,2),(false,3),(false,4),(false,5),(false,6),(false,7),(false,8),(false,9),(false,10),(false,11),(false,12)] (by kernel_rfl) (by kernel_rfl) (fun d _ _ _ _ h => by cases d <;> exact h) ?_
    simp only [Gr.pick, List.getElem?_cons_zero, List.getElem?_cons_succ, List.drop_succ_cons, List.drop_zero]
    have HXR := Lib.hid (Gr.ext_drew (Gr.ext_refl wr))
    have HPD : Hid (Left w t D st' wr.drew) := Left.next HP.out (Left.ext HP.out.1 (Gr.ext_drew (Gr.ext_refl wr)))
    generalize wr.drew = wd at *
    iterate 13
      refine Gr.walk_t ?_ (Or.inl ⟨by rfl, ?_⟩) ?_
      rotate_left
      · intro w' hw'
        obtain ⟨g3, g4⟩ := HCR.out w' (Gr.ext_trans HXR.out hw')
        clear hw'
        go_simp
        try with_reducible rfl
      simp only [Act.put, List.setIfInBounds_toArray, List.set_cons_zero, List.set_cons_succ]
    refine Gr.walk_nil ?_
    go_wp2
    go_ret
    exact ⟨by show Ending.returned (Value.int .i64 ((pn : Int) - (qn : Int))) = _; simp, HPD.out⟩
theorem expire_any (t : Nat) (D : Nat → Prop) (st : Sto) (now : Int) (w : World) (h : SAt w t D st) (hl : st.l.length ≤ 1000) (htl : st.t.length ≤ 1000000) :
    Calls Try.prog 30 #[.pointer (some ⟨t, 0, none⟩), .int .i64 now] w fun e w' => e = .returned (.int .i64 ((st.l.length : Nat) + (st.t.length : Nat) - ((SM.expire st now).l.length : Nat) - ((SM.expire st now).t.length : Nat))) ∧ Left w t D (SM.expire st now) w' := by
  obtain ⟨v, mp, ps, h⟩ := h
  cases mp with
  | none => exact expire_none t D st now w v ps h hl htl
  | some b => exact expire_map t D st now w v b ps h hl htl
end Go.Proofs.Ytdbdnfjgmdkneaa
namespace Go.Proofs.Ytdbdnfjgmdkneaa
set_option maxRecDepth 20000
open Go.RowKit Go.Deep Go.Maps
set_option linter.unusedVariables false
/-- What a call leaves of a store of the reference. -/
def RLeft (w : World) (t : Nat) (D : Nat → Prop) (st : Sto) (w' : World) : Prop := RSt w' t (Nx D w w') st ∧ Fr D w w'
theorem RLeft.ext {w w' : World} {t : Nat} {D : Nat → Prop} {st : Sto} (h : RSt w t D st) (hx : w.Extends w') : RLeft w t D st w' := ⟨(h.ext hx).mono fun i hi => .inl hi, Fr.ext hx⟩
theorem RLeft.next {a b c : World} {t : Nat} {D : Nat → Prop} {st st' : Sto} (h : RLeft a t D st b) (k : RLeft b t (Nx D a b) st' c) : RLeft a t D st' c := ⟨k.1.mono fun i hi => Nx.next h.2.size k.2.size hi, h.2.next k.2⟩
/-- A slice of records of a call's own, in memory from B on. -/
def OwnB (w : World) (B : Nat) (v : Value) (ps : List Pr) : Prop := w.ownsRow B 28 10 v ps.length (flat ps) ∧ ∀ p ∈ ps, Slc p
theorem OwnB.nil (w : World) (B : Nat) : OwnB w B (.slice none 0 0) [] := ⟨World.ownsRow_nil _ _ _ _, fun p hp => by cases hp⟩
theorem OwnB.own {w : World} {B : Nat} {v : Value} {ps : List Pr} (h : OwnB w B v ps) : OwnR w v ps := by
  refine ⟨⟨h.1.1, ?_⟩, h.2⟩
  rcases h.1.2 with h4 | ⟨g, cap, cur, e, _, hrest⟩
  · exact .inl h4
  · exact .inr ⟨g, cap, cur, e, Nat.zero_le _, hrest⟩
theorem OwnB.ext {w w' : World} {B : Nat} {v : Value} {ps : List Pr} (h : OwnB w B v ps) (hx : w.Extends w') : OwnB w' B v ps := by
  have hg : w.grownBy w' none := ⟨hx.os, hx.tape, hx.output, hx.size, fun i hi _ => hx.block i hi⟩
  exact ⟨h.1.kept hg (by cases v.ownBlock <;> simp), h.2⟩
theorem OwnB.slice {w : World} {B : Nat} {v : Value} {ps : List Pr} (h : OwnB w B v ps) : ∃ a cap, v = .slice a ps.length cap := h.own.slice
theorem OwnB.snoc {w' : World} {B : Nat} {v' : Value} {ps : List Pr} {p : Pr} (hs : ∀ q ∈ ps, Slc q) (hp : Slc p) (ho : w'.ownsRow B 28 10 v' (ps.length + 1) (flat ps ++ p.1.cells p.2)) : OwnB w' B v' (ps ++ [p]) := by
  refine ⟨?_, fun q hq => ?_⟩
  · rw [flat_append, List.length_append]
    have e : flat [p] = p.1.cells p.2 := by rw [flat_cons, flat_nil, List.append_nil]
    rw [e]
    exact ho
  · rcases List.mem_append.1 hq with hq | hq
    · exact hs q hq
    · rw [List.mem_singleton] at hq; subst hq; exact hp
/-- Both slices put, of some of what the store had. -/
theorem RSX.put_both {w wr w5 w6 : World} {t : Nat} {D DB : Nat → Prop} {st : Sto} {v1 v2 u1 u2 : Value} {ps qs ps' qs' : List Pr} (h : RSX w t D DB st v1 v2 ps qs) (hx : w.Extends wr) (h1 : OwnR wr u1 ps') (h2 : OwnR wr u2 qs') (b1 : ∀ g, u1.ownBlock = some g → w.heap.size ≤ g) (b2 : ∀ g, u2.ownBlock = some g → w.heap.size ≤ g)
    (hap : ∀ g, u1.ownBlock = some g → u2.ownBlock ≠ some g) (hps : ∀ p ∈ ps', p ∈ ps) (hw5 : w5 = wr.setCell ⟨t, 1, none⟩ u1) (hw6 : w6 = w5.setCell ⟨t, 2, none⟩ u2) : RLeft w t D { st with l := recs ps', t := recs qs' } w6 := by
  have hr := h.ext hx
  obtain ⟨l5, g5⟩ := hr.log.front (i := 1) (by omega) hw5
  obtain ⟨l6, g6⟩ := RAt.front (i := 2) l5 (by omega) hw6
  have hg := grown_trans g5 g6
  have hlt := h.lt
  obtain ⟨sa, sc, hb, _⟩ := hr.cells
  have hst : ∀ T, T ≠ 64 → Still T wr w6 := fun T hT => Still.grown hg hb (Ne.symm hT)
  have hsz : wr.heap.size ≤ w6.heap.size := hg.size
  have hxs := hx.size
  have new : ∀ u qq, OwnR wr u qq → (∀ g, u.ownBlock = some g → w.heap.size ≤ g) → (∀ g, u.ownBlock = some g → Nx D w w6 g) := fun u qq ho hb g hg => .inr ⟨hb g hg, Nat.lt_of_lt_of_le (ho.1.lt g hg).2 hsz⟩
  have kep : ∀ u qq, OwnR wr u qq → (∀ g, u.ownBlock = some g → w.heap.size ≤ g) → OwnR w6 u qq := fun u qq ho hb => ho.kept hg (.inr fun e => by have := hb t e; omega)
  refine ⟨⟨DB, u1, u2, ps', qs', ⟨l6, .inl h.here, kep _ _ h1 b1, kep _ _ h2 b2, rfl, rfl, new _ _ h1 b1, new _ _ h2 b2, fun g hgB => ?_, hap, fun p hp => ?_, fun p hp => h.dataB p (hps p hp)⟩⟩, ?_⟩
  · obtain ⟨k1, cs, k2⟩ := hr.inB g hgB
    exact ⟨.inl k1, cs, (hst _ (by decide) g cs _ k2).trans k2⟩
  · exact ((hr.data p (hps p hp)).mono fun i hi => .inl hi).still hsz (hst _ (by decide))
  · exact (Fr.ext (D := D) hx).trans (Fr.grown (D := D) hg (fun g e => by have := Option.some.inj e; subst this; exact h.here)) fun _ _ h => h
theorem fl_mem {q : Rc → Bool} {ps : List Pr} : ∀ p ∈ ps.filter (fun p => !q p.1), p ∈ ps := fun p hp => (List.mem_filter.1 hp).1
set_option maxHeartbeats 4000000 in
theorem rexpire_any (t : Nat) (D : Nat → Prop) (st : Sto) (now : Int) (w : World) (h : RSt w t D st) (hl : st.l.length ≤ 1000) (htl : st.t.length ≤ 1000000) :
    Calls Try.prog 31 #[.pointer (some ⟨t, 0, none⟩), .int .i64 now] w fun e w' => e = .returned (.int .i64 ((st.l.length : Nat) + (st.t.length : Nat) - ((SM.expire st now).l.length : Nat) - ((SM.expire st now).t.length : Nat))) ∧ RLeft w t D (SM.expire st now) w' := by
  obtain ⟨DB, v1, v2, ps, qs, h⟩ := h
  have HAT1 := Lib.hid h.own1.at_
  have HAT2 := Lib.hid h.own2.at_
  have HSL1 : Hid (∀ k, k < ps.length → Slc (ps.getD k zp)) := fun k hk => h.own1.2 _ (getD_mem hk)
  have HSL2 : Hid (∀ k, k < qs.length → Slc (qs.getD k zp)) := fun k hk => h.own2.2 _ (getD_mem hk)
  have HFS1 : Hid (∀ k, ∀ p ∈ fl (isOld now) ps k, Slc p) := fun k p hp => h.own1.2 p (List.mem_of_mem_take (List.mem_filter.1 hp).1)
  have HFS2 : Hid (∀ k, ∀ p ∈ fl (isOld now) qs k, Slc p) := fun k p hp => h.own2.2 p (List.mem_of_mem_take (List.mem_filter.1 hp).1)
  obtain ⟨sa, sc, hb, c0, c1, c2, c3, f1, f2⟩ := h.cells
  have HC1 := Lib.hid c1
  have HC2 := Lib.hid c2
  have HF1 := Lib.hid f1
  have HF2 := Lib.hid f2
  have HTL := Lib.hid h.lt
  have HY1 : Hid (∀ k, k < ps.length → (ps.getD k zp).1.u < now → fl (isOld now) ps (k + 1) = fl (isOld now) ps k) := fun k hk hq => fl_yes hk (decide_eq_true hq)
  have HN1 : Hid (∀ k, k < ps.length → ¬ (ps.getD k zp).1.u < now → fl (isOld now) ps (k + 1) = fl (isOld now) ps k ++ [ps.getD k zp]) := fun k hk hq => fl_no hk (decide_eq_false hq)
  have HY2 : Hid (∀ k, k < qs.length → (qs.getD k zp).1.u < now → fl (isOld now) qs (k + 1) = fl (isOld now) qs k) := fun k hk hq => fl_yes hk (decide_eq_true hq)
  have HN2 : Hid (∀ k, k < qs.length → ¬ (qs.getD k zp).1.u < now → fl (isOld now) qs (k + 1) = fl (isOld now) qs k ++ [qs.getD k zp]) := fun k hk hq => fl_no hk (decide_eq_false hq)
  have HL1 := Lib.hid (fl_le (isOld now) ps)
  have HL2 := Lib.hid (fl_le (isOld now) qs)
  have HZ1 : Hid (fl (isOld now) ps 0 = []) := rfl
  have HZ2 : Hid (fl (isOld now) qs 0 = []) := rfl
  have er1 : recs (fl (isOld now) ps ps.length) = (SM.expire st now).l := by
    rw [fl_all, recs_filter ps (fun x => !isOld now x), h.recs1]; rfl
  have er2 : recs (fl (isOld now) qs qs.length) = (SM.expire st now).t := by
    rw [fl_all, recs_filter qs (fun x => !isOld now x), h.recs2]; rfl
  have HFIN : Hid (∀ w2 wr u1 u2 w5 w6, w.Extends w2 → w2.Extends wr → OwnB w2 w.heap.size u1 (fl (isOld now) ps ps.length) → OwnB wr w2.heap.size u2 (fl (isOld now) qs qs.length) → w5 = wr.setCell ⟨t, 1, none⟩ u1 → w6 = w5.setCell ⟨t, 2, none⟩ u2 → RLeft w t D (SM.expire st now) w6) := fun w2 wr u1 u2 w5 w6 hx2 hxr ho1 ho2 e5 e6 => by
    have hs2 := hx2.size
    have := h.put_both (Gr.ext_trans hx2 hxr) (ho1.ext hxr).own ho2.own (fun g hg => (ho1.1.lt g hg).1) (fun g hg => Nat.le_trans hs2 (ho2.1.lt g hg).1) (fun g hg hg2 => by
      have a1 := (ho1.1.lt g hg).2
      have a2 := (ho2.1.lt g hg2).1
      omega) (fun p hp => by rw [fl_all] at hp; exact fl_mem p hp) e5 e6
    rw [er1, er2] at this
    exact this
  have HR1 : Hid ((fl (isOld now) ps ps.length).length = (SM.expire st now).l.length) := by show _ = _; rw [← er1, recs_length]
  have HR2 : Hid ((fl (isOld now) qs qs.length).length = (SM.expire st now).t.length) := by show _ = _; rw [← er2, recs_length]
  rw [← HR1.out, ← HR2.out, ← h.len1, ← h.len2]
  rw [← h.len1] at hl
  rw [← h.len2] at htl
  obtain ⟨a1, cap1, rfl⟩ := h.own1.slice
  obtain ⟨a2, cap2, rfl⟩ := h.own2.slice
  obtain ⟨i2, hi', hz0', hz1', hz2'⟩ := info_parts recinfo
  have HI' := Lib.hid hi'; clear hi'
  have HZ0' := Lib.hid hz0'; clear hz0'
  have HZ1' := Lib.hid hz1'; clear hz1'
  have HZ2' := Lib.hid hz2'; clear hz2'
  clear h hb c0 c1 c2 c3 f1 f2 er1 er2 HR1 HR2
  generalize SM.expire st now = st' at *
  generalize ps.length = n1 at *
  generalize qs.length = n2 at *
  generalize fl (isOld now) ps = G1 at *
  generalize fl (isOld now) qs = G2 at *
  have hc1 := HC1.out
  go_enter Try.func31, Try.ntmps31
  go_wp2_with fail
  have HXW : Hid (w.Extends w) := Gr.ext_refl w
  have HCW := HC1
  go_loopw [5, 7] (fun s5 s7 wr => ∃ k : Nat, k ≤ n1 ∧ s7 = .int .i64 k ∧ Hid (w.Extends wr) ∧ Hid (OwnB wr w.heap.size s5 (G1 k))) (fun _ s7 _ => n1 - (intOf s7).toNat)
  case atStart => exact ⟨0, by omega, by rfl, Lib.hid (Gr.ext_refl _), Lib.hid (by rw [HZ1.out]; exact OwnB.nil _ _)⟩
  case round =>
    obtain ⟨k, hk, rfl, HX, HM⟩ := hrel
    have e1 := HX.out.cell_of (HCW.out)
    by_cases h1 : k < n1
    · obtain ⟨g, ⟨cap', e⟩, hr⟩ := HAT1.out k h1
      cases e
      have hr := rangeAt_ext hr (Gr.ext_trans HXW.out HX.out)
      obtain ⟨c0, c1, c2, c3, c4, c5, c6, c7, c8, c9⟩ := RCell.ten hr
      have HSK := Lib.hid (HSL1.out k h1)
      have HYK := Lib.hid (HY1.out k h1)
      have HNK := Lib.hid (HN1.out k h1)
      have HLK := Lib.hid (HL1.out k)
      clear hr
      generalize ps.getD k zp = p at *
      obtain ⟨⟨xp, xn, xb, xs, xm, xk, xe, xg, xu, xd⟩, u⟩ := p
      obtain ⟨ua, uc, hu⟩ := id HSK.out
      simp only at hu
      subst hu
      simp only at c0 c1 c2 c3 c4 c5 c6 c7 c8 c9
      obtain ⟨va, vc, rfl⟩ := HM.out.slice
      by_cases hid : xu < now
      · have HGK : Hid (OwnB wr w.heap.size (.slice va (G1 k).length vc) (G1 (k + 1))) := by rw [HYK.out hid]; exact HM.out
        have hid2 : ¬ now ≤ xu := by omega
        clear HYK HNK HM HSK
        go_wp2
        go_roundw
        case rel => exact ⟨k + 1, by omega, by go_num, HX, HGK⟩
        case measure => simp [intOf]; omega
      · have hid2 : now ≤ xu := by omega
        have HGK := Lib.hid (HNK.out (by first | exact hid | exact hid2))
        have hx8 : wr.Extends (wr.alloc (.cells (Rc.cells ⟨xp, xn, xb, xs, xm, xk, xe, xg, xu, xd⟩ (.slice ua xd.length uc)).toArray 28)) := ext_alloc _ _
        have HSRC : Hid (Src Try.prog 10 47 (.slice (some ⟨wr.heap.size, 0, none⟩) 1 1) 1 (Rc.cells ⟨xp, xn, xb, xs, xm, xk, xe, xg, xu, xd⟩ (.slice ua xd.length uc)) (wr.alloc (.cells (Rc.cells ⟨xp, xn, xb, xs, xm, xk, xe, xg, xu, xd⟩ (.slice ua xd.length uc)).toArray 28))) := src_rec (r := ⟨xp, xn, xb, xs, xm, xk, xe, xg, xu, xd⟩) Try.underlying47 _ _ rfl rfl
        have HOWN := Lib.hid (HM.out.ext hx8).1
        have HX8 := Lib.hid (Gr.ext_trans HX.out hx8)
        have HOB : Hid (∀ g, (Value.slice va (G1 k).length vc).ownBlock = some g → w.heap.size ≤ g) := fun g hg => (HOWN.out.lt g hg).1
        have hbs := HX8.out.size
        have hgk := HLK.out
        clear hx8 HYK HNK HM hid
        generalize hgl : (G1 k).length = gl at *
        have HGL := Lib.hid hgl
        clear hgl
        go_wp2_with (at_builtin; refine wpList_append_own_src _ rfl _ _ 47 47 rfl w.heap.size 28 i2 (Rc.zero.val (.slice none 0 0)) 10 96 Try.underlying47 HI'.out HZ0'.out HZ1'.out HZ2'.out rfl _ _ _ rfl HOWN.out _ 1 (Rc.cells ⟨xp, xn, xb, xs, xm, xk, xe, xg, xu, xd⟩ (.slice ua xd.length uc)) rfl HSRC.out (by unfold maxLen; omega) (by omega) hbs ?_)
        intro v' w9 ho9 hg9 _
        have HP : Hid (w.Extends w9 ∧ OwnB w9 w.heap.size v' (G1 (k + 1))) := by
          refine ⟨HX8.out.grown hg9 HOB.out, ?_⟩
          rw [HGK.out]
          exact OwnB.snoc (HFS1.out k) HSK.out (by rw [HGL.out]; exact ho9)
        clear ho9 hg9 c0 c1 c2 c3 c4 c5 c6 c7 c8 c9 HSRC HOWN HOB HX8
        go_wp2
        go_roundw
        case rel => exact ⟨k + 1, by omega, by go_num, Lib.hid HP.out.1, Lib.hid HP.out.2⟩
        case measure => simp [intOf]; omega
    · obtain rfl : k = n1 := by omega
      have hc2 := HX.out.cell_of HC2.out
      obtain ⟨va, vc, rfl⟩ := HM.out.slice
      have hg1 := HL1.out k
      go_wp2_with fail
      obtain ⟨w2, hw2⟩ : ∃ w2, w2 = wr := ⟨_, rfl⟩
      subst hw2
      have HXW : Hid (w.Extends w2) := HX.out
      have HCW : Hid (w2.cell? ⟨t, 2, none⟩ = some (.slice a2 n2 cap2)) := hc2
      have HM1 := Lib.hid HM.out
      clear HM HX e1 hc2 hc1
      generalize hgl1 : (G1 k).length = g1 at *
      have HGL1 := Lib.hid hgl1
      clear hgl1
      go_loopw [6, 8] (fun s6 s8 wr => ∃ k2 : Nat, k2 ≤ n2 ∧ s8 = .int .i64 k2 ∧ Hid (w2.Extends wr) ∧ Hid (OwnB wr w2.heap.size s6 (G2 k2))) (fun _ s8 _ => n2 - (intOf s8).toNat)
      case atStart => exact ⟨0, by omega, by rfl, Lib.hid (Gr.ext_refl _), Lib.hid (by rw [HZ2.out]; exact OwnB.nil _ _)⟩
      case round =>
        obtain ⟨k2, hk, rfl, HX, HM⟩ := hrel
        have e1 := HX.out.cell_of (HCW.out)
        by_cases h1 : k2 < n2
        · obtain ⟨g, ⟨cap', e⟩, hr⟩ := HAT2.out k2 h1
          cases e
          have hr := rangeAt_ext hr (Gr.ext_trans HXW.out HX.out)
          obtain ⟨c0, c1, c2, c3, c4, c5, c6, c7, c8, c9⟩ := RCell.ten hr
          have HSK := Lib.hid (HSL2.out k2 h1)
          have HYK := Lib.hid (HY2.out k2 h1)
          have HNK := Lib.hid (HN2.out k2 h1)
          have HLK := Lib.hid (HL2.out k2)
          clear hr
          generalize qs.getD k2 zp = p at *
          obtain ⟨⟨xp, xn, xb, xs, xm, xk, xe, xg, xu, xd⟩, u⟩ := p
          obtain ⟨ua, uc, hu⟩ := id HSK.out
          simp only at hu
          subst hu
          simp only at c0 c1 c2 c3 c4 c5 c6 c7 c8 c9
          obtain ⟨va, vc, rfl⟩ := HM.out.slice
          by_cases hid : xu < now
          · have HGK : Hid (OwnB wr w2.heap.size (.slice va (G2 k2).length vc) (G2 (k2 + 1))) := by rw [HYK.out hid]; exact HM.out
            have hid2 : ¬ now ≤ xu := by omega
            clear HYK HNK HM HSK
            go_wp2
            go_roundw
            case rel => exact ⟨k2 + 1, by omega, by go_num, HX, HGK⟩
            case measure => simp [intOf]; omega
          · have hid2 : now ≤ xu := by omega
            have HGK := Lib.hid (HNK.out (by first | exact hid | exact hid2))
            have hx8 : wr.Extends (wr.alloc (.cells (Rc.cells ⟨xp, xn, xb, xs, xm, xk, xe, xg, xu, xd⟩ (.slice ua xd.length uc)).toArray 28)) := ext_alloc _ _
            have HSRC : Hid (Src Try.prog 10 47 (.slice (some ⟨wr.heap.size, 0, none⟩) 1 1) 1 (Rc.cells ⟨xp, xn, xb, xs, xm, xk, xe, xg, xu, xd⟩ (.slice ua xd.length uc)) (wr.alloc (.cells (Rc.cells ⟨xp, xn, xb, xs, xm, xk, xe, xg, xu, xd⟩ (.slice ua xd.length uc)).toArray 28))) := src_rec (r := ⟨xp, xn, xb, xs, xm, xk, xe, xg, xu, xd⟩) Try.underlying47 _ _ rfl rfl
            have HOWN := Lib.hid (HM.out.ext hx8).1
            have HX8 := Lib.hid (Gr.ext_trans HX.out hx8)
            have HOB : Hid (∀ g, (Value.slice va (G2 k2).length vc).ownBlock = some g → w2.heap.size ≤ g) := fun g hg => (HOWN.out.lt g hg).1
            have hbs := HX8.out.size
            have hgk := HLK.out
            clear hx8 HYK HNK HM hid
            generalize hgl : (G2 k2).length = gl at *
            have HGL := Lib.hid hgl
            clear hgl
            go_wp2_with (at_builtin; refine wpList_append_own_src _ rfl _ _ 47 47 rfl w2.heap.size 28 i2 (Rc.zero.val (.slice none 0 0)) 10 96 Try.underlying47 HI'.out HZ0'.out HZ1'.out HZ2'.out rfl _ _ _ rfl HOWN.out _ 1 (Rc.cells ⟨xp, xn, xb, xs, xm, xk, xe, xg, xu, xd⟩ (.slice ua xd.length uc)) rfl HSRC.out (by unfold maxLen; omega) (by omega) hbs ?_)
            intro v' w9 ho9 hg9 _
            have HP : Hid (w2.Extends w9 ∧ OwnB w9 w2.heap.size v' (G2 (k2 + 1))) := by
              refine ⟨HX8.out.grown hg9 HOB.out, ?_⟩
              rw [HGK.out]
              exact OwnB.snoc (HFS2.out k2) HSK.out (by rw [HGL.out]; exact ho9)
            clear ho9 hg9 c0 c1 c2 c3 c4 c5 c6 c7 c8 c9 HSRC HOWN HOB HX8
            go_wp2
            go_roundw
            case rel => exact ⟨k2 + 1, by omega, by go_num, Lib.hid HP.out.1, Lib.hid HP.out.2⟩
            case measure => simp [intOf]; omega
        · obtain rfl : k2 = n2 := by omega
          obtain ⟨va2, vc2, rfl⟩ := HM.out.slice
          have hg2 := HL2.out k2
          generalize hgl2 : (G2 k2).length = g2 at *
          have hwr1 : IntKind.i64.wrap ((k : Int) + (k2 : Int)) = (k : Int) + (k2 : Int) := by rw [IntKind.wrap_i64]; omega
          have hwr2 : IntKind.i64.wrap ((k : Int) + (k2 : Int) - (g1 : Int)) = (k : Int) + (k2 : Int) - (g1 : Int) := by rw [IntKind.wrap_i64]; omega
          have hwr3 : IntKind.i64.wrap ((k : Int) + (k2 : Int) - (g1 : Int) - (g2 : Int)) = (k : Int) + (k2 : Int) - (g1 : Int) - (g2 : Int) := by rw [IntKind.wrap_i64]; omega
          have HGL2 := Lib.hid hgl2
          clear hgl2
          have HCE : Hid (∀ w', wr.Extends w' → w'.cell? ⟨t, 1, none⟩ = some (.slice a1 k cap1) ∧ w'.cell? ⟨t, 2, none⟩ = some (.slice a2 k2 cap2) ∧ w'.frozen? ⟨t, 1, none⟩ = false ∧ w'.frozen? ⟨t, 2, none⟩ = false) := fun w' hx => by
            have h3 := Gr.ext_trans (Gr.ext_trans HXW.out HX.out) hx
            exact ⟨h3.cell_of HC1.out, h3.cell_of HC2.out, (h3.frozen ⟨t, 1, none⟩ HTL.out).trans HF1.out, (h3.frozen ⟨t, 2, none⟩ HTL.out).trans HF2.out⟩
          have HXD := Lib.hid (Gr.ext_drew (Gr.ext_refl wr))
          have HFN : Hid (∀ w5 w6, w5 = wr.drew.setCell ⟨t, 1, none⟩ (.slice va g1 vc) → w6 = w5.setCell ⟨t, 2, none⟩ (.slice va2 g2 vc2) → RLeft w t D st' w6) := fun w5 w6 e5 e6 => HFIN.out w2 wr.drew _ _ w5 w6 HXW.out (Gr.ext_trans HX.out HXD.out) HM1.out (HM.out.ext HXD.out) e5 e6
          clear HM HM1
          go_wp2_with fail
          refine Gr.region 17 [(false,0),(false,1),(false,2),(false,3),(false,4),(false,5),(false,6),(false,7),(false,8),(false,9),(false,10),(false,11),(false,12),(false,13),(false,14),(false,15),(false,16)] (by kernel_rfl) (by kernel_rfl) (fun d _ _ _ _ h => by cases d <;> exact h) ?_
          simp only [Gr.pick, List.getElem?_cons_zero, List.getElem?_cons_succ, List.drop_succ_cons, List.drop_zero]
          generalize wr.drew = wd at *
          iterate 17
            refine Gr.walk_t ?_ (Or.inl ⟨by rfl, ?_⟩) ?_
            rotate_left
            · intro w' hw'
              obtain ⟨e1, e2, e3, e4⟩ := HCE.out w' (Gr.ext_trans HXD.out hw')
              clear hw'
              go_simp
              try with_reducible rfl
            simp only [Act.put, List.setIfInBounds_toArray, List.set_cons_zero, List.set_cons_succ]
          refine Gr.walk_nil ?_
          obtain ⟨e1, e2, e3, e4⟩ := HCE.out wd HXD.out
          go_wp2
          go_ret
          exact ⟨by first | rfl | (rw [HGL1.out, HGL2.out]; rfl) | (rw [HGL2.out]; rfl) | (rw [HGL1.out]; rfl), HFN.out _ _ rfl rfl⟩
end Go.Proofs.Ytdbdnfjgmdkneaa
