/- In one text: RefSolve, BlkRef, BlkRefNew. -/
import Derived.Test.YtpfmmfapdcbnkaaGreatDoorMB8
import Derived.Test.YtpfmmfapdcbnkaaGreatDoorMB11
import Derived.Test.YtpfmmfapdcbnkaaGreatDoorMB17
import Derived.Test.YtpfmmfapdcbnkaaGreatDoorMB18
namespace Go.Proofs.YtpfmmfapdcbnkaaGreatDoor
set_option maxRecDepth 20000
open Go.RowKit Go.Deep
set_option linter.unusedVariables false
theorem own_owns {w : World} {b base : Nat} {T : TypeId} {xs : List Nat} (h : Own w b T xs) (hb : base ≤ b) : w.ownsRow base T 1 (.slice (some ⟨b, 0, none⟩) xs.length xs.length) xs.length (u8vs xs) := by
  obtain ⟨⟨c, hc, hn, hi⟩, hm, _⟩ := h
  refine ⟨by rw [u8vs_length, Nat.mul_one], .inr ⟨b, xs.length, c, rfl, hb, hc, Nat.le_refl _, hm, by rw [hn, Nat.mul_one], ?_⟩⟩
  rw [Nat.mul_one]
  apply List.ext_getElem?
  intro i
  by_cases hix : i < xs.length
  · rw [List.getElem?_take, if_pos hix, Array.getElem?_toList, hi i hix]
    simp [u8vs, hix]
  · rw [List.getElem?_take, if_neg hix, List.getElem?_eq_none (by rw [u8vs_length]; omega)]
theorem rsum_own (m : Nat) (v : Value) (l : List (List Nat)) (w : World) (hm : m ≤ 1000) (hv : Rws w v l) : Calls Tryz.prog 50 #[.int .i64 m, v] w
    fun e w' => ∃ b, e = .returned (.slice (some ⟨b, 0, none⟩) (RM.sum m l).length (RM.sum m l).length) ∧ w.Extends w' ∧ Own w' b 5 (RM.sum m l) ∧ w.heap.size ≤ b :=
  (rsum_any m v l w hv).mono fun e w' ⟨he, hb, ho⟩ => by
    rw [cut_nat m hm] at he ho
    exact ⟨w.heap.size, by rw [RM.sum_length]; exact he, Gr.ext_of hb, ho, Nat.le_refl _⟩
/-- append onto a slice that is full: a new array. -/
theorem run_append_full {P : Program} (w : World) (base : Nat) (t tx ty e : TypeId) (i : TypeInfo) (z : Value) (size bytes : Nat) (ht : P.underlying t = some (.slice e)) (hi : P.info? e = some i) (hz : i.zero = some z)
    (hsize : i.size = size) (hby : i.bytes = bytes) (hzs : z.cells.size = size)
    (g n cap : Nat) (xs : List Value) (hown : w.ownsRow base e size (.slice (some ⟨g, 0, none⟩) n cap) n xs) (x : Value) (m : Nat) (news : List Value) (hs : Src P size tx x m news w)
    (h63 : n + m ≤ maxLen) (hbytes : (n + m) * bytes ≤ 140737488355328) (hroom : cap < n + m) :
    ∃ v' w', (Builtin.append_ #[t, tx] ty #[.slice (some ⟨g, 0, none⟩) n cap, x]).run P w = .ok v' w' ∧ w'.ownsRow w.heap.size e size v' (n + m) (xs ++ news) ∧ w.Extends w' := by
  subst hsize
  subst hby
  have hsmall : n + m ≤ 9223372036854775807 := by simp only [maxLen] at h63; omega
  have hl := hs.newsLen
  have hlen : (xs ++ news).length = (n + m) * i.size := by rw [List.length_append, hown.1, hl, Nat.add_mul]
  have hnc : n ≤ cap := by
    rcases hown.2 with ⟨h, _⟩ | ⟨g', cap', cur, h, _, _, hnc, _⟩
    · cases h
    · cases h; exact hnc
  have holds : ∀ j u, xs[j]? = some u → w.cell? ((⟨g, 0, none⟩ : Addr).add j) = some u := hown.cells (g := g) rfl
  have hold := run_firstCells_some (P := P) w.drew i.size n ⟨g, 0, none⟩ n cap xs hown.1 (by simpa using holds)
  have hr := run_append_grow_src (P := P) w t tx ty e i z ht hi hz (some ⟨g, 0, none⟩) n cap xs hold x m news hs (by omega) (by omega) (growslice_fits (by omega) hbytes)
  have hge := grownCap_ge w (n + m) cap e
  have hcm : grownCap w (n + m) cap e ≤ maxLen := grownCap_le_maxLen w (n + m) cap e h63
  refine ⟨_, _, hr, ⟨hlen, .inr ⟨w.heap.size, _, _, rfl, Nat.le_refl _, heap_alloc_new w.drew _, hge, hcm, ?_, ?_⟩⟩, Gr.of_drew (ext_alloc w.drew _)⟩
  · simp only [Array.size_append, List.size_toArray, size_zeroCells, hzs, hlen, ← Nat.add_mul]
    congr 1
    omega
  · simp only [Array.toList_append]
    rw [← hlen]
    exact List.take_left
theorem wp_append_full {P : Program} {w : World} {o : Oper} {a : Act} {K : Act → World → Prop} {Q : Exit → Act → World → Prop} (s x : Operand) (t tx : TypeId)
    (ho : o.op = .call { callee := .builtin .append, args := #[s, x], argTypes := #[t, tx] })
    (base : Nat) (e : TypeId) (i : TypeInfo) (z : Value) (size bytes : Nat) (ht : P.underlying t = some (.slice e)) (hi : P.info? e = some i) (hz : i.zero = some z)
    (hsize : i.size = size) (hby : i.bytes = bytes) (hzs : z.cells.size = size)
    (g n cap : Nat) (xs : List Value) (hs : a.eval s = .slice (some ⟨g, 0, none⟩) n cap) (hown : w.ownsRow base e size (.slice (some ⟨g, 0, none⟩) n cap) n xs) (y : Value) (m : Nat) (news : List Value) (hx : a.eval x = y) (hsrc : Src P size tx y m news w)
    (h63 : n + m ≤ maxLen) (hbytes : (n + m) * bytes ≤ 140737488355328) (hroom : cap < n + m)
    (h : ∀ v' w', w'.ownsRow w.heap.size e size v' (n + m) (xs ++ news) → w.Extends w' → K (a.put o.dst v') w') : o.wp P a w K Q := by
  obtain ⟨v', w', hr, h2, h3⟩ := run_append_full (P := P) w base t tx o.type e i z size bytes ht hi hz hsize hby hzs g n cap xs hown y m news hsrc h63 hbytes hroom
  unfold Oper.wp execOp
  simp only [ho, resolve, invoke, builtin, Sem.run_bind, Sem.run_pure, Result.andThen_ok, List.map_toArray, List.map_cons, List.map_nil, hs, hx, hr]
  exact h v' w' h2 h3
/-- Rows with what stands beside them. -/
def augRows (W S : Nat) (m d : List (List Nat)) : List (List Nat) := (List.range m.length).map fun j => RM.sum W [m.getD j []] ++ RM.sum S [d.getD j []]
theorem augRows_at (W S : Nat) (m d : List (List Nat)) (j : Nat) (h : j < m.length) : (augRows W S m d).getD j [] = RM.sum W [m.getD j []] ++ RM.sum S [d.getD j []] := by simp [augRows, List.getD_eq_getElem?_getD, h]
theorem augRows_length (W S : Nat) (m d : List (List Nat)) : (augRows W S m d).length = m.length := by simp [augRows]
theorem augRows_snoc (W S : Nat) (m d : List (List Nat)) (k : Nat) (h : k < m.length) : (augRows W S m d).take k ++ [RM.sum W [m.getD k []] ++ RM.sum S [d.getD k []]] = (augRows W S m d).take (k + 1) := by
  rw [List.take_succ_eq_append_getElem (by rw [augRows_length]; exact h)]
  simp [augRows]
theorem aug_rv (W S : Nat) (m d : List (List Nat)) (j : Nat) (h : j < m.length) : LA.rv (augRows W S m d) j = rowsF W S m d j := funext fun i => by
  show ((augRows W S m d).getD j []).getD i 0 = (if i < W then (RM.sum W [m.getD j []]).getD i 0 else (RM.sum S [d.getD j []]).getD (i - W) 0)
  rw [augRows_at W S m d j h]
  have hl : (RM.sum W [m.getD j []]).length = W := RM.sum_length _ _
  generalize RM.sum W [m.getD j []] = A at *
  generalize RM.sum S [d.getD j []] = D at *
  split
  · rename_i hi
    simp only [List.getD_eq_getElem?_getD]
    rw [List.getElem?_append_left (by omega)]
  · rename_i hi
    simp only [List.getD_eq_getElem?_getD]
    rw [List.getElem?_append_right (by omega), hl]
theorem aug_rect (W S : Nat) {m d : List (List Nat)} (hm : ∀ r ∈ m, ∀ x ∈ r, x < 256) (hd : ∀ r ∈ d, ∀ x ∈ r, x < 256) : Rect m.length (W + S) (augRows W S m d) := by
  refine ⟨augRows_length _ _ _ _, fun j hj => by rw [augRows_at W S m d j hj, List.length_append, RM.sum_length, RM.sum_length], fun r hr x hx => ?_⟩
  obtain ⟨j, hj, rfl⟩ := List.mem_map.1 hr
  rcases List.mem_append.1 hx with h | h
  · exact LA.sum_lt _ _ (by intro s hs; simp at hs; rw [hs]; exact getD_mem_lt' hm j) x h
  · exact LA.sum_lt _ _ (by intro s hs; simp at hs; rw [hs]; exact getD_mem_lt' hd j) x h
/-- What stands beside the rows 0 to W - 1. -/
def outRows (W : Nat) (l : List (List Nat)) : List (List Nat) := (List.range W).map fun j => (l.getD j []).drop W
theorem outRows_at (W : Nat) (l : List (List Nat)) (j : Nat) (h : j < W) : (outRows W l).getD j [] = (l.getD j []).drop W := by simp [outRows, List.getD_eq_getElem?_getD, h]
theorem outRows_length (W : Nat) (l : List (List Nat)) : (outRows W l).length = W := by simp [outRows]
theorem outRows_snoc (W : Nat) (l : List (List Nat)) (k : Nat) (h : k < W) : (outRows W l).take k ++ [(l.getD k []).drop W] = (outRows W l).take (k + 1) := by
  rw [List.take_succ_eq_append_getElem (by rw [outRows_length]; exact h)]
  simp [outRows]
theorem drop_getD (xs : List Nat) (W k : Nat) : (xs.drop W).getD k 0 = xs.getD (W + k) 0 := by simp [List.getD_eq_getElem?_getD]
/-- All rows in steps with all columns, the ones behind with nothing beside them: what stands beside the first ones solves. -/
theorem ref_res {W S r n : Nat} {has : Nat → Bool} {l l0 : List (List Nat)} {f : Nat → LA.V} (h : LA.RefInv W r n has (LA.rv l) (LA.rv l0)) (hrect : Rect n (W + S) l) (hr : r = W) (he : ∀ j, j < n → LA.rv l0 j = f j) (hz : ∀ j, W ≤ j → j < n → ∀ k, k < S → (l.getD j []).getD (W + k) 0 = 0) :
    SolveRes W S (· < n) f (some (outRows W l)) := by
  have hWn : W ≤ n := by rw [← hr]; exact h.rn
  have hf : ∀ j, j < n → LA.Bd (f j) := fun j hj => by rw [← he j hj]; exact h.bd0 j hj
  have hb : ∀ k, LA.Bd (xOf (outRows W l) k) := fun k i => by
    unfold xOf
    refine getD_lt _ ?_ k
    by_cases hi : i < W
    · rw [outRows_at W l i hi]; exact fun x hx => hrect.row_lt i x (List.mem_of_mem_drop hx)
    · rw [List.getD_eq_getElem?_getD, List.getElem?_eq_none (by rw [outRows_length]; omega)]; intro x hx; cases hx
  have hu := h.unit hr
  have hsol : LA.Sol W S (· < n) (LA.rv l) (xOf (outRows W l)) := by
    refine ⟨hb, fun j hj k hk => ?_⟩
    by_cases hjW : j < W
    · rw [LA.dots_one W j _ _ hjW fun i hi hne => by rw [hu j hj i hi, if_neg (Ne.symm hne), FM.tm_zero_left], hu j hj j hjW, if_pos rfl, FM.tm_one_left _ (hb k j)]
      show (l.getD j []).getD (W + k) 0 = ((outRows W l).getD j []).getD k 0
      rw [outRows_at W l j hjW, drop_getD]
    · rw [LA.dots_zero W _ _ fun i hi => by rw [hu j hj i hi, if_neg (by omega), FM.tm_zero_left]]
      exact hz j (by omega) hj k hk
  have hrank := rank_congr h.rankIs h.bd0 he
  rw [hr] at hrank
  refine ⟨outRows_length _ _, fun i hi => by rw [outRows_at W l i hi, List.length_drop, hrect.2.1 i (by omega)]; omega, hrank.full, ?_⟩
  refine hsol.sub h.bd fun j hj => ?_
  rw [← he j hj]
  exact h.from_ j hj
theorem ref_never {W S r n : Nat} {has : Nat → Bool} {l l0 : List (List Nat)} {f : Nat → LA.V} (h : LA.RefInv W r n has (LA.rv l) (LA.rv l0)) (he : ∀ j, j < n → LA.rv l0 j = f j) {j k : Nat} (hrj : r ≤ j) (hj : j < n) (hk : k < S) (hne : (l.getD j []).getD (W + k) 0 ≠ 0) : ¬ Solvable W S (· < n) f := fun ⟨_, x, hx⟩ => by
  have hf : ∀ j, j < n → LA.Bd (f j) := fun j hj => by rw [← he j hj]; exact h.bd0 j hj
  have hs : LA.Span (· < n) f (LA.rv l j) := (h.onto j hj).sub hf fun i hi => by rw [he i hi]; exact LA.Span.mem hf hi
  exact hne (hx.never hf hs (fun i hi => h.low j hrj hj i hi) k hk)
theorem U8s.drop {w : World} {b off n c : Nat} {xs : List Nat} (h : U8s w (.slice (some ⟨b, off, none⟩) n c) xs) (W : Nat) (hW : W < n) : U8s w (.slice (some ⟨b, off + W, none⟩) (n - W) (c - W)) (xs.drop W) := by
  have hm := h.len
  have hlt := h.lt
  obtain ⟨hn, hc⟩ := h.cell
  obtain ⟨a', c', hv, hcap, hm2⟩ := h.slice
  cases hv
  obtain ⟨b', o', hb', hbl, hcs⟩ := hc (by omega)
  cases hb'
  refine .inr ⟨b, off + W, c - W, by rw [List.length_drop], by rw [List.length_drop]; omega, by omega, hbl, fun k hk => ?_, fun x hx => hlt x (List.mem_of_mem_drop hx)⟩
  rw [List.length_drop] at hk
  have := hcs (W + k) (by omega)
  rw [Nat.add_assoc, this, drop_getD]
set_option maxHeartbeats 8000000 in
set_option maxRecDepth 100000 in
theorem rsolve_good (W S : Nat) (u v : Value) (m d : List (List Nat)) (w : World) (hu : Rws w u m) (hv : Rws w v d) (h1 : 1 ≤ W) (h2 : W ≤ 300) (h3 : 1 ≤ S) (h4 : S ≤ 1000) (h5 : d.length = m.length) (h6 : m.length ≤ 4000) :
    Calls Tryz.prog 51 #[.int .i64 W, .int .i64 S, u, v] w (SolveOut w W S (· < m.length) (rowsF W S m d)) := by
  have HLTM := Lib.hid hu.all_lt
  have HLTD := Lib.hid hv.all_lt
  have HRECT := Lib.hid (aug_rect W S hu.all_lt hv.all_lt)
  have HRV := Lib.hid (aug_rv W S m d)
  have HSN := Lib.hid (augRows_snoc W S m d)
  have HTK : Hid ((augRows W S m d).take m.length = augRows W S m d) := by
    have : m.length = (augRows W S m d).length := (augRows_length _ _ _ _).symm
    show _ = _
    rw [this, List.take_length]
  have HTL : Hid (∀ k, k ≤ m.length → k = ((augRows W S m d).take k).length) := fun k hk => by rw [List.length_take, augRows_length]; omega
  obtain ⟨a, cap, rfl, _⟩ := hu.slice
  obtain ⟨a', cap', rfl, _⟩ := hv.slice
  have HR1 := Lib.hid hu.at.2
  have HR2 := Lib.hid hv.at.2
  obtain ⟨i0, hi, hz0, hz1, hz2⟩ := info_parts u8info
  have HI := Lib.hid hi; clear hi
  have HZ0 := Lib.hid hz0; clear hz0
  have HZ1 := Lib.hid hz1; clear hz1
  have HZ2 := Lib.hid hz2; clear hz2
  obtain ⟨i1, hi', hz0', hz1', hz2'⟩ := info_parts bytesinfo
  have HI' := Lib.hid hi'; clear hi'
  have HZ0' := Lib.hid hz0'; clear hz0'
  have HZ1' := Lib.hid hz1'; clear hz1'
  have HZ2' := Lib.hid hz2'; clear hz2'
  clear hu hv
  generalize hF : rowsF W S m d = f at *
  have HFF := Lib.hid hF; clear hF
  generalize hLL : augRows W S m d = L0 at *
  have HLL := Lib.hid hLL; clear hLL
  rw [h5] at HR2 ⊢
  have H5 := Lib.hid h5; clear h5
  generalize hll : m.length = ll at *
  have HL_ := Lib.hid hll; clear hll
  go_enter Tryz.func51, Tryz.ntmps51
  go_wp2_with fail
  go_loopw [10, 11] (fun o i wr => ∃ k : Nat, k ≤ ll ∧ i = .int .i64 k ∧ Below w.heap.size w wr ∧ MatInv wr w.heap.size o k (L0.take k)) (fun _ i _ => (ll - intOf i).toNat)
  case atStart => exact ⟨0, by omega, rfl, Below.refl _ _, [], World.ownsRow_nil _ _ _ _, fun j hj => absurd hj (Nat.not_lt_zero _)⟩
  case round =>
    obtain ⟨k, hk, rfl, hb, hm⟩ := hrel
    have HB := Lib.hid hb
    have HM := Lib.hid hm
    have hbs := hb.size
    clear hb hm
    by_cases hlt : k < ll
    · obtain ⟨b1, o1, rfl, hb1, hr1⟩ := HR1.out (by omega)
      obtain ⟨b2, o2, rfl, hb2, hr2⟩ := HR2.out (by omega)
      obtain ⟨ra, rc, hc1, hu1⟩ := hr1 k hlt
      obtain ⟨rb, rd, hc2, hu2⟩ := hr2 k hlt
      have HL1 : Hid (∀ w', wr.Extends w' → w'.cell? ⟨b1, o1 + k, none⟩ = some (.slice ra (m.getD k []).length rc)) := fun w' hw' => hw'.cell_of ((HB.out.cell (p := ⟨b1, o1 + k, none⟩) hb1).trans hc1)
      have HL2 : Hid (∀ w', wr.Extends w' → w'.cell? ⟨b2, o2 + k, none⟩ = some (.slice rb (d.getD k []).length rd)) := fun w' hw' => hw'.cell_of ((HB.out.cell (p := ⟨b2, o2 + k, none⟩) hb2).trans hc2)
      have HU1 := Lib.hid (hu1.below HB.out rfl)
      have HU2 := Lib.hid (hu2.below HB.out rfl)
      have HLT1 := Lib.hid (getD_mem_lt' HLTM.out k)
      have HLT2 := Lib.hid (getD_mem_lt' HLTD.out k)
      have HS := Lib.hid (HSN.out k hlt)
      have HLTAB : Hid (∀ x ∈ RM.sum W [m.getD k []] ++ RM.sum S [d.getD k []], x < 256) := fun x hx => by
        rcases List.mem_append.1 hx with h | h
        · exact LA.sum_lt W [m.getD k []] (by intro r hr; simp at hr; rw [hr]; exact HLT1.out) x h
        · exact LA.sum_lt S [d.getD k []] (by intro r hr; simp at hr; rw [hr]; exact HLT2.out) x h
      clear hr1 hr2 hc1 hc2 hu1 hu2
      go_wp2_with fail
      refine Gr.regionE 17 6 [(false,0),(false,1),(false,2),(false,3),(false,4),(false,5),(false,8),(false,9),(false,10),(false,11),(false,12)] (by kernel_rfl) (by kernel_rfl) (fun d _ _ _ _ h => by cases d <;> exact h) ?_
      simp only [Gr.pick, List.getElem?_cons_zero, List.getElem?_cons_succ]
      obtain ⟨wd, hwd⟩ : ∃ x, x = wr.drew := ⟨_, rfl⟩
      have hT : ∀ {w'}, wd.Extends w' → wr.Extends w' := fun h => Gr.of_drew (hwd ▸ h)
      have HX2 : Hid (wr.Extends wd) := hwd ▸ Gr.ext_drew (Gr.ext_refl wr)
      have HWD := Lib.hid HX2.out.size
      rw [← hwd]
      clear hwd
      iterate 11
        refine Gr.walkE_t ?_ (Or.inl ⟨by rfl, ?_⟩) ?_
        rotate_left
        · intro w' hw'
          have hc1 := HL1.out w' (hT hw')
          have hc2 := HL2.out w' (hT hw')
          clear hw'
          go_simp
          try with_reducible rfl
        simp only [Act.put, List.setIfInBounds_toArray, List.set_cons_zero, List.set_cons_succ]
      refine Gr.walkE_nil ?_
      have HX := Lib.hid (Gr.ext_refl wd)
      clear hT HL1 HL2
      refine Gr.Left.two (i := 6) (j := 13) (by kernel_rfl) (by kernel_rfl) (Gr.Step.mk rfl (fun K hK => ?_)) (Gr.Step.mk rfl (fun K hK => ?_))
      · skip
        go_simp
        generalize hw : World.alloc _ _ = w1_
        have hx : wd.Extends w1_ := by subst hw; exact ext_alloc _ _
        have HA0 : Rws w1_ (.slice (some ⟨wd.heap.size, 0, none⟩) 1 1) [m.getD k []] := by subst hw; exact rws_one _ _ _ _ _ (HU1.out.ext (Gr.ext_trans HX2.out HX.out))
        clear hw
        refine hK.out _ _ hx ?_
        clear hK K
        have HA := Lib.hid HA0
        clear HA0
        have HX := Lib.hid (Gr.ext_trans HX.out hx)
        clear hx
        refine Gr.Left.two (i := 7) (j := 13) (by kernel_rfl) (by kernel_rfl) (Gr.Step.mk rfl (fun K hK => ?_)) (Gr.Step.mk rfl (fun K hK => ?_))
        · skip
          go_simp
          refine (rsum_own W _ [m.getD k []] _ (by omega) HA.out).mono ?_
          rintro e w2_ ⟨bl, he, hx, ho, hbl⟩
          rw [RM.sum_length] at he
          subst he
          have HBL := Lib.hid (Nat.le_trans HWD.out (Nat.le_trans HX.out.size hbl))
          have HL0 := ho
          clear ho hbl
          try go_simp
          refine hK.out _ _ hx ?_
          clear hK K
          have HA := Lib.hid (HA.out.ext hx)
          have HL := Lib.hid HL0
          clear HL0
          have HX := Lib.hid (Gr.ext_trans HX.out hx)
          clear hx
          refine Gr.Left.one (i := 13) (by kernel_rfl) (by kernel_rfl) (Gr.Step.mk rfl (fun K hK => ?_))
          go_simp
          generalize hw : World.alloc _ _ = w3_
          have hx : w2_.Extends w3_ := by subst hw; exact ext_alloc _ _
          have HB20 : Rws w3_ (.slice (some ⟨w2_.heap.size, 0, none⟩) 1 1) [d.getD k []] := by subst hw; exact rws_one _ _ _ _ _ (HU2.out.ext (Gr.ext_trans HX2.out HX.out))
          clear hw
          refine hK.out _ _ hx ?_
          clear hK K
          have HA := Lib.hid (HA.out.ext hx)
          have HL := Lib.hid (HL.out.ext hx)
          have HB2 := Lib.hid HB20
          clear HB20
          have HX := Lib.hid (Gr.ext_trans HX.out hx)
          clear hx
          refine Gr.Left.one (i := 14) (by kernel_rfl) (by kernel_rfl) (Gr.Step.mk rfl (fun K hK => ?_))
          go_simp
          refine (rsum_own S _ [d.getD k []] _ h4 HB2.out).mono ?_
          rintro e w4_ ⟨br, he, hx, ho, hbr⟩
          rw [RM.sum_length] at he
          subst he
          have HRR0 := ho
          clear ho hbr
          try go_simp
          refine hK.out _ _ hx ?_
          clear hK K
          have HA := Lib.hid (HA.out.ext hx)
          have HL := Lib.hid (HL.out.ext hx)
          have HB2 := Lib.hid (HB2.out.ext hx)
          have HRR := Lib.hid HRR0
          clear HRR0
          have HX := Lib.hid (Gr.ext_trans HX.out hx)
          clear hx
          refine Gr.Left.one (i := 15) (by kernel_rfl) (by kernel_rfl) (Gr.Step.mk rfl (fun K hK => ?_))
          have HUR : Hid (U8s w4_ (.slice (some ⟨br, 0, none⟩) S S) (RM.sum S [d.getD k []])) := by have h := HRR.out.u8s; rw [RM.sum_length] at h; exact h
          have HOWL : Hid (w4_.ownsRow 0 5 1 (.slice (some ⟨bl, 0, none⟩) W W) W (u8vs (RM.sum W [m.getD k []]))) := by have h := own_owns HL.out (Nat.zero_le _); rw [RM.sum_length] at h; exact h
          rw [if_pos (by rfl)]
          refine wp_append_full (.tmp 50) (.tmp 57) 30 30 rfl 0 5 i0 (.int .u8 0) 1 1 Tryz.underlying30 HI.out HZ0.out HZ1.out HZ2.out rfl bl W W _ rfl HOWL.out _ S (u8vs (RM.sum S [d.getD k []])) rfl (by have h := HUR.out.src (P := Tryz.prog) (tx := 30) Tryz.underlying30; rw [RM.sum_length] at h; exact h) (by unfold maxLen; omega) (by omega) (by omega) ?_
          intro v5 w5_ ho5 hx
          obtain ⟨pa, pc, rfl⟩ := owns_slice ho5
          rw [← u8vs_append] at ho5
          have HROW50 : RowOk w5_ w.heap.size (.slice pa (W + S) pc) (RM.sum W [m.getD k []] ++ RM.sum S [d.getD k []]) := RowOk.of_owns ho5 (owns_u8s ho5 HLTAB.out)
          clear ho5 HUR HOWL
          simp only [Act.put, List.setIfInBounds_toArray, List.set_cons_zero, List.set_cons_succ]
          refine hK.out _ _ hx ?_
          clear hK K
          have HA := Lib.hid (HA.out.ext hx)
          have HL := Lib.hid (HL.out.ext hx)
          have HB2 := Lib.hid (HB2.out.ext hx)
          have HRR := Lib.hid (HRR.out.ext hx)
          have HROW5 := Lib.hid HROW50
          clear HROW50
          have HX := Lib.hid (Gr.ext_trans HX.out hx)
          clear hx
          refine Gr.Left.one (i := 16) (by kernel_rfl) (by kernel_rfl) (Gr.Step.mk rfl (fun K hK => ?_))
          go_simp
          generalize hw : World.alloc _ _ = w6_
          have hx : w5_.Extends w6_ := by subst hw; exact ext_alloc _ _
          have HSRC0 : Src Tryz.prog 1 73 (.slice (some ⟨w5_.heap.size, 0, none⟩) 1 1) 1 [.slice pa (W + S) pc] w6_ := by subst hw; exact src_one Tryz.underlying73 _ _ rfl rfl
          clear hw
          refine hK.out _ _ hx ?_
          clear hK K
          have HA := Lib.hid (HA.out.ext hx)
          have HL := Lib.hid (HL.out.ext hx)
          have HB2 := Lib.hid (HB2.out.ext hx)
          have HRR := Lib.hid (HRR.out.ext hx)
          have HROW5 := Lib.hid (HROW5.out.ext hx)
          have HSRC := Lib.hid HSRC0
          clear HSRC0
          have HX := Lib.hid (Gr.ext_trans HX.out hx)
          clear hx
          refine Gr.Left.done (by kernel_rfl) ?_
          simp only [List.drop_succ_cons, List.drop_zero]
          have HXW := Lib.hid (Gr.ext_trans HX2.out HX.out)
          have hsz := HXW.out.size
          have HM5 := Lib.hid (HM.out.ext HXW.out)
          obtain ⟨vs, hown, hrows⟩ := HM5.out
          have HOWN := Lib.hid hown
          have HROWS := Lib.hid hrows
          have HOB : Hid (∀ g, u10.ownBlock = some g → w.heap.size ≤ g) := fun g hg => (HOWN.out.lt g hg).1
          clear hown hrows
          go_wp2_with (at_builtin; refine wpList_append_own_src _ rfl (.tmp 43) (.tmp 59) 73 73 rfl w.heap.size 30 i1 (.slice none 0 0) 1 24 Tryz.underlying73 HI'.out HZ0'.out HZ1'.out HZ2'.out rfl _ _ _ rfl HOWN.out _ 1 [.slice pa (W + S) pc] rfl HSRC.out (by unfold maxLen; omega) (by omega) (Nat.le_trans hbs hsz) ?_)
          intro v6 w6 ho6 hg6 _
          have HP : Hid (Below w.heap.size w w6 ∧ MatInv w6 w.heap.size v6 (k + 1) (L0.take (k + 1))) := by
            refine ⟨(HB.out.trans ((Gr.below_of HXW.out).mono hbs)).grown hg6 (by exact Nat.le_trans hbs hsz) HOB.out, ?_⟩
            rw [← HS.out]
            exact MatInv.snoc (HTL.out k hk) HOWN.out HROWS.out HROW5.out hg6 ho6
          clear ho6 hg6
          go_wp2
          go_roundw
          case rel => exact ⟨k + 1, by omega, by go_num, HP.out⟩
          case measure => simp [intOf]; omega
        · skip
          go_simp
          generalize hw : World.alloc _ _ = w7_
          have hx : w1_.Extends w7_ := by subst hw; exact ext_alloc _ _
          have HB20 : Rws w7_ (.slice (some ⟨w1_.heap.size, 0, none⟩) 1 1) [d.getD k []] := by subst hw; exact rws_one _ _ _ _ _ (HU2.out.ext (Gr.ext_trans HX2.out HX.out))
          clear hw
          refine hK.out _ _ hx ?_
          clear hK K
          have HA := Lib.hid (HA.out.ext hx)
          have HB2 := Lib.hid HB20
          clear HB20
          have HX := Lib.hid (Gr.ext_trans HX.out hx)
          clear hx
          refine Gr.Left.one (i := 7) (by kernel_rfl) (by kernel_rfl) (Gr.Step.mk rfl (fun K hK => ?_))
          go_simp
          refine (rsum_own W _ [m.getD k []] _ (by omega) HA.out).mono ?_
          rintro e w8_ ⟨bl, he, hx, ho, hbl⟩
          rw [RM.sum_length] at he
          subst he
          have HBL := Lib.hid (Nat.le_trans HWD.out (Nat.le_trans HX.out.size hbl))
          have HL0 := ho
          clear ho hbl
          try go_simp
          refine hK.out _ _ hx ?_
          clear hK K
          have HA := Lib.hid (HA.out.ext hx)
          have HB2 := Lib.hid (HB2.out.ext hx)
          have HL := Lib.hid HL0
          clear HL0
          have HX := Lib.hid (Gr.ext_trans HX.out hx)
          clear hx
          refine Gr.Left.one (i := 14) (by kernel_rfl) (by kernel_rfl) (Gr.Step.mk rfl (fun K hK => ?_))
          go_simp
          refine (rsum_own S _ [d.getD k []] _ h4 HB2.out).mono ?_
          rintro e w9_ ⟨br, he, hx, ho, hbr⟩
          rw [RM.sum_length] at he
          subst he
          have HRR0 := ho
          clear ho hbr
          try go_simp
          refine hK.out _ _ hx ?_
          clear hK K
          have HA := Lib.hid (HA.out.ext hx)
          have HB2 := Lib.hid (HB2.out.ext hx)
          have HL := Lib.hid (HL.out.ext hx)
          have HRR := Lib.hid HRR0
          clear HRR0
          have HX := Lib.hid (Gr.ext_trans HX.out hx)
          clear hx
          refine Gr.Left.one (i := 15) (by kernel_rfl) (by kernel_rfl) (Gr.Step.mk rfl (fun K hK => ?_))
          have HUR : Hid (U8s w9_ (.slice (some ⟨br, 0, none⟩) S S) (RM.sum S [d.getD k []])) := by have h := HRR.out.u8s; rw [RM.sum_length] at h; exact h
          have HOWL : Hid (w9_.ownsRow 0 5 1 (.slice (some ⟨bl, 0, none⟩) W W) W (u8vs (RM.sum W [m.getD k []]))) := by have h := own_owns HL.out (Nat.zero_le _); rw [RM.sum_length] at h; exact h
          rw [if_pos (by rfl)]
          refine wp_append_full (.tmp 50) (.tmp 57) 30 30 rfl 0 5 i0 (.int .u8 0) 1 1 Tryz.underlying30 HI.out HZ0.out HZ1.out HZ2.out rfl bl W W _ rfl HOWL.out _ S (u8vs (RM.sum S [d.getD k []])) rfl (by have h := HUR.out.src (P := Tryz.prog) (tx := 30) Tryz.underlying30; rw [RM.sum_length] at h; exact h) (by unfold maxLen; omega) (by omega) (by omega) ?_
          intro v5 w10_ ho5 hx
          obtain ⟨pa, pc, rfl⟩ := owns_slice ho5
          rw [← u8vs_append] at ho5
          have HROW50 : RowOk w10_ w.heap.size (.slice pa (W + S) pc) (RM.sum W [m.getD k []] ++ RM.sum S [d.getD k []]) := RowOk.of_owns ho5 (owns_u8s ho5 HLTAB.out)
          clear ho5 HUR HOWL
          simp only [Act.put, List.setIfInBounds_toArray, List.set_cons_zero, List.set_cons_succ]
          refine hK.out _ _ hx ?_
          clear hK K
          have HA := Lib.hid (HA.out.ext hx)
          have HB2 := Lib.hid (HB2.out.ext hx)
          have HL := Lib.hid (HL.out.ext hx)
          have HRR := Lib.hid (HRR.out.ext hx)
          have HROW5 := Lib.hid HROW50
          clear HROW50
          have HX := Lib.hid (Gr.ext_trans HX.out hx)
          clear hx
          refine Gr.Left.one (i := 16) (by kernel_rfl) (by kernel_rfl) (Gr.Step.mk rfl (fun K hK => ?_))
          go_simp
          generalize hw : World.alloc _ _ = w11_
          have hx : w10_.Extends w11_ := by subst hw; exact ext_alloc _ _
          have HSRC0 : Src Tryz.prog 1 73 (.slice (some ⟨w10_.heap.size, 0, none⟩) 1 1) 1 [.slice pa (W + S) pc] w11_ := by subst hw; exact src_one Tryz.underlying73 _ _ rfl rfl
          clear hw
          refine hK.out _ _ hx ?_
          clear hK K
          have HA := Lib.hid (HA.out.ext hx)
          have HB2 := Lib.hid (HB2.out.ext hx)
          have HL := Lib.hid (HL.out.ext hx)
          have HRR := Lib.hid (HRR.out.ext hx)
          have HROW5 := Lib.hid (HROW5.out.ext hx)
          have HSRC := Lib.hid HSRC0
          clear HSRC0
          have HX := Lib.hid (Gr.ext_trans HX.out hx)
          clear hx
          refine Gr.Left.done (by kernel_rfl) ?_
          simp only [List.drop_succ_cons, List.drop_zero]
          have HXW := Lib.hid (Gr.ext_trans HX2.out HX.out)
          have hsz := HXW.out.size
          have HM5 := Lib.hid (HM.out.ext HXW.out)
          obtain ⟨vs, hown, hrows⟩ := HM5.out
          have HOWN := Lib.hid hown
          have HROWS := Lib.hid hrows
          have HOB : Hid (∀ g, u10.ownBlock = some g → w.heap.size ≤ g) := fun g hg => (HOWN.out.lt g hg).1
          clear hown hrows
          go_wp2_with (at_builtin; refine wpList_append_own_src _ rfl (.tmp 43) (.tmp 59) 73 73 rfl w.heap.size 30 i1 (.slice none 0 0) 1 24 Tryz.underlying73 HI'.out HZ0'.out HZ1'.out HZ2'.out rfl _ _ _ rfl HOWN.out _ 1 [.slice pa (W + S) pc] rfl HSRC.out (by unfold maxLen; omega) (by omega) (Nat.le_trans hbs hsz) ?_)
          intro v6 w6 ho6 hg6 _
          have HP : Hid (Below w.heap.size w w6 ∧ MatInv w6 w.heap.size v6 (k + 1) (L0.take (k + 1))) := by
            refine ⟨(HB.out.trans ((Gr.below_of HXW.out).mono hbs)).grown hg6 (by exact Nat.le_trans hbs hsz) HOB.out, ?_⟩
            rw [← HS.out]
            exact MatInv.snoc (HTL.out k hk) HOWN.out HROWS.out HROW5.out hg6 ho6
          clear ho6 hg6
          go_wp2
          go_roundw
          case rel => exact ⟨k + 1, by omega, by go_num, HP.out⟩
          case measure => simp [intOf]; omega
      · skip
        go_simp
        generalize hw : World.alloc _ _ = w12_
        have hx : wd.Extends w12_ := by subst hw; exact ext_alloc _ _
        have HB20 : Rws w12_ (.slice (some ⟨wd.heap.size, 0, none⟩) 1 1) [d.getD k []] := by subst hw; exact rws_one _ _ _ _ _ (HU2.out.ext (Gr.ext_trans HX2.out HX.out))
        clear hw
        refine hK.out _ _ hx ?_
        clear hK K
        have HB2 := Lib.hid HB20
        clear HB20
        have HX := Lib.hid (Gr.ext_trans HX.out hx)
        clear hx
        refine Gr.Left.one (i := 6) (by kernel_rfl) (by kernel_rfl) (Gr.Step.mk rfl (fun K hK => ?_))
        go_simp
        generalize hw : World.alloc _ _ = w13_
        have hx : w12_.Extends w13_ := by subst hw; exact ext_alloc _ _
        have HA0 : Rws w13_ (.slice (some ⟨w12_.heap.size, 0, none⟩) 1 1) [m.getD k []] := by subst hw; exact rws_one _ _ _ _ _ (HU1.out.ext (Gr.ext_trans HX2.out HX.out))
        clear hw
        refine hK.out _ _ hx ?_
        clear hK K
        have HB2 := Lib.hid (HB2.out.ext hx)
        have HA := Lib.hid HA0
        clear HA0
        have HX := Lib.hid (Gr.ext_trans HX.out hx)
        clear hx
        refine Gr.Left.one (i := 7) (by kernel_rfl) (by kernel_rfl) (Gr.Step.mk rfl (fun K hK => ?_))
        go_simp
        refine (rsum_own W _ [m.getD k []] _ (by omega) HA.out).mono ?_
        rintro e w14_ ⟨bl, he, hx, ho, hbl⟩
        rw [RM.sum_length] at he
        subst he
        have HBL := Lib.hid (Nat.le_trans HWD.out (Nat.le_trans HX.out.size hbl))
        have HL0 := ho
        clear ho hbl
        try go_simp
        refine hK.out _ _ hx ?_
        clear hK K
        have HB2 := Lib.hid (HB2.out.ext hx)
        have HA := Lib.hid (HA.out.ext hx)
        have HL := Lib.hid HL0
        clear HL0
        have HX := Lib.hid (Gr.ext_trans HX.out hx)
        clear hx
        refine Gr.Left.one (i := 14) (by kernel_rfl) (by kernel_rfl) (Gr.Step.mk rfl (fun K hK => ?_))
        go_simp
        refine (rsum_own S _ [d.getD k []] _ h4 HB2.out).mono ?_
        rintro e w15_ ⟨br, he, hx, ho, hbr⟩
        rw [RM.sum_length] at he
        subst he
        have HRR0 := ho
        clear ho hbr
        try go_simp
        refine hK.out _ _ hx ?_
        clear hK K
        have HB2 := Lib.hid (HB2.out.ext hx)
        have HA := Lib.hid (HA.out.ext hx)
        have HL := Lib.hid (HL.out.ext hx)
        have HRR := Lib.hid HRR0
        clear HRR0
        have HX := Lib.hid (Gr.ext_trans HX.out hx)
        clear hx
        refine Gr.Left.one (i := 15) (by kernel_rfl) (by kernel_rfl) (Gr.Step.mk rfl (fun K hK => ?_))
        have HUR : Hid (U8s w15_ (.slice (some ⟨br, 0, none⟩) S S) (RM.sum S [d.getD k []])) := by have h := HRR.out.u8s; rw [RM.sum_length] at h; exact h
        have HOWL : Hid (w15_.ownsRow 0 5 1 (.slice (some ⟨bl, 0, none⟩) W W) W (u8vs (RM.sum W [m.getD k []]))) := by have h := own_owns HL.out (Nat.zero_le _); rw [RM.sum_length] at h; exact h
        rw [if_pos (by rfl)]
        refine wp_append_full (.tmp 50) (.tmp 57) 30 30 rfl 0 5 i0 (.int .u8 0) 1 1 Tryz.underlying30 HI.out HZ0.out HZ1.out HZ2.out rfl bl W W _ rfl HOWL.out _ S (u8vs (RM.sum S [d.getD k []])) rfl (by have h := HUR.out.src (P := Tryz.prog) (tx := 30) Tryz.underlying30; rw [RM.sum_length] at h; exact h) (by unfold maxLen; omega) (by omega) (by omega) ?_
        intro v5 w16_ ho5 hx
        obtain ⟨pa, pc, rfl⟩ := owns_slice ho5
        rw [← u8vs_append] at ho5
        have HROW50 : RowOk w16_ w.heap.size (.slice pa (W + S) pc) (RM.sum W [m.getD k []] ++ RM.sum S [d.getD k []]) := RowOk.of_owns ho5 (owns_u8s ho5 HLTAB.out)
        clear ho5 HUR HOWL
        simp only [Act.put, List.setIfInBounds_toArray, List.set_cons_zero, List.set_cons_succ]
        refine hK.out _ _ hx ?_
        clear hK K
        have HB2 := Lib.hid (HB2.out.ext hx)
        have HA := Lib.hid (HA.out.ext hx)
        have HL := Lib.hid (HL.out.ext hx)
        have HRR := Lib.hid (HRR.out.ext hx)
        have HROW5 := Lib.hid HROW50
        clear HROW50
        have HX := Lib.hid (Gr.ext_trans HX.out hx)
        clear hx
        refine Gr.Left.one (i := 16) (by kernel_rfl) (by kernel_rfl) (Gr.Step.mk rfl (fun K hK => ?_))
        go_simp
        generalize hw : World.alloc _ _ = w17_
        have hx : w16_.Extends w17_ := by subst hw; exact ext_alloc _ _
        have HSRC0 : Src Tryz.prog 1 73 (.slice (some ⟨w16_.heap.size, 0, none⟩) 1 1) 1 [.slice pa (W + S) pc] w17_ := by subst hw; exact src_one Tryz.underlying73 _ _ rfl rfl
        clear hw
        refine hK.out _ _ hx ?_
        clear hK K
        have HB2 := Lib.hid (HB2.out.ext hx)
        have HA := Lib.hid (HA.out.ext hx)
        have HL := Lib.hid (HL.out.ext hx)
        have HRR := Lib.hid (HRR.out.ext hx)
        have HROW5 := Lib.hid (HROW5.out.ext hx)
        have HSRC := Lib.hid HSRC0
        clear HSRC0
        have HX := Lib.hid (Gr.ext_trans HX.out hx)
        clear hx
        refine Gr.Left.done (by kernel_rfl) ?_
        simp only [List.drop_succ_cons, List.drop_zero]
        have HXW := Lib.hid (Gr.ext_trans HX2.out HX.out)
        have hsz := HXW.out.size
        have HM5 := Lib.hid (HM.out.ext HXW.out)
        obtain ⟨vs, hown, hrows⟩ := HM5.out
        have HOWN := Lib.hid hown
        have HROWS := Lib.hid hrows
        have HOB : Hid (∀ g, u10.ownBlock = some g → w.heap.size ≤ g) := fun g hg => (HOWN.out.lt g hg).1
        clear hown hrows
        go_wp2_with (at_builtin; refine wpList_append_own_src _ rfl (.tmp 43) (.tmp 59) 73 73 rfl w.heap.size 30 i1 (.slice none 0 0) 1 24 Tryz.underlying73 HI'.out HZ0'.out HZ1'.out HZ2'.out rfl _ _ _ rfl HOWN.out _ 1 [.slice pa (W + S) pc] rfl HSRC.out (by unfold maxLen; omega) (by omega) (Nat.le_trans hbs hsz) ?_)
        intro v6 w6 ho6 hg6 _
        have HP : Hid (Below w.heap.size w w6 ∧ MatInv w6 w.heap.size v6 (k + 1) (L0.take (k + 1))) := by
          refine ⟨(HB.out.trans ((Gr.below_of HXW.out).mono hbs)).grown hg6 (by exact Nat.le_trans hbs hsz) HOB.out, ?_⟩
          rw [← HS.out]
          exact MatInv.snoc (HTL.out k hk) HOWN.out HROWS.out HROW5.out hg6 ho6
        clear ho6 hg6
        go_wp2
        go_roundw
        case rel => exact ⟨k + 1, by omega, by go_num, HP.out⟩
        case measure => simp [intOf]; omega
    · obtain rfl : k = ll := by omega
      have HM' : Hid (MatInv wr w.heap.size u10 k L0) := by have h := HM.out; rw [HTK.out] at h; exact h
      obtain ⟨la, lc, hu10⟩ : ∃ la lc, u10 = .slice la k lc := by obtain ⟨vs, hown, _⟩ := HM'.out; exact owns_slice hown
      subst hu10
      go_wp2_with fail
      refine (steps_any W k (W + S) w.heap.size _ L0 _ HM'.out HRECT.out (by omega) (by omega) h6 hbs h2).mono ?_
      rintro _ w2 ⟨r, l, has, rfl, hb2, hm2, hre, hinv⟩
      have hrW : r ≤ W := hinv.rankIs.le
      have hrn := hinv.rn
      have HB2 := Lib.hid (HB.out.trans hb2)
      have hbs2 : w.heap.size ≤ w2.heap.size := Nat.le_trans hbs hb2.size
      have HM2 := Lib.hid hm2
      have HRE := Lib.hid hre
      have HINV := Lib.hid hinv
      clear hb2 hm2 hre hinv
      by_cases hr : r = W
      · obtain rfl : W = r := hr.symm
        have HRES : Hid ((∀ j, W ≤ j → j < k → ∀ c, c < S → (l.getD j []).getD (W + c) 0 = 0) → SolveRes W S (· < k) f (some (outRows W l))) := ref_res HINV.out HRE.out rfl HRV.out
        have HNEV : Hid (∀ j c, W ≤ j → j < k → c < S → (l.getD j []).getD (W + c) 0 ≠ 0 → ¬ Solvable W S (· < k) f) := fun j c h1 h2 h3 h4 => ref_never HINV.out HRV.out h1 h2 h3 h4
        obtain ⟨g, hla⟩ : ∃ g, la = some ⟨g, 0, none⟩ := by
          obtain ⟨vs, hown, _⟩ := HM2.out
          rcases hown.2 with ⟨h, h0⟩ | ⟨g, cap, cur, h, _⟩
          · omega
          · cases h; exact ⟨g, rfl⟩
        subst hla
        clear hr
        go_wp2_with fail
        go_loop [12] (fun i => ∃ q : Nat, W ≤ q ∧ q ≤ k ∧ i = .int .i64 q ∧ Hid (∀ j, W ≤ j → j < q → ∀ c, c < S → (l.getD j []).getD (W + c) 0 = 0)) (fun i => (k - intOf i).toNat)
        case atStart => exact ⟨W, Nat.le_refl _, hrn, rfl, fun j h1 h2 => by omega⟩
        case round =>
          obtain ⟨q, hq1, hq2, rfl, hz⟩ := hrel
          by_cases hqk : q < k
          · obtain ⟨ra, rc, hcell, hok⟩ := HM2.out.at hqk
            have hlen := HRE.out.2.1 q hqk
            obtain ⟨b, off, rfl, hbl, hbg, hcs⟩ := hok.cellsAt HM2.out (by rw [hlen]; omega)
            rw [hlen] at hcell hcs
            have HCS := Lib.hid hcs
            clear hok hcs hlen
            go_wp2_with fail
            go_loop [13] (fun c => ∃ c' : Nat, c' ≤ S ∧ c = .int .i64 ((W + c' : Nat) : Int) ∧ Hid (∀ x, x < c' → (l.getD q []).getD (W + x) 0 = 0)) (fun c => (W + S - intOf c).toNat)
            case atStart => exact ⟨0, by omega, rfl, fun x hx => absurd hx (Nat.not_lt_zero _)⟩
            case round =>
              obtain ⟨c, hc, rfl, hzc⟩ := hrel
              by_cases hcS : c < S
              · have hcv := HCS.out (W + c) (by omega)
                by_cases h0 : (l.getD q []).getD (W + c) 0 = 0
                · have hzc' : Hid (∀ x, x < c + 1 → (l.getD q []).getD (W + x) 0 = 0) := fun x hx => by
                    by_cases hxc : x < c
                    · exact hzc.out x hxc
                    · rw [show x = c by omega]; exact h0
                  rw [h0] at hcv
                  clear h0
                  go_wp2
                  go_round
                  case rel => exact ⟨c + 1, by omega, by go_num, hzc'⟩
                  case measure => simp [intOf]; omega
                · have HN := Lib.hid (HNEV.out q c hq1 hqk hcS h0)
                  have hnb : ((((l.getD q []).getD (W + c) 0 : Nat) : Int) != 0) = true := by simp only [bne_iff_ne, ne_eq]; omega
                  clear h0
                  generalize (l.getD q []).getD (W + c) 0 = x at *
                  have HOUT : Hid (SolveOut w W S (· < k) f (.returned (.tuple #[nilS, .int .i64 4])) w2) := ⟨none, nilS, HN.out, rfl, HB2.out, Rws.nil _ _ _⟩
                  go_wp2
                  go_ret2
                  exact HOUT.out
              · obtain rfl : c = S := by omega
                have hz' : Hid (∀ j, W ≤ j → j < q + 1 → ∀ x, x < c → (l.getD j []).getD (W + x) 0 = 0) := fun j h1 h2 x hx => by
                  by_cases hjq : j < q
                  · exact hz.out j h1 hjq x hx
                  · rw [show j = q by omega]; exact hzc.out x hx
                go_wp2
                go_round
                case rel => exact ⟨q + 1, by omega, by omega, by go_num, hz'⟩
                case measure => simp [intOf]; omega
          · obtain rfl : q = k := by omega
            have HSR := Lib.hid (HRES.out hz.out)
            have HOS := Lib.hid (outRows_snoc W l)
            have HOL : Hid (∀ j, j ≤ W → j = ((outRows W l).take j).length) := fun j hj => by rw [List.length_take, outRows_length]; omega
            have HOT : Hid ((outRows W l).take W = outRows W l) := by
              show _ = _
              rw [List.take_of_length_le]; rw [outRows_length]; exact Nat.le_refl _
            have HOLEN := Lib.hid (outRows_length W l)
            clear HRES HNEV
            go_wp2_with fail
            go_loopw [14, 15] (fun o i wx => ∃ j : Nat, j ≤ W ∧ i = .int .i64 j ∧ w2.Extends wx ∧ MatInv wx w2.heap.size o j ((outRows W l).take j)) (fun _ i _ => (W - intOf i).toNat)
            case atStart => exact ⟨0, by omega, rfl, Gr.ext_refl _, [], World.ownsRow_nil _ _ _ _, fun j hj => absurd hj (Nat.not_lt_zero _)⟩
            case round =>
              obtain ⟨j, hj, rfl, hx, hm⟩ := hrel
              have HXJ := Lib.hid hx
              have HMJ := Lib.hid hm
              have hsx := hx.size
              clear hx hm
              by_cases hjW : j < W
              · obtain ⟨ra, rc, hcell, hok⟩ := HM2.out.at (j := j) (by omega)
                have hlen := HRE.out.2.1 j (by omega)
                obtain ⟨b, off, rfl, hbl, hbg, hcs⟩ := hok.cellsAt HM2.out (by rw [hlen]; omega)
                rw [hlen] at hcell
                have hok' := hok.1
                rw [hlen] at hok'
                obtain ⟨_, cq, hrs, hrc1, hrc2⟩ := hok'.slice
                simp only [Value.slice.injEq] at hrs
                obtain ⟨hrs1, hrs2, rfl⟩ := hrs
                rw [hlen] at hrc1
                clear hrs1 hrs2
                have hWS : W + S - W = S := by omega
                have hud := (hok'.drop W (by omega)).ext HXJ.out
                rw [hWS] at hud
                have HUD := Lib.hid hud
                clear hud
                have HDL : Hid (((l.getD j []).drop W).length = S) := by show _ = _; rw [List.length_drop, hlen]; omega
                have HDB : Hid (∀ x ∈ (l.getD j []).drop W, x < 256) := fun x hx => HRE.out.row_lt j x (List.mem_of_mem_drop hx)
                have hcx := HXJ.out.cell_of hcell
                have HS := Lib.hid (HOS.out j hjW)
                clear hcell hok hok' hcs hlen
                unfold maxLen at hrc2
                generalize (l.getD j []).drop W = D at *
                go_wp2_with (at_builtin; refine wpList_append_own_src _ rfl (.const (.slice none 0 0)) (.tmp 100) 30 30 rfl wr.heap.size 5 i0 (.int .u8 0) 1 1 Tryz.underlying30 HI.out HZ0.out HZ1.out HZ2.out rfl _ _ _ rfl (World.ownsRow_nil _ _ _ _) _ S (u8vs D) rfl (by have h := HUD.out.src (P := Tryz.prog) (tx := 30) Tryz.underlying30; rw [HDL.out] at h; exact h) (by unfold maxLen; omega) (by omega) (Nat.le_refl _) ?_)
                intro v5 w5 ho5 hg5 _
                obtain ⟨pa, pc, rfl⟩ := owns_slice ho5
                have hx5 : wr.Extends w5 := ext_below ⟨hg5.os, hg5.tape, hg5.output, hg5.size, fun i hi => hg5.block i hi (by simp [Value.ownBlock])⟩ rfl
                have HR5 : Hid (RowOk w5 w2.heap.size (.slice pa S pc) D) := RowOk.of_owns ho5 (owns_u8s ho5 HDB.out)
                have HM5 := Lib.hid (HMJ.out.ext hx5)
                have HX5 := Lib.hid (Gr.ext_trans HXJ.out hx5)
                have hs5 := hx5.size
                clear ho5 hg5 hx5
                obtain ⟨vs, hown, hrows⟩ := HM5.out
                have HOWN := Lib.hid hown
                have HROWS := Lib.hid hrows
                have HOB : Hid (∀ g, u14.ownBlock = some g → w2.heap.size ≤ g) := fun g hg => (HOWN.out.lt g hg).1
                clear hown hrows
                go_wp2_with (at_builtin; refine wpList_append_own_src _ rfl (.tmp 94) (.tmp 102) 73 73 rfl w2.heap.size 30 i1 (.slice none 0 0) 1 24 Tryz.underlying73 HI'.out HZ0'.out HZ1'.out HZ2'.out rfl _ _ _ rfl (HOWN.out.alloc _) _ 1 [.slice pa S pc] rfl (src_one Tryz.underlying73 _ _ rfl rfl) (by unfold maxLen; omega) (by omega) (by simp; omega) ?_)
                intro v6 w6 ho6 hg6 _
                have HP : Hid (w2.Extends w6 ∧ MatInv w6 w2.heap.size v6 (j + 1) ((outRows W l).take (j + 1))) := by
                  refine ⟨Gr.ext_of (((Gr.below_of HX5.out).alloc (Nat.le_trans hsx hs5) _).grown hg6 (by simp; omega) HOB.out), ?_⟩
                  rw [← HS.out]
                  exact MatInv.snoc (HOL.out j hj) (HOWN.out.alloc _) (fun j hj => by obtain ⟨u, h1, h2⟩ := HROWS.out j hj; exact ⟨u, h1, h2.ext (ext_alloc _ _)⟩) (HR5.out.ext (ext_alloc _ _)) hg6 ho6
                clear ho6 hg6
                go_wp2
                go_roundw
                case rel => exact ⟨j + 1, by omega, by go_num, HP.out.1, HP.out.2⟩
                case measure => simp [intOf]; omega
              · obtain rfl : j = W := by omega
                have HOUT : Hid (SolveOut w j S (· < q) f (.returned (.tuple #[u14, .int .i64 0])) wr) := by
                  have h := HMJ.out
                  rw [HOT.out] at h
                  exact ⟨some (outRows j l), _, HSR.out, rfl, HB2.out.trans ((Gr.below_of HXJ.out).mono hbs2), h.rws HOLEN.out.symm⟩
                go_wp2
                go_ret2
                exact HOUT.out
      · have hlt : r < W := by omega
        have HOUT : Hid (SolveOut w W S (· < k) f (.returned (.tuple #[nilS, .int .i64 4])) w2) := ⟨none, nilS, fun ⟨hl, _⟩ => (rank_congr HINV.out.rankIs HINV.out.bd0 HRV.out).notfull hlt hl, rfl, HB2.out, Rws.nil _ _ _⟩
        clear hr
        go_wp2
        go_ret2
        exact HOUT.out
end Go.Proofs.YtpfmmfapdcbnkaaGreatDoor
namespace Go.Proofs.YtpfmmfapdcbnkaaGreatDoor
set_option maxRecDepth 20000
open Go.RowKit Go.Deep
set_option linter.unusedVariables false
set_option maxHeartbeats 1000000 in
set_option maxRecDepth 100000 in
theorem refZero_any (k size : Nat) (v : Value) (l : List (List Nat)) (w : World) (hk : k ≤ 40) (hs : size ≤ 1000) (hl : l.length ≤ 1000) (hv : Rws w v l) :
    Calls Tryz.prog 53 #[.int .i64 k, .int .i64 size, v] w fun e w' => ∃ u, e = .returned u ∧ w.Extends w' ∧ Rws w' u (BM.mixed0 k size l) := by
  have HSC := Lib.hid (fun w => refS_any k w (by omega))
  have hs7 := PM.s_le k hk
  have HMX : Hid (List.replicate (PM.s k + 2) (RM.zeros size) ++ l = BM.mixed0 k size l) := rfl
  have hmk := fun w => mkBytes size (by omega) w
  have HOWN0 : Hid (∀ w : World, RowOk (w.alloc (.cells (madeCells #[.int .u8 0] size) 5)) 0 (.slice (some ⟨w.heap.size, 0, none⟩) size size) (RM.zeros size)) := fun w =>
    RowOk.own (Own.made w size 5 (by unfold maxLen; omega)) 0 (by simp) (by simp)
  have HREP : Hid (∀ m, List.replicate m (RM.zeros size) ++ [RM.zeros size] = List.replicate (m + 1) (RM.zeros size)) := fun m => by rw [List.replicate_succ']
  have HV := Lib.hid hv
  obtain ⟨a, cap, rfl, _⟩ := hv.slice
  clear hv
  generalize BM.mixed0 k size l = mx at *
  generalize RM.zeros size = Z at *
  obtain ⟨n, hn⟩ : ∃ n, n = l.length := ⟨_, rfl⟩
  rw [← hn] at HV hl ⊢
  have HN := Lib.hid hn
  clear hn
  generalize PM.s k = S at *
  obtain ⟨i1, hi', hz0', hz1', hz2'⟩ := info_parts bytesinfo
  have HI' := Lib.hid hi'; clear hi'
  have HZ0' := Lib.hid hz0'; clear hz0'
  have HZ1' := Lib.hid hz1'; clear hz1'
  have HZ2' := Lib.hid hz2'; clear hz2'
  go_enter Tryz.func53, Tryz.ntmps53
  go_wp2_with fail
  go_loopw [7, 8] (fun o i wr => ∃ m : Nat, m ≤ S + 2 ∧ i = .int .i64 m ∧ Hid (w.Extends wr) ∧ Hid (Mats wr w.heap.size w.heap.size 30 o m (List.replicate m Z))) (fun _ i _ => (S + 2 - intOf i).toNat)
  case atStart => exact ⟨0, by omega, rfl, Lib.hid (Gr.ext_refl _), Lib.hid (Mats.nil _ _ _ _ _)⟩
  case round =>
    obtain ⟨m, hm, rfl, HX, HM⟩ := hrel
    by_cases h5 : m < S + 2
    · have HREP1 := Lib.hid (HREP.out m)
      have HGL : Hid (m = (List.replicate m Z).length) := by show _ = _; simp
      have hbs := HX.out.size
      obtain ⟨vs, hown, hrows⟩ := HM.out.ext (ext_alloc wr (.cells (madeCells #[.int .u8 0] size) 5))
      have HOWN := Lib.hid hown
      have HROWS := Lib.hid hrows
      have HOK := Lib.hid (HOWN0.out wr)
      have HOB : Hid (∀ g, u7.ownBlock = some g → w.heap.size ≤ g) := fun g hg => (HOWN.out.lt g hg).1
      clear hown hrows HM
      generalize List.replicate m Z = gl at *
      go_wp2_with fail
      refine (HSC.out _).mono ?_
      rintro e w' ⟨rfl, rfl⟩
      go_wp2_with (at_builtin; refine wpList_append_own_src _ rfl _ _ 73 73 rfl w.heap.size 30 i1 (.slice none 0 0) 1 24 Tryz.underlying73 HI'.out HZ0'.out HZ1'.out HZ2'.out rfl _ _ _ rfl (HOWN.out.alloc _) _ 1 [.slice (some ⟨wr.heap.size, 0, none⟩) size size] rfl (src_one Tryz.underlying73 _ _ (by simp) rfl) (by unfold maxLen; omega) (by omega) (by simp; omega) ?_)
      intro v' w3 ho3 hg3 _
      have HP : Hid (w.Extends w3 ∧ Mats w3 w.heap.size w.heap.size 30 v' (m + 1) (List.replicate (m + 1) Z)) := by
        refine ⟨Gr.ext_of ((((Gr.below_of HX.out).alloc hbs _).alloc (by simp; omega) _).grown hg3 (by simp; omega) HOB.out), ?_⟩
        rw [← HREP1.out]
        exact Mats.snoc (Nat.le_refl _) (by decide) HGL.out (HOWN.out.alloc _) (fun j hj => by obtain ⟨u, h1, h2⟩ := HROWS.out j hj; exact ⟨u, h1, h2.ext (ext_alloc _ _)⟩) ((HOK.out.ext (ext_alloc _ _)).mono (Nat.zero_le _)) hg3 ho3
      clear ho3 hg3
      go_wp2
      go_roundw
      case rel => exact ⟨m + 1, by omega, by go_num, Lib.hid HP.out.1, Lib.hid HP.out.2⟩
      case measure => simp [intOf]; omega
    · obtain rfl : m = S + 2 := by omega
      obtain ⟨us, hsrc, hus⟩ := HV.out.srcs_old HX.out (P := Tryz.prog) (tx := 73) Tryz.underlying73
      rw [← HN.out] at hsrc hus
      obtain ⟨vs, hown, hrows⟩ := HM.out
      have HSRC := Lib.hid hsrc
      have HUS := Lib.hid hus
      have HOWN := Lib.hid hown
      have HROWS := Lib.hid hrows
      have HGL : Hid (S + 2 = (List.replicate (S + 2) Z).length) := by show _ = _; simp
      have hbs := HX.out.size
      have HOB : Hid (∀ g, u7.ownBlock = some g → w.heap.size ≤ g) := fun g hg => (HOWN.out.lt g hg).1
      clear hown hrows hsrc hus HM hmk
      go_wp2_with fail
      refine (HSC.out _).mono ?_
      rintro e w' ⟨rfl, rfl⟩
      go_wp2_with (at_builtin; refine wpList_append_own_src _ rfl _ _ 73 73 rfl w.heap.size 30 i1 (.slice none 0 0) 1 24 Tryz.underlying73 HI'.out HZ0'.out HZ1'.out HZ2'.out rfl _ _ _ rfl HOWN.out _ n us rfl HSRC.out (by unfold maxLen; omega) (by omega) (by omega) ?_)
      intro v' w3 ho3 hg3 _
      have HX3 : Hid (w.Extends w3) := Gr.ext_of ((Gr.below_of HX.out).grown hg3 (by omega) HOB.out)
      have HR3 : Hid (Rws w3 v' mx) := by
        have h := Mats.grow (Nat.le_refl _) (by decide) HGL.out HN.out HOWN.out HROWS.out HUS.out hg3 ho3
        rw [HMX.out] at h
        exact h.rws (by rw [← HMX.out, List.length_append, ← HGL.out, ← HN.out])
      clear ho3 hg3
      go_wp2
      go_ret
      exact ⟨_, rfl, HX3.out, HR3.out⟩
end Go.Proofs.YtpfmmfapdcbnkaaGreatDoor
namespace Go.Proofs.YtpfmmfapdcbnkaaGreatDoor
set_option maxRecDepth 20000
open Go.RowKit Go.Deep
set_option linter.unusedVariables false
/-- A block of the reference's. -/
def RNew (w : World) (k j size : Nat) (c : List (List Nat)) (e : Ending) (w' : World) : Prop :=
  ∃ b v, e = .returned (.tuple #[.pointer (some ⟨b, 0, none⟩), .int .i64 0]) ∧ w.Extends w' ∧ RAt w' b k j size v ∧ Rws w' v c
set_option maxHeartbeats 1000000 in
set_option maxRecDepth 100000 in
theorem refNew_none (size : Int) (v : Value) (src : List (List Nat)) (k : Nat) (w : World) (h1 : 1 ≤ size) (h2 : size ≤ 64) (hk : src.length = k) (k1 : 1 ≤ k) (k2 : k ≤ 40) (hv : Rws w v src) (hn : AllB size src) (r : Nat) (hs : SM.SeedIs k r 5) :
    Calls Tryz.prog 30 #[.int .i64 size, v] w (NoBlock w 5) := by
  have HF : Hid (∀ w, Calls Tryz.prog 33 #[.int .i64 k] w fun e w' => e = .returned (.tuple #[.int .i64 r, .int .i64 (5 : Nat)]) ∧ w.Extends w') := fun w =>
    (refSeed_some k w k1 k2).mono fun e w' ⟨r', er', he, hr', hx⟩ => by
      obtain ⟨rfl, rfl⟩ := hs.uniq hr'
      exact ⟨he, hx⟩
  have HN := Lib.hid hn
  have HK := Lib.hid hk
  obtain ⟨a, cap, rfl, _⟩ := hv.slice
  have HV := Lib.hid hv.at.2
  rw [hk] at HV ⊢
  clear hk hv hn hs
  go_enter Tryz.func30, Tryz.ntmps30
  go_wp2_with fail
  go_loopw [7] (fun i wr => ∃ m : Nat, m ≤ k ∧ i = .int .i64 m ∧ Hid (w.Extends wr)) (fun i _ => (k - intOf i).toNat)
  case atStart => exact ⟨0, by omega, rfl, Lib.hid (Gr.ext_refl _)⟩
  case round =>
    obtain ⟨m, hm, rfl, HX⟩ := hrel
    by_cases h5 : m < k
    · obtain ⟨b1, o1, rfl, hb1, hc1⟩ := HV.out (by omega)
      obtain ⟨ra, rc, hc3, hr0⟩ := hc1 m h5
      have hc2 := HX.out.cell_of hc3
      clear hc1 hc3 hr0
      have h6 := HN.out m (by rw [HK.out]; exact h5)
      generalize (src.getD m []).length = r at *
      have hne : ((r : Int) != size) = false := by simpa using h6
      clear h6
      go_wp2
      go_roundw
      case rel => exact ⟨m + 1, by omega, by go_num, HX⟩
      case measure => simp [intOf]; omega
    · obtain rfl : m = k := by omega
      go_wp2_with fail
      refine (HF.out wr).mono ?_
      rintro e w4 ⟨rfl, hx4⟩
      have HP : Hid (NoBlock w 5 (.returned (.tuple #[.pointer none, .int .i64 5])) w4) := ⟨rfl, Gr.ext_trans HX.out hx4⟩
      clear hx4
      go_wp2
      go_returns
      exact HP.out
set_option maxHeartbeats 2000000 in
set_option maxRecDepth 100000 in
theorem refNew_some (size : Nat) (v : Value) (src : List (List Nat)) (k : Nat) (w : World) (h1 : 1 ≤ size) (h2 : size ≤ 64) (hk : src.length = k) (k1 : 1 ≤ k) (k2 : k ≤ 40) (hv : Rws w v src) (hn : AllB size src) (j : Nat) (hs : SM.SeedIs k j 0) (c : List (List Nat)) (hc : BM.PartsIs k j size src c) :
    Calls Tryz.prog 30 #[.int .i64 size, v] w (RNew w k j size c) := by
  have hj := hs.lt
  have hg : SM.Good k j := by
    rcases hs with ⟨_, _, h, _⟩ | ⟨h, _⟩
    · exact h
    · cases h
  have hl49 := PM.l_le k k2
  have hl1 : 1 ≤ PM.l k := by unfold PM.l; omega
  have hlt := hv.all_lt
  have HF : Hid (∀ w, Calls Tryz.prog 33 #[.int .i64 k] w fun e w' => e = .returned (.tuple #[.int .i64 j, .int .i64 (0 : Nat)]) ∧ w.Extends w') := fun w =>
    (refSeed_some k w k1 k2).mono fun e w' ⟨r', er', he, hr', hx⟩ => by
      obtain ⟨rfl, rfl⟩ := hs.uniq hr'
      exact ⟨he, hx⟩
  have HL := Lib.hid (fun w => refL_any k w (by omega))
  have HI := Lib.hid (fun w => refFirst_any k w (by omega))
  have HM := Lib.hid (fun v w hv => refMat_of k j v w k1 k2 (by omega) hv)
  have HZ := Lib.hid (fun v w hv => refZero_any k size v src w k2 (by omega) (by omega) hv)
  have HS : Hid (∀ u v w, Rws w u (SM.rows k j) → Rws w v (BM.mixed0 k size src) → Calls Tryz.prog 51 #[.int .i64 (PM.l k), .int .i64 size, u, v] w fun e w' => ∃ x, e = .returned (.tuple #[x, .int .i64 ((0 : Nat) : Int)]) ∧ w.Extends w' ∧ Rws w' x c) := fun u v w hu hv => by
    have hlen : (SM.rows k j).length = PM.l k := BM.rows_l k j
    have hml : (BM.mixed0 k size src).length = PM.s k + 2 + src.length := by simp [BM.mixed0]
    refine (rsolve_good (PM.l k) size u v (SM.rows k j) (BM.mixed0 k size src) w hu hv hl1 (by omega) h1 (by omega) (by rw [hml, hk, hlen]; unfold PM.l PM.w; omega) (by omega)).mono fun e w' ⟨res, x, hres, he, hb, hr⟩ => ?_
    rw [hlen, BM.F_mixed0] at hres
    obtain ⟨c', rfl, hc'⟩ := BM.res_some hg hlt hres
    rw [BM.PartsIs.uniq hlt hc hc']
    exact ⟨x, he, Gr.ext_of hb, hr⟩
  have HOUT : Hid (∀ b v (w' : World), w.Extends w' → RAt w' b k j size v → Rws w' v c → RNew w k j size c (.returned (.tuple #[.pointer (some ⟨b, 0, none⟩), .int .i64 0])) w') := fun b v w' hx hb hr => ⟨b, v, rfl, hx, hb, hr⟩
  have HN := Lib.hid hn
  have HK := Lib.hid hk
  have HRV := Lib.hid hv
  obtain ⟨a, cap, rfl, _⟩ := hv.slice
  have HV := Lib.hid hv.at.2
  rw [hk] at HV HRV ⊢
  clear hk hv hn hs hc hg hlt
  generalize SM.rows k j = rs at *
  generalize BM.mixed0 k size src = mx at *
  generalize PM.l k = L at *
  go_enter Tryz.func30, Tryz.ntmps30
  go_wp2_with fail
  go_loopw [7] (fun i wr => ∃ m : Nat, m ≤ k ∧ i = .int .i64 m ∧ Hid (w.Extends wr)) (fun i _ => (k - intOf i).toNat)
  case atStart => exact ⟨0, by omega, rfl, Lib.hid (Gr.ext_refl _)⟩
  case round =>
    obtain ⟨m, hm, rfl, HX⟩ := hrel
    by_cases h5 : m < k
    · obtain ⟨b1, o1, rfl, hb1, hc1⟩ := HV.out (by omega)
      obtain ⟨ra, rc, hc3, hr0⟩ := hc1 m h5
      have hc2 := HX.out.cell_of hc3
      clear hc1 hc3 hr0
      have h6 := HN.out m (by rw [HK.out]; exact h5)
      generalize (src.getD m []).length = r at *
      have hne : ((r : Int) != (size : Int)) = false := by simpa using h6
      clear h6
      go_wp2
      go_roundw
      case rel => exact ⟨m + 1, by omega, by go_num, HX⟩
      case measure => simp [intOf]; omega
    · obtain rfl : m = k := by omega
      go_wp2_with fail
      refine (HF.out wr).mono ?_
      rintro e w4 ⟨rfl, hx4⟩
      have HX4 := Lib.hid (Gr.ext_trans HX.out hx4)
      clear hx4 HX
      go_wp2_with fail
      refine (HL.out w4).mono ?_
      rintro e w' ⟨rfl, rfl⟩
      go_wp2_with fail
      refine (HI.out w4).mono ?_
      rintro e w5 ⟨vi, rfl, hx5, hvi⟩
      have HX5 := Lib.hid (Gr.ext_trans HX4.out hx5)
      have HVI := Lib.hid hvi
      clear hx5 hvi HX4
      go_wp2_with fail
      refine (HM.out vi w5 HVI.out).mono ?_
      rintro e w6 ⟨um, rfl, hx6, hum⟩
      have HX6 := Lib.hid (Gr.ext_trans HX5.out hx6)
      have HUM := Lib.hid hum
      clear hx6 hum HX5 HVI
      go_wp2_with fail
      refine (HZ.out _ w6 (HRV.out.ext HX6.out)).mono ?_
      rintro e w7 ⟨uz, rfl, hx7, huz⟩
      have HX7 := Lib.hid (Gr.ext_trans HX6.out hx7)
      have HUM7 := Lib.hid (HUM.out.ext hx7)
      have HUZ := Lib.hid huz
      clear hx7 huz HX6 HUM
      go_wp2_with fail
      refine (HS.out um uz w7 HUM7.out HUZ.out).mono ?_
      rintro e w8 ⟨x8, rfl, hx8, hr8⟩
      have HX8 := Lib.hid (Gr.ext_trans HX7.out hx8)
      have HR8 := Lib.hid hr8
      obtain ⟨ua, uc, rfl, _⟩ := hr8.slice
      clear hx8 hr8 HX7 HUM7 HUZ
      go_wp2_with fail
      generalize hw9 : World.alloc w8 _ = w9
      have hx9 : w8.Extends w9 := by subst hw9; exact prm_ext_alloc _ _
      have HP := Lib.hid (HOUT.out w8.heap.size _ w9 (Gr.ext_trans HX8.out hx9) (by subst hw9; exact RAt.new w8 75 m j size _) (HR8.out.ext hx9))
      clear hw9 hx9
      go_returns
      exact HP.out
end Go.Proofs.YtpfmmfapdcbnkaaGreatDoor
