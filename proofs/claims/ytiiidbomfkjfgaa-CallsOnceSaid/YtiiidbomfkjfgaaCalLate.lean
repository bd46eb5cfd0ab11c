/- Calls: Late. Written by gen_late21.py. -/
import Derived.Test.YtiiidbomfkjfgaaCalSort
import Derived.Test.YtiiidbomfkjfgaaCalTake
namespace Go.Proofs.Ytiiidbomfkjfgaa
set_option maxRecDepth 20000
open Go.RowKit Go.Deep Go.Maps
set_option linter.unusedVariables false
theorem clParts : ∃ i, Try.prog.info? 30 = some i ∧ i.zero = some (CVC zc) ∧ i.size = 4 ∧ i.bytes = 32 := by
  obtain ⟨i, hi⟩ : ∃ i, Try.prog.info? 30 = some i := info_of_underlying Try.underlying30
  have h : (Try.prog.info? 30).map (fun i => (i.zero, i.size, i.bytes)) = some (some (CVC zc), 4, 32) := by kernel_rfl
  rw [hi] at h
  simp only [Option.map_some, Option.some.injEq, Prod.mk.injEq] at h
  exact ⟨i, hi, h.1, h.2.1, h.2.2⟩
theorem clit_src {w : World} {T : TypeId} {x : Cl} : Src Try.prog 4 34 (.slice (some ⟨w.heap.size, 0, none⟩) 1 1) 1 (CCL x) (w.alloc (.cells (CCL x).toArray T)) := by
  refine Src.ofSlice _ Try.underlying34 ⟨w.heap.size, 0, none⟩ 1 1 (CCL x) rfl (fun j u hu => ?_) (fun u hu => ?_)
  · rw [Addr.add_mid, cell_of_row _ _ _ _ _ _ (heap_alloc_new _ _), Nat.zero_add]
    simpa using hu
  · simp only [CCL, List.mem_cons, List.not_mem_nil, or_false] at hu
    rcases hu with rfl | rfl | rfl | rfl <;> rfl
theorem wpList_app_cl {ops : Array Oper} {rest : List Oper} {o : Oper} {a : Act} {Q : Exit → Act → World → Prop} {w : World} (hgd : o.guard = none) (s x : Operand)
    (ho : o.op = .call { callee := .builtin .append, args := #[s, x], argTypes := #[34, 34] })
    (B : Nat) (v : Value) (l : List Cl) (hs : a.eval s = v) (hown : OwnCl w B v l) (y : Value) (c : Cl) (hx : a.eval x = y) (hsrc : Src Try.prog 4 34 y 1 (CCL c) w)
    (h63 : l.length + 1 ≤ 10000) (hB : B ≤ w.heap.size) (h : ∀ v' w', OwnCl w' B v' (l ++ [c]) → w.grownBy w' v.ownBlock → wpList Try.prog ops Q rest (a.put o.dst v') w') : wpList Try.prog ops Q (o :: rest) a w := by
  obtain ⟨i, hi, hz0, hz1, hz2⟩ := clParts
  refine wpList_append_own_src3 w hgd s x 34 34 ho B 30 i (CVC zc) 4 32 Try.underlying34 hi hz0 hz1 hz2 rfl v l.length (flatCl l) hs hown y 1 (CCL c) hx hsrc (by unfold maxLen; omega) (by omega) hB (fun _ => True) (fun _ _ _ _ _ _ _ _ => trivial) (fun _ _ => trivial) (fun _ _ => trivial) ?_
  intro v' w' ho' hg' hn' _
  refine h v' w' ?_ hg'
  unfold OwnCl
  rw [List.length_append, List.length_singleton, flatCl_append]
  exact ho'
theorem OwnCl.slice {w : World} {B : Nat} {v : Value} {l : List Cl} (h : OwnCl w B v l) : ∃ a cap, v = .slice a l.length cap := by
  rcases h.2 with ⟨rfl, h0⟩ | ⟨g, cap, cur, rfl, _⟩
  · rw [h0]; exact ⟨_, _, rfl⟩
  · exact ⟨_, _, rfl⟩
theorem OwnCl.kept {w w' : World} {B : Nat} {v : Value} {l : List Cl} {D : Nat → Prop} (h : OwnCl w B v l) (hf : Fr D w w') (hD : ∀ i, D i → i < B) : OwnCl w' B v l := by
  refine ⟨h.1, ?_⟩
  rcases h.2 with hn | ⟨g, cap, cur, rfl, hbg, hg, rest⟩
  · exact .inl hn
  · exact .inr ⟨g, cap, cur, rfl, hbg, (hf.away g (Array.getElem?_eq_some_iff.1 hg).1 fun hd => by have := hD g hd; omega).trans hg, rest⟩
theorem OwnCl.base {w : World} {B : Nat} {v : Value} {l : List Cl} (h : OwnCl w B v l) {g : Nat} (hg : v.ownBlock = some g) : B ≤ g := (World.ownsRow.lt h g hg).1
/-- The blocks that count. -/
theorem CsAt.tight {w : World} {c o last : Nat} {D : Nat → Prop} {cs : List Cl} (h : CsAt w c o D last cs) : ∃ D0, CsAt w c o D0 last cs ∧ ∀ i, D0 i → D i ∧ i < w.heap.size := by
  obtain ⟨h0, row, T, y, h1, h2, h3⟩ := h
  rcases h3 with h3 | ⟨t, e, mt, mo, v, q, ft, fo, sl, h4, h5⟩
  · exact ⟨fun _ => False, ⟨fun h => h, row, T, y, h1, h2, .inl h3⟩, fun i h => h.elim⟩
  · exact ⟨OD t mt mo v q fo, ⟨fun h => h0 (h4.d _ h), row, T, y, h1, h2, .inr ⟨t, e, mt, mo, v, q, ft, fo, sl, ⟨h4.p, h4.r, h4.hp, fun _ h => h⟩, h5⟩⟩, fun i hi => ⟨h4.d i hi, h4.p.odlt hi⟩⟩
def lenOf : Value → Nat
  | .slice _ n _ => n
  | _ => 0
def CLateOut (c o : Nat) (D : Nat → Prop) (last : Nat) (cs : List Cl) (now : Int) (w : World) (e : Ending) (w' : World) : Prop :=
  ∃ v ls csr, e = .returned v ∧ Cls w' w.heap.size v ls ∧ (csr ++ ls).Perm cs ∧ (∀ x ∈ ls, x.u < now) ∧ (∀ x ∈ csr, now ≤ x.u) ∧ ls.Pairwise (fun a b => a.t ≤ b.t) ∧ Fr D w w' ∧ CsAt w' c o D last csr
theorem sortT_perm (L : List Cl) (hu : ∀ x ∈ L, ∀ y ∈ L, x.t = y.t → x = y) : ((sortT (L.map Cl.t)).map (ofTag L)).Perm L := by
  have h1 : ((sortT (L.map Cl.t)).map (ofTag L)).Perm ((L.map Cl.t).map (ofTag L)) := (List.mergeSort_perm _ _).map _
  have h2 : (L.map Cl.t).map (ofTag L) = L := by
    rw [List.map_map]
    refine (List.map_congr_left fun x hx => ?_).trans (List.map_id L)
    exact ofTag_mem hu hx
  rwa [h2] at h1
theorem tag_lt (x y : Int) : ltOf (fun x y : Int => Lib.compareInt x y) x y = decide (x < y) := by
  unfold ltOf Lib.compareInt
  by_cases h1 : x < y
  · simp [h1]
  · by_cases h2 : y < x <;> simp [h1, h2]
theorem sortT_sorted (L : List Cl) (xs : List Int) : ((sortT xs).map (ofTag L)).Pairwise (fun a b => a.t ≤ b.t) := by
  rw [List.pairwise_map]
  have h := List.pairwise_mergeSort (le := fun x y : Int => !(ltOf (fun x y : Int => Lib.compareInt x y)) y x) (fun a b c h1 h2 => by
    rw [tag_lt] at *
    simp only [Bool.not_eq_true', decide_eq_false_iff_not] at *
    omega) (fun a b => by
    rw [tag_lt, tag_lt]
    simp only [Bool.or_eq_true, Bool.not_eq_true', decide_eq_false_iff_not]
    omega) xs
  refine h.imp fun {a b} hab => ?_
  rw [ofTag_t, ofTag_t]
  rw [tag_lt] at hab
  simp only [Bool.not_eq_true', decide_eq_false_iff_not] at hab
  omega
/-- What is left to do: the sort. -/
theorem late_end {c o last : Nat} {D D0 : Nat → Prop} {cs csr ls : List Cl} {now : Int} {w w1 : World} {v : Value} (h0 : ∀ i, D0 i → D i ∧ i < w.heap.size) (hc : CsAt w1 c o D0 last csr) (hcl : c < w.heap.size) (hcd : ¬ D c) (ho : OwnCl w1 w.heap.size v ls) (hp : (csr ++ ls).Perm cs)
    (hu : ∀ x ∈ cs, ∀ y ∈ cs, x.t = y.t → x = y) (hll : ls.length ≤ 8000) (h1 : ∀ x ∈ ls, x.u < now) (h2 : ∀ x ∈ csr, now ≤ x.u) (hf : Fr D0 w w1) :
    Calls Try.prog 12 #[v, .func (.func 13) #[] #[]] w1 (fun e w' => e = .returned (.tuple #[]) ∧ CLateOut c o D last cs now w (.returned v) w') := by
  have hul : ∀ x ∈ ls, ∀ y ∈ ls, x.t = y.t → x = y := fun x hx y hy => hu x (hp.mem_iff.1 (List.mem_append_right _ hx)) y (hp.mem_iff.1 (List.mem_append_right _ hy))
  refine (tsortcl_any w.heap.size v ls w1 hf.size ho (by omega) hul).mono ?_
  rintro e w2 ⟨rfl, hb, hcl2⟩
  have hf2 : Fr (fun i => w.heap.size ≤ i) w1 w2 := ⟨hb.os, hb.tape, hb.output, hb.size, fun i hi hn => hb.block i (by omega)⟩
  have hperm := sortT_perm ls hul
  refine ⟨rfl, v, _, csr, rfl, hcl2, (hperm.append_left csr).trans hp, fun x hx => h1 x (hperm.mem_iff.1 hx), h2, sortT_sorted _ _, ?_, ?_⟩
  · exact (hf.mono fun i hi => (h0 i hi).1).trans hf2 fun i hi hd => absurd hd (by omega)
  · have hc2 := hc.away hf2 (fun i hi hd => by have := (h0 i hi).2; omega) (by omega)
    exact hc2.mono (fun i hi => (h0 i hi).1) hcd
set_option maxHeartbeats 4000000 in
theorem clate_any (c o : Nat) (D : Nat → Prop) (last : Nat) (cs : List Cl) (now : Int) (w : World) (h : CsAt w c o D last cs) :
    Calls Try.prog 9 #[.pointer (some ⟨c, o, none⟩), .int .i64 now] w (CLateOut c o D last cs now w) := by
  obtain ⟨D0, hc0, hD0⟩ := h.tight
  have HCL := Lib.hid h.lt
  have HCD : Hid (¬ D c) := h.1
  have HU := Lib.hid h.facts.2.1
  have HLE : Hid (cs.length ≤ 8000) := Nat.le_trans h.facts.2.2.2.2 h.facts.2.2.2.1
  have HC0 := Lib.hid hc0
  have HD0 := Lib.hid hD0
  have HEND : Hid (∀ csr ls w1 v, CsAt w1 c o D0 last csr → OwnCl w1 w.heap.size v ls → (csr ++ ls).Perm cs → (∀ x ∈ ls, x.u < now) → (∀ x ∈ csr, now ≤ x.u) → Fr D0 w w1 →
      Calls Try.prog 12 #[v, .func (.func 13) #[] #[]] w1 (fun e w' => e = .returned (.tuple #[]) ∧ CLateOut c o D last cs now w (.returned v) w')) := fun csr ls w1 v a1 a2 a3 a4 a5 a6 => by
    have hlen := a3.length_eq
    rw [List.length_append] at hlen
    exact late_end HD0.out a1 HCL.out HCD.out a2 a3 HU.out (by have := HLE.out; omega) a4 a5 a6
  clear h hc0 hD0
  go_enter Try.func9, Try.ntmps9
  go_wp2_with fail
  go_loopw [5] (fun s5 wr => ∃ csr ls, Hid (CsAt wr c o D0 last csr) ∧ Hid (OwnCl wr w.heap.size s5 ls) ∧ Hid ((csr ++ ls).Perm cs) ∧ Hid (∀ x ∈ ls, x.u < now) ∧ Hid (Fr D0 w wr)) (fun s5 _ => 9000 - lenOf s5)
  case atStart => exact ⟨cs, [], HC0.out, World.ownsRow_nil _ _ _ _, by show List.Perm _ _; rw [List.append_nil], fun x hx => (nomatch hx), Fr.refl _ _⟩
  case round =>
    obtain ⟨csr, ls, HC, HO, HP, HUL, HF⟩ := hrel
    obtain ⟨va, vc, hv⟩ := HO.out.slice
    subst hv
    have HLN := Lib.hid (clen_any c o D0 last csr wr HC.out)
    have HLL : Hid (csr.length + ls.length ≤ 8000) := by
      have := HP.out.length_eq
      rw [List.length_append] at this
      have := HLE.out
      show _ ≤ _
      omega
    obtain ⟨n, hn⟩ : ∃ n, csr.length = n := ⟨_, rfl⟩
    rw [hn] at HLN HLL
    have HN := Lib.hid hn
    clear hn
    by_cases h0 : n = 0
    · subst h0
      have hen := HEND.out csr ls wr _ HC.out HO.out HP.out HUL.out (fun x hx => by rw [List.eq_nil_of_length_eq_zero HN.out] at hx; cases hx) HF.out
      have HEN := Lib.hid hen
      simp only [Int.cast_ofNat_Int] at HLN
      generalize ls.length = m at *
      clear hen
      go_wp2_with fail
      refine HLN.out.mono ?_
      rintro e w2 ⟨rfl, rfl⟩
      go_wp2_with fail
      refine HEN.out.mono ?_
      rintro e w3 ⟨rfl, hh⟩
      have HH := Lib.hid hh
      clear hh
      go_wp2
      go_ret
      exact HH.out
    · obtain ⟨y, hcy, hfy, hy⟩ := HC.out.cell
      rcases hy with ⟨_, _, he⟩ | ⟨t, rfl, mt, mo, v, q, ft, fo, sl, hX, hpm⟩
      · rw [he] at HN; exact absurd HN.out.symm h0
      · have hql : q.length = n := by rw [← HN.out, ← hpm.length_eq, List.length_map]
        obtain ⟨g, cap, post, hvq, hcap, hgt, hqa⟩ := hX.p.que.array (by omega)
        rw [hql] at hvq hcap
        subst hvq
        have hc3 := hX.p.cells.2.2.2
        have hg0 := hqa.cell (k := 0) (by omega)
        have hw0 := hqa.each 0 (by omega)
        have hu0 := hw0.cells.2.2.2.1
        have hn0 : 0 < n := by omega
        have HOV := Lib.hid (oover_any t D0 last mt mo 0 (.slice (some ⟨g, 0, none⟩) n cap) q ft fo sl wr hX (by omega))
        have HR : Hid (∀ x ∈ csr, ¬ x.u < (q.getD 0 zw).c.u) := fun x hx => by
          obtain ⟨z, hz, rfl⟩ := List.mem_map.1 (hpm.mem_iff.2 hx)
          obtain ⟨k, hk, rfl⟩ := List.mem_iff_getElem.1 hz
          have := HM.Heap.root wlt_wk hX.hp k hk
          unfold wlt at this
          rw [List.getD_eq_getElem?_getD, List.getElem?_eq_getElem hk, Option.getD_some, decide_eq_false_iff_not] at this
          exact this
        have HX := Lib.hid hX
        have HPM := Lib.hid hpm
        have HNC : Hid (¬ D0 c ∧ ∃ row T, wr.heap[c]? = some (.cells row T (0, 0)) ∧ row[o]? = some (pv t)) := by
          obtain ⟨hd, row, T, y, h1, h2, _⟩ := HC.out
          refine ⟨hd, row, T, h1, ?_⟩
          rw [cell_of_row _ _ _ _ _ _ h1, h2] at hcy
          rw [h2]; exact hcy
        generalize q.getD 0 zw = y at *
        clear hql hcap hgt hqa hw0 hX hpm hfy
        by_cases hlt : y.c.u < now
        · have HLT := Lib.hid hlt
          generalize hlm : ls.length = m at *
          have HLM := Lib.hid hlm
          clear hlm
          obtain ⟨uu, huu⟩ : ∃ uu, y.c.u = uu := ⟨_, rfl⟩
          rw [huu] at hlt hu0
          have HUU := Lib.hid huu
          clear huu
          go_wp2_with fail
          refine HLN.out.mono ?_
          rintro e w2 ⟨rfl, rfl⟩
          go_wp2_with fail
          refine HOV.out.mono ?_
          rintro e w3 ⟨rfl, hf3, ⟨k3, hk3⟩, v3, q3, ft3, fo3, sl3, hX3, hp3⟩
          obtain ⟨k0, k1, k2, k4, _⟩ := hk3.cells
          have HO3 : Hid (OwnCl w3 w.heap.size (.slice va m vc) ls) := HO.out.kept hf3 fun i hi => (HD0.out i hi).2
          have HF3 : Hid (Fr D0 w w3) := HF.out.trans hf3 fun i _ hi => hi
          have HC3 : Hid (CsAt w3 c o D0 last (q3.map Wt.c)) := CsAt.took HNC.out.1 HNC.out.2 hf3 hX3 (List.Perm.refl _)
          have HP3 : Hid ((q3.map Wt.c ++ (ls ++ [y.c])).Perm cs) := by
            refine List.Perm.trans ?_ HP.out
            have h1 : (y.c :: q3.map Wt.c).Perm csr := by
              have := (hp3.map Wt.c).trans HPM.out
              rwa [List.map_cons] at this
            rw [← List.append_assoc]
            refine (List.perm_append_singleton _ _).trans ?_
            rw [← List.cons_append]
            exact h1.append_right _
          have HUL3 : Hid (∀ x ∈ ls ++ [y.c], x.u < now) := fun x hx => by
            rcases List.mem_append.1 hx with hx | hx
            · exact HUL.out x hx
            · rw [List.mem_singleton.1 hx]; exact HLT.out
          have hmm : m ≤ 8000 := by have := HLL.out; omega
          have hsz := HF3.out.size
          clear hf3 hk3 hX3 hp3 HX HC HO HP HUL HF HPM HNC HR HOV HLN HEND hc3 hg0 hu0 hcy
          generalize y.c = x at *
          go_wp2_with (at_builtin; refine wpList_app_cl rfl _ _ rfl w.heap.size _ ls rfl (HO3.out.kept (D := fun _ => False) (Fr.ext (ext_alloc _ _)) (fun _ h => h.elim)) _ x rfl clit_src (by rw [HLM.out]; omega) (Nat.le_trans hsz (ext_alloc _ _).size) ?_)
          intro v4 w4 ho4 hg4
          have hf4 : Fr (fun i => w.heap.size ≤ i) w3 w4 := (Fr.ext (ext_alloc _ _)).trans (D' := fun i => w.heap.size ≤ i) (Fr.grown hg4 fun g hg => HO3.out.base hg) fun i _ h => h
          have HC4 := Lib.hid (HC3.out.away hf4 (fun i hi hd => by have := (HD0.out i hi).2; omega) (by have := HCL.out; omega))
          have HF4 : Hid (Fr D0 w w4) := HF3.out.trans hf4 fun i hi hd => by omega
          have HO4 := Lib.hid ho4
          have hv4 : lenOf v4 = m + 1 := by
            obtain ⟨a, cp, e⟩ := ho4.slice
            rw [e, List.length_append, List.length_singleton, HLM.out]; rfl
          have HV4 := Lib.hid hv4
          clear hf4 ho4 hg4 hv4
          go_wp2
          go_roundw
          case rel => exact ⟨_, _, HC4.out, HO4.out, HP3.out, HUL3.out, HF4.out⟩
          case measure => rw [HV4.out]; show 9000 - (m + 1) < 9000 - m; omega
        · have HCR : Hid (∀ x ∈ csr, now ≤ x.u) := fun x hx => by have := HR.out x hx; omega
          have hen := HEND.out csr ls wr _ HC.out HO.out HP.out HUL.out HCR.out HF.out
          have HEN := Lib.hid hen
          generalize ls.length = m at *
          obtain ⟨uu, huu⟩ : ∃ uu, y.c.u = uu := ⟨_, rfl⟩
          rw [huu] at hlt hu0
          clear hen huu HX HC HO HP HUL HF HPM HNC HR HOV HCR HEND
          go_wp2_with fail
          refine HLN.out.mono ?_
          rintro e w2 ⟨rfl, rfl⟩
          go_wp2_with fail
          refine HEN.out.mono ?_
          rintro e w3 ⟨rfl, hh⟩
          have HH := Lib.hid hh
          clear hh
          go_wp2
          go_ret
          exact HH.out
end Go.Proofs.Ytiiidbomfkjfgaa
