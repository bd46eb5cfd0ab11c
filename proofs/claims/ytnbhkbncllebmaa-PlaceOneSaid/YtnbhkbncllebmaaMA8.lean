/- In one text: PlcSpread, GrowF, PlcPSpread. -/
import Derived.Deep.DeepCutAuto
import Derived.Deep.WholeRow
import Derived.Test.YtnbhkbncllebmaaMA1
import Derived.Test.YtnbhkbncllebmaaMA3
import Derived.Test.YtnbhkbncllebmaaMA4
import Derived.Test.YtnbhkbncllebmaaMA6
import Derived.Test.YtnbhkbncllebmaaMA7
namespace Go.Proofs.Ytnbhkbncllebmaa
set_option maxRecDepth 20000
open Go.RowKit Go.Deep
set_option linter.unusedVariables false
namespace PC
/-- What the i-th has got of the first k records. -/
def mt (l : List Int) (rs : List Rc) (i k : Nat) : List Rc := if l.getD i 0 ∈ l.take i then [] else (rs.take k).filter fun r => decide (peer (at_ r) l = some (l.getD i 0))
theorem mt_zero (l : List Int) (rs : List Rc) (i : Nat) : mt l rs i 0 = [] := by unfold mt; split <;> simp
theorem mt_full (l : List Int) (rs : List Rc) (i : Nat) : mt l rs i rs.length = mine l rs i := by unfold mt mine; rw [List.take_length]
theorem mt_in (l : List Int) (rs : List Rc) (i k : Nat) (h : l.getD i 0 ∈ l.take i) : mt l rs i k = mine l rs i := by unfold mt mine; rw [if_pos h, if_pos h]
theorem mt_step (l : List Int) (rs : List Rc) (i k : Nat) (hk : k < rs.length) (h : l.getD i 0 ∉ l.take i) : mt l rs i (k + 1) = mt l rs i k ++ (if peer (at_ (rs.getD k Rc.zero)) l = some (l.getD i 0) then [rs.getD k Rc.zero] else []) := by
  unfold mt
  rw [if_neg h, if_neg h, List.take_succ_eq_append_getElem hk, List.filter_append]
  have e : rs.getD k Rc.zero = rs[k] := by simp [hk]
  rw [e]
  congr 1
  by_cases c : peer (at_ rs[k]) l = some (l.getD i 0)
  · rw [if_pos c, List.filter_cons_of_pos (by rw [decide_eq_true_eq]; exact c)]; rfl
  · rw [if_neg c, List.filter_cons_of_neg (by rw [decide_eq_true_eq]; exact c)]; rfl
theorem peer_some (K : List Nat) (l : List Int) (h : 0 < l.length) : ∃ p, peer K l = some p := by
  obtain ⟨b, hb⟩ := bi_some K l l.length h
  exact ⟨_, by unfold peer; rw [hb]; rfl⟩
end PC
def SpreadOut (w : World) (L : List (List Rc)) (e : Ending) (w' : World) : Prop := ∃ u, e = .returned u ∧ w.Extends w' ∧ RRws w' u L
set_option maxHeartbeats 8000000 in
theorem rspread_any (rv : Value) (rs : List Rc) (v : Value) (l : List Int) (w : World) (hr : Recs w rv rs) (hv : Ints w v l) (hl : l.length ≤ 1000) (hm : rs.length ≤ 1000) (hd : ∀ r ∈ rs, r.d.length ≤ 1000) :
    Calls Try.prog 11 #[rv, v] w (SpreadOut w (PC.spread l rs)) := by
  have HVI := Lib.hid hv
  obtain ⟨pa, pc, rfl, hpc, _⟩ := hv.slice
  obtain ⟨ra, rc, rfl⟩ := hr.slice
  have HV := Lib.hid hv.cell.2
  have HRA := Lib.hid hr.at.2
  have HDD : Hid (∀ k, k < rs.length → (rs.getD k Rc.zero).d.length ≤ 1000) := fun k hk => hd _ (by rw [List.getD_eq_getElem?_getD, List.getElem?_eq_getElem hk]; exact List.getElem_mem hk)
  have HT0 : Hid (∀ i, PC.mt l rs i 0 = []) := fun i => PC.mt_zero l rs i
  have HTN : Hid (∀ i, PC.mt l rs i rs.length = PC.mine l rs i) := fun i => PC.mt_full l rs i
  have HTI : Hid (∀ i k, l.getD i 0 ∈ l.take i → PC.mt l rs i k = PC.mine l rs i) := fun i k h => PC.mt_in l rs i k h
  have HTS : Hid (∀ i k, k < rs.length → l.getD i 0 ∉ l.take i → PC.mt l rs i (k + 1) = PC.mt l rs i k ++ (if PC.peer (PC.at_ (rs.getD k Rc.zero)) l = some (l.getD i 0) then [rs.getD k Rc.zero] else [])) := fun i k h1 h2 => PC.mt_step l rs i k h1 h2
  have HPS : Hid (0 < l.length → ∀ K, ∃ p, PC.peer K l = some p) := fun h K => PC.peer_some K l h
  have HPEER : Hid (∀ K w', KY.Ok K → w.Extends w' → Calls Try.prog 9 #[KV K, .slice pa l.length pc] w' (PeerOut (PC.peer K l) w')) := fun K w' hK hx => rpeer_any K _ l w' hK (HVI.out.ext hx)
  have HHAS : Hid (∀ i w' y, i ≤ l.length → w.Extends w' → Calls Try.prog 17 #[.slice pa i pc, .int .i64 y] w' fun e w2 => e = .returned (.bool (decide (y ∈ l.take i))) ∧ w2 = w') := fun i w' y hi hx => has_any _ _ y w' ((HVI.out.ext hx).cut hi)
  have HCUT : Hid (∀ i, i ≤ l.length → ∀ w' : World, (Instr.slice 26 (.slice pa l.length pc) none (some (.int .i64 (i : Nat))) none).run Try.prog w' = .ok (.slice pa i pc) w') := fun i hi w' => by
    rw [cuti_to pa l.length pc i (by omega) w']
    have : (if pc = 0 then pa else pa.map (·.add 0)) = pa := by
      split
      · rfl
      · cases pa with
        | none => rfl
        | some q => obtain ⟨b, o, s⟩ := q; simp [Addr.add]
    rw [this]
  have HFIN : Hid (∀ (w' : World) (u : Value) (us : List Value), w.Extends w' → OS w' w.heap.size u us → us.length = l.length → (∀ k, k < l.length → Recs w' (us.getD k undef) (PC.mine l rs k)) → SpreadOut w (PC.spread l rs) (.returned u) w') := fun w' u us hx ho hl hr => by
    have hsl : (PC.spread l rs).length = l.length := by unfold PC.spread; simp
    refine ⟨u, rfl, hx, ho.rrws (by rw [hsl, hl]) (fun k hk => ?_)⟩
    rw [hsl] at hk
    have := hr k hk
    have e : (PC.spread l rs).getD k [] = PC.mine l rs k := by unfold PC.spread; simp [hk]
    rw [e]; exact this
  generalize SpreadOut w (PC.spread l rs) = POST at *
  generalize hMT : PC.mt l rs = MT at *
  generalize hMI : PC.mine l rs = MI at *
  obtain ⟨n, hn⟩ : ∃ n, n = l.length := ⟨_, rfl⟩
  obtain ⟨m, hmm⟩ : ∃ m, m = rs.length := ⟨_, rfl⟩
  rw [← hn] at HV HPS HPEER HHAS HCUT HFIN hl hpc ⊢
  rw [← hmm] at HRA HDD HTN HTS hm ⊢
  have HN := Lib.hid hn
  clear hv hr hd hMT hMI hn hmm HVI
  go_enter Try.func11, Try.ntmps11
  go_wp2_with fail
  go_loopw [5, 6] (fun s5 s6 wr => ∃ (i : Nat) (us : List Value), i ≤ n ∧ s6 = .int .i64 (i : Nat) ∧ Hid (w.Extends wr) ∧ Hid (OS wr w.heap.size s5 us) ∧ Hid (us.length = i) ∧ Hid (∀ k, k < i → Recs wr (us.getD k undef) (MI k))) (fun _ s6 _ => n - (intOf s6).toNat)
  case atStart => exact ⟨0, [], by omega, by rfl, Gr.ext_refl _, OS.nil _ _, rfl, fun k hk => absurd hk (Nat.not_lt_zero _)⟩
  case round =>
    obtain ⟨i, us, hi, rfl, HX, HO, HUL, HUR⟩ := hrel
    by_cases h1 : i < n
    · obtain ⟨oa, oc, rfl⟩ := HO.out.slice
      rw [HUL.out] at HO ⊢
      obtain ⟨b1, o1, rfl, hb1, hc1⟩ := HV.out (by omega)
      have HCX : Hid (∀ w', w.Extends w' → w'.cell? ⟨b1, o1 + i, none⟩ = some (.int .i64 (l.getD i 0))) := fun w' h => h.cell_of (hc1 i h1)
      have HCI := Lib.hid (HCUT.out i (by omega))
      have HHI : Hid (∀ w', w.Extends w' → Calls Try.prog 17 #[.slice (some ⟨b1, o1, none⟩) i pc, .int .i64 (l.getD i 0)] w' fun e w2 => e = .returned (.bool (decide (l.getD i 0 ∈ l.take i))) ∧ w2 = w') := fun w' hx => HHAS.out i w' _ (by omega) hx
      have HII : Hid (decide (l.getD i 0 ∈ l.take i) = true → ∀ k, MT i k = MI i) := fun h k => HTI.out i k (of_decide_eq_true h)
      have HSS : Hid (decide (l.getD i 0 ∈ l.take i) = false → ∀ k, k < m → MT i (k + 1) = MT i k ++ (if PC.peer (PC.at_ (rs.getD k Rc.zero)) l = some (l.getD i 0) then [rs.getD k Rc.zero] else [])) := fun h k hk => HTS.out i k hk (of_decide_eq_false h)
      generalize decide (l.getD i 0 ∈ l.take i) = hb at *
      generalize l.getD i 0 = x at *
      clear hc1 hb1
      obtain ⟨wo, hwo⟩ : ∃ wo, wo = wr := ⟨_, rfl⟩
      subst hwo
      obtain ⟨B, hB⟩ : ∃ B, B = wo.heap.size := ⟨_, rfl⟩
      have HBO : Hid (B = wo.heap.size) := hB
      clear hB
      go_wp2_with fail
      go_loopw [7, 8] (fun s7 s8 wx => ∃ (k : Nat) (ps : List Pr), k ≤ m ∧ s8 = .int .i64 (k : Nat) ∧ Hid (wo.Extends wx) ∧ Hid (RS wx B s7 ps) ∧ Hid (ps.length ≤ k) ∧ Hid (ps.map Prod.fst = MT i k)) (fun _ s8 _ => m - (intOf s8).toNat)
      case atStart => exact ⟨0, [], by omega, by rfl, Gr.ext_refl _, RS.nil _ _, Nat.le_refl _, by rw [HT0.out]; rfl⟩
      case round =>
        obtain ⟨k, ps, hk, rfl, HXX, HS, HPL, HM⟩ := hrel
        obtain ⟨wx, hwx⟩ : ∃ wx, wx = wr := ⟨_, rfl⟩
        subst hwx
        obtain ⟨a7, c7, rfl⟩ := HS.out.slice
        have HXWX := Lib.hid (Gr.ext_trans HX.out HXX.out)
        by_cases h2 : k < m
        case neg =>
          obtain rfl : k = m := by omega
          have HMI : MT i k = MI i := HTN.out i
          go_wp2_with fail
          refine Gr.region 14 [(false,0),(false,1),(false,2),(false,3),(false,4),(false,5),(false,6),(false,7),(false,8),(false,9),(false,10),(false,11),(true,12),(false,13)] (by kernel_rfl) (by kernel_rfl) (fun d _ _ _ _ h => by cases d <;> exact h) ?_
          simp only [Gr.pick, List.getElem?_cons_zero, List.getElem?_cons_succ, List.drop_succ_cons, List.drop_zero]
          have HXd : Hid (wx.Extends wx.drew) := Gr.ext_drew (Gr.ext_refl wx)
          generalize wx.drew = wd at *
          iterate 5
            refine Gr.walk_t ?_ (Or.inl ⟨by rfl, ?_⟩) ?_
            rotate_left
            · intro w' hw'
              clear hw'
              go_simp
              try with_reducible rfl
            simp only [Act.put, List.setIfInBounds_toArray, List.set_cons_zero, List.set_cons_succ]
          refine Gr.walk_t _ (Or.inr ⟨by rfl, rfl⟩) ?_
          simp only [Act.put, List.setIfInBounds_toArray, List.set_cons_zero, List.set_cons_succ]
          refine Gr.walk_t _ (Or.inr ⟨by rfl, rfl⟩) ?_
          simp only [Act.put, List.setIfInBounds_toArray, List.set_cons_zero, List.set_cons_succ]
          refine Gr.walk_t _ (Or.inr ⟨by rfl, rfl⟩) ?_
          simp only [Act.put, List.setIfInBounds_toArray, List.set_cons_zero, List.set_cons_succ]
          refine Gr.walk_t _ (Or.inr ⟨by rfl, rfl⟩) ?_
          simp only [Act.put, List.setIfInBounds_toArray, List.set_cons_zero, List.set_cons_succ]
          refine Gr.walk_t _ (Or.inr ⟨by rfl, rfl⟩) ?_
          simp only [Act.put, List.setIfInBounds_toArray, List.set_cons_zero, List.set_cons_succ]
          refine Gr.walk_t _ (Or.inr ⟨by rfl, rfl⟩) ?_
          simp only [Act.put, List.setIfInBounds_toArray, List.set_cons_zero, List.set_cons_succ]
          refine Gr.walk_t _ (Or.inr ⟨by rfl, rfl⟩) ?_
          simp only [Act.put, List.setIfInBounds_toArray, List.set_cons_zero, List.set_cons_succ]
          refine Gr.walk_c (fun K hK => ?_)
          rw [if_neg (by intro h; cases h)]
          refine hK.out _ _ (Gr.ext_refl _) ?_
          clear hK K
          simp only [Act.put, List.setIfInBounds_toArray, List.set_cons_zero, List.set_cons_succ]
          refine Gr.walk_t _ (Or.inr ⟨by rfl, rfl⟩) ?_
          simp only [Act.put, List.setIfInBounds_toArray, List.set_cons_zero, List.set_cons_succ]
          refine Gr.walk_nil ?_
          have HOd := Lib.hid (HO.out.ext (Gr.ext_trans HXX.out HXd.out))
          have HSd := Lib.hid (HS.out.ext HXd.out)
          have HWd := Lib.hid (Gr.ext_trans HXWX.out HXd.out)
          have HRd : Hid (∀ q, q < i → Recs wd (us.getD q undef) (MI q)) := fun q hq => (HUR.out q hq).ext (Gr.ext_trans HXX.out HXd.out)
          have HRI : Hid (Recs wd (.slice a7 ps.length c7) (MI i)) := by have h := HSd.out.recs; rw [HM.out, HMI] at h; exact h
          clear HXX HS HM HXWX
          generalize ps.length = pl at *
          go_wp2_with (at_builtin; refine wpList_app_os rfl (.tmp 69) (.tmp 71) rfl w.heap.size _ us rfl (HOd.out.ext (ext_alloc _ _)) _ (.slice a7 pl c7) rfl (src_one Try.underlying33 _ _ rfl rfl) ⟨_, _, _, rfl⟩ (by rw [HUL.out]; omega) (Nat.le_trans HWd.out.size (ext_alloc _ _).size) ?_)
          intro v9 w5 ho hg
          have HX5 : Hid (w.Extends w5) := ext_own (Gr.ext_trans HWd.out (ext_alloc _ _)) hg (fun q hq => (HOd.out.own.lt q hq).1)
          have HR5 : Hid (∀ q, q < i + 1 → Recs w5 ((us ++ [Value.slice a7 pl c7]).getD q undef) (MI q)) := fun q hq => by
            by_cases hqi : q < i
            · have e : (us ++ [Value.slice a7 pl c7]).getD q undef = us.getD q undef := by
                rw [List.getD_eq_getElem?_getD, List.getElem?_append_left (by rw [HUL.out]; exact hqi), List.getD_eq_getElem?_getD]
              rw [e]
              exact ((HRd.out q hqi).ext (ext_alloc _ _)).os (HOd.out.ext (ext_alloc _ _)) hg
            · obtain rfl : q = i := by omega
              have e : (us ++ [Value.slice a7 pl c7]).getD q undef = .slice a7 pl c7 := by
                rw [List.getD_eq_getElem?_getD, List.getElem?_append_right (by rw [HUL.out]; exact Nat.le_refl _), HUL.out]; simp
              rw [e]
              exact (HRI.out.ext (ext_alloc _ _)).os (HOd.out.ext (ext_alloc _ _)) hg
          have HO5 := Lib.hid ho
          have HL5 : Hid ((us ++ [Value.slice a7 pl c7]).length = i + 1) := by show _ = _; rw [List.length_append, HUL.out]; rfl
          clear ho hg HOd HSd HWd HRd HRI
          go_wp2
          go_roundw
          case rel => exact ⟨i + 1, _, by omega, by go_num, HX5, HO5, HL5, HR5⟩
          case measure => simp [intOf]; omega
        go_wp2_with fail
        refine Gr.region 14 [(false,0),(false,1),(false,2),(false,3),(false,4),(false,5),(false,6),(false,7),(false,8),(false,9),(false,10),(false,11),(true,12),(false,13)] (by kernel_rfl) (by kernel_rfl) (fun d _ _ _ _ h => by cases d <;> exact h) ?_
        simp only [Gr.pick, List.getElem?_cons_zero, List.getElem?_cons_succ, List.drop_succ_cons, List.drop_zero]
        have HXd : Hid (wx.Extends wx.drew) := Gr.ext_drew (Gr.ext_refl wx)
        generalize wx.drew = wd at *
        iterate 7
          refine Gr.walk_t ?_ (Or.inl ⟨by rfl, ?_⟩) ?_
          rotate_left
          · intro w' hw'
            clear hw'
            go_simp
            try with_reducible rfl
          simp only [Act.put, List.setIfInBounds_toArray, List.set_cons_zero, List.set_cons_succ]
        refine Gr.walk_t ?_ (Or.inl ⟨by rfl, ?_⟩) ?_
        rotate_left
        · intro w' hw'
          have hcut := HCI.out w'
          clear hw'
          go_simp
          try with_reducible rfl
        simp only [Act.put, List.setIfInBounds_toArray, List.set_cons_zero, List.set_cons_succ]
        iterate 4
          refine Gr.walk_t ?_ (Or.inl ⟨by rfl, ?_⟩) ?_
          rotate_left
          · intro w' hw'
            have hcx := HCX.out w' (Gr.ext_trans HXWX.out (Gr.ext_trans HXd.out hw'))
            clear hw'
            go_simp
            try with_reducible rfl
          simp only [Act.put, List.setIfInBounds_toArray, List.set_cons_zero, List.set_cons_succ]
        refine Gr.walk_c (fun K hK => ?_)
        go_simp
        refine (HHI.out wd (Gr.ext_trans HXWX.out HXd.out)).mono ?_
        rintro e w2_ ⟨rfl, hw2⟩
        subst w2_
        try go_simp
        refine hK.out _ _ (Gr.ext_refl _) ?_
        clear hK K
        refine Gr.walk_t ?_ (Or.inl ⟨by rfl, ?_⟩) ?_
        rotate_left
        · intro w' hw'
          clear hw'
          go_simp
          try with_reducible rfl
        simp only [Act.put, List.setIfInBounds_toArray, List.set_cons_zero, List.set_cons_succ]
        refine Gr.walk_nil ?_
        cases hb with
        | true =>
          have HMI : MT i k = MI i := HII.out rfl k
          have HOd := Lib.hid (HO.out.ext (Gr.ext_trans HXX.out HXd.out))
          have HSd := Lib.hid (HS.out.ext HXd.out)
          have HWd := Lib.hid (Gr.ext_trans HXWX.out HXd.out)
          have HRd : Hid (∀ q, q < i → Recs wd (us.getD q undef) (MI q)) := fun q hq => (HUR.out q hq).ext (Gr.ext_trans HXX.out HXd.out)
          have HRI : Hid (Recs wd (.slice a7 ps.length c7) (MI i)) := by have h := HSd.out.recs; rw [HM.out, HMI] at h; exact h
          clear HXX HS HM HXWX
          generalize ps.length = pl at *
          go_wp2_with (at_builtin; refine wpList_app_os rfl (.tmp 69) (.tmp 71) rfl w.heap.size _ us rfl (HOd.out.ext (ext_alloc _ _)) _ (.slice a7 pl c7) rfl (src_one Try.underlying33 _ _ rfl rfl) ⟨_, _, _, rfl⟩ (by rw [HUL.out]; omega) (Nat.le_trans HWd.out.size (ext_alloc _ _).size) ?_)
          intro v9 w5 ho hg
          have HX5 : Hid (w.Extends w5) := ext_own (Gr.ext_trans HWd.out (ext_alloc _ _)) hg (fun q hq => (HOd.out.own.lt q hq).1)
          have HR5 : Hid (∀ q, q < i + 1 → Recs w5 ((us ++ [Value.slice a7 pl c7]).getD q undef) (MI q)) := fun q hq => by
            by_cases hqi : q < i
            · have e : (us ++ [Value.slice a7 pl c7]).getD q undef = us.getD q undef := by
                rw [List.getD_eq_getElem?_getD, List.getElem?_append_left (by rw [HUL.out]; exact hqi), List.getD_eq_getElem?_getD]
              rw [e]
              exact ((HRd.out q hqi).ext (ext_alloc _ _)).os (HOd.out.ext (ext_alloc _ _)) hg
            · obtain rfl : q = i := by omega
              have e : (us ++ [Value.slice a7 pl c7]).getD q undef = .slice a7 pl c7 := by
                rw [List.getD_eq_getElem?_getD, List.getElem?_append_right (by rw [HUL.out]; exact Nat.le_refl _), HUL.out]; simp
              rw [e]
              exact (HRI.out.ext (ext_alloc _ _)).os (HOd.out.ext (ext_alloc _ _)) hg
          have HO5 := Lib.hid ho
          have HL5 : Hid ((us ++ [Value.slice a7 pl c7]).length = i + 1) := by show _ = _; rw [List.length_append, HUL.out]; rfl
          clear ho hg HOd HSd HWd HRd HRI
          go_wp2
          go_roundw
          case rel => exact ⟨i + 1, _, by omega, by go_num, HX5, HO5, HL5, HR5⟩
          case measure => simp [intOf]; omega
        | false =>
          obtain ⟨rb0, ro, rfl, hrb, hrc⟩ := HRA.out (by omega)
          obtain ⟨da, dc, hrr, huu⟩ := hrc k h2
          have hst := HSS.out rfl k h2
          have HDL0 := Lib.hid (HDD.out k h2)
          clear hrc
          generalize rs.getD k Rc.zero = r at *
          have HXd2 := Lib.hid (Gr.ext_trans HXWX.out HXd.out)
          have hrr := rangeAt_ext hrr HXd2.out
          have HU := Lib.hid (huu.ext HXWX.out)
          obtain ⟨c0, c1, c2, c3, c4, c5, c6, c7', c8, c9⟩ := RCell.ten hrr
          obtain ⟨dl, hdl⟩ : ∃ dl, dl = r.d.length := ⟨_, rfl⟩
          rw [← hdl] at c9
          have HDL : Hid (r.d.length = dl) := hdl.symm
          clear hrr huu hdl
          go_upto_region 10 with fail
          clear c0 c1 c2 c3 c4 c5 c6 c7' c8 c9
          generalize hw : World.alloc wd _ = w2
          have hx : wd.Extends w2 := by subst hw; exact ext_alloc _ _
          have hbx : w2.heap[wd.heap.size]? = some (.cells #[.int .i64 r.p, .int .i64 r.n, .int .i64 r.b, .int .i64 r.s, .int .i64 r.m, .int .i64 r.k, .int .i64 r.e, .bool r.g, .int .i64 r.u, .slice da dl dc] 46) := by subst hw; exact heap_alloc_new _ _
          obtain ⟨bx, hbn⟩ : ∃ b, b = wd.heap.size := ⟨_, rfl⟩
          rw [← hbn] at hbx ⊢
          have HX2 := Lib.hid (Gr.ext_trans HXd.out hx)
          have HR2 : Hid (R10 w2 bx [.int .i64 r.p, .int .i64 r.n, .int .i64 r.b, .int .i64 r.s, .int .i64 r.m, .int .i64 r.k, .int .i64 r.e, .bool r.g, .int .i64 r.u, .slice da dl dc]) := hbx
          clear hw hx hbx hbn HXd HXd2
          have c0 := HR2.out.cell 0 _ rfl
          have c1 := HR2.out.cell 1 _ rfl
          have c5 := HR2.out.cell 5 _ rfl
          have c6 := HR2.out.cell 6 _ rfl
          have hbl := HR2.out.lt
          go_wp2_with fail
          clear c0 c1 c5 c6 hbl
          refine (rskey_any r.p r.n r.k r.e w2).mono ?_
          rintro e w3 ⟨rfl, hx⟩
          have HX3 := Lib.hid (Gr.ext_trans HX2.out hx)
          have HR3 := Lib.hid (HR2.out.ext hx)
          clear hx HX2 HR2
          have HK3 : Hid ((KY.of [r.p, r.n, r.k, r.e]).length = 20) := (KY.of_ok _).1
          have HAT3 : Hid (r.g = false → PC.at_ r = KY.of [r.p, r.n, r.k, r.e]) := fun h => by unfold PC.at_; rw [h]; rfl
          generalize KY.of [r.p, r.n, r.k, r.e] = d1 at *
          have hi1 := key_info HK3.out
          have hs1 : (KC KY.zero).size = (KC d1).size := by rw [KC_size, KC_size, HK3.out]; rfl
          go_upto_region 11 with (refine wpList_store_row rfl 25 (.tmp 10) (.tmp 46) rfl w3.heap.size (KC d1) rfl rfl 25 (KC KY.zero) (by rw [KC_zero]; exact heap_alloc_new w3 _) hi1 hs1 KC_one ?_)
          rw [World.setRow_alloc_new]
          clear hi1 hs1
          generalize hw : World.alloc w3 _ = w4
          have hx : w3.Extends w4 := by subst hw; exact ext_alloc _ _
          have hbk : w4.heap[w3.heap.size]? = some (.cells (KC d1) 25 (0, 0)) := by subst hw; exact heap_alloc_new _ _
          obtain ⟨bk, hbn⟩ : ∃ b, b = w3.heap.size := ⟨_, rfl⟩
          rw [← hbn] at hbk ⊢
          have HBN : Hid (wx.heap.size ≤ bk) := by show _ ≤ _; rw [hbn]; exact HX3.out.size
          have HNE : Hid (bx ≠ bk) := by have := HR3.out.lt; show _ ≠ _; omega
          have HX4 := Lib.hid (Gr.ext_trans HX3.out hx)
          have HR4 := Lib.hid (HR3.out.ext hx)
          have HB4 := Lib.hid hbk
          clear hw hx hbn hbk HX3 HR3
          have c7' := HR4.out.cell 7 _ rfl
          have hbl := HR4.out.lt
          by_cases hg : r.g = true
          · have hat : PC.at_ r = KY.of [r.p, r.n] := by unfold PC.at_; rw [hg]; rfl
            have HK5 : Hid (KY.Ok (KY.of [r.p, r.n])) := KY.of_ok _
            have HHM := Lib.hid (fun w' => rhome_any r.p r.n w')
            rw [hat] at hst
            generalize KY.of [r.p, r.n] = d2 at *
            rw [hg] at c7'
            have c0 := HR4.out.cell 0 _ rfl
            have c1 := HR4.out.cell 1 _ rfl
            go_wp2_with fail
            refine (HHM.out w4).mono ?_
            rintro e w5 ⟨rfl, hx⟩
            have HX5 := Lib.hid (Gr.ext_trans HX4.out hx)
            have HR5 := Lib.hid (HR4.out.ext hx)
            have hb5 : w5.heap[bk]? = some (.cells (KC d1) 25 (0, 0)) := by rw [hx.block bk (Array.getElem?_eq_some_iff.1 HB4.out).1]; exact HB4.out
            clear hx HX4 HR4 HB4 c0 c1 c7' hbl HAT3
            have hi2 := key_info HK5.out.1
            have hs2 : (KC d1).size = (KC d2).size := by rw [KC_size, KC_size, HK5.out.1, HK3.out]
            go_upto_region 13 with (refine wpList_store_row rfl 25 (.tmp 10) (.tmp 51) rfl bk (KC d2) rfl rfl 25 (KC d1) hb5 hi2 hs2 KC_one ?_)
            clear hi2 hs2 HHM
            have HXY : Hid (wx.Extends (w5.setRow bk (KC d2))) := Gr.ext_of ((Gr.below_of HX5.out).trans ⟨rfl, rfl, rfl, by simp, fun q hq => setRow_other _ _ q _ (by have := HBN.out; omega)⟩)
            have HRR : Hid (R10 (w5.setRow bk (KC d2)) bx [.int .i64 r.p, .int .i64 r.n, .int .i64 r.b, .int .i64 r.s, .int .i64 r.m, .int .i64 r.k, .int .i64 r.e, .bool r.g, .int .i64 r.u, .slice da dl dc]) := by show R10 _ _ _; unfold R10; rw [setRow_other _ _ _ _ HNE.out]; exact HR5.out
            have HKK : Hid ((w5.setRow bk (KC d2)).heap[bk]? = some (.cells (KC d2) 25 (0, 0))) := setRow_heap w5 bk (KC d1) (KC d2) _ _ hb5
            clear HX5 HR5 hb5
            generalize w5.setRow bk (KC d2) = w7 at *
            have hi7 := key_info HK5.out.1
            have hkb := HKK.out
            obtain ⟨p, hp⟩ := HPS.out (by omega) d2
            have HPC := Lib.hid (HPEER.out d2 w7 HK5.out (Gr.ext_trans HXWX.out HXY.out))
            rw [hp] at HPC hst
            have HST := Lib.hid hst
            clear hp hst hat
            go_wp2_with (refine wpList_load_row rfl 25 (.tmp 10) rfl bk rfl 25 (KC d2) (0, 0) _ hkb Try.underlying25 rfl hi7 ?_)
            refine HPC.out.mono ?_
            rintro e w8 ⟨hx8, rfl⟩
            have HX8 := Lib.hid (Gr.ext_trans HXY.out hx8)
            have HR8 := Lib.hid (HRR.out.ext hx8)
            clear hx8 HXY HKK HRR HPC hkb hi7
            have hcx := HCX.out w8 (Gr.ext_trans HXWX.out HX8.out)
            by_cases hpx : p = x
            · have hpe : (some p = some x) := by rw [hpx]
              have HST2 : Hid (MT i (k + 1) = MT i k ++ [r]) := by show _ = _; rw [HST.out, if_pos hpe]
              have hpb : (p == x) = true := by rw [beq_iff_eq]; exact hpx
              clear HST hpe
              have c0 := HR8.out.cell 0 _ rfl
              have c1 := HR8.out.cell 1 _ rfl
              have c2 := HR8.out.cell 2 _ rfl
              have c3 := HR8.out.cell 3 _ rfl
              have c4 := HR8.out.cell 4 _ rfl
              have c5 := HR8.out.cell 5 _ rfl
              have c6 := HR8.out.cell 6 _ rfl
              have c7' := HR8.out.cell 7 _ rfl
              have c8 := HR8.out.cell 8 _ rfl
              have c9 := HR8.out.cell 9 _ rfl
              have hbl := HR8.out.lt
              have HCP2 : Hid (Calls Try.prog 23 #[.agg #[.int .i64 r.p, .int .i64 r.n, .int .i64 r.b, .int .i64 r.s, .int .i64 r.m, .int .i64 r.k, .int .i64 r.e, .bool r.g, .int .i64 r.u, .slice da dl dc]] w8 fun e w' => ∃ a c, e = .returned (r.val (.slice a dl c)) ∧ CopyOut w8 r.d (.returned (.slice a dl c)) w') := by
                have h := copyrec_any r da dc w8 (by rw [HDL.out]; have h := HU.out.ext HX8.out; rw [HDL.out] at h; exact h) (by have := HDL0.out; omega)
                rw [HDL.out] at h
                exact h
              rw [hg] at HCP2
              go_wp2_with fail
              refine HCP2.out.mono ?_
              rintro e w9 ⟨ya, yc, rfl, ya', yc', hye, hx9, hyu, _⟩
              rw [HDL.out] at hyu hye
              cases hye
              have HX9 := Lib.hid (Gr.ext_trans HX8.out hx9)
              have HXX9 := Lib.hid (Gr.ext_trans HXX.out HX9.out)
              have HS9 := Lib.hid (HS.out.ext HX9.out)
              have HU9 := Lib.hid hyu
              clear hx9 hyu HX8 HR8 HCP2 c0 c1 c2 c3 c4 c5 c6 c7' c8 c9 hbl hcx HS HXX HX9
              have HB9 : Hid (B ≤ w9.heap.size) := by show _ ≤ _; rw [HBO.out]; exact HXX9.out.size
              have HSLC : Hid (Slc ((r, Value.slice ya dl yc) : Pr)) := ⟨ya, yc, by show Value.slice ya dl yc = Value.slice ya r.d.length yc; rw [HDL.out]⟩
              have hval : r.val (Value.slice ya dl yc) = .agg #[.int .i64 r.p, .int .i64 r.n, .int .i64 r.b, .int .i64 r.s, .int .i64 r.m, .int .i64 r.k, .int .i64 r.e, .bool r.g, .int .i64 r.u, .slice ya dl yc] := rfl
              rw [hval]
              clear hval hg
              go_wp2_with (at_builtin; refine wpList_app_rs rfl (.tmp 64) (.tmp 67) rfl B _ ps rfl (HS9.out.ext (ext_alloc _ _)) _ ((r, Value.slice ya dl yc) : Pr) rfl (src_rec (r := r) Try.underlying27 _ _ rfl rfl) HSLC.out (HU9.out.ext (ext_alloc _ _)) (by have := HPL.out; omega) (Nat.le_trans HB9.out (ext_alloc _ _).size) ?_)
              intro v9 w10 ho hg10
              have HX10 : Hid (wo.Extends w10) := ext_own (Gr.ext_trans HXX9.out (ext_alloc _ _)) hg10 (fun q hq => by have := (HS9.out.own.lt q hq).1; rw [HBO.out] at this; exact this)
              have HS10 := Lib.hid ho
              have HL10 : Hid ((ps ++ [((r, Value.slice ya dl yc) : Pr)]).length ≤ k + 1) := by show _ ≤ _; rw [List.length_append]; have := HPL.out; simp; omega
              have HM10 : Hid ((ps ++ [((r, Value.slice ya dl yc) : Pr)]).map Prod.fst = MT i (k + 1)) := by show _ = _; rw [HST2.out, List.map_append, HM.out]; rfl
              clear ho hg10 HXX9 HS9 HU9 HST2
              go_wp2
              go_roundw
              case rel => exact ⟨k + 1, _, by omega, by go_num, HX10, HS10, HL10, HM10⟩
              case measure => simp [intOf]; omega
            · have hpb : (p == x) = false := by rw [beq_eq_false_iff_ne]; exact hpx
              have HST2 : Hid (MT i (k + 1) = MT i k) := by show _ = _; rw [HST.out, if_neg (fun e => hpx (Option.some.inj e)), List.append_nil]
              have HS8 := Lib.hid (HS.out.ext HX8.out)
              have HXX8 := Lib.hid (Gr.ext_trans HXX.out HX8.out)
              have HM8 : Hid (ps.map Prod.fst = MT i (k + 1)) := by show _ = _; rw [HST2.out]; exact HM.out
              have HPL8 : Hid (ps.length ≤ k + 1) := Nat.le_succ_of_le HPL.out
              clear HST HST2 HS HXX HX8 HR8 HM
              go_wp2
              go_roundw
              case rel => exact ⟨k + 1, ps, by omega, by go_num, HXX8, HS8, HPL8, HM8⟩
              case measure => simp [intOf]; omega
          · replace hg := Bool.eq_false_iff.2 hg
            have hat := HAT3.out hg
            have HK5 : Hid (KY.Ok (PC.at_ r)) := PC.at_ok r
            rw [hat] at hst HK5
            rw [hg] at c7'
            go_upto_region 13 with fail
            clear HK3 HAT3 c7' hbl
            have HXY := HX4
            have HRR := HR4
            have HKK := HB4
            clear HX4 HR4 HB4
            obtain ⟨w7, hw7⟩ : ∃ w7, w7 = w4 := ⟨_, rfl⟩
            subst hw7
            have hi7 := key_info HK5.out.1
            have hkb := HKK.out
            obtain ⟨p, hp⟩ := HPS.out (by omega) d1
            have HPC := Lib.hid (HPEER.out d1 w7 HK5.out (Gr.ext_trans HXWX.out HXY.out))
            rw [hp] at HPC hst
            have HST := Lib.hid hst
            clear hp hst hat
            go_wp2_with (refine wpList_load_row rfl 25 (.tmp 10) rfl bk rfl 25 (KC d1) (0, 0) _ hkb Try.underlying25 rfl hi7 ?_)
            refine HPC.out.mono ?_
            rintro e w8 ⟨hx8, rfl⟩
            have HX8 := Lib.hid (Gr.ext_trans HXY.out hx8)
            have HR8 := Lib.hid (HRR.out.ext hx8)
            clear hx8 HXY HKK HRR HPC hkb hi7
            have hcx := HCX.out w8 (Gr.ext_trans HXWX.out HX8.out)
            by_cases hpx : p = x
            · have hpe : (some p = some x) := by rw [hpx]
              have HST2 : Hid (MT i (k + 1) = MT i k ++ [r]) := by show _ = _; rw [HST.out, if_pos hpe]
              have hpb : (p == x) = true := by rw [beq_iff_eq]; exact hpx
              clear HST hpe
              have c0 := HR8.out.cell 0 _ rfl
              have c1 := HR8.out.cell 1 _ rfl
              have c2 := HR8.out.cell 2 _ rfl
              have c3 := HR8.out.cell 3 _ rfl
              have c4 := HR8.out.cell 4 _ rfl
              have c5 := HR8.out.cell 5 _ rfl
              have c6 := HR8.out.cell 6 _ rfl
              have c7' := HR8.out.cell 7 _ rfl
              have c8 := HR8.out.cell 8 _ rfl
              have c9 := HR8.out.cell 9 _ rfl
              have hbl := HR8.out.lt
              have HCP2 : Hid (Calls Try.prog 23 #[.agg #[.int .i64 r.p, .int .i64 r.n, .int .i64 r.b, .int .i64 r.s, .int .i64 r.m, .int .i64 r.k, .int .i64 r.e, .bool r.g, .int .i64 r.u, .slice da dl dc]] w8 fun e w' => ∃ a c, e = .returned (r.val (.slice a dl c)) ∧ CopyOut w8 r.d (.returned (.slice a dl c)) w') := by
                have h := copyrec_any r da dc w8 (by rw [HDL.out]; have h := HU.out.ext HX8.out; rw [HDL.out] at h; exact h) (by have := HDL0.out; omega)
                rw [HDL.out] at h
                exact h
              rw [hg] at HCP2
              go_wp2_with fail
              refine HCP2.out.mono ?_
              rintro e w9 ⟨ya, yc, rfl, ya', yc', hye, hx9, hyu, _⟩
              rw [HDL.out] at hyu hye
              cases hye
              have HX9 := Lib.hid (Gr.ext_trans HX8.out hx9)
              have HXX9 := Lib.hid (Gr.ext_trans HXX.out HX9.out)
              have HS9 := Lib.hid (HS.out.ext HX9.out)
              have HU9 := Lib.hid hyu
              clear hx9 hyu HX8 HR8 HCP2 c0 c1 c2 c3 c4 c5 c6 c7' c8 c9 hbl hcx HS HXX HX9
              have HB9 : Hid (B ≤ w9.heap.size) := by show _ ≤ _; rw [HBO.out]; exact HXX9.out.size
              have HSLC : Hid (Slc ((r, Value.slice ya dl yc) : Pr)) := ⟨ya, yc, by show Value.slice ya dl yc = Value.slice ya r.d.length yc; rw [HDL.out]⟩
              have hval : r.val (Value.slice ya dl yc) = .agg #[.int .i64 r.p, .int .i64 r.n, .int .i64 r.b, .int .i64 r.s, .int .i64 r.m, .int .i64 r.k, .int .i64 r.e, .bool r.g, .int .i64 r.u, .slice ya dl yc] := rfl
              rw [hval]
              clear hval hg
              go_wp2_with (at_builtin; refine wpList_app_rs rfl (.tmp 64) (.tmp 67) rfl B _ ps rfl (HS9.out.ext (ext_alloc _ _)) _ ((r, Value.slice ya dl yc) : Pr) rfl (src_rec (r := r) Try.underlying27 _ _ rfl rfl) HSLC.out (HU9.out.ext (ext_alloc _ _)) (by have := HPL.out; omega) (Nat.le_trans HB9.out (ext_alloc _ _).size) ?_)
              intro v9 w10 ho hg10
              have HX10 : Hid (wo.Extends w10) := ext_own (Gr.ext_trans HXX9.out (ext_alloc _ _)) hg10 (fun q hq => by have := (HS9.out.own.lt q hq).1; rw [HBO.out] at this; exact this)
              have HS10 := Lib.hid ho
              have HL10 : Hid ((ps ++ [((r, Value.slice ya dl yc) : Pr)]).length ≤ k + 1) := by show _ ≤ _; rw [List.length_append]; have := HPL.out; simp; omega
              have HM10 : Hid ((ps ++ [((r, Value.slice ya dl yc) : Pr)]).map Prod.fst = MT i (k + 1)) := by show _ = _; rw [HST2.out, List.map_append, HM.out]; rfl
              clear ho hg10 HXX9 HS9 HU9 HST2
              go_wp2
              go_roundw
              case rel => exact ⟨k + 1, _, by omega, by go_num, HX10, HS10, HL10, HM10⟩
              case measure => simp [intOf]; omega
            · have hpb : (p == x) = false := by rw [beq_eq_false_iff_ne]; exact hpx
              have HST2 : Hid (MT i (k + 1) = MT i k) := by show _ = _; rw [HST.out, if_neg (fun e => hpx (Option.some.inj e)), List.append_nil]
              have HS8 := Lib.hid (HS.out.ext HX8.out)
              have HXX8 := Lib.hid (Gr.ext_trans HXX.out HX8.out)
              have HM8 : Hid (ps.map Prod.fst = MT i (k + 1)) := by show _ = _; rw [HST2.out]; exact HM.out
              have HPL8 : Hid (ps.length ≤ k + 1) := Nat.le_succ_of_le HPL.out
              clear HST HST2 HS HXX HX8 HR8 HM
              go_wp2
              go_roundw
              case rel => exact ⟨k + 1, ps, by omega, by go_num, HXX8, HS8, HPL8, HM8⟩
              case measure => simp [intOf]; omega
    · obtain rfl : i = n := by omega
      have HP := Lib.hid (HFIN.out wr _ us HX.out HO.out (by rw [HUL.out]) HUR.out)
      obtain ⟨oa, oc, rfl⟩ := HO.out.slice
      generalize us.length = ul at *
      go_wp2
      exact HP.out
end Go.Proofs.Ytnbhkbncllebmaa
namespace Go.Proofs.Ytnbhkbncllebmaa
set_option maxRecDepth 20000
open Go.RowKit
namespace GrF
open Gr (AnyE check growB pick)
section
variable {P : Program} {ops : Array Oper} {Q : Exit → Act → World → Prop} {md : Region.Mode} {S : World → Prop}
def walk (B : (Nat → Prop)) (P : Program) (ops : Array Oper) (Q : Exit → Act → World → Prop) (tail : List Oper) : List (Bool × Oper) → Act → World → Prop
  | [], a, w => wpList P ops Q tail a w
  | (true, o) :: rest, a, w => if Region.wanted o (yielded ops a.tmps) = true then o.wp P a w (fun a' w' => Fr B w w' ∧ walk B P ops Q tail rest a' w') Q else walk B P ops Q tail rest (a.put o.dst undef) w
  | (false, o) :: rest, a, w => ∃ v, YieldsIf P ops (fun w' => Fr B w w') o v a ∧ walk B P ops Q tail rest (a.put o.dst v) w
theorem walk_nil {B : (Nat → Prop)} {tail : List Oper} {a : Act} {w : World} (h : wpList P ops Q tail a w) : walk B P ops Q tail [] a w := h
/-- An operation that is taken. -/
theorem walk_t {B : (Nat → Prop)} {tail : List Oper} {rest : List (Bool × Oper)} {o : Oper} {a : Act} {w : World} (v : Value) (hy : YieldsIf P ops (fun w' => Fr B w w') o v a) (h : walk B P ops Q tail rest (a.put o.dst v) w) :
    walk B P ops Q tail ((false, o) :: rest) a w := ⟨v, hy, h⟩
/-- An operation that is carried out. -/
theorem walk_c {B : (Nat → Prop)} {tail : List Oper} {rest : List (Bool × Oper)} {o : Oper} {a : Act} {w : World}
    (h : ∀ K : Act → World → Prop, Shut (∀ a' w', Fr B w w' → walk B P ops Q tail rest a' w' → K a' w') → if Region.wanted o (yielded ops a.tmps) = true then o.wp P a w K Q else K (a.put o.dst undef) w) :
    walk B P ops Q tail ((true, o) :: rest) a w := by
  have h0 := h (fun a' w' => Fr B w w' ∧ walk B P ops Q tail rest a' w') (fun _ _ h1 h2 => ⟨h1, h2⟩)
  unfold walk
  split
  · rename_i hw; rw [if_pos hw] at h0; exact h0
  · rename_i hw; rw [if_neg hw] at h0; exact h0.2

theorem walk_sound (B : (Nat → Prop)) {l : List Oper} {n : Nat} (hsel : Region.noSelect l.toArray = true) (hs : Region.sinkB md l.toArray n = true) (hc : Region.chainB md l.toArray n = true) (hn : n < l.toArray.size)
    (hQ : ∀ d v c a w, Q (.panic c) (Act.put a d v) w → Q (.panic c) a w) :
    ∀ (ord : List (Bool × Nat)) (listed : Array Bool) (a : Act) (w : World), HeadInv md l.toArray n listed → check md l.toArray n (l.toArray.size - n) ord listed = true →
      walk B P l.toArray Q (l.drop n) (pick l ord) a w →
      AnyE P md l.toArray Q n (fun listed' a' w' => Region.seqB md l.toArray (l.toArray.size - n) n listed' = true ∧ wpList P l.toArray Q (l.drop n) a' w') (fun w' => Fr B w w') ord.length listed a w
  | [], listed, a, w, _, hB, h => ⟨hB, h⟩
  | (c, i) :: rest, listed, a, w, inv, hB, h => by
    simp only [check, Bool.and_eq_true, decide_eq_true_eq] at hB
    obtain ⟨⟨hin, hr⟩, hB'⟩ := hB
    have hil : i < l.length := by have : l.toArray.size = l.length := by simp
                                  omega
    have ho : l[i]? = some l[i] := List.getElem?_eq_getElem hil
    have hoa : l.toArray[i]? = some l[i] := by simp
    simp only [pick, ho] at h
    cases c with
    | true =>
      simp only [decide_eq_true_eq] at hr
      refine ⟨(by rw [hr]; simp), fun j hj => ?_⟩
      rw [hr] at hj
      obtain rfl : j = i := by simpa using hj
      refine ⟨hin, ?_⟩
      have hrm : j ∈ Region.ready md l.toArray listed := by rw [hr]; simp
      unfold walk at h
      unfold wpOp
      simp only [hoa]
      split
      · rename_i hw
        rw [if_pos hw] at h
        exact .inl (Oper.wp_mono (fun a' w' hk => ⟨hk.1, AnyE.weaken (fun u hu => hk.1.trans hu fun _ _ h => h) _ _ _ _ (walk_sound B hsel hs hc hn hQ rest _ a' w' (inv.set hrm hin) hB' hk.2)⟩) h)
      · rename_i hw
        rw [if_neg hw] at h
        exact ⟨Fr.refl B w, walk_sound B hsel hs hc hn hQ rest _ _ w (inv.set hrm hin) hB' h⟩
    | false =>
      simp only [Bool.and_eq_true] at hr
      unfold walk at h
      obtain ⟨v, hy, hK⟩ := h
      have hrm : i ∈ Region.ready md l.toArray listed := by simpa using hr.1
      exact AnyE.first hoa (Region.noSelect_spec hsel) hs hc hn hin (fun c a w => hQ _ v c a w) (fun listed' a' w' hL => seqB_ready hL.1) rest.length listed a w inv (Region.free_spec hoa hr.2) hrm hy (Fr.refl B w)
        (walk_sound B hsel hs hc hn hQ rest _ _ w (inv.set hrm hin) hB' hK)

theorem region (B : (Nat → Prop)) {id : Nat} {a : Act} {w : World} {l : List Oper} (n : Nat) (ord : List (Bool × Nat)) (hm : P.follows .mixedOrders = true) (hB : growB .any l.toArray n ord = true)
    (hQ : ∀ d v c a w, Q (.panic c) (Act.put a d v) w → Q (.panic c) a w)
    (h : walk B P l.toArray Q (l.drop n) (pick l ord) a w.drew) : (Code.region id l.toArray true).wp P Q a w := by
  simp only [growB, Bool.and_eq_true, decide_eq_true_eq] at hB
  obtain ⟨⟨⟨⟨⟨hsel, hn⟩, hs⟩, hc⟩, hlen⟩, hck⟩ := hB
  have hdl : (l.drop n).length = l.toArray.size - n := by simp
  have inv0 : HeadInv .any l.toArray n (Array.replicate l.toArray.size false) :=
    ⟨by simp, fun j oj _ hl => (by rw [getD_replicate_false] at hl; cases hl), fun t _ ht => getD_in (by simpa using ht) (getD_replicate_false _ _)⟩
  have H := walk_sound B (md := .any) hsel hs hc hn hQ ord _ a w.drew inv0 hck h
  refine wp_region_any hm ?_
  have := AnyE.any (Q := Q) (g := l.toArray.size - n) (fun listed a' w' hL => by
    have := wpAny_of_seq (md := .any) (Q' := Q) (l.drop n) n listed a' w' (fun j => by simp [List.getElem?_drop]) (by rw [hdl]; exact hL.1) hL.2
    rwa [hdl] at this) _ _ _ _ H
  rw [hlen] at this
  exact this
end
end GrF
end Go.Proofs.Ytnbhkbncllebmaa
namespace Go.Proofs.Ytnbhkbncllebmaa
set_option maxRecDepth 20000
open Go.RowKit Go.Deep
set_option linter.unusedVariables false
namespace PC
/-- What the i-th has of the first k records, by places. -/
def pt (l : List Int) (rs : List Rc) (i k : Nat) : List Rc := (rs.take k).filter fun r => decide (nb (at_ r) (keysOf l) l.length = i)
theorem pt_zero (l : List Int) (rs : List Rc) (i : Nat) : pt l rs i 0 = [] := by unfold pt; simp
theorem pt_full (l : List Int) (rs : List Rc) (i : Nat) (hi : i < l.length) : pt l rs i rs.length = mine l rs i := by unfold pt; rw [List.take_length, mine_at l rs i hi]; rfl
theorem pt_step (l : List Int) (rs : List Rc) (i k : Nat) (hk : k < rs.length) : pt l rs i (k + 1) = if i = nb (at_ (rs.getD k Rc.zero)) (keysOf l) l.length then pt l rs i k ++ [rs.getD k Rc.zero] else pt l rs i k := by
  unfold pt
  have e : rs.getD k Rc.zero = rs[k] := by simp [hk]
  rw [List.take_succ_eq_append_getElem hk, List.filter_append, e]
  by_cases c : i = nb (at_ rs[k]) (keysOf l) l.length
  · rw [if_pos c, List.filter_cons_of_pos (by rw [decide_eq_true_eq]; exact c.symm)]; rfl
  · rw [if_neg c, List.filter_cons_of_neg (by rw [decide_eq_true_eq]; exact fun h => c h.symm), List.filter_nil, List.append_nil]
end PC
theorem mkRL (k : Nat) (hk : k ≤ 1000) (w : World) : (Instr.makeSlice 33 (.int .i64 (k : Int)) (.int .i64 (k : Int))).run Try.prog w = .ok (.slice (some ⟨w.heap.size, 0, none⟩) k k) (w.alloc (.cells (madeCells #[.slice none 0 0] k) 27)) :=
  run_make_row' (P := Try.prog) 33 27 (.slice none 0 0) 24 Try.underlying33 rrinfo rfl .i64 .i64 k (by omega) (by omega) w
set_option maxHeartbeats 8000000 in
theorem pspread_any (rv : Value) (rs : List Rc) (v : Value) (l : List Int) (w : World) (hr : Recs w rv rs) (hv : Ints w v l) (hl : l.length ≤ 1000) (hm : rs.length ≤ 1000) (hd : ∀ r ∈ rs, r.d.length ≤ 1000) :
    Calls Try.prog 10 #[rv, v] w (SpreadOut w (PC.spread l rs)) := by
  have HVI := Lib.hid hv
  obtain ⟨pa, pc, rfl, hpc, _⟩ := hv.slice
  obtain ⟨ra, rc, rfl⟩ := hr.slice
  have HRA := Lib.hid hr.at.2
  have HDD : Hid (∀ k, k < rs.length → (rs.getD k Rc.zero).d.length ≤ 1000) := fun k hk => hd _ (by rw [List.getD_eq_getElem?_getD, List.getElem?_eq_getElem hk]; exact List.getElem_mem hk)
  have HT0 : Hid (∀ i, PC.pt l rs i 0 = []) := fun i => PC.pt_zero l rs i
  have HTS : Hid (∀ i k, k < rs.length → PC.pt l rs i (k + 1) = if i = PC.nb (PC.at_ (rs.getD k Rc.zero)) (keysOf l) l.length then PC.pt l rs i k ++ [rs.getD k Rc.zero] else PC.pt l rs i k) := fun i k hk => PC.pt_step l rs i k hk
  have HNE : Hid (0 < l.length → ∀ K g w', KY.Ok K → KsAt w' g (keysOf l) → Calls Try.prog 18 #[KV K, .slice (some ⟨g, 0, none⟩) l.length l.length] w' fun e w2 => e = .returned (.int .i64 (PC.nb K (keysOf l) l.length : Nat)) ∧ w'.Extends w2) := fun h0 K g w' hK hA => near_of K l g w' hK h0 hl hA
  have HB : Hid (0 < l.length → ∀ K, PC.nb K (keysOf l) l.length < l.length) := fun h0 K => by have := PC.nb_lt K (keysOf l) l.length; omega
  have HKE : Hid (0 < l.length → ∀ w', w.Extends w' → Calls Try.prog 19 #[.slice pa l.length pc] w' fun e w2 => ∃ g, e = .returned (.slice (some ⟨g, 0, none⟩) l.length l.length) ∧ w'.Extends w2 ∧ KsAt w2 g (keysOf l)) := fun h0 w' hx => keys_any _ l w' (HVI.out.ext hx) h0 hl
  have HP0 : Hid (l.length = 0 → SpreadOut w (PC.spread l rs) (.returned (.slice none 0 0)) w) := fun h0 => by
    refine ⟨_, rfl, Gr.ext_refl _, .inl ⟨?_, none, 0, rfl⟩⟩
    unfold PC.spread; rw [h0]; rfl
  have HFIN : Hid (0 < l.length → ∀ (w' : World) (B g : Nat) (us : Nat → Value) (pss : Nat → List Pr), w.Extends w' → LS w' B g l.length us pss → (∀ i, i < l.length → (pss i).map Prod.fst = PC.pt l rs i rs.length) → SpreadOut w (PC.spread l rs) (.returned (.slice (some ⟨g, 0, none⟩) l.length l.length)) w') := fun h0 w' B g us pss hx ho hm => by
    have hsl : (PC.spread l rs).length = l.length := by unfold PC.spread; simp
    refine ⟨_, rfl, hx, ho.rrws hsl.symm h0 (by unfold maxLen; omega) fun i hi => ?_⟩
    rw [hm i hi, PC.pt_full l rs i hi]
    unfold PC.spread; simp [hi]
  have hmk := fun w => mkRL l.length hl w
  have HMADE : Hid (∀ w : World, ∀ B, w.heap.size < B → LS (w.alloc (.cells (madeCells #[.slice none 0 0] l.length) 27)) B w.heap.size l.length (fun _ => .slice none 0 0) (fun _ => [])) := fun w B hB => LS.made w l.length B hB
  generalize SpreadOut w (PC.spread l rs) = POST at *
  generalize hPT : PC.pt l rs = PT at *
  generalize keysOf l = KL at *
  obtain ⟨n, hn⟩ : ∃ n, n = l.length := ⟨_, rfl⟩
  obtain ⟨m, hmm⟩ : ∃ m, m = rs.length := ⟨_, rfl⟩
  rw [← hn] at HNE HB HKE HP0 HFIN HTS hmk HMADE hl hpc ⊢
  rw [← hmm] at HRA HDD HTS HFIN hm ⊢
  clear hv hr hd hPT hn hmm HVI
  by_cases h0 : n = 0
  · have HP := Lib.hid (HP0.out h0)
    subst h0
    go_enter Try.func10, Try.ntmps10
    go_wp2
    exact HP.out
  have hn0 : 0 < n := by omega
  have HKE2 := Lib.hid (HKE.out hn0)
  have HNE2 := Lib.hid (HNE.out hn0)
  have HB2 := Lib.hid (HB.out hn0)
  have HFIN2 := Lib.hid (HFIN.out hn0)
  clear HKE HNE HB HFIN HP0
  have hne : ((n : Int) == 0) = false := by rw [beq_eq_false_iff_ne]; omega
  go_enter Try.func10, Try.ntmps10
  go_wp2_with fail
  have HMD := Lib.hid (HMADE.out w)
  generalize hw1 : World.alloc w _ = w1 at *
  have hx1 : w.Extends w1 := by subst hw1; exact ext_alloc _ _
  have hsz : w1.heap.size = w.heap.size + 1 := by subst hw1; simp
  obtain ⟨g, hg⟩ : ∃ g, g = w.heap.size := ⟨_, rfl⟩
  rw [← hg] at HMD hsz ⊢
  have HSZ : Hid (w1.heap.size = g + 1) := hsz
  have HGW : Hid (w.heap.size ≤ g) := Nat.le_of_eq hg.symm
  have HX1 := Lib.hid hx1
  clear hw1 hg hsz hmk HMADE
  refine (HKE2.out w1 hx1).mono ?_
  rintro e w2 ⟨gk, rfl, hx2, hk2⟩
  have HX2 := Lib.hid (Gr.ext_trans HX1.out hx2)
  obtain ⟨B, hB⟩ : ∃ B, B = w2.heap.size := ⟨_, rfl⟩
  have HL2 : Hid (LS w2 B g n (fun _ => .slice none 0 0) (fun _ => [])) := (HMD.out B (by rw [hB]; have := hx2.size; have := HSZ.out; omega)).ext hx2
  have HK2 := Lib.hid hk2
  have HBB : Hid (B ≤ w2.heap.size) := Nat.le_of_eq hB
  have HGK : Hid (gk < B ∧ gk ≠ g) := by
    refine ⟨by rw [hB]; exact hk2.lt, fun e => ?_⟩
    subst e
    obtain ⟨cs, h1, _⟩ := HL2.out.no8
    rw [hk2] at h1
    simp only [Option.some.injEq, Obj.cells.injEq] at h1
    exact absurd h1.2.1 (by decide)
  have HWB : Hid (w.heap.size ≤ B) := by show _ ≤ _; rw [hB]; exact HX2.out.size
  clear hx1 hx2 hk2 hB HMD HKE2 HX1 HSZ
  go_wp2_with fail
  go_loopw [20] (fun s20 wr => ∃ (k : Nat) (us : Nat → Value) (pss : Nat → List Pr), k ≤ m ∧ s20 = .int .i64 (k : Nat) ∧ Hid (w.Extends wr) ∧ Hid (KsAt wr gk KL) ∧ Hid (LS wr B g n us pss) ∧ Hid (∀ i, i < n → (pss i).map Prod.fst = PT i k) ∧ Hid (B ≤ wr.heap.size) ∧ Hid (∀ i, i < n → (pss i).length ≤ k)) (fun s20 _ => m - (intOf s20).toNat)
  case atStart => exact ⟨0, _, _, by omega, by rfl, HX2, HK2, HL2, fun i hi => (HT0.out i).symm, HBB, fun i hi => Nat.le_refl _⟩
  case round =>
    clear HX2 HK2 HL2 HBB
    obtain ⟨k, us, pss, hk, rfl, HX, HK, HL, HM, HBR, HPL⟩ := hrel
    by_cases h1 : k < m
    · obtain ⟨wx, hwx⟩ : ∃ wx, wx = wr := ⟨_, rfl⟩
      subst hwx
      obtain ⟨rb0, ro, rfl, hrb, hrc⟩ := HRA.out (by omega)
      obtain ⟨da, dc, hrr, huu⟩ := hrc k h1
      have hrr2 := rangeAt_ext hrr HX.out
      have HU := Lib.hid (huu.ext HX.out)
      have HDL0 := Lib.hid (HDD.out k h1)
      have HTK : Hid (∀ i, PT i (k + 1) = if i = PC.nb (PC.at_ (rs.getD k Rc.zero)) KL n then PT i k ++ [rs.getD k Rc.zero] else PT i k) := fun i => HTS.out i k h1
      clear hrc hrr huu
      generalize rs.getD k Rc.zero = r at *
      have HAT : Hid (KY.Ok (PC.at_ r)) := PC.at_ok r
      have HBI := Lib.hid (HB2.out (PC.at_ r))
      have HSP : Hid (∀ w', Calls Try.prog 21 #[r.val (.slice da r.d.length dc)] w' fun e w2 => e = .returned (KV (PC.at_ r)) ∧ w'.Extends w2) := fun w' => spot_any r _ w'
      have HNR : Hid (∀ w', KsAt w' gk KL → Calls Try.prog 18 #[KV (PC.at_ r), .slice (some ⟨gk, 0, none⟩) n n] w' fun e w2 => e = .returned (.int .i64 (PC.nb (PC.at_ r) KL n : Nat)) ∧ w'.Extends w2) := fun w' h => HNE2.out _ _ _ (PC.at_ok r) h
      generalize PC.nb (PC.at_ r) KL n = b at *
      generalize PC.at_ r = D at *
      have HCL : Hid (∀ w', wx.Extends w' → Calls Try.prog 22 #[.slice da r.d.length dc] w' (CopyIs w' r.d)) := fun w' hx => clone_is da dc r.d w' (HU.out.ext hx) (by have := HDL0.out; omega)
      obtain ⟨c0, c1, c2, c3, c4, c5, c6, c7', c8, c9⟩ := RCell.ten hrr2
      obtain ⟨dl, hdl⟩ : ∃ dl, dl = r.d.length := ⟨_, rfl⟩
      have HSP2 : Hid (∀ w', Calls Try.prog 21 #[.agg #[.int .i64 r.p, .int .i64 r.n, .int .i64 r.b, .int .i64 r.s, .int .i64 r.m, .int .i64 r.k, .int .i64 r.e, .bool r.g, .int .i64 r.u, .slice da r.d.length dc]] w' fun e w2 => e = .returned (KV D) ∧ w'.Extends w2) := HSP.out
      rw [← hdl] at c9 HSP2 HCL
      have HDL : Hid (r.d.length = dl) := hdl.symm
      clear hrr2 hdl HSP
      go_upto_region 8 with fail
      clear c0 c1 c2 c3 c4 c5 c6 c7' c8 c9
      generalize hw : World.alloc wx _ = w3
      have hx : wx.Extends w3 := by subst hw; exact ext_alloc _ _
      have hbx : w3.heap[wx.heap.size]? = some (.cells #[.int .i64 r.p, .int .i64 r.n, .int .i64 r.b, .int .i64 r.s, .int .i64 r.m, .int .i64 r.k, .int .i64 r.e, .bool r.g, .int .i64 r.u, .slice da dl dc] 46) := by subst hw; exact heap_alloc_new _ _
      obtain ⟨bx, hbn⟩ : ∃ b, b = wx.heap.size := ⟨_, rfl⟩
      rw [← hbn] at hbx ⊢
      have HBN : Hid (wx.heap.size ≤ bx) := Nat.le_of_eq hbn.symm
      have HX3 := Lib.hid hx
      have HR3 : Hid (R10 w3 bx [.int .i64 r.p, .int .i64 r.n, .int .i64 r.b, .int .i64 r.s, .int .i64 r.m, .int .i64 r.k, .int .i64 r.e, .bool r.g, .int .i64 r.u, .slice da dl dc]) := hbx
      clear hw hx hbx hbn
      have c0 := HR3.out.cell 0 _ rfl
      have c1 := HR3.out.cell 1 _ rfl
      have c2 := HR3.out.cell 2 _ rfl
      have c3 := HR3.out.cell 3 _ rfl
      have c4 := HR3.out.cell 4 _ rfl
      have c5 := HR3.out.cell 5 _ rfl
      have c6 := HR3.out.cell 6 _ rfl
      have c7' := HR3.out.cell 7 _ rfl
      have c8 := HR3.out.cell 8 _ rfl
      have c9 := HR3.out.cell 9 _ rfl
      have hbl := HR3.out.lt
      go_wp2_with fail
      clear c0 c1 c2 c3 c4 c5 c6 c7' c8 c9 hbl
      refine (HSP2.out w3).mono ?_
      rintro e w4 ⟨rfl, hx4⟩
      have HX4 := Lib.hid (Gr.ext_trans HX3.out hx4)
      have HR4 := Lib.hid (HR3.out.ext hx4)
      have HK4 := Lib.hid (HK.out.ext HX4.out)
      clear hx4 HX3 HR3 HSP2
      go_wp2_with fail
      refine (HNR.out w4 HK4.out).mono ?_
      rintro e w5 ⟨rfl, hx5⟩
      have HX5 := Lib.hid (Gr.ext_trans HX4.out hx5)
      have HR5 := Lib.hid (HR4.out.ext hx5)
      clear hx5 HX4 HR4 HK4 HNR
      have c9 := HR5.out.cell 9 _ rfl
      have hbl := HR5.out.lt
      go_wp2_with fail
      clear c9 hbl
      refine (HCL.out w5 HX5.out).mono ?_
      rintro e w6 ⟨ya, yc, rfl, hx6, hu6⟩
      rw [HDL.out] at hu6 ⊢
      have HX6 := Lib.hid (Gr.ext_trans HX5.out hx6)
      have HR6 := Lib.hid (HR5.out.ext hx6)
      have HU6 := Lib.hid hu6
      clear hx6 hu6 HX5 HR5 HCL
      have c9 := HR6.out.cell 9 _ rfl
      have hf9 := HR6.out.frozen 9
      have hbl := HR6.out.lt
      go_upto_region 10 with fail
      clear c9 hf9 hbl
      have hg7 : w6.grownBy (w6.setCell ⟨bx, 9, none⟩ (.slice ya dl yc)) (some bx) := grown_setCell (grown_refl _ _) 9 _
      have HR7 : Hid (R10 (w6.setCell ⟨bx, 9, none⟩ (.slice ya dl yc)) bx [.int .i64 r.p, .int .i64 r.n, .int .i64 r.b, .int .i64 r.s, .int .i64 r.m, .int .i64 r.k, .int .i64 r.e, .bool r.g, .int .i64 r.u, .slice ya dl yc]) := HR6.out.set 9 (.slice ya dl yc)
      have HU7 : Hid (U8s (w6.setCell ⟨bx, 9, none⟩ (.slice ya dl yc)) (.slice ya dl yc) r.d) := HU6.out.beside HR6.out (fun y hy q e => by subst e; simp at hy) hg7
      have HX7 : Hid (wx.Extends (w6.setCell ⟨bx, 9, none⟩ (.slice ya dl yc))) := ext_own HX6.out hg7 (fun q hq => by have := Option.some.inj hq; have := HBN.out; omega)
      clear hg7 HX6 HR6 HU6
      generalize w6.setCell ⟨bx, 9, none⟩ (.slice ya dl yc) = w7 at *
      obtain ⟨ua, uc, hub⟩ := (HL.out.rs b HBI.out).slice
      have HUB := Lib.hid hub
      have HPB := Lib.hid (HPL.out b HBI.out)
      obtain ⟨pl, hpl⟩ : ∃ pl, pl = (pss b).length := ⟨_, rfl⟩
      rw [← hpl] at hub HPB
      have HPLE : Hid ((pss b).length = pl) := hpl.symm
      have HUV : Hid (us b = .slice ua pl uc) := hub
      clear hpl hub HUB
      have HDN : Hid (∀ q, (us b).ownBlock = some q → B ≤ q ∧ q < wx.heap.size) := fun q hq => (HL.out.rs b HBI.out).own.lt q hq
      obtain ⟨Dn, hDn⟩ : ∃ Dn : Nat → Prop, Dn = fun q => (us b).ownBlock = some q := ⟨_, rfl⟩
      have HDnn : Hid (∀ q, (us b).ownBlock = some q → Dn q) := fun q hq => by rw [hDn]; exact hq
      have HDb : Hid (¬ Dn bx) := fun h => by rw [hDn] at h; have := (HDN.out bx h).2; have := HBN.out; omega
      have HDg : Hid (¬ Dn g) := fun h => by rw [hDn] at h; have := (HDN.out g h).1; have := HL.out.lo; omega
      clear hDn
      have HXd : Hid (wx.Extends w7.drew) := Gr.ext_drew HX7.out
      have HRd : Hid (R10 w7.drew bx [.int .i64 r.p, .int .i64 r.n, .int .i64 r.b, .int .i64 r.s, .int .i64 r.m, .int .i64 r.k, .int .i64 r.e, .bool r.g, .int .i64 r.u, .slice ya dl yc]) := HR7.out.ext (Gr.ext_drew (Gr.ext_refl _))
      have HUd : Hid (U8s w7.drew (.slice ya dl yc) r.d) := HU7.out.ext (Gr.ext_drew (Gr.ext_refl _))
      have HLd : Hid (LS w7.drew B g n us pss) := HL.out.ext HXd.out
      clear HX7 HR7 HU7
      have HRF : Hid (∀ w', Fr Dn w7.drew w' → R10 w' bx [.int .i64 r.p, .int .i64 r.n, .int .i64 r.b, .int .i64 r.s, .int .i64 r.m, .int .i64 r.k, .int .i64 r.e, .bool r.g, .int .i64 r.u, .slice ya dl yc]) := fun w' hf => (hf.away bx HRd.out.lt HDb.out).trans HRd.out
      have HCF : Hid (∀ w', Fr Dn w7.drew w' → w'.cell? ⟨g, b, none⟩ = some (.slice ua pl uc)) := fun w' hf => by
        have h := (HLd.out.blk.of_block (hf.away g HLd.out.blk.lt HDg.out)).cell HBI.out
        rw [HUV.out] at h
        exact h
      have hbn := HBI.out
      have hRl : ∀ w', R10 w' bx [.int .i64 r.p, .int .i64 r.n, .int .i64 r.b, .int .i64 r.s, .int .i64 r.m, .int .i64 r.k, .int .i64 r.e, .bool r.g, .int .i64 r.u, .slice ya dl yc] → w'.rangeAt bx 0 (r.cells (.slice ya dl yc)) := fun w' h j v hv => by rw [Nat.zero_add]; exact h.cell j v hv
      have HRl := Lib.hid hRl
      clear hRl
      refine GrF.region Dn 9 [(false,0),(false,1),(false,2),(false,3),(false,4),(false,5),(false,6),(true,7),(true,8)] (by kernel_rfl) (by kernel_rfl) (fun d _ _ _ _ h => by cases d <;> exact h) ?_
      simp only [Gr.pick, List.getElem?_cons_zero, List.getElem?_cons_succ, List.drop_succ_cons, List.drop_zero]
      generalize w7.drew = wd at *
      iterate 5
        refine GrF.walk_t ?_ (Or.inl ⟨by rfl, ?_⟩) ?_
        rotate_left
        · intro w' hw'
          clear hw'
          go_simp
          try with_reducible rfl
        simp only [Act.put, List.setIfInBounds_toArray, List.set_cons_zero, List.set_cons_succ]
      refine GrF.walk_t ?_ (Or.inl ⟨by rfl, ?_⟩) ?_
      rotate_left
      · intro w' hw'
        have hcf := HCF.out w' hw'
        clear hw'
        go_simp
        try with_reducible rfl
      simp only [Act.put, List.setIfInBounds_toArray, List.set_cons_zero, List.set_cons_succ]
      refine GrF.walk_t ?_ (Or.inl ⟨by rfl, ?_⟩) ?_
      rotate_left
      · intro w' hw'
        obtain ⟨c0, c1, c2, c3, c4, c5, c6, c7', c8, c9⟩ := RCell.ten (HRl.out w' (HRF.out w' hw'))
        clear hw'
        go_simp
        try with_reducible rfl
      simp only [Act.put, List.setIfInBounds_toArray, List.set_cons_zero, List.set_cons_succ]
      refine GrF.walk_c (fun K hK => ?_)
      go_simp
      generalize hw : World.alloc _ _ = w8
      have hx8 : wd.Extends w8 := by subst hw; exact ext_alloc _ _
      have HSRC : Hid (Src Try.prog 10 27 (.slice (some ⟨wd.heap.size, 0, none⟩) 1 1) 1 (r.cells (.slice ya dl yc)) w8) := by subst hw; exact src_rec (r := r) Try.underlying27 _ _ rfl rfl
      have HX8 := Lib.hid hx8
      have HXw8 := Lib.hid (Gr.ext_trans HX.out (Gr.ext_trans HXd.out hx8))
      have HB8 : Hid (B ≤ w8.heap.size) := Nat.le_trans HBR.out (Gr.ext_trans HXd.out hx8).size
      have HK8 := Lib.hid (HK.out.ext (Gr.ext_trans HXd.out hx8))
      have HU8 := Lib.hid (HUd.out.ext hx8)
      have HR8 : Hid (RS w8 B (.slice ua pl uc) (pss b)) := by have h := (HLd.out.ext hx8).rs b HBI.out; rw [HUV.out] at h; exact h
      have HSLC : Hid (Slc ((r, Value.slice ya dl yc) : Pr)) := ⟨ya, yc, by show Value.slice ya dl yc = Value.slice ya r.d.length yc; rw [HDL.out]⟩
      refine hK.out _ _ (Fr.ext hx8) ?_
      clear hK K hw hx8 HRF HCF HRl HUd HRd
      refine GrF.walk_c (fun K hK => ?_)
      rw [if_pos (by rfl)]
      refine wp_app_rsl (.tmp 37) (.tmp 39) rfl B (.slice ua pl uc) (pss b) rfl HR8.out _ ((r, Value.slice ya dl yc) : Pr) rfl HSRC.out HSLC.out HU8.out (by rw [HPLE.out]; have := HPB.out; omega) HB8.out ?_
      intro v9 w9 hr9 hg9 hloc
      rw [← HUV.out] at hg9 hloc
      have HR9 := Lib.hid hr9
      have HG9 := Lib.hid hg9
      obtain ⟨va, vc, hv9⟩ := hr9.slice
      rw [List.length_append, HPLE.out] at hv9
      have hv9' : v9 = .slice va (pl + 1) vc := hv9
      subst hv9'
      obtain ⟨hl10, hb9, hB10, haw⟩ := HLd.out.step HBI.out HX8.out hr9 hg9 hloc
      have hcell := hb9.cell HBI.out
      have hfroz := hb9.frozen b
      rw [HUV.out] at hcell
      have HL10 := Lib.hid hl10
      have HB10 := Lib.hid (hB10 HB8.out)
      have HAW := Lib.hid haw
      refine hK.out _ _ (Fr.grown hg9 HDnn.out) ?_
      clear hK K hv9 hr9 hg9 hloc hl10 hb9 hB10 haw HSRC HSLC HU8 HR8
      refine GrF.walk_nil ?_
      have HX10 : Hid (w.Extends (w9.setCell ⟨g, b, none⟩ (.slice va (pl + 1) vc))) := ext_own (ext_own HXw8.out HG9.out (fun q hq => by have := (HDN.out q hq).1; have := HWB.out; omega)) (grown_setCell (grown_refl _ _) b _) (fun q hq => by have := Option.some.inj hq; have := HGW.out; omega)
      have HK10 : Hid (KsAt (w9.setCell ⟨g, b, none⟩ (.slice va (pl + 1) vc)) gk KL) := (HAW.out gk HK8.out.lt HGK.out.1 HGK.out.2).trans HK8.out
      have HM10 : Hid (∀ i, i < n → ((fun j => if j = b then pss b ++ [((r, Value.slice ya dl yc) : Pr)] else pss j) i).map Prod.fst = PT i (k + 1)) := fun i hi => by
        rw [HTK.out i]
        by_cases e : i = b
        · subst e; simp only [if_pos]; rw [List.map_append, HM.out i hi]; rfl
        · simp only [if_neg e]; exact HM.out i hi
      have HP10 : Hid (∀ i, i < n → ((fun j => if j = b then pss b ++ [((r, Value.slice ya dl yc) : Pr)] else pss j) i).length ≤ k + 1) := fun i hi => by
        by_cases e : i = b
        · subst e; simp only [if_pos]; rw [List.length_append, HPLE.out]; have := HPB.out; simp; omega
        · simp only [if_neg e]; have := HPL.out i hi; omega
      generalize (fun j => if j = b then pss b ++ [((r, Value.slice ya dl yc) : Pr)] else pss j) = pss' at *
      generalize (fun j => if j = b then Value.slice va (pl + 1) vc else us j) = us' at *
      clear HDN HDnn HDb HDg HUV HPB HPLE HR9 HG9 HAW HK8 HB8 HXw8 HX8 HLd HTK HM HPL HL HX HK HBR
      go_wp2
      generalize w9.setCell ⟨g, b, none⟩ (.slice va (pl + 1) vc) = w10 at *
      go_roundw
      case rel => exact ⟨k + 1, us', pss', by omega, by go_num, HX10, HK10, HL10, HM10, HB10, HP10⟩
      case measure => simp [intOf]; omega
    · obtain rfl : k = m := by omega
      have HP := Lib.hid (HFIN2.out wr B g us pss HX.out HL.out HM.out)
      go_wp2
      exact HP.out
end Go.Proofs.Ytnbhkbncllebmaa
