/- In one text: BlkRefNew, DroLive, DroTells, BlkLaw, BlkTells, BlkSource. -/
import Derived.Lib.SlBytesConst
import Derived.Test.YtbaeieloncmiaaaDoorM11
import Derived.Test.YtbaeieloncmiaaaDoorM14
import Derived.Test.YtbaeieloncmiaaaDoorM15
/- The reference's NewBlock. -/
namespace Go.Proofs.YtbaeieloncmiaaaDoor
set_option maxRecDepth 20000
open Go.RowKit Go.Deep
set_option linter.unusedVariables false
theorem refNew_bad (size : Int) (a : Option Addr) (n cap : Nat) (w : World) (hm : n ≤ maxLen) (h : size < 1 ∨ 64 < size ∨ n < 1 ∨ 40 < n) :
    Calls Tryd.prog 19 #[.int .i64 size, .slice a n cap] w (NoBlock w 1) := by
  have HP : Hid (NoBlock w 1 (.returned (.tuple #[.pointer none, .int .i64 1])) w) := ⟨rfl, Gr.ext_refl _⟩
  unfold maxLen at hm
  by_cases c1 : size < 1
  rotate_left
  by_cases c2 : 64 < size
  rotate_left
  by_cases c3 : n < 1
  rotate_left
  have c4 : 40 < n := by omega
  all_goals
    clear h
    go_enter Tryd.func19, Tryd.ntmps19
    go_wp2
    go_returns
    exact HP.out
set_option maxHeartbeats 1000000 in
theorem refNew_rows (size : Int) (v : Value) (src : List (List Nat)) (k : Nat) (w : World) (h1 : 1 ≤ size) (h2 : size ≤ 64) (hk : src.length = k) (k1 : 1 ≤ k) (k2 : k ≤ 40) (hv : Rws w v src) (hn : ¬ AllB size src) :
    Calls Tryd.prog 19 #[.int .i64 size, v] w (NoBlock w 10) := by
  have HN := Lib.hid hn
  have HK := Lib.hid hk
  obtain ⟨a, cap, rfl, _⟩ := hv.slice
  have HV := Lib.hid hv.at.2
  rw [hk] at HV ⊢
  clear hk hv hn
  go_enter Tryd.func19, Tryd.ntmps19
  go_wp2_with fail
  go_loopw [7] (fun i wr => ∃ m : Nat, m ≤ k ∧ i = .int .i64 m ∧ Hid (w.Extends wr) ∧ Hid (∀ i, i < m → ((src.getD i []).length : Int) = size)) (fun i _ => (k - intOf i).toNat)
  case atStart => exact ⟨0, by omega, rfl, Lib.hid (Gr.ext_refl _), Lib.hid (fun i hi => absurd hi (Nat.not_lt_zero _))⟩
  case round =>
    obtain ⟨m, hm, rfl, HX, HA⟩ := hrel
    by_cases h5 : m < k
    · obtain ⟨b1, o1, rfl, hb1, hc1⟩ := HV.out (by omega)
      obtain ⟨ra, rc, hc3, hr0⟩ := hc1 m h5
      have hc2 := HX.out.cell_of hc3
      clear hc1 hc3 hr0
      have HA2 : Hid (((src.getD m []).length : Int) = size → ∀ i, i < m + 1 → ((src.getD i []).length : Int) = size) := fun h2 i hi => by
        by_cases e : i = m
        · subst e; exact h2
        · exact HA.out i (by omega)
      generalize (src.getD m []).length = r at *
      by_cases h6 : (r : Int) = size
      · have hne : ((r : Int) != size) = false := by simpa using h6
        have HA3 := Lib.hid (HA2.out h6)
        clear h6 HA2
        go_wp2
        go_roundw
        case rel => exact ⟨m + 1, by omega, by go_num, HX, HA3⟩
        case measure => simp [intOf]; omega
      · have hne : ((r : Int) != size) = true := by simpa using h6
        have HP : Hid (NoBlock w 10 (.returned (.tuple #[.pointer none, .int .i64 10])) wr) := ⟨rfl, HX.out⟩
        clear h6 HA2
        go_wp2
        go_returns
        exact HP.out
    · obtain rfl : m = k := by omega
      exact absurd (fun i hi => HA.out i (by rw [← HK.out]; exact hi)) HN.out
/-- A block of the reference's. -/
def RNew (w : World) (k j size : Nat) (c : List (List Nat)) (e : Ending) (w' : World) : Prop :=
  ∃ b v, e = .returned (.tuple #[.pointer (some ⟨b, 0, none⟩), .int .i64 0]) ∧ w.Extends w' ∧ RAt w' b k j size v ∧ Rws w' v c
set_option maxHeartbeats 1000000 in
set_option maxRecDepth 100000 in
theorem refNew_none (size : Int) (v : Value) (src : List (List Nat)) (k : Nat) (w : World) (h1 : 1 ≤ size) (h2 : size ≤ 64) (hk : src.length = k) (k1 : 1 ≤ k) (k2 : k ≤ 40) (hv : Rws w v src) (hn : AllB size src) (r : Nat) (hs : SM.SeedIs k r 5) :
    Calls Tryd.prog 19 #[.int .i64 size, v] w (NoBlock w 5) := by
  have HF : Hid (∀ w, Calls Tryd.prog 10 #[.int .i64 k] w fun e w' => e = .returned (.tuple #[.int .i64 r, .int .i64 (5 : Nat)]) ∧ w.Extends w') := fun w =>
    (refSeed_some k w k1 k2).mono fun e w' ⟨r', er', he, hr', hx⟩ => by
      obtain ⟨rfl, rfl⟩ := hs.uniq hr'
      exact ⟨he, hx⟩
  have HN := Lib.hid hn
  have HK := Lib.hid hk
  obtain ⟨a, cap, rfl, _⟩ := hv.slice
  have HV := Lib.hid hv.at.2
  rw [hk] at HV ⊢
  clear hk hv hn hs
  go_enter Tryd.func19, Tryd.ntmps19
  go_wp2_with fail
  go_loopw [7] (fun i wr => ∃ m : Nat, m ≤ k ∧ i = .int .i64 m ∧ Hid (w.Extends wr)) (fun i _ => (k - intOf i).toNat)
  case atStart => exact ⟨0, by omega, rfl, Lib.hid (Gr.ext_refl _)⟩
  case round =>
    obtain ⟨m, hm, rfl, HX⟩ := hrel
    by_cases h5 : m < k
    · obtain ⟨b1, o1, rfl, hb1, hc1⟩ := HV.out (by omega)
      obtain ⟨ra, rc, hc3, hr0⟩ := hc1 m h5
      have hc2 := HX.out.cell_of hc3
      clear hc1 hc3 hr0
      have h6 := HN.out m (by rw [HK.out]; exact h5)
      generalize (src.getD m []).length = r at *
      have hne : ((r : Int) != size) = false := by simpa using h6
      clear h6
      go_wp2
      go_roundw
      case rel => exact ⟨m + 1, by omega, by go_num, HX⟩
      case measure => simp [intOf]; omega
    · obtain rfl : m = k := by omega
      go_wp2_with fail
      refine (HF.out wr).mono ?_
      rintro e w4 ⟨rfl, hx4⟩
      have HP : Hid (NoBlock w 5 (.returned (.tuple #[.pointer none, .int .i64 5])) w4) := ⟨rfl, Gr.ext_trans HX.out hx4⟩
      clear hx4
      go_wp2
      go_returns
      exact HP.out
set_option maxHeartbeats 2000000 in
set_option maxRecDepth 100000 in
theorem refNew_some (size : Nat) (v : Value) (src : List (List Nat)) (k : Nat) (w : World) (h1 : 1 ≤ size) (h2 : size ≤ 64) (hk : src.length = k) (k1 : 1 ≤ k) (k2 : k ≤ 40) (hv : Rws w v src) (hn : AllB size src) (j : Nat) (hs : SM.SeedIs k j 0) (c : List (List Nat)) (hc : BM.PartsIs k j size src c) :
    Calls Tryd.prog 19 #[.int .i64 size, v] w (RNew w k j size c) := by
  have hj := hs.lt
  have hg : SM.Good k j := by
    rcases hs with ⟨_, _, h, _⟩ | ⟨h, _⟩
    · exact h
    · cases h
  have hl49 := PM.l_le k k2
  have hl1 : 1 ≤ PM.l k := by unfold PM.l; omega
  have hlt := hv.all_lt
  have HF : Hid (∀ w, Calls Tryd.prog 10 #[.int .i64 k] w fun e w' => e = .returned (.tuple #[.int .i64 j, .int .i64 (0 : Nat)]) ∧ w.Extends w') := fun w =>
    (refSeed_some k w k1 k2).mono fun e w' ⟨r', er', he, hr', hx⟩ => by
      obtain ⟨rfl, rfl⟩ := hs.uniq hr'
      exact ⟨he, hx⟩
  have HL := Lib.hid (fun w => refL_any k w (by omega))
  have HI := Lib.hid (fun w => refFirst_any k w (by omega))
  have HM := Lib.hid (fun v w hv => refMat_of k j v w k1 k2 (by omega) hv)
  have HZ := Lib.hid (fun v w hv => refZero_any k size v src w k2 (by omega) (by omega) hv)
  have HS : Hid (∀ u v w, Rws w u (SM.rows k j) → Rws w v (BM.mixed0 k size src) → Calls Tryd.prog 42 #[.int .i64 (PM.l k), .int .i64 size, u, v] w fun e w' => ∃ x, e = .returned (.tuple #[x, .int .i64 ((0 : Nat) : Int)]) ∧ w.Extends w' ∧ Rws w' x c) := fun u v w hu hv => by
    have hlen : (SM.rows k j).length = PM.l k := BM.rows_l k j
    have hml : (BM.mixed0 k size src).length = PM.s k + 2 + src.length := by simp [BM.mixed0]
    refine (rsolve_good (PM.l k) size u v (SM.rows k j) (BM.mixed0 k size src) w hu hv hl1 (by omega) h1 (by omega) (by rw [hml, hk, hlen]; unfold PM.l PM.w; omega) (by omega)).mono fun e w' ⟨res, x, hres, he, hb, hr⟩ => ?_
    rw [hlen, BM.F_mixed0] at hres
    obtain ⟨c', rfl, hc'⟩ := BM.res_some hg hlt hres
    rw [BM.PartsIs.uniq hlt hc hc']
    exact ⟨x, he, Gr.ext_of hb, hr⟩
  have HOUT : Hid (∀ b v (w' : World), w.Extends w' → RAt w' b k j size v → Rws w' v c → RNew w k j size c (.returned (.tuple #[.pointer (some ⟨b, 0, none⟩), .int .i64 0])) w') := fun b v w' hx hb hr => ⟨b, v, rfl, hx, hb, hr⟩
  have HN := Lib.hid hn
  have HK := Lib.hid hk
  have HRV := Lib.hid hv
  obtain ⟨a, cap, rfl, _⟩ := hv.slice
  have HV := Lib.hid hv.at.2
  rw [hk] at HV HRV ⊢
  clear hk hv hn hs hc hg hlt
  generalize SM.rows k j = rs at *
  generalize BM.mixed0 k size src = mx at *
  generalize PM.l k = L at *
  go_enter Tryd.func19, Tryd.ntmps19
  go_wp2_with fail
  go_loopw [7] (fun i wr => ∃ m : Nat, m ≤ k ∧ i = .int .i64 m ∧ Hid (w.Extends wr)) (fun i _ => (k - intOf i).toNat)
  case atStart => exact ⟨0, by omega, rfl, Lib.hid (Gr.ext_refl _)⟩
  case round =>
    obtain ⟨m, hm, rfl, HX⟩ := hrel
    by_cases h5 : m < k
    · obtain ⟨b1, o1, rfl, hb1, hc1⟩ := HV.out (by omega)
      obtain ⟨ra, rc, hc3, hr0⟩ := hc1 m h5
      have hc2 := HX.out.cell_of hc3
      clear hc1 hc3 hr0
      have h6 := HN.out m (by rw [HK.out]; exact h5)
      generalize (src.getD m []).length = r at *
      have hne : ((r : Int) != (size : Int)) = false := by simpa using h6
      clear h6
      go_wp2
      go_roundw
      case rel => exact ⟨m + 1, by omega, by go_num, HX⟩
      case measure => simp [intOf]; omega
    · obtain rfl : m = k := by omega
      go_wp2_with fail
      refine (HF.out wr).mono ?_
      rintro e w4 ⟨rfl, hx4⟩
      have HX4 := Lib.hid (Gr.ext_trans HX.out hx4)
      clear hx4 HX
      go_wp2_with fail
      refine (HL.out w4).mono ?_
      rintro e w' ⟨rfl, rfl⟩
      go_wp2_with fail
      refine (HI.out w4).mono ?_
      rintro e w5 ⟨vi, rfl, hx5, hvi⟩
      have HX5 := Lib.hid (Gr.ext_trans HX4.out hx5)
      have HVI := Lib.hid hvi
      clear hx5 hvi HX4
      go_wp2_with fail
      refine (HM.out vi w5 HVI.out).mono ?_
      rintro e w6 ⟨um, rfl, hx6, hum⟩
      have HX6 := Lib.hid (Gr.ext_trans HX5.out hx6)
      have HUM := Lib.hid hum
      clear hx6 hum HX5 HVI
      go_wp2_with fail
      refine (HZ.out _ w6 (HRV.out.ext HX6.out)).mono ?_
      rintro e w7 ⟨uz, rfl, hx7, huz⟩
      have HX7 := Lib.hid (Gr.ext_trans HX6.out hx7)
      have HUM7 := Lib.hid (HUM.out.ext hx7)
      have HUZ := Lib.hid huz
      clear hx7 huz HX6 HUM
      go_wp2_with fail
      refine (HS.out um uz w7 HUM7.out HUZ.out).mono ?_
      rintro e w8 ⟨x8, rfl, hx8, hr8⟩
      have HX8 := Lib.hid (Gr.ext_trans HX7.out hx8)
      have HR8 := Lib.hid hr8
      obtain ⟨ua, uc, rfl, _⟩ := hr8.slice
      clear hx8 hr8 HX7 HUM7 HUZ
      go_wp2_with fail
      generalize hw9 : World.alloc w8 _ = w9
      have hx9 : w8.Extends w9 := by subst hw9; exact prm_ext_alloc _ _
      have HP := Lib.hid (HOUT.out w8.heap.size _ w9 (Gr.ext_trans HX8.out hx9) (by subst hw9; exact RAt.new w8 56 m j size _) (HR8.out.ext hx9))
      clear hw9 hx9
      go_returns
      exact HP.out
end Go.Proofs.YtbaeieloncmiaaaDoor
/- The eighth law's alive. -/
namespace Go.Proofs.YtbaeieloncmiaaaDoor
set_option maxRecDepth 20000
open Go.RowKit Go.Deep
set_option linter.unusedVariables false
theorem mkLists (k : Nat) (hk : k ≤ 1000) (w : World) : (Instr.makeSlice 33 (.int .i64 (k : Int)) (.int .i64 (k : Int))).run Tryd.prog w = .ok (.slice (some ⟨w.heap.size, 0, none⟩) k k) (w.alloc (.cells (madeCells #[.slice none 0 0] k) 45)) :=
  run_make_row' (P := Tryd.prog) 33 45 (.slice none 0 0) 24 Tryd.underlying33 bytesinfo rfl .i64 .i64 k (by omega) (by omega) w
theorem nils_at (n k : Nat) : (List.replicate n ([] : List Nat)).getD k [] = [] := by
  rw [List.getD_eq_getElem?_getD, List.getElem?_replicate]; split <;> rfl
theorem nils_rws (w : World) (T : TypeId) (n : Nat) (hn : n ≤ 1000) : Rws (w.alloc (.cells (madeCells #[.slice none 0 0] n) T)) (.slice (some ⟨w.heap.size, 0, none⟩) n n) (List.replicate n []) := by
  have h := World.rowIs_made w (.slice none 0 0) n T
  refine .inr ⟨w.heap.size, 0, n, by rw [List.length_replicate], by rw [List.length_replicate]; exact Nat.le_refl _, by unfold maxLen; omega, by simp, fun k hk => ⟨.slice none 0 0, ?_, ?_⟩⟩
  · rw [List.length_replicate] at hk
    rw [Nat.zero_add]
    exact h.cell hk
  · rw [List.length_replicate] at hk
    rw [show (List.replicate n ([] : List Nat)).getD k [] = [] by simp [hk]]
    exact nil_u8s _ _ _
end Go.Proofs.YtbaeieloncmiaaaDoor
/- The first statement's function answers true. -/
namespace Go.Proofs.YtbaeieloncmiaaaDoor
set_option maxRecDepth 20000
open Go.RowKit Go.Deep
set_option linter.unusedVariables false
theorem conv_drow {w : World} {v : Value} {xs : List Nat} (h : U8s w v xs) : (convert 46 9 v).run Tryd.prog w = .ok (.string (strOf xs)) w := conv_any h _ _ _ Tryd.underlying46 Tryd.underlying5 Tryd.underlying9
end Go.Proofs.YtbaeieloncmiaaaDoor
/- What both programs answer of any size and rows; the tenth law's alive. -/
namespace Go.Proofs.YtbaeieloncmiaaaDoor
set_option maxRecDepth 20000
open Go.RowKit Go.Deep
set_option linter.unusedVariables false
/-- A block there is. -/
structure B10 (size : Int) (src : List (List Nat)) (k j sz : Nat) (c : List (List Nat)) : Prop where
  hs : size = (sz : Int)
  s1 : 1 ≤ sz
  s2 : sz ≤ 64
  hk : src.length = k
  k1 : 1 ≤ k
  k2 : k ≤ 40
  all : AllB size src
  seed : SM.SeedIs k j 0
  parts : BM.PartsIs k j sz src c
theorem B10.j {size : Int} {src c : List (List Nat)} {k j sz : Nat} (h : B10 size src k j sz c) : j ≤ 255 := by have := h.seed.lt; omega
theorem B10.len {size : Int} {src c : List (List Nat)} {k j sz : Nat} (h : B10 size src k j sz c) : c.length = PM.l k := h.parts.len
theorem B10.new {size : Int} {src c : List (List Nat)} {k j sz : Nat} (h : B10 size src k j sz c) (v : Value) (w : World) (hv : Rws w v src) (hT : Tab w) :
    Calls Tryd.prog 17 #[.int .i64 size, v] w (BNew w k j sz c) := by
  rw [h.hs]; exact new_some sz v src k w h.s1 h.s2 h.hk h.k1 h.k2 hv (h.hs ▸ h.all) hT j h.seed c h.parts
theorem B10.refNew {size : Int} {src c : List (List Nat)} {k j sz : Nat} (h : B10 size src k j sz c) (v : Value) (w : World) (hv : Rws w v src) :
    Calls Tryd.prog 19 #[.int .i64 size, v] w (RNew w k j sz c) := by
  rw [h.hs]; exact refNew_some sz v src k w h.s1 h.s2 h.hk h.k1 h.k2 hv (h.hs ▸ h.all) j h.seed c h.parts
theorem B10.symbol {size : Int} {src c : List (List Nat)} {k j sz : Nat} (h : B10 size src k j sz c) (b : Nat) (esi : Int) (v : Value) (w : World) (hb : BAt w b k (PM.s k) 2 j sz v) (hv : Rws w v c) (hT : Tab w) :
    Calls Tryd.prog 21 #[.pointer (some ⟨b, 0, none⟩), .int .i64 esi] w (SymOut w (symOf k j sz c esi) (symErr esi)) :=
  symbol_any b k j sz esi v c w h.k1 h.k2 h.j h.s1 h.s2 h.len hb hv hT
theorem B10.refSymbol {size : Int} {src c : List (List Nat)} {k j sz : Nat} (h : B10 size src k j sz c) (b : Nat) (esi : Int) (v : Value) (w : World) (hb : RAt w b k j sz v) (hv : Rws w v c) :
    Calls Tryd.prog 22 #[.pointer (some ⟨b, 0, none⟩), .int .i64 esi] w (SymOut w (symOf k j sz c esi) (symErr esi)) :=
  refSymbol_any b k j sz esi v c w h.k1 h.k2 h.j h.s1 h.s2 h.len hb hv
/-- No block, in both programs. -/
structure N10 (size : Int) (src : List (List Nat)) (err : Int) : Prop where
  new : ∀ v w, Rws w v src → Tab w → Calls Tryd.prog 17 #[.int .i64 size, v] w (NoBlock w err)
  refNew : ∀ v w, Rws w v src → Calls Tryd.prog 19 #[.int .i64 size, v] w (NoBlock w err)
/-- Where sizes and number are right: a block, or none for a row's size, or for the seed. -/
theorem asked10_fit (sz : Nat) (src : List (List Nat)) (hlt : ∀ r ∈ src, ∀ x ∈ r, x < 256) (s1 : 1 ≤ sz) (s2 : sz ≤ 64) (k1 : 1 ≤ src.length) (k2 : src.length ≤ 40) :
    (¬ AllB sz src ∧ N10 sz src 10) ∨ (AllB sz src ∧ (N10 sz src 5 ∧ SM.SeedIs src.length 0 5 ∨ ∃ j c, B10 sz src src.length j sz c)) := by
  by_cases ha : AllB sz src
  · refine .inr ⟨ha, ?_⟩
    obtain ⟨r, er, hr⟩ := seed_exists src.length
    rcases seed5 hr with rfl | rfl
    · have hg : SM.Good src.length r := by
        rcases hr with ⟨_, _, h, _⟩ | ⟨h, _⟩
        · exact h
        · cases h
      obtain ⟨c, hc⟩ := BM.parts_exist sz hg hlt
      exact .inr ⟨r, c, ⟨rfl, s1, s2, rfl, k1, k2, ha, hr, hc⟩⟩
    · obtain rfl : r = 0 := by
        rcases hr with ⟨h, _⟩ | ⟨_, h, _⟩
        · cases h
        · exact h
      exact .inl ⟨⟨fun v w hv hT => new_none sz v src _ w (by omega) (by omega) rfl k1 k2 hv ha hT 0 hr, fun v w hv => refNew_none sz v src _ w (by omega) (by omega) rfl k1 k2 hv ha 0 hr⟩, hr⟩
  · exact .inl ⟨ha, ⟨fun v w hv hT => new_rows sz v src _ w (by omega) (by omega) rfl k1 k2 hv ha, fun v w hv => refNew_rows sz v src _ w (by omega) (by omega) rfl k1 k2 hv ha⟩⟩
theorem asked10 (size : Int) (src : List (List Nat)) (hlt : ∀ r ∈ src, ∀ x ∈ r, x < 256) : (∃ err : Int, (err = 1 ∨ err = 5 ∨ err = 10) ∧ N10 size src err) ∨ ∃ k j sz c, B10 size src k j sz c := by
  by_cases hb : size < 1 ∨ 64 < size ∨ src.length < 1 ∨ 40 < src.length
  · refine .inl ⟨1, .inl rfl, ⟨fun v w hv hT => ?_, fun v w hv => ?_⟩⟩
    · obtain ⟨a, cap, rfl, _⟩ := hv.slice
      by_cases h1 : size < 1 ∨ 64 < size
      · exact new_size size _ w h1
      · exact new_count size a _ cap w (by omega) (by omega) (by omega)
    · have hm := hv.len
      obtain ⟨a, cap, rfl, _⟩ := hv.slice
      exact refNew_bad size a _ cap w hm hb
  · obtain ⟨sz, rfl⟩ := Int.eq_ofNat_of_zero_le (show 0 ≤ size by omega)
    rcases asked10_fit sz src hlt (by omega) (by omega) (by omega) (by omega) with ⟨_, h⟩ | ⟨_, ⟨h, _⟩ | ⟨j, c, h⟩⟩
    · exact .inl ⟨10, .inr (.inr rfl), h⟩
    · exact .inl ⟨5, .inr (.inl rfl), h⟩
    · exact .inr ⟨_, j, sz, c, h⟩
theorem num10_any (n : Int) (w : World) : Calls Tryd.prog 20 #[.int .i64 n] w fun e w' => e = .returned (.int .i64 n) ∧ w = w' := by
  go_enter Tryd.func20, Tryd.ntmps20
  go_wp2
  go_ret
  exact ⟨rfl, rfl⟩
theorem ab_lt : ∀ r ∈ ([[97, 98]] : List (List Nat)), ∀ x ∈ r, x < 256 := by decide
theorem ab_all : AllB 2 [[97, 98]] := fun k hk => by
  obtain rfl : k = 0 := by simp at hk; omega
  rfl
theorem ab_block : ∃ c, B10 2 [[97, 98]] 1 0 2 c ∧ symOf 1 0 2 c 0 = [97, 98] := by
  obtain ⟨r, er, hr⟩ := seed_exists 1
  obtain ⟨rfl, rfl⟩ := hr.of_good SM.good_one
  obtain ⟨c, hc⟩ := BM.parts_exist 2 SM.good_one ab_lt
  have hsrc := hc.source 0 (by omega) rfl
  refine ⟨c, ⟨rfl, by omega, by omega, rfl, by omega, by omega, ab_all, hr, hc⟩, ?_⟩
  unfold symOf
  rw [if_pos (by decide), show (0 : Int).toNat = 0 from rfl, hsrc]
  rfl
/-- A literal row that bears the mark of a string's bytes. -/
theorem u8s_mark (W : World) (s n : Nat) (T : TypeId) (cs : Array Value) (f : Nat × Nat) (xs : List Nat) (hs : s = W.heap.size) (hn : n = xs.length) (hc : cs = (xs.map fun (x : Nat) => Value.int .u8 (x : Int)).toArray) (hm : xs.length ≤ maxLen) (hl : ∀ x ∈ xs, x < 256) :
    U8s (W.alloc (.cells cs T f)) (.slice (some ⟨s, 0, none⟩) n n) xs := by
  subst hs; subst hn; subst hc
  refine .inr ⟨W.heap.size, 0, xs.length, rfl, Nat.le_refl _, hm, by simp, fun k hk => ?_, hl⟩
  have := cell_of_row (W.alloc (.cells (xs.map fun (x : Nat) => Value.int .u8 (x : Int)).toArray T f)) W.heap.size k _ T f (heap_alloc_new W _)
  rw [Nat.zero_add, this]
  simp [hk]
set_option maxHeartbeats 1000000 in
theorem alive10_any (w : World) (hT : Tab w) : Calls Tryd.prog 15 #[] w fun e w' => e = .returned (.bool true) ∧ w.Extends w' := by
  obtain ⟨c, hb, hsym⟩ := ab_block
  have H0 := Lib.hid (fun w => new_count 1 none 0 0 w (by omega) (by omega) (by omega))
  have H1 : Hid (∀ v w, Rws w v [[97, 98]] → Tab w → Calls Tryd.prog 17 #[.int .i64 2, v] w fun e w' => ∃ b v, e = .returned (.tuple #[.pointer (some ⟨b, 0, none⟩), .int .i64 0]) ∧ w.Extends w' ∧ BAt w' b 1 2 2 0 2 v ∧ Rws w' v c) := fun v w hv hT => hb.new v w hv hT
  have H2 : Hid (∀ b v w, BAt w b 1 2 2 0 2 v → Rws w v c → Tab w → Calls Tryd.prog 21 #[.pointer (some ⟨b, 0, none⟩), .int .i64 0] w (SymOut w [97, 98] 0)) := fun b v w hp hv hT => by
    have := hb.symbol b 0 v w hp hv hT
    rw [hsym] at this
    exact this
  have H3 : Hid (∀ w, Calls Tryd.prog 25 #[PV 1 2 2] w fun e w' => e = .returned (.int .i64 5) ∧ w.Extends w') := fun w => prmL_any 1 2 2 w (by omega) (by omega)
  have kc := fun (w : World) (C : Array Value) (n c : Nat) => Lib.run_convert_bytes_const (P := Tryd.prog) w 45 5 C n c Tryd.underlying45 Tryd.underlying5
  have HT := Lib.hid hT
  clear hT hb hsym
  go_enter Tryd.func15, Tryd.ntmps15
  go_wp2_with fail
  refine (H0.out w).mono ?_
  rintro e w1 ⟨rfl, hx1⟩
  have HX1 := Lib.hid hx1
  clear hx1 H0
  go_wp2_with fail
  generalize hw2 : World.alloc w1 _ = w2
  generalize hw3 : World.alloc w2 _ = w3
  have hu2 : U8s w2 (.slice (some ⟨w1.heap.size, 0, none⟩) 2 2) [97, 98] := by subst hw2; exact u8s_mark w1 _ 2 _ _ _ _ rfl rfl rfl (by decide) (by decide)
  have hs2 : w1.heap.size + 1 = w2.heap.size := by subst hw2; simp
  have hr3 : Rws w3 (.slice (some ⟨w1.heap.size + 1, 0, none⟩) 1 1) [[97, 98]] := by subst hw3; exact rws_one w2 _ _ _ _ hu2 hs2
  have hx3 : w1.Extends w3 := by subst hw3; subst hw2; exact Gr.ext_trans (ext_alloc _ _) (ext_alloc _ _)
  clear hw2 hw3 hu2 hs2 kc
  have HX3 := Lib.hid (Gr.ext_trans HX1.out hx3)
  have HR3 := Lib.hid hr3
  clear hx3 hr3 HX1
  refine (H1.out _ w3 HR3.out (HT.out.ext HX3.out)).mono ?_
  rintro e w4 ⟨b, v, rfl, hx4, hb4, hv4⟩
  have HX4 := Lib.hid (Gr.ext_trans HX3.out hx4)
  have HB4 := Lib.hid hb4
  have HV4 := Lib.hid hv4
  clear hx4 hb4 hv4 HX3 HR3 H1
  go_wp2_with fail
  refine (num10_any _ w4).mono ?_
  rintro e w' ⟨rfl, rfl⟩
  go_wp2_with fail
  refine (num10_any _ w4).mono ?_
  rintro e w' ⟨rfl, rfl⟩
  go_wp2_with fail
  refine (H2.out b v w4 HB4.out HV4.out (HT.out.ext HX4.out)).mono ?_
  rintro e w5 ⟨u, rfl, hx5, hu5⟩
  have HX5 := Lib.hid (Gr.ext_trans HX4.out hx5)
  have HB5 := Lib.hid (HB4.out.ext hx5)
  have hcv := conv_drow hu5.1
  rw [show strOf [97, 98] = { data := #[97, 98] } from rfl] at hcv
  obtain ⟨p0, p1, p2, p3, p4, p5⟩ := HB5.out
  clear hx5 hu5 HX4 HB4 HV4 H2
  go_wp2_with fail
  refine (num10_any _ w5).mono ?_
  rintro e w' ⟨rfl, rfl⟩
  go_wp2_with fail
  refine (H3.out w5).mono ?_
  rintro e w6 ⟨rfl, hx6⟩
  have HX6 := Lib.hid (Gr.ext_trans HX5.out hx6)
  have HB6 := Lib.hid (HB5.out.ext hx6)
  clear hx6 HX5 HB5 p0 p1 p2 p3 p4 p5 hcv
  go_wp2_with fail
  refine (size_any b _ _ _ _ _ _ w6 HB6.out).mono ?_
  rintro e w' ⟨rfl, rfl⟩
  go_wp2
  go_ret
  exact ⟨rfl, HX6.out⟩
end Go.Proofs.YtbaeieloncmiaaaDoor
/- BlockTells' function answers true. -/
namespace Go.Proofs.YtbaeieloncmiaaaDoor
set_option maxRecDepth 20000
open Go.RowKit Go.Deep
set_option linter.unusedVariables false
theorem tells10_many (size esi : Int) (a : Option Addr) (n cap : Nat) (w : World) (hT : Tab w) (hn : 45 < n) (hm : n ≤ maxLen) :
    Calls Tryd.prog 5 #[.int .i64 size, .slice a n cap, .int .i64 esi] w fun e w' => e = .returned (.bool true) ∧ w.Extends w' := by
  have HA := Lib.hid (alive10_any w hT)
  unfold maxLen at hm
  clear hT
  go_enter Tryd.func5, Tryd.ntmps5
  go_wp2_with fail
  refine HA.out.mono ?_
  rintro e w1 ⟨rfl, hx1⟩
  have HX1 := Lib.hid hx1
  clear hx1
  go_wp2
  go_ret
  exact ⟨rfl, HX1.out⟩
theorem tells10_few (size esi : Int) (v : Value) (src : List (List Nat)) (w : World) (hT : Tab w) (hv : Rws w v src) (hml : ∀ k, (src.getD k []).length ≤ 140737488351232) (hn : src.length ≤ 45) (hf : few src = false) :
    Calls Tryd.prog 5 #[.int .i64 size, v, .int .i64 esi] w fun e w' => e = .returned (.bool true) ∧ w.Extends w' := by
  have HA := Lib.hid (alive10_any w hT)
  have HF := Lib.hid (fun w hv => few_any v src w hv hml)
  rw [hf] at HF
  have HV := Lib.hid hv
  obtain ⟨a, cap, rfl, _⟩ := hv.slice
  clear hT hv hml hf
  generalize src.length = n at *
  go_enter Tryd.func5, Tryd.ntmps5
  go_wp2_with fail
  refine HA.out.mono ?_
  rintro e w1 ⟨rfl, hx1⟩
  have HX1 := Lib.hid hx1
  clear hx1
  go_wp2_with fail
  refine (HF.out w1 (HV.out.ext HX1.out)).mono ?_
  rintro e w2 ⟨rfl, hb2⟩
  have HX2 := Lib.hid (Gr.ext_trans HX1.out (Gr.ext_of hb2))
  clear hb2
  go_wp2
  go_ret
  exact ⟨rfl, HX2.out⟩
set_option maxHeartbeats 1000000 in
theorem tells10_no (size esi : Int) (v : Value) (src : List (List Nat)) (w : World) (hT : Tab w) (hv : Rws w v src) (hml : ∀ k, (src.getD k []).length ≤ 140737488351232) (hn : src.length ≤ 45) (hf : few src = true) (err : Int) (he : err = 1 ∨ err = 5 ∨ err = 10) (ha : N10 size src err) :
    Calls Tryd.prog 5 #[.int .i64 size, v, .int .i64 esi] w fun e w' => e = .returned (.bool true) ∧ w.Extends w' := by
  have HA := Lib.hid (alive10_any w hT)
  have HF := Lib.hid (fun w hv => few_any v src w hv hml)
  rw [hf] at HF
  have hfy := (few_yes src hf).2
  have HTO := Lib.hid (fun w hv => to_any v src w hv (by omega) (fun k => by have := hfy k; omega))
  have HN := Lib.hid ha
  have HT := Lib.hid hT
  have HV := Lib.hid hv
  have he0 : (err != 0) = true := by rcases he with rfl | rfl | rfl <;> rfl
  obtain ⟨a, cap, rfl, _⟩ := hv.slice
  clear hT hv hml hf ha hfy
  generalize src.length = n at *
  go_enter Tryd.func5, Tryd.ntmps5
  go_wp2_with fail
  refine HA.out.mono ?_
  rintro e w1 ⟨rfl, hx1⟩
  have HX1 := Lib.hid hx1
  clear hx1
  go_wp2_with fail
  refine (HF.out w1 (HV.out.ext HX1.out)).mono ?_
  rintro e w2 ⟨rfl, hb2⟩
  have HX2 := Lib.hid (Gr.ext_trans HX1.out (Gr.ext_of hb2))
  clear hb2 HX1
  go_wp2_with fail
  refine (HTO.out w2 (HV.out.ext HX2.out)).mono ?_
  rintro e w3 ⟨vr, rfl, hb3, hr3, _⟩
  have HX3 := Lib.hid (Gr.ext_trans HX2.out (Gr.ext_of hb3))
  have HR3 := Lib.hid hr3
  clear hb3 hr3 HX2
  go_wp2_with fail
  refine (HN.out.new vr w3 HR3.out (HT.out.ext HX3.out)).mono ?_
  rintro e w4 ⟨rfl, hx4⟩
  have HX4 := Lib.hid (Gr.ext_trans HX3.out hx4)
  clear hx4 HX3 HR3
  go_wp2_with fail
  refine (HN.out.refNew _ w4 (HV.out.ext HX4.out)).mono ?_
  rintro e w5 ⟨rfl, hx5⟩
  have HX5 := Lib.hid (Gr.ext_trans HX4.out hx5)
  clear hx5 HX4
  go_wp2_with fail
  refine (num10_any err w5).mono ?_
  rintro e w' ⟨rfl, rfl⟩
  go_wp2
  go_ret
  exact ⟨rfl, HX5.out⟩
set_option maxHeartbeats 4000000 in
set_option maxRecDepth 100000 in
theorem tells10_yes (size esi : Int) (v : Value) (src : List (List Nat)) (w : World) (hT : Tab w) (hv : Rws w v src) (hml : ∀ k, (src.getD k []).length ≤ 140737488351232) (hn : src.length ≤ 45) (hf : few src = true) (k j sz : Nat) (c : List (List Nat)) (hb : B10 size src k j sz c) :
    Calls Tryd.prog 5 #[.int .i64 size, v, .int .i64 esi] w fun e w' => e = .returned (.bool true) ∧ w.Extends w' := by
  have HA := Lib.hid (alive10_any w hT)
  have HF := Lib.hid (fun w hv => few_any v src w hv hml)
  rw [hf] at HF
  have hfy := (few_yes src hf).2
  have HTO := Lib.hid (fun w hv => to_any v src w hv (by omega) (fun k => by have := hfy k; omega))
  have HN := Lib.hid hb.new
  have HRN := Lib.hid hb.refNew
  have HSY := Lib.hid (fun b v w => hb.symbol b esi v w)
  have HRS := Lib.hid (fun b v w => hb.refSymbol b esi v w)
  have hk2 := hb.k2
  have hs7 := PM.s_le k hk2
  have HW : Hid (∀ w, Calls Tryd.prog 23 #[PV k (PM.s k) 2] w fun e w' => e = .returned (.int .i64 (PM.w k)) ∧ w.Extends w') := fun w => by
    have := prmW_any k (PM.s k) 2 w (by omega)
    rwa [show (k : Int) + (PM.s k : Int) = (PM.w k : Int) by unfold PM.w; omega] at this
  have HL : Hid (∀ w, Calls Tryd.prog 25 #[PV k (PM.s k) 2] w fun e w' => e = .returned (.int .i64 (PM.l k)) ∧ w.Extends w') := fun w => by
    have := prmL_any k (PM.s k) 2 w (by omega) (by omega)
    rwa [show (k : Int) + (PM.s k : Int) + 2 = (PM.l k : Int) by unfold PM.l PM.w; omega] at this
  have HRW := Lib.hid (fun w => refW_any k w (by omega))
  have HRL := Lib.hid (fun w => refL_any k w (by omega))
  have hsz := hb.hs
  subst hsz
  have HT := Lib.hid hT
  have HV := Lib.hid hv
  obtain ⟨a, cap, rfl, _⟩ := hv.slice
  clear hT hv hml hf hfy hb hk2 hs7
  generalize src.length = n at *
  generalize symOf k j sz c esi = row at *
  generalize symErr esi = er at *
  generalize PM.w k = W at *
  generalize PM.l k = L at *
  go_enter Tryd.func5, Tryd.ntmps5
  go_wp2_with fail
  refine HA.out.mono ?_
  rintro e w1 ⟨rfl, hx1⟩
  have HX1 := Lib.hid hx1
  clear hx1 HA
  go_wp2_with fail
  refine (HF.out w1 (HV.out.ext HX1.out)).mono ?_
  rintro e w2 ⟨rfl, hb2⟩
  have HX2 := Lib.hid (Gr.ext_trans HX1.out (Gr.ext_of hb2))
  clear hb2 HX1 HF
  go_wp2_with fail
  refine (HTO.out w2 (HV.out.ext HX2.out)).mono ?_
  rintro e w3 ⟨vr, rfl, hb3, hr3, _⟩
  have HX3 := Lib.hid (Gr.ext_trans HX2.out (Gr.ext_of hb3))
  have HR3 := Lib.hid hr3
  clear hb3 hr3 HX2 HTO
  go_wp2_with fail
  refine (HN.out vr w3 HR3.out (HT.out.ext HX3.out)).mono ?_
  rintro e w4 ⟨b, vb, rfl, hx4, hb4, hr4⟩
  have HX4 := Lib.hid (Gr.ext_trans HX3.out hx4)
  have HB4 := Lib.hid hb4
  have HV4 := Lib.hid hr4
  clear hx4 hb4 hr4 HX3 HR3 HN
  go_wp2_with fail
  refine (HRN.out _ w4 (HV.out.ext HX4.out)).mono ?_
  rintro e w5 ⟨rb, vrb, rfl, hx5, hb5, hr5⟩
  have HX5 := Lib.hid (Gr.ext_trans HX4.out hx5)
  have HB5 := Lib.hid (HB4.out.ext hx5)
  have HV5 := Lib.hid (HV4.out.ext hx5)
  have HRB5 := Lib.hid hb5
  have HRV5 := Lib.hid hr5
  clear hx5 hb5 hr5 HX4 HB4 HV4 HRN
  go_wp2_with fail
  refine (num10_any _ w5).mono ?_
  rintro e w' ⟨rfl, rfl⟩
  go_wp2_with fail
  refine (HSY.out b vb w5 HB5.out HV5.out (HT.out.ext HX5.out)).mono ?_
  rintro e w6 ⟨u6, rfl, hx6, hu6⟩
  have HX6 := Lib.hid (Gr.ext_trans HX5.out hx6)
  have HB6 := Lib.hid (HB5.out.ext hx6)
  have HRB6 := Lib.hid (HRB5.out.ext hx6)
  have HRV6 := Lib.hid (HRV5.out.ext hx6)
  have HU6 := Lib.hid hu6.1
  obtain ⟨au6, cu6, rfl, _⟩ := hu6.1.slice
  clear hx6 hu6 HX5 HB5 HRB5 HRV5 HV5 HSY
  go_wp2_with fail
  refine (HRS.out rb vrb w6 HRB6.out HRV6.out).mono ?_
  rintro e w7 ⟨u7, rfl, hx7, hu7⟩
  have HX7 := Lib.hid (Gr.ext_drew (Gr.ext_trans HX6.out hx7))
  have HB7 := Lib.hid ((HB6.out.ext hx7).ext (Gr.ext_drew (Gr.ext_refl w7)))
  have HRB7 := Lib.hid ((HRB6.out.ext hx7).ext (Gr.ext_drew (Gr.ext_refl w7)))
  have HU7 := Lib.hid ((HU6.out.ext hx7).ext (Gr.ext_drew (Gr.ext_refl w7)))
  have HY7 := Lib.hid (hu7.1.ext (Gr.ext_drew (Gr.ext_refl w7)))
  obtain ⟨au7, cu7, rfl, _⟩ := hu7.1.slice
  clear hx7 hu7 HX6 HB6 HRB6 HRV6 HU6 HRS
  go_wp2_with fail
  refine Gr.region 55 [(false,0),(false,1),(false,2),(false,3),(false,4),(false,5),(false,6),(false,8),(true,7),(false,9),(false,10),(false,11),(false,12),(false,13),(false,14),(false,15),(false,16),(false,17),(false,18),(false,19),(false,20),(false,21),(false,22),(false,23),(false,24),(false,25),(false,26),(false,27),(false,29),(false,30),(false,31),(false,32),(true,28),(true,33),(false,34),(false,35),(false,36),(false,37),(false,38),(false,39),(false,40),(false,42),(false,43),(false,44),(false,45),(true,41),(true,46),(false,47),(false,48),(false,49),(false,50),(false,52),(true,51),(false,53),(false,54)] (by kernel_rfl) (by kernel_rfl) (fun d _ _ _ _ h => by cases d <;> exact h) ?_
  simp only [Gr.pick, List.getElem?_cons_zero, List.getElem?_cons_succ, List.drop_succ_cons, List.drop_zero]
  generalize w7.drew = w8 at *
  iterate 8
    refine Gr.walk_t ?_ (Or.inl ⟨by rfl, ?_⟩) ?_
    rotate_left
    · intro w' hw'
      have hv1 := conv_drow (HU7.out.ext hw')
      have hv2 := conv_b (HY7.out.ext hw')
      clear hw'
      go_simp
      try with_reducible rfl
    simp only [Act.put, List.setIfInBounds_toArray, List.set_cons_zero, List.set_cons_succ]
  refine Gr.walk_c (fun K hK => ?_)
  go_simp
  refine (num10_any er w8).mono ?_
  rintro e w' ⟨rfl, rfl⟩
  try go_simp
  refine hK.out _ _ (Gr.ext_refl _) ?_
  clear hK K
  clear HU7 HY7
  iterate 23
    refine Gr.walk_t ?_ (Or.inl ⟨by rfl, ?_⟩) ?_
    rotate_left
    · intro w' hw'
      obtain ⟨p0, p1, p2, p3, p4, p5⟩ := HB7.out.ext hw'
      obtain ⟨q0, q1, q2, q3⟩ := HRB7.out.ext hw'
      clear hw'
      go_simp
      try with_reducible rfl
    simp only [Act.put, List.setIfInBounds_toArray, List.set_cons_zero, List.set_cons_succ]
  refine Gr.walk_c (fun K hK => ?_)
  go_simp
  refine (HW.out w8).mono ?_
  rintro e w9 ⟨rfl, hx9⟩
  have HX9 := Lib.hid (Gr.ext_trans HX7.out hx9)
  have HB9 := Lib.hid (HB7.out.ext hx9)
  have HRB9 := Lib.hid (HRB7.out.ext hx9)
  try go_simp
  refine hK.out _ _ (hx9) ?_
  clear hK K
  clear hx9 HX7 HB7 HRB7 HW
  refine Gr.walk_c (fun K hK => ?_)
  go_simp
  refine (HRW.out w9).mono ?_
  rintro e w' ⟨rfl, rfl⟩
  try go_simp
  refine hK.out _ _ (Gr.ext_refl _) ?_
  clear hK K
  clear HRW
  iterate 11
    refine Gr.walk_t ?_ (Or.inl ⟨by rfl, ?_⟩) ?_
    rotate_left
    · intro w' hw'
      obtain ⟨p0, p1, p2, p3, p4, p5⟩ := HB9.out.ext hw'
      obtain ⟨q0, q1, q2, q3⟩ := HRB9.out.ext hw'
      clear hw'
      go_simp
      try with_reducible rfl
    simp only [Act.put, List.setIfInBounds_toArray, List.set_cons_zero, List.set_cons_succ]
  refine Gr.walk_c (fun K hK => ?_)
  go_simp
  refine (HL.out w9).mono ?_
  rintro e w10 ⟨rfl, hx10⟩
  have HX10 := Lib.hid (Gr.ext_trans HX9.out hx10)
  have HB10 := Lib.hid (HB9.out.ext hx10)
  try go_simp
  refine hK.out _ _ (hx10) ?_
  clear hK K
  clear hx10 HX9 HB9 HRB9 HL
  refine Gr.walk_c (fun K hK => ?_)
  go_simp
  refine (HRL.out w10).mono ?_
  rintro e w' ⟨rfl, rfl⟩
  try go_simp
  refine hK.out _ _ (Gr.ext_refl _) ?_
  clear hK K
  clear HRL
  iterate 5
    refine Gr.walk_t ?_ (Or.inl ⟨by rfl, ?_⟩) ?_
    rotate_left
    · intro w' hw'
      clear hw'
      go_simp
      try with_reducible rfl
    simp only [Act.put, List.setIfInBounds_toArray, List.set_cons_zero, List.set_cons_succ]
  refine Gr.walk_c (fun K hK => ?_)
  go_simp
  refine (size_any b _ _ _ _ _ _ w10 HB10.out).mono ?_
  rintro e w' ⟨rfl, rfl⟩
  try go_simp
  refine hK.out _ _ (Gr.ext_refl _) ?_
  clear hK K
  iterate 2
    refine Gr.walk_t ?_ (Or.inl ⟨by rfl, ?_⟩) ?_
    rotate_left
    · intro w' hw'
      clear hw'
      go_simp
      try with_reducible rfl
    simp only [Act.put, List.setIfInBounds_toArray, List.set_cons_zero, List.set_cons_succ]
  refine Gr.walk_nil ?_
  go_wp2
  go_ret
  exact ⟨rfl, HX10.out⟩
theorem BlockTells_walk (size : Int) (v : Value) (src : List (List Nat)) (esi : Int) (w : World) (_ : -9223372036854775808 ≤ size ∧ size ≤ 9223372036854775807)
    (hv : Rws w v src ∧ ∀ k, (src.getD k []).length ≤ 140737488351232) (_ : -9223372036854775808 ≤ esi ∧ esi ≤ 9223372036854775807) (hT : Tab w) :
    Calls Tryd.prog 5 #[.int .i64 size, v, .int .i64 esi] w fun e w' => e = .returned (.bool true) ∧ Below w.heap.size w w' := by
  suffices H : Calls Tryd.prog 5 #[.int .i64 size, v, .int .i64 esi] w fun e w' => e = .returned (.bool true) ∧ w.Extends w' from H.mono fun e w' h => ⟨h.1, Gr.below_of h.2⟩
  obtain ⟨hv, hml⟩ := hv
  by_cases hn : 45 < src.length
  · have hm := hv.len
    obtain ⟨a, cap, rfl, _⟩ := hv.slice
    exact tells10_many size esi a src.length cap w hT hn hm
  · cases hf : few src with
    | false => exact tells10_few size esi v src w hT hv hml (by omega) hf
    | true =>
      rcases asked10 size src hv.all_lt with ⟨err, he, ha⟩ | ⟨k, j, sz, c, hb⟩
      · exact tells10_no size esi v src w hT hv hml (by omega) hf err he ha
      · exact tells10_yes size esi v src w hT hv hml (by omega) hf k j sz c hb
end Go.Proofs.YtbaeieloncmiaaaDoor
/- BlockSource' function answers true. -/
namespace Go.Proofs.YtbaeieloncmiaaaDoor
set_option maxRecDepth 20000
open Go.RowKit Go.Deep
set_option linter.unusedVariables false
theorem source10_far (a : Option Addr) (n cap : Nat) (w : World) (hT : Tab w) (hn : n < 1 ∨ 12 < n) (hm : n ≤ maxLen) :
    Calls Tryd.prog 6 #[.slice a n cap] w fun e w' => e = .returned (.bool true) ∧ w.Extends w' := by
  have HA := Lib.hid (alive10_any w hT)
  unfold maxLen at hm
  clear hT
  by_cases c1 : n < 1
  rotate_left
  have c2 : 12 < n := by omega
  all_goals
    clear hn
    go_enter Tryd.func6, Tryd.ntmps6
    go_wp2_with fail
    refine HA.out.mono ?_
    rintro e w1 ⟨rfl, hx1⟩
    have HX1 := Lib.hid hx1
    clear hx1
    go_wp2
    go_ret
    exact ⟨rfl, HX1.out⟩
theorem source10_few (v : Value) (src : List (List Nat)) (w : World) (hT : Tab w) (hv : Rws w v src) (hml : ∀ k, (src.getD k []).length ≤ 140737488351232) (h1 : 1 ≤ src.length) (h2 : src.length ≤ 12) (hf : few src = false) :
    Calls Tryd.prog 6 #[v] w fun e w' => e = .returned (.bool true) ∧ w.Extends w' := by
  have HA := Lib.hid (alive10_any w hT)
  have HF := Lib.hid (fun w hv => few_any v src w hv hml)
  rw [hf] at HF
  have HV := Lib.hid hv
  obtain ⟨a, cap, rfl, _⟩ := hv.slice
  clear hT hv hml hf
  generalize src.length = n at *
  go_enter Tryd.func6, Tryd.ntmps6
  go_wp2_with fail
  refine HA.out.mono ?_
  rintro e w1 ⟨rfl, hx1⟩
  have HX1 := Lib.hid hx1
  clear hx1
  go_wp2_with fail
  refine (HF.out w1 (HV.out.ext HX1.out)).mono ?_
  rintro e w2 ⟨rfl, hb2⟩
  have HX2 := Lib.hid (Gr.ext_trans HX1.out (Gr.ext_of hb2))
  clear hb2
  go_wp2
  go_ret
  exact ⟨rfl, HX2.out⟩
theorem source10_size (v : Value) (src : List (List Nat)) (w : World) (hT : Tab w) (hv : Rws w v src) (hml : ∀ k, (src.getD k []).length ≤ 140737488351232) (h1 : 1 ≤ src.length) (h2 : src.length ≤ 12) (hf : few src = true) (h0 : (src.getD 0 []).length < 1 ∨ 64 < (src.getD 0 []).length) :
    Calls Tryd.prog 6 #[v] w fun e w' => e = .returned (.bool true) ∧ w.Extends w' := by
  have HA := Lib.hid (alive10_any w hT)
  have HF := Lib.hid (fun w hv => few_any v src w hv hml)
  rw [hf] at HF
  have hl0 := hml 0
  have HV := Lib.hid hv
  obtain ⟨a, cap, rfl, _⟩ := hv.slice
  obtain ⟨b0, o0, rfl, hb0, hc0⟩ := hv.at.2 (by omega)
  obtain ⟨ra, rc, hc1, _⟩ := hc0 0 (by omega)
  rw [Nat.add_zero] at hc1
  clear hT hv hml hf hc0
  have HC := Lib.hid hc1
  clear hc1
  generalize (src.getD 0 []).length = r at *
  generalize src.length = n at *
  by_cases c1 : r < 1
  rotate_left
  have c2 : 64 < r := by omega
  all_goals
    clear h0
    go_enter Tryd.func6, Tryd.ntmps6
    go_wp2_with fail
    refine HA.out.mono ?_
    rintro e w1 ⟨rfl, hx1⟩
    have HX1 := Lib.hid hx1
    clear hx1
    go_wp2_with fail
    refine (HF.out w1 (HV.out.ext HX1.out)).mono ?_
    rintro e w2 ⟨rfl, hb2⟩
    have HX2 := Lib.hid (Gr.ext_trans HX1.out (Gr.ext_of hb2))
    clear hb2
    have hc := HX2.out.cell_of HC.out
    go_wp2
    go_ret
    exact ⟨rfl, HX2.out⟩
set_option maxHeartbeats 2000000 in
theorem source10_no (v : Value) (src : List (List Nat)) (w : World) (hT : Tab w) (hv : Rws w v src) (hml : ∀ k, (src.getD k []).length ≤ 140737488351232) (h1 : 1 ≤ src.length) (h2 : src.length ≤ 12) (hf : few src = true) (r : Nat) (hr : (src.getD 0 []).length = r) (r1 : 1 ≤ r) (r2 : r ≤ 64)
    (err : Int) (he : err = 10 ∨ err = 5) (ha : N10 (r : Int) src err) :
    Calls Tryd.prog 6 #[v] w fun e w' => e = .returned (.bool true) ∧ w.Extends w' := by
  have HA := Lib.hid (alive10_any w hT)
  have HF := Lib.hid (fun w hv => few_any v src w hv hml)
  rw [hf] at HF
  have hfy := (few_yes src hf).2
  have HTO := Lib.hid (fun w hv => to_any v src w hv (by omega) (fun k => by have := hfy k; omega))
  have HN := Lib.hid ha.new
  have HT := Lib.hid hT
  have HV := Lib.hid hv
  obtain ⟨a, cap, rfl, _⟩ := hv.slice
  obtain ⟨b0, o0, rfl, hb0, hc0⟩ := hv.at.2 (by omega)
  obtain ⟨ra, rc, hc1, _⟩ := hc0 0 (by omega)
  rw [Nat.add_zero] at hc1
  rw [hr] at hc1
  clear hT hv hml hf hc0 ha hfy hr
  have HC := Lib.hid hc1
  clear hc1
  generalize src.length = n at *
  have he0 : (err != 0) = true := by rcases he with rfl | rfl <;> rfl
  go_enter Tryd.func6, Tryd.ntmps6
  go_wp2_with fail
  refine HA.out.mono ?_
  rintro e w1 ⟨rfl, hx1⟩
  have HX1 := Lib.hid hx1
  clear hx1 HA
  go_wp2_with fail
  refine (HF.out w1 (HV.out.ext HX1.out)).mono ?_
  rintro e w2 ⟨rfl, hb2⟩
  have HX2 := Lib.hid (Gr.ext_trans HX1.out (Gr.ext_of hb2))
  clear hb2 HX1 HF
  have hc := HX2.out.cell_of HC.out
  go_wp2_with fail
  have HX3 : Hid (w.Extends w2.drew) := Gr.ext_drew HX2.out
  have HC3 : Hid (∀ w', w2.drew.Extends w' → w'.cell? ⟨b0, o0, none⟩ = some (.slice ra r rc)) := fun w' hw' => (Gr.of_drew hw').cell_of hc
  clear hc HX2
  refine Gr.region 11 [(false,0),(false,1),(false,2),(false,3),(false,4),(true,5),(true,6),(false,7),(false,8),(false,9),(false,10)] (by kernel_rfl) (by kernel_rfl) (fun d _ _ _ _ h => by cases d <;> exact h) ?_
  simp only [Gr.pick, List.getElem?_cons_zero, List.getElem?_cons_succ, List.drop_succ_cons, List.drop_zero]
  generalize w2.drew = w3 at *
  iterate 5
    refine Gr.walk_t ?_ (Or.inl ⟨by rfl, ?_⟩) ?_
    rotate_left
    · intro w' hw'
      have hc := HC3.out w' hw'
      clear hw'
      go_simp
      try with_reducible rfl
    simp only [Act.put, List.setIfInBounds_toArray, List.set_cons_zero, List.set_cons_succ]
  refine Gr.walk_c (fun K hK => ?_)
  go_simp
  refine (HTO.out w3 (HV.out.ext HX3.out)).mono ?_
  rintro e w4 ⟨vr, rfl, hb4, hr4, _⟩
  have HX4 := Lib.hid (Gr.ext_trans HX3.out (Gr.ext_of hb4))
  have HR4 := Lib.hid hr4
  try go_simp
  refine hK.out _ _ (Gr.ext_of hb4) ?_
  clear hK K
  clear hb4 hr4 HC3 HX3 HTO
  refine Gr.walk_c (fun K hK => ?_)
  go_simp
  refine (HN.out vr w4 HR4.out (HT.out.ext HX4.out)).mono ?_
  rintro e w5 ⟨rfl, hx5⟩
  have HX5 := Lib.hid (Gr.ext_trans HX4.out hx5)
  try go_simp
  refine hK.out _ _ (hx5) ?_
  clear hK K
  clear hx5 HX4 HR4 HN
  iterate 4
    refine Gr.walk_t ?_ (Or.inl ⟨by rfl, ?_⟩) ?_
    rotate_left
    · intro w' hw'
      clear hw'
      go_simp
      try with_reducible rfl
    simp only [Act.put, List.setIfInBounds_toArray, List.set_cons_zero, List.set_cons_succ]
  refine Gr.walk_nil ?_
  go_wp2_with fail
  refine (num10_any err w5).mono ?_
  rintro e w' ⟨rfl, rfl⟩
  go_wp2_with fail
  refine (num10_any err w5).mono ?_
  rintro e w' ⟨rfl, rfl⟩
  clear he0
  rcases he with rfl | rfl
  · go_wp2
    go_ret
    exact ⟨rfl, HX5.out⟩
  · go_wp2_with fail
    refine (num10_any 5 w5).mono ?_
    rintro e w' ⟨rfl, rfl⟩
    go_wp2
    go_ret
    exact ⟨rfl, HX5.out⟩
theorem B10.source {r k j : Nat} {src c : List (List Nat)} (h : B10 (r : Int) src k j r c) (m : Nat) (hm : m < k) : symOf k j r c (m : Int) = src.getD m [] ∧ symErr (m : Int) = 0 := by
  have hk := h.hk
  have hk2 := h.k2
  have he : EsiOk (m : Int) := ⟨by omega, by omega⟩
  have hl : (src.getD m []).length = r := by have := h.all m (by omega); omega
  have := h.parts.source m hm hl
  unfold symOf symErr
  rw [if_pos he, if_pos he, Int.toNat_natCast]
  exact ⟨this, rfl⟩
set_option maxHeartbeats 2000000 in
theorem source10_yes (v : Value) (src : List (List Nat)) (w : World) (hT : Tab w) (hv : Rws w v src) (hml : ∀ k, (src.getD k []).length ≤ 140737488351232) (h1 : 1 ≤ src.length) (h2 : src.length ≤ 12) (hf : few src = true) (r : Nat) (hr : (src.getD 0 []).length = r) (r1 : 1 ≤ r) (r2 : r ≤ 64)
    (j : Nat) (c : List (List Nat)) (ha : B10 (r : Int) src src.length j r c) :
    Calls Tryd.prog 6 #[v] w fun e w' => e = .returned (.bool true) ∧ w.Extends w' := by
  have HA := Lib.hid (alive10_any w hT)
  have HF := Lib.hid (fun w hv => few_any v src w hv hml)
  rw [hf] at HF
  have hfy := (few_yes src hf).2
  have HTO := Lib.hid (fun w hv => to_any v src w hv (by omega) (fun k => by have := hfy k; omega))
  have HN := Lib.hid ha.new
  have HSY : Hid (∀ m, m < src.length → ∀ b v w, BAt w b src.length (PM.s src.length) 2 j r v → Rws w v c → Tab w → Calls Tryd.prog 21 #[.pointer (some ⟨b, 0, none⟩), .int .i64 m] w (SymOut w (src.getD m []) 0)) := fun m hm b v w hb hv hT => by
    have h := ha.symbol b m v w hb hv hT
    rwa [(ha.source m hm).1, (ha.source m hm).2] at h
  have HT := Lib.hid hT
  have HV := Lib.hid hv
  obtain ⟨a, cap, rfl, _⟩ := hv.slice
  have HAT := Lib.hid hv.at.2
  obtain ⟨b0, o0, rfl, hb0, hc0⟩ := hv.at.2 (by omega)
  obtain ⟨ra, rc, hc1, _⟩ := hc0 0 (by omega)
  rw [Nat.add_zero] at hc1
  rw [hr] at hc1
  clear hT hv hml hf hc0 ha hfy hr
  have HC := Lib.hid hc1
  clear hc1
  generalize src.length = n at *
  go_enter Tryd.func6, Tryd.ntmps6
  go_wp2_with fail
  refine HA.out.mono ?_
  rintro e w1 ⟨rfl, hx1⟩
  have HX1 := Lib.hid hx1
  clear hx1 HA
  go_wp2_with fail
  refine (HF.out w1 (HV.out.ext HX1.out)).mono ?_
  rintro e w2 ⟨rfl, hb2⟩
  have HX2 := Lib.hid (Gr.ext_trans HX1.out (Gr.ext_of hb2))
  clear hb2 HX1 HF
  have hc := HX2.out.cell_of HC.out
  go_wp2_with fail
  have HX3 : Hid (w.Extends w2.drew) := Gr.ext_drew HX2.out
  have HC3 : Hid (∀ w', w2.drew.Extends w' → w'.cell? ⟨b0, o0, none⟩ = some (.slice ra r rc)) := fun w' hw' => (Gr.of_drew hw').cell_of hc
  clear hc HX2
  refine Gr.region 11 [(false,0),(false,1),(false,2),(false,3),(false,4),(true,5),(true,6),(false,7),(false,8),(false,9),(false,10)] (by kernel_rfl) (by kernel_rfl) (fun d _ _ _ _ h => by cases d <;> exact h) ?_
  simp only [Gr.pick, List.getElem?_cons_zero, List.getElem?_cons_succ, List.drop_succ_cons, List.drop_zero]
  generalize w2.drew = w3 at *
  iterate 5
    refine Gr.walk_t ?_ (Or.inl ⟨by rfl, ?_⟩) ?_
    rotate_left
    · intro w' hw'
      have hc := HC3.out w' hw'
      clear hw'
      go_simp
      try with_reducible rfl
    simp only [Act.put, List.setIfInBounds_toArray, List.set_cons_zero, List.set_cons_succ]
  refine Gr.walk_c (fun K hK => ?_)
  go_simp
  refine (HTO.out w3 (HV.out.ext HX3.out)).mono ?_
  rintro e w4 ⟨vr, rfl, hb4, hr4, _⟩
  have HX4 := Lib.hid (Gr.ext_trans HX3.out (Gr.ext_of hb4))
  have HR4 := Lib.hid hr4
  try go_simp
  refine hK.out _ _ (Gr.ext_of hb4) ?_
  clear hK K
  clear hb4 hr4 HC3 HX3 HTO
  refine Gr.walk_c (fun K hK => ?_)
  go_simp
  refine (HN.out vr w4 HR4.out (HT.out.ext HX4.out)).mono ?_
  rintro e w5 ⟨b, vb, rfl, hx5, hb5, hr5⟩
  have HX5 := Lib.hid (Gr.ext_trans HX4.out hx5)
  have HB5 := Lib.hid hb5
  have HV5 := Lib.hid hr5
  try go_simp
  refine hK.out _ _ (hx5) ?_
  clear hK K
  clear hx5 hb5 hr5 HX4 HR4 HN
  iterate 4
    refine Gr.walk_t ?_ (Or.inl ⟨by rfl, ?_⟩) ?_
    rotate_left
    · intro w' hw'
      clear hw'
      go_simp
      try with_reducible rfl
    simp only [Act.put, List.setIfInBounds_toArray, List.set_cons_zero, List.set_cons_succ]
  refine Gr.walk_nil ?_
  go_wp2_with fail
  refine (num10_any _ w5).mono ?_
  rintro e w' ⟨rfl, rfl⟩
  go_wp2_with fail
  go_loopw [6] (fun i wr => ∃ m : Nat, m ≤ n ∧ i = .int .i64 m ∧ Hid (w5.Extends wr)) (fun i _ => (n - intOf i).toNat)
  case atStart => exact ⟨0, by omega, rfl, Lib.hid (Gr.ext_refl _)⟩
  case round =>
    obtain ⟨m, hm, rfl, HX⟩ := hrel
    by_cases h5 : m < n
    · have HS := Lib.hid (HSY.out m h5 b vb wr (HB5.out.ext HX.out) (HV5.out.ext HX.out) (HT.out.ext (Gr.ext_trans HX5.out HX.out)))
      obtain ⟨b9, o9, he9, hb9, hc9⟩ := HAT.out (by omega)
      cases he9
      obtain ⟨rm, rcm, hc7, hu7⟩ := hc9 m h5
      have HC7 := Lib.hid hc7
      have HU7 := Lib.hid hu7
      clear hc9 hc7 hu7
      generalize src.getD m [] = row at *
      go_wp2_with fail
      refine HS.out.mono ?_
      rintro e w6 ⟨u, rfl, hx6, hu6⟩
      have HX6 := Lib.hid (Gr.ext_drew (Gr.ext_trans HX.out hx6))
      have HU6 := Lib.hid (hu6.1.ext (Gr.ext_drew (Gr.ext_refl w6)))
      have hx7 := Gr.ext_trans HX5.out HX6.out
      have HC8 := Lib.hid (hx7.cell_of HC7.out)
      have HU8 := Lib.hid (HU7.out.ext hx7)
      clear hx6 hu6 HC7 HU7 hx7 HX HS
      go_wp2_with fail
      refine Gr.region 12 [(false,0),(true,1),(false,2),(false,3),(false,4),(false,5),(false,6),(false,7),(false,8),(false,9),(false,10),(false,11)] (by kernel_rfl) (by kernel_rfl) (fun d _ _ _ _ h => by cases d <;> exact h) ?_
      simp only [Gr.pick, List.getElem?_cons_zero, List.getElem?_cons_succ, List.drop_succ_cons, List.drop_zero]
      generalize w6.drew = w7 at *
      refine Gr.walk_t ?_ (Or.inl ⟨by rfl, ?_⟩) ?_
      rotate_left
      · intro w' hw'
        clear hw'
        go_simp
        try with_reducible rfl
      simp only [Act.put, List.setIfInBounds_toArray, List.set_cons_zero, List.set_cons_succ]
      refine Gr.walk_c (fun K hK => ?_)
      go_simp
      refine (num10_any _ w7).mono ?_
      rintro e w' ⟨rfl, rfl⟩
      try go_simp
      refine hK.out _ _ (Gr.ext_refl _) ?_
      clear hK K
      iterate 10
        refine Gr.walk_t ?_ (Or.inl ⟨by rfl, ?_⟩) ?_
        rotate_left
        · intro w' hw'
          have hcv := conv_drow (HU6.out.ext hw')
          have hcv2 := conv_b (HU8.out.ext hw')
          have hc8 := hw'.cell_of HC8.out
          clear hw'
          go_simp
          try with_reducible rfl
        simp only [Act.put, List.setIfInBounds_toArray, List.set_cons_zero, List.set_cons_succ]
      refine Gr.walk_nil ?_
      go_wp2
      go_roundw
      case rel => exact ⟨m + 1, by omega, by go_num, HX6⟩
      case measure => simp [intOf]; omega
    · obtain rfl : m = n := by omega
      have HXE := Lib.hid (Gr.ext_trans HX5.out HX.out)
      go_wp2
      go_ret
      exact ⟨rfl, HXE.out⟩
theorem BlockSource_walk (v : Value) (src : List (List Nat)) (w : World) (hv : Rws w v src ∧ ∀ k, (src.getD k []).length ≤ 140737488351232) (hT : Tab w) :
    Calls Tryd.prog 6 #[v] w fun e w' => e = .returned (.bool true) ∧ Below w.heap.size w w' := by
  suffices H : Calls Tryd.prog 6 #[v] w fun e w' => e = .returned (.bool true) ∧ w.Extends w' from H.mono fun e w' h => ⟨h.1, Gr.below_of h.2⟩
  obtain ⟨hv, hml⟩ := hv
  by_cases hn : src.length < 1 ∨ 12 < src.length
  · have hm := hv.len
    obtain ⟨a, cap, rfl, _⟩ := hv.slice
    exact source10_far a src.length cap w hT hn hm
  · cases hf : few src with
    | false => exact source10_few v src w hT hv hml (by omega) (by omega) hf
    | true =>
      by_cases h0 : (src.getD 0 []).length < 1 ∨ 64 < (src.getD 0 []).length
      · exact source10_size v src w hT hv hml (by omega) (by omega) hf h0
      · rcases asked10_fit (src.getD 0 []).length src hv.all_lt (by omega) (by omega) (by omega) (by omega) with ⟨_, h⟩ | ⟨_, ⟨h, _⟩ | ⟨j, c, h⟩⟩
        · exact source10_no v src w hT hv hml (by omega) (by omega) hf _ rfl (by omega) (by omega) 10 (.inl rfl) h
        · exact source10_no v src w hT hv hml (by omega) (by omega) hf _ rfl (by omega) (by omega) 5 (.inr rfl) h
        · exact source10_yes v src w hT hv hml (by omega) (by omega) hf _ rfl (by omega) (by omega) j c h
end Go.Proofs.YtbaeieloncmiaaaDoor
