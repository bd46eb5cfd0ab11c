/- In one text: LogRows, LogWhole, LogRefCrash, RefAt. -/
import Derived.Deep.DeepCutAuto
import Derived.Test.YtdbdnfjgmdkneaaMC1
import Derived.Test.YtdbdnfjgmdkneaaMC3
import Derived.Test.YtdbdnfjgmdkneaaMC6
import Derived.Test.YtdbdnfjgmdkneaaMC13
namespace Go.Proofs.Ytdbdnfjgmdkneaa
set_option maxRecDepth 20000
open Go.RowKit Go.Deep
set_option linter.unusedVariables false
/-- v reads as l; its array in memory from B on, the rows in blocks of bytes. -/
def RwsB (w : World) (B : Nat) (v : Value) (l : List (List Nat)) : Prop :=
  (l = [] ∧ ∃ a cap, v = .slice a 0 cap) ∨
  ∃ b off cap, v = .slice (some ⟨b, off, none⟩) l.length cap ∧ l.length ≤ cap ∧ cap ≤ maxLen ∧ B ≤ b ∧ b < w.heap.size ∧ ∀ k, k < l.length → ∃ u, w.cell? ⟨b, off + k, none⟩ = some u ∧ RowB w u (l.getD k [])
theorem RwsB.old {w : World} {B : Nat} {v : Value} {l : List (List Nat)} (h : RwsB w B v l) : Rws w v l := by
  rcases h with h | ⟨b, off, cap, h1, h2, h3, _, h4, h5⟩
  · exact .inl h
  · exact .inr ⟨b, off, cap, h1, h2, h3, h4, fun k hk => by obtain ⟨u, h6, h7⟩ := h5 k hk; exact ⟨u, h6, h7.1⟩⟩
/-- Rows that a call answers, in memory of its own. -/
def LMade (w : World) (l : List (List Nat)) (e : Ending) (w' : World) : Prop := ∃ v, e = .returned v ∧ w.Extends w' ∧ RwsB w' w.heap.size v l
theorem LMade.old {w w' : World} {l : List (List Nat)} {e : Ending} (h : LMade w l e w') : MadeList w l e w' := by
  obtain ⟨v, h1, h2, h3⟩ := h
  exact ⟨v, h1, h2, h3.old⟩
theorem Mats.rwsB {w : World} {B : Nat} {T : TypeId} {v : Value} {k : Nat} {l : List (List Nat)} (h : Mats w B 0 T v k l) (hk : k = l.length) : RwsB w B v l := by
  subst hk
  obtain ⟨vs, hown, hrow⟩ := h
  rcases hown.2 with ⟨rfl, h0⟩ | ⟨g, cap, cur, rfl, hbg, hg, hnc, hcm, hcs, htake⟩
  · exact .inl ⟨List.eq_nil_of_length_eq_zero h0, none, 0, rfl⟩
  · refine .inr ⟨g, 0, cap, rfl, hnc, hcm, hbg, (Array.getElem?_eq_some_iff.1 hg).1, fun j hj => ?_⟩
    obtain ⟨u, hu, ho⟩ := hrow j hj
    refine ⟨u, ?_, ho.1, ho.2.imp id fun h2 g hg => ?_⟩
    · have := hown.cells (g := g) rfl j u hu
      rw [Addr.add_mid] at this
      exact this
    · obtain ⟨_, h3⟩ := h2 g hg
      rcases h3 with h3 | ⟨cs, h3⟩
      · omega
      · exact ⟨cs, _, h3⟩
theorem RwsB.ext {w w' : World} {B : Nat} {v : Value} {l : List (List Nat)} (h : RwsB w B v l) (hx : w.Extends w') : RwsB w' B v l := by
  rcases h with h | ⟨b, off, cap, h1, h2, h3, h6, h4, h5⟩
  · exact .inl h
  · exact .inr ⟨b, off, cap, h1, h2, h3, h6, Nat.lt_of_lt_of_le h4 hx.size, fun k hk => by obtain ⟨u, h7, h8⟩ := h5 k hk; exact ⟨u, hx.cell_of h7, h8.ext hx⟩⟩
/-- The rows of such a slice lie in memory from B on. -/
def LocN (w : World) (B : Nat) (v : Value) (k : Nat) : Prop := ∃ vs, w.ownsRow B 26 1 v k vs ∧ ∀ u ∈ vs, ∀ g, u.ownBlock = some g → B ≤ g
theorem LocN.nil (w : World) (B : Nat) : LocN w B (.slice none 0 0) 0 := ⟨[], World.ownsRow_nil _ _ _ _, fun u hu => by cases hu⟩
theorem LocN.ext {w w' : World} {B k : Nat} {v : Value} (h : LocN w B v k) (hx : w.Extends w') : LocN w' B v k := by
  obtain ⟨vs, ho, hr⟩ := h
  have hg : w.grownBy w' none := ⟨hx.os, hx.tape, hx.output, hx.size, fun i hi _ => hx.block i hi⟩
  exact ⟨vs, ho.kept hg (by cases v.ownBlock <;> simp), hr⟩
theorem owns_uniq {w : World} {B B' k : Nat} {T : TypeId} {v : Value} {vs vs' : List Value} (h : w.ownsRow B T 1 v k vs) (h' : w.ownsRow B' T 1 v k vs') : vs = vs' := by
  rcases h.2 with ⟨rfl, rfl⟩ | ⟨g, cap, cur, rfl, _, hg, _, _, _, ht⟩
  · have h1 := h.1
    have h2 := h'.1
    have e1 : vs = [] := List.eq_nil_of_length_eq_zero (by simpa using h1)
    have e2 : vs' = [] := List.eq_nil_of_length_eq_zero (by simpa using h2)
    rw [e1, e2]
  · rcases h'.2 with ⟨e, _⟩ | ⟨g', cap', cur', e, _, hg', _, _, _, ht'⟩
    · cases e
    · cases e
      rw [hg] at hg'
      simp only [Option.some.injEq, Obj.cells.injEq, and_true] at hg'
      rw [← ht, ← ht', hg']
theorem LocN.snoc {w w' : World} {B B' k : Nat} {v v' u : Value} {vs : List Value} (h : LocN w B v k) (ho : w.ownsRow B' 26 1 v k vs) (ho' : w'.ownsRow B 26 1 v' (k + 1) (vs ++ [u])) (hu : ∀ g, u.ownBlock = some g → B ≤ g) : LocN w' B v' (k + 1) := by
  obtain ⟨vs', h1, h2⟩ := h
  refine ⟨_, ho', fun x hx => ?_⟩
  rcases List.mem_append.1 hx with hx | hx
  · rw [owns_uniq ho h1] at hx; exact h2 x hx
  · rw [List.mem_singleton] at hx; subst hx; exact hu
theorem LocN.at_ {w : World} {B k b off n cap j : Nat} {u : Value} (h : LocN w B (.slice (some ⟨b, off, none⟩) n cap) k) (hj : j < k) (hc : w.cell? ⟨b, off + j, none⟩ = some u) : ∀ g, u.ownBlock = some g → B ≤ g := by
  obtain ⟨vs, ho, hr⟩ := h
  have hl : vs.length = k := by have := ho.1; simpa using this
  rcases ho.2 with ⟨e, _⟩ | ⟨g, cap', cur, e, _⟩
  · cases e
  · have e1 := e
    simp only [Value.slice.injEq, Option.some.injEq, Addr.mk.injEq, and_true] at e1
    obtain ⟨⟨e2, e3⟩, _⟩ := e1
    subst e2 e3
    have h1 := ho.cells (g := b) rfl j vs[j] (List.getElem?_eq_getElem (by omega))
    rw [Addr.add_mid] at h1
    rw [hc] at h1
    have e4 : u = vs[j] := by simpa using h1
    rw [e4]
    exact hr _ (List.getElem_mem _)
/-- Rows that a call answers, and where they lie. -/
def LLoc (w : World) (l : List (List Nat)) (e : Ending) (w' : World) : Prop := ∃ v, e = .returned v ∧ w.Extends w' ∧ RwsB w' w.heap.size v l ∧ LocN w' w.heap.size v l.length
end Go.Proofs.Ytdbdnfjgmdkneaa
namespace Go.Proofs.Ytdbdnfjgmdkneaa
set_option maxRecDepth 20000
open Go.RowKit Go.Deep
set_option linter.unusedVariables false
theorem owns_rok {w : World} {B n : Nat} {u : Value} {xs : List Nat} (h : w.ownsRow B 5 1 u n (u8vs xs)) (hlt : ∀ x ∈ xs, x < 256) : RowOk w 0 u xs := by
  refine ⟨owns_u8s h hlt, ?_⟩
  rcases h.2 with ⟨rfl, rfl⟩ | ⟨g, cap, cur, rfl, hbg, hg, _⟩
  · refine .inl ?_
    have := h.1
    rw [u8vs_length] at this
    exact List.eq_nil_of_length_eq_zero (by omega)
  · refine .inr fun g' hg' => ?_
    simp only [Value.ownBlock, Option.some.injEq] at hg'
    subst hg'
    exact ⟨(Array.getElem?_eq_some_iff.1 hg).1, .inr ⟨cur, hg⟩⟩
theorem grown_none {w w' : World} (h : w.grownBy w' none) : w.Extends w' := ext_below ⟨h.os, h.tape, h.output, h.size, fun i hi => h.block i hi (by simp)⟩ rfl
/-- How many bytes the whole pieces have, and these. -/
def WholeOut (w : World) (l : List (List Nat)) (e : Ending) (w' : World) : Prop := ∃ v, e = .returned (.tuple #[.int .i64 ((LM.size l : Nat) : Int), v]) ∧ RwsB w' w.heap.size v l ∧ w.Extends w' ∧ LocN w' w.heap.size v l.length
set_option maxHeartbeats 2000000 in
theorem whole15_any (v : Value) (l : List (List Nat)) (m : Nat) (w : World) (hu : U8s w v ((LM.spell l).take m)) (hm : m ≤ LM.size l) (hf : LM.Fine l) (hz : m ≤ 1000000000) :
    Calls Try.prog 96 #[v] w (WholeOut w (LM.upto m l)) := by
  have hbl : ((LM.spell l).take m).length = m := by rw [List.length_take, LM.spell_length]; omega
  obtain ⟨a, c, rfl, _, _⟩ := hu.slice
  rw [hbl] at hu ⊢
  have HU := Lib.hid hu
  have HUC := Lib.hid hu.cell.2
  have HF := Lib.hid hf
  have HM := Lib.hid hm
  have HBL := Lib.hid hbl
  obtain ⟨iu, hiu, hu0, hu1, hu2⟩ := info_parts byteinfo
  have HI := Lib.hid hiu
  have HZ0 := Lib.hid hu0
  have HZ1 := Lib.hid hu1
  have HZ2 := Lib.hid hu2
  obtain ⟨i1, hi', hz0', hz1', hz2'⟩ := info_parts bytesinfo
  have HI' := Lib.hid hi'
  have HZ0' := Lib.hid hz0'
  have HZ1' := Lib.hid hz1'
  have HZ2' := Lib.hid hz2'
  clear hu hm hf hbl hiu hu0 hu1 hu2 hi' hz0' hz1' hz2'
  go_enter Try.func96, Try.ntmps96
  go_wp2_with fail
  go_loopw [4, 5] (fun s4 s5 wr => ∃ (done rest : List (List Nat)) (n dn : Nat), Hid (l = done ++ rest) ∧ s4 = .int .i64 ((n : Nat) : Int) ∧ Hid (n = LM.size done) ∧ n ≤ m ∧ Hid (LM.upto m l = done ++ LM.upto (m - n) rest) ∧ Hid (w.Extends wr) ∧ Hid (Mats wr w.heap.size 0 26 s5 dn done) ∧ Hid (dn = done.length) ∧ dn ≤ n ∧ Hid (LocN wr w.heap.size s5 dn)) (fun s4 _ _ => m - (intOf s4).toNat)
  case atStart => exact ⟨[], l, 0, 0, rfl, by rfl, rfl, by omega, rfl, Gr.ext_refl _, Mats.nil _ _ _ _ _, rfl, by omega, LocN.nil _ _⟩
  case round =>
    obtain ⟨done, rest, n, dn, HL, rfl, HN, hnm, HUP, HX, HMT, HDN, hdn, HLO⟩ := hrel
    -- where it ends
    have HEND : Hid (LM.upto (m - n) rest = [] → WholeOut w (LM.upto m l) (.returned (.tuple #[.int .i64 ((n : Nat) : Int), u5])) wr) := fun e => by
      have h1 := HUP.out
      rw [e, List.append_nil] at h1
      refine ⟨u5, by rw [h1, HN.out], ?_, HX.out, ?_⟩
      · rw [h1]
        exact HMT.out.rwsB HDN.out
      · rw [h1, ← HDN.out]
        exact HLO.out
    by_cases h2 : m - n < 2
    · have HP : Hid (WholeOut w (LM.upto m l) (.returned (.tuple #[.int .i64 ((n : Nat) : Int), u5])) wr) := HEND.out (LM.upto_few h2)
      clear HEND
      go_wp2
      go_returns
      exact HP.out
    · obtain ⟨p, rest', hrest⟩ : ∃ p rest', rest = p :: rest' := by
        cases rest with
        | nil =>
          have h1 := HM.out
          rw [HL.out, LM.size_append, ← HN.out] at h1
          simp only [LM.size] at h1
          omega
        | cons p r => exact ⟨p, r, rfl⟩
      subst hrest
      have hp := HF.out p (by rw [HL.out]; simp)
      have HPL := Lib.hid hp.2
      obtain ⟨q, hq⟩ : ∃ q, q = p.length := ⟨_, rfl⟩
      have hq2 : q ≤ 65535 := by rw [hq]; exact hp.1
      have hnum := LM.at_num (done := done) (rest := rest') (p := p) (m := m) hp.1 (by rw [← HN.out]; omega)
      rw [← HL.out, ← HN.out, ← hq] at hnum
      obtain ⟨b, off, rfl, hb, hcell⟩ := HUC.out (by omega)
      have hc0 := hcell n (by omega)
      have hc1 := hcell (n + 1) (by omega)
      rw [hnum.1] at hc0
      rw [hnum.2] at hc1
      obtain ⟨hi, hhi⟩ : ∃ hi, hi = q / 256 := ⟨_, rfl⟩
      obtain ⟨lo, hlo⟩ : ∃ lo, lo = q % 256 := ⟨_, rfl⟩
      rw [← hhi] at hc0
      rw [← hlo] at hc1
      have hsum : hi * 256 + lo = q := by omega
      have hhi2 : hi < 256 := by omega
      have hn0 : n < m := by omega
      have hn1 : n + 1 < m := by omega
      have hw1 : IntKind.i64.wrap ((n : Int) + 1) = ((n + 1 : Nat) : Int) := by rw [IntKind.wrap_i64]; omega
      have hlo2 : lo < 256 := by omega
      have hor := i64_or_byte hi lo (by omega) hlo2
      rw [hsum] at hor
      have hn2 : (0 : Int) ≤ (n : Int) + 1 := by omega
      have hn3 : (n : Int) + 1 < (m : Int) := by omega
      have hw2 : IntKind.i64.wrap ((hi : Nat) : Int) = ((hi : Nat) : Int) := by rw [IntKind.wrap_i64]; omega
      have hw3 : IntKind.i64.wrap ((lo : Nat) : Int) = ((lo : Nat) : Int) := by rw [IntKind.wrap_i64]; omega
      have hw4 : IntKind.i64.wrap (((hi : Nat) : Int) * 256) = ((hi : Nat) : Int) * 256 := by rw [IntKind.wrap_i64]; omega
      have HC : Hid (∀ w', wr.drew.Extends w' → w'.cell? ⟨b, off + n, none⟩ = some (.int .u8 ((hi : Nat) : Int)) ∧ w'.cell? ⟨b, off + (n + 1), none⟩ = some (.int .u8 ((lo : Nat) : Int))) := fun w' hw' =>
        ⟨(Gr.ext_trans HX.out (Gr.of_drew hw')).cell_of hc0, (Gr.ext_trans HX.out (Gr.of_drew hw')).cell_of hc1⟩
      have HXD : Hid (w.Extends wr.drew) := Gr.ext_trans HX.out (Gr.ext_drew (Gr.ext_refl _))
      have HMD : Hid (Mats wr.drew w.heap.size 0 26 u5 dn done) := HMT.out.ext (Gr.ext_drew (Gr.ext_refl _))
      have HQ := Lib.hid hq
      clear hc0 hc1 hcell hnum hp hhi hlo hq hsum HX HMT
      have HENDD : Hid (m - n < 2 + q → WholeOut w (LM.upto m l) (.returned (.tuple #[.int .i64 ((n : Nat) : Int), u5])) wr.drew) := fun e => by
        obtain ⟨v, h1, h2, h3, h4⟩ := HEND.out (LM.upto_stop (by rw [← HQ.out]; exact e))
        exact ⟨v, h1, h2.ext (Gr.ext_drew (Gr.ext_refl _)), Gr.ext_trans h3 (Gr.ext_drew (Gr.ext_refl _)), h4.ext (Gr.ext_drew (Gr.ext_refl _))⟩
      clear HEND
      go_wp2_with fail
      refine Gr.region 13 [(false,0),(false,1),(false,2),(false,3),(false,4),(false,5),(false,6),(false,7),(false,8),(false,9),(false,10),(false,11),(false,12)] (by kernel_rfl) (by kernel_rfl) (fun d _ _ _ _ h => by cases d <;> exact h) ?_
      simp only [Gr.pick, List.getElem?_cons_zero, List.getElem?_cons_succ, List.drop_succ_cons, List.drop_zero]
      have HLO2 : Hid (LocN wr.drew w.heap.size u5 dn) := HLO.out.ext (Gr.ext_drew (Gr.ext_refl _))
      clear HLO
      generalize wr.drew = wd at *
      iterate 13
        refine Gr.walk_t ?_ (Or.inl ⟨by rfl, ?_⟩) ?_
        rotate_left
        · intro w' hw'
          obtain ⟨hc0, hc1⟩ := HC.out w' hw'
          clear hw'
          go_simp
          try with_reducible rfl
        simp only [Act.put, List.setIfInBounds_toArray, List.set_cons_zero, List.set_cons_succ]
      refine Gr.walk_nil ?_
      by_cases h3 : m - n < 2 + q
      · have HP := Lib.hid (HENDD.out h3)
        clear HENDD HC
        go_wp2
        go_returns
        exact HP.out
      · obtain ⟨a2, c2, hsl, hup⟩ := cut_part HU.out (n + 2) (n + 2 + q) (by omega) (by rw [HBL.out]; omega)
        have hpe := LM.at_piece (done := done) (rest := rest') (p := p) (m := m) (by rw [← HN.out, ← HQ.out]; omega)
        rw [← HL.out, ← HN.out, ← HQ.out] at hpe
        rw [hpe, show n + 2 + q - (n + 2) = q by omega] at hup
        rw [show n + 2 + q - (n + 2) = q by omega] at hsl
        have HSL := Lib.hid hsl
        have HUP2 := Lib.hid hup
        have hbs := HXD.out.size
        clear hsl hup hpe HENDD HC
        go_wp2_with (first | refine wpList_slice rfl 26 (.tmp 33) (some (.tmp 35)) (some (.tmp 39)) rfl elemBytes _ _ _ rfl rfl rfl (HSL.out _) ?_ | at_builtin; refine wpList_append_own_src _ rfl _ _ 26 26 rfl wd.heap.size 5 iu (.int .u8 0) 1 1 Try.underlying26 HI.out HZ0.out HZ1.out HZ2.out rfl _ _ _ rfl (World.ownsRow_nil _ _ _ _) _ q (u8vs p) rfl (by have h := (HUP2.out.ext HXD.out).src (P := Try.prog) (tx := 26) Try.underlying26; rw [← HQ.out] at h; exact h) (by unfold maxLen; omega) (by omega) (Nat.le_refl _) ?_)
        intro v2 w2 ho2 hg2 _
        obtain ⟨a3, c3, rfl⟩ := owns_slice ho2
        have hx2 : wd.Extends w2 := grown_none hg2
        have HOK : Hid (RowOk w2 0 (.slice a3 q c3) p) := owns_rok ho2 HPL.out
        have HRB : Hid (∀ g, (Value.slice a3 q c3).ownBlock = some g → w.heap.size ≤ g) := fun g hg => Nat.le_trans HXD.out.size (ho2.lt g hg).1
        have HLD : Hid (LocN w2 w.heap.size u5 dn) := HLO2.out.ext hx2
        have HX2 : Hid (w.Extends w2) := Gr.ext_trans HXD.out hx2
        obtain ⟨vs, hown, hrows⟩ := HMD.out.ext hx2
        have HOWN := Lib.hid hown
        have HROWS := Lib.hid hrows
        have HOB : Hid (∀ g, u5.ownBlock = some g → w.heap.size ≤ g) := fun g hg => (HOWN.out.lt g hg).1
        have hbs2 := HX2.out.size
        clear ho2 hg2 hx2 hown hrows HMD HXD HU HUP2 hbs
        go_wp2_with (at_builtin; refine wpList_append_own_src _ rfl _ _ 113 113 rfl w.heap.size 26 i1 (.slice none 0 0) 1 24 Try.underlying113 HI'.out HZ0'.out HZ1'.out HZ2'.out rfl _ _ _ rfl (HOWN.out.alloc _) _ 1 [.slice a3 q c3] rfl (src_one Try.underlying113 _ _ rfl rfl) (by unfold maxLen; omega) (by omega) (by simp; omega) ?_)
        intro v' w3 ho3 hg3 _
        have HP : Hid (w.Extends w3 ∧ Mats w3 w.heap.size 0 26 v' (dn + 1) (done ++ [p]) ∧ LocN w3 w.heap.size v' (dn + 1)) := by
          refine ⟨Gr.ext_of (((Gr.below_of HX2.out).alloc hbs2 _).grown hg3 (by simp; omega) HOB.out), ?_, HLD.out.snoc HOWN.out ho3 HRB.out⟩
          exact Mats.snoc (Nat.zero_le _) (by decide) HDN.out (HOWN.out.alloc _) (fun j hj => by obtain ⟨u, h1, h2⟩ := HROWS.out j hj; exact ⟨u, h1, h2.ext (ext_alloc _ _)⟩) (HOK.out.ext (ext_alloc _ _)) hg3 ho3
        clear ho3 hg3
        have HNN : Hid (n + 2 + q = LM.size (done ++ [p])) := by rw [LM.size_snoc, ← HN.out, ← HQ.out]; rfl
        have HUN : Hid (LM.upto m l = (done ++ [p]) ++ LM.upto (m - (n + 2 + q)) rest') := by
          rw [HNN.out, ← LM.upto_next (by rw [← HN.out, ← HQ.out]; omega), ← HN.out]
          exact HUP.out
        go_wp2
        go_roundw
        case rel => exact ⟨done ++ [p], rest', n + 2 + q, dn + 1, Lib.hid (by rw [HL.out, List.append_assoc]; rfl), by go_num, HNN, by omega, HUN, Lib.hid HP.out.1, Lib.hid HP.out.2.1, Lib.hid (by rw [List.length_append, ← HDN.out]; rfl), by omega, Lib.hid HP.out.2.2⟩
        case measure => simp [intOf]; omega
end Go.Proofs.Ytdbdnfjgmdkneaa
namespace Go.Proofs.Ytdbdnfjgmdkneaa
set_option maxRecDepth 20000
open Go.RowKit Go.Deep
set_option linter.unusedVariables false
theorem cut15_any (k : Int) (u : Nat) (w : World) (hk : -9223372036854775808 ≤ k ∧ k ≤ 9223372036854775807) (hu : u ≤ 1000000000) :
    Calls Try.prog 66 #[.int .i64 k, .int .i64 0, .int .i64 ((u : Nat) : Int)] w fun e w' => e = .returned (.int .i64 ((min k.toNat u : Nat) : Int)) ∧ w = w' := by
  by_cases h1 : k < 0
  · rw [show min k.toNat u = 0 by omega]
    go_enter Try.func66, Try.ntmps66
    go_wp2
    go_ret
    exact ⟨rfl, rfl⟩
  · obtain ⟨j, rfl⟩ := Int.eq_ofNat_of_zero_le (show 0 ≤ k by omega)
    rw [Int.toNat_natCast]
    by_cases h2 : u < j
    · rw [Nat.min_eq_right (by omega)]
      go_enter Try.func66, Try.ntmps66
      go_wp2
      go_ret
      exact ⟨rfl, rfl⟩
    · rw [Nat.min_eq_left (by omega)]
      go_enter Try.func66, Try.ntmps66
      go_wp2
      go_ret
      exact ⟨rfl, rfl⟩
theorem rall15_loc (t s : Nat) {o : Nat} {L : List Value} {T : TypeId} (D : Nat → Prop) (l : List (List Nat)) (w : World) (h : RAt w t o L T D (LM.spell l) s) (hf : LM.Fine l) (hz : LM.size l ≤ 1000000000) :
    Calls Try.prog 76 #[.pointer (some ⟨t, o, none⟩)] w (LLoc w l) := by
  obtain ⟨a, c, h0, h1, f0, f1, ho, hD, hb, hLo, hT8⟩ := h.cells
  have hu := owns_u8s ho hf.spell_lt
  have hw : Calls Try.prog 96 #[.slice a (LM.spell l).length c] w (WholeOut w l) := by
    have := whole15_any (.slice a (LM.spell l).length c) l (LM.size l) w (by rw [← LM.spell_length, List.take_length]; exact hu) (Nat.le_refl _) hf hz
    rwa [LM.upto_all (Nat.le_refl _)] at this
  have HW := Lib.hid hw
  clear h1 f0 f1 ho hD hb hu hw h hLo hT8
  generalize (LM.spell l).length = n at *
  unfold WholeOut at HW
  generalize LM.size l = z at *
  go_enter Try.func76, Try.ntmps76
  go_wp2_with fail
  refine HW.out.mono ?_
  rintro e w2 ⟨v, rfl, hr, hx, hlo⟩
  obtain ⟨va, vc, rfl, _⟩ := hr.old.slice
  have HP : Hid (LLoc w l (.returned (.slice va l.length vc)) w2) := ⟨_, rfl, hx, hr, hlo⟩
  clear hr hx HW hlo
  generalize l.length = q at *
  go_wp2
  go_ret
  exact HP.out
set_option maxHeartbeats 1000000 in
theorem rcrash15_any (t s : Nat) {o : Nat} {L : List Value} {T : TypeId} (hL8 : ∀ y ∈ L, ∀ n, y ≠ .int .u8 n) (D : Nat → Prop) (l : List (List Nat)) (keep : Int) (w : World) (h : RAt w t o L T D (LM.spell l) s) (hs : s ≤ LM.size l) (hf : LM.Fine l) (hz : LM.size l ≤ 1000000) (hk : -9223372036854775808 ≤ keep ∧ keep ≤ 9223372036854775807) (hnew : ∀ g, w.heap.size ≤ g → D g) :
    Calls Try.prog 75 #[.pointer (some ⟨t, o, none⟩), .int .i64 keep] w fun e w' => e = .returned (.tuple #[]) ∧ RAt w' t o L T D (LM.spell (LM.upto (LM.keep s keep (LM.size l)) l)) (LM.size (LM.upto (LM.keep s keep (LM.size l)) l)) ∧ w.grownBy w' (some t) := by
  obtain ⟨a, c, h0, h1, f0, f1, ho, hD, hb, hLo, hT8⟩ := h.cells
  have hlt := h.lt
  have hu := owns_u8s ho hf.spell_lt
  rw [LM.spell_length] at h0 ho hD hb hu
  obtain ⟨m, hm⟩ : ∃ m, m = LM.keep s keep (LM.size l) := ⟨_, rfl⟩
  have hmz : m ≤ LM.size l := hm ▸ LM.keep_le keep hs
  have hmk : m = s + min keep.toNat (LM.size l - s) := hm
  rw [← hm]
  obtain ⟨n, hn⟩ : ∃ n, n = LM.size (LM.upto m l) := ⟨_, rfl⟩
  rw [← hn]
  have hnm : n ≤ m := hn ▸ LM.upto_size m l
  obtain ⟨z, hzz⟩ : ∃ z, z = LM.size l := ⟨_, rfl⟩
  rw [← hzz] at h0 ho hD hb hu hs hz hmz hmk
  have hzl : z = (LM.spell l).length := by rw [LM.spell_length]; exact hzz
  obtain ⟨a2, c2, hsl, hu2⟩ := cut_to hu m (by omega)
  have HW : Hid (∀ w1, w1 = w.drew.setCell ⟨t, o, none⟩ (.slice a2 m c2) → Calls Try.prog 96 #[.slice a2 m c2] w1 (WholeOut w1 (LM.upto m l))) := fun w1 e => by
    subst e
    exact whole15_any _ l m _ (hu2.drew.beside hb (rlog_cells L hL8 _ _ _ _) (grown_set _ _ _ _)) (by omega) hf (by omega)
  -- what lies there behind the first store
  have HB1 : Hid (∀ w1 w2, w1 = w.drew.setCell ⟨t, o, none⟩ (.slice a2 m c2) → w1.Extends w2 → w2.heap[t]? = some (.cells (L ++ [Value.slice a2 m c2, Value.int .i64 ((s : Nat) : Int)]).toArray T (0, 0)) ∧ w.grownBy w2 (some t) ∧ ∃ a3 c3, (∀ w', (Instr.slice 26 (.slice a2 m c2) none (some (.int .i64 (n : Nat))) none).run Try.prog w' = .ok (.slice a3 n c3) w') ∧ U8s w2 (.slice a3 n c3) (LM.spell (LM.upto m l))) := fun w1 w2 e hx => by
    subst e
    have hb' : w.drew.heap[t]? = some (.cells (L ++ [Value.slice a z c, Value.int .i64 ((s : Nat) : Int)]).toArray T (0, 0)) := hb
    have hb1 : (w.drew.setCell ⟨t, o, none⟩ (.slice a2 m c2)).heap[t]? = some (.cells (L ++ [Value.slice a2 m c2, Value.int .i64 ((s : Nat) : Int)]).toArray T (0, 0)) := by
      rw [heap_setCell_same _ _ _ _ _ _ hb', last_set0 _ _ _ _ hLo]
    have hg1 : w.grownBy (w.drew.setCell ⟨t, o, none⟩ (.slice a2 m c2)) (some t) := grown_setCell (grown_drew (grown_refl _ _)) _ _
    refine ⟨(hx.block t (by simpa using hlt)).trans hb1, grown_trans hg1 (grown_below (Gr.below_of hx) (Nat.le_refl _)), ?_⟩
    have hu3 : U8s (w.drew.setCell ⟨t, o, none⟩ (.slice a2 m c2)) (.slice a2 m c2) ((LM.spell l).take m) := hu2.drew.beside hb' (rlog_cells L hL8 _ _ _ _) (grown_set _ _ _ _)
    have hle : ((LM.spell l).take m).length = m := by rw [List.length_take]; omega
    obtain ⟨a3, c3, h3, h4⟩ := cut_to (hu3.ext hx) n (by omega)
    refine ⟨a3, c3, h3, ?_⟩
    rw [List.take_take, Nat.min_eq_left hnm, hn, LM.spell_upto] at h4
    rw [hn]; exact h4
  have HLL : Hid (L.length = o) := hLo
  have HLS : Hid ((LM.spell (LM.upto m l)).length = n) := by rw [LM.spell_length]; exact hn.symm
  have HFIN : Hid (∀ (w2 w3 w5 : World) (a3 : Option Addr) (c3 : Nat), w2.heap[t]? = some (.cells (L ++ [Value.slice a2 m c2, Value.int .i64 ((s : Nat) : Int)]).toArray T (0, 0)) → w.grownBy w2 (some t) → w2.Extends w3 → w3.ownsRow 0 5 1 (.slice a3 n c3) n (u8vs (LM.spell (LM.upto m l))) →
      ((Value.slice a3 n c3).ownBlock = none ∨ ∃ g, (Value.slice a3 n c3).ownBlock = some g ∧ w2.heap.size ≤ g) → w5 = (w3.setCell ⟨t, o, none⟩ (.slice a3 n c3)).setCell ⟨t, o + 1, none⟩ (.int .i64 ((n : Nat) : Int)) → RAt w5 t o L T D (LM.spell (LM.upto m l)) n ∧ w.grownBy w5 (some t)) := fun w2 w3 w5 a3 c3 hb2 hg2 hx3 ho3 hn3 e5 => by
    have hl2 : t < w2.heap.size := Nat.lt_of_lt_of_le hlt hg2.size
    have hb3 : w3.heap[t]? = some (.cells (L ++ [Value.slice a2 m c2, Value.int .i64 ((s : Nat) : Int)]).toArray T (0, 0)) := (hx3.block t hl2).trans hb2
    have hg5 : w3.grownBy w5 (some t) := by subst e5; exact grown_setCell (grown_set _ _ _ _) _ _
    refine ⟨⟨a3, c3, ?_, hLo, hT8, ?_, fun g hg => ?_⟩, grown_trans hg2 (grown_trans (grown_below (Gr.below_of hx3) (Nat.le_refl _)) hg5)⟩
    · rw [HLS.out]
      subst e5
      rw [heap_setCell_same _ _ _ _ _ _ (heap_setCell_same _ _ _ _ _ _ hb3), last_set0 _ _ _ _ hLo, last_set1 _ _ _ _ hLo]
    · rw [HLS.out]
      refine ho3.kept hg5 ?_
      rcases hn3 with e | ⟨g, e, hge⟩
      · exact .inl e
      · refine .inr ?_
        rw [e]; simp; omega
    · rw [HLS.out] at hg
      rcases hn3 with e | ⟨g', e, hge⟩
      · rw [e] at hg; cases hg
      · rw [e] at hg
        have := Option.some.inj hg
        subst this
        exact hnew _ (Nat.le_trans hg2.size hge)
  have HC : Hid (∀ w', w.drew.Extends w' → w'.cell? ⟨t, o, none⟩ = some (.slice a z c) ∧ w'.cell? ⟨t, o + 1, none⟩ = some (.int .i64 ((s : Nat) : Int))) := fun w' hw' => ⟨(Gr.of_drew hw').cell_of h0, (Gr.of_drew hw').cell_of h1⟩
  have HSL := Lib.hid hsl
  have HF0 : Hid (w.drew.frozen? ⟨t, o, none⟩ = false) := f0
  obtain ⟨y, hy⟩ : ∃ y, y = z - s := ⟨_, rfl⟩
  have HCUT := Lib.hid (fun w' => cut15_any keep y w' hk (by omega))
  have hw1 : IntKind.i64.wrap (((z : Nat) : Int) - ((s : Nat) : Int)) = ((y : Nat) : Int) := by rw [IntKind.wrap_i64]; omega
  rw [← hy] at hmk
  generalize min keep.toNat y = ck at *
  obtain ⟨iu, hiu, hi0, hi1, hi2⟩ := info_parts byteinfo
  have HI := Lib.hid hiu
  have HZ0 := Lib.hid hi0
  have HZ1 := Lib.hid hi1
  have HZ2 := Lib.hid hi2
  have hw2 : IntKind.i64.wrap (((s : Nat) : Int) + ((ck : Nat) : Int)) = ((m : Nat) : Int) := by rw [IntKind.wrap_i64]; omega
  have HWO : Hid (∀ w1 e w2, WholeOut w1 (LM.upto m l) e w2 → ∃ a9 n9 c9, e = .returned (.tuple #[.int .i64 ((n : Nat) : Int), .slice a9 n9 c9]) ∧ w1.Extends w2) := fun w1 e w2 ⟨v, h1, h2, h3, _⟩ => by
    obtain ⟨a9, c9, rfl, _⟩ := h2.old.slice
    exact ⟨a9, _, c9, by rw [hn]; exact h1, h3⟩
  clear h0 h1 f0 f1 ho hD hb hu hu2 hsl hzl h hnew hmk hy hzz hiu hi0 hi1 hi2 hlt hn hm hLo hT8 hL8
  go_enter Try.func75, Try.ntmps75
  go_wp2_with fail
  refine Gr.region 23 [(false,0),(false,1),(false,2),(false,3),(false,4),(false,5),(false,6),(false,7),(false,8),(false,9),(false,10),(false,11),(false,12),(false,13),(false,14),(false,15),(false,16),(false,17),(false,18),(false,19),(true,20),(false,21),(false,22)] (by kernel_rfl) (by kernel_rfl) (fun d _ _ _ _ h => by cases d <;> exact h) ?_
  simp only [Gr.pick, List.getElem?_cons_zero, List.getElem?_cons_succ, List.drop_succ_cons, List.drop_zero]
  generalize w.drew = wd at *
  iterate 20
    refine Gr.walk_t ?_ (Or.inl ⟨by rfl, ?_⟩) ?_
    rotate_left
    · intro w' hw'
      obtain ⟨hc0, hc1⟩ := HC.out w' hw'
      clear hw'
      go_simp
      try with_reducible rfl
    simp only [Act.put, List.setIfInBounds_toArray, List.set_cons_zero, List.set_cons_succ]
  refine Gr.walk_c (fun K hK => ?_)
  go_simp
  refine (HCUT.out wd).mono ?_
  rintro e w2 ⟨rfl, rfl⟩
  try go_simp
  refine hK.out _ _ ((Gr.ext_refl _)) ?_
  clear hK K
  refine Gr.walk_t ?_ (Or.inl ⟨by rfl, ?_⟩) ?_
  rotate_left
  · intro w' hw'
    clear hw'
    go_simp
    try with_reducible rfl
  simp only [Act.put, List.setIfInBounds_toArray, List.set_cons_zero, List.set_cons_succ]
  refine Gr.walk_t ?_ (Or.inl ⟨by rfl, ?_⟩) ?_
  rotate_left
  · intro w' hw'
    have hs0 := HSL.out w'
    clear hw'
    go_simp
    try with_reducible rfl
  simp only [Act.put, List.setIfInBounds_toArray, List.set_cons_zero, List.set_cons_succ]
  refine Gr.walk_nil ?_
  obtain ⟨hc0, hc1⟩ := HC.out wd (Gr.ext_refl _)
  have hf0 := HF0.out
  clear HCUT HSL HC HF0 hw1 hw2
  go_wp2_with fail
  refine (HW.out _ rfl).mono ?_
  rintro e w2 hwo
  obtain ⟨a9, n9, c9, rfl, hx2⟩ := HWO.out _ _ _ hwo
  obtain ⟨hb2, hg2, a3, c3, hs3, hu3⟩ := HB1.out _ w2 rfl hx2
  have hd0 : w2.cell? ⟨t, o, none⟩ = some (.slice a2 m c2) := by rw [cell_of_row _ _ _ _ _ _ hb2]; exact (two_last _ _ _ HLL.out).1
  have HS3 := Lib.hid hs3
  have HU3 : Hid (Src Try.prog 1 26 (.slice a3 n c3) n (u8vs (LM.spell (LM.upto m l))) w2) := by
    have h := hu3.src (P := Try.prog) (tx := 26) Try.underlying26
    rw [HLS.out] at h; exact h
  have HB2 := Lib.hid hb2
  have HG2 := Lib.hid hg2
  clear hwo hx2 hb2 hg2 hs3 hu3 HW HB1 HWO hc0 hc1 hf0
  go_wp2_with (first | refine wpList_slice rfl 26 (.tmp 43) none (some (.tmp 44)) rfl elemBytes _ _ _ rfl rfl rfl (HS3.out _) ?_ | at_builtin; refine wpList_append_own_src3 _ rfl _ _ 26 26 rfl 0 5 iu (.int .u8 0) 1 1 Try.underlying26 HI.out HZ0.out HZ1.out HZ2.out rfl _ _ _ rfl (World.ownsRow_nil _ _ _ _) _ n (u8vs (LM.spell (LM.upto m l))) rfl HU3.out (by unfold maxLen; omega) (by omega) (Nat.zero_le _) (fun _ => True) (clean_any _ _) (fun _ _ => trivial) (fun _ _ => trivial) ?_)
  intro v3 w3 ho3 hg3 hn3 _
  obtain ⟨a4, c4, rfl⟩ := owns_slice ho3
  have hx3 : w2.Extends w3 := grown_none hg3
  have hb3 : w3.heap[t]? = some (.cells (L ++ [Value.slice a2 m c2, Value.int .i64 ((s : Nat) : Int)]).toArray T (0, 0)) := (hx3.block t (Array.getElem?_eq_some_iff.1 HB2.out).1).trans HB2.out
  have hk0 : w3.cell? ⟨t, o, none⟩ = some (.slice a2 m c2) := by rw [cell_of_row _ _ _ _ _ _ hb3]; exact (two_last _ _ _ HLL.out).1
  have hk1 : w3.cell? ⟨t, o + 1, none⟩ = some (.int .i64 ((s : Nat) : Int)) := by rw [cell_of_row _ _ _ _ _ _ hb3]; exact (two_last _ _ _ HLL.out).2
  have hz0 := frozen_of_row w3 t o _ _ hb3
  have hz1 := frozen_of_row w3 t (o + 1) _ _ hb3
  have HP := Lib.hid (fun w5 => HFIN.out w2 w3 w5 a4 c4 HB2.out HG2.out hx3 ho3 hn3)
  clear ho3 hg3 hn3 hx3 hb3 hd0 HFIN HS3 HU3
  go_wp2
  go_end0
  exact ⟨rfl, HP.out _ rfl⟩
end Go.Proofs.Ytdbdnfjgmdkneaa
namespace Go.Proofs.Ytdbdnfjgmdkneaa
set_option maxRecDepth 20000
open Go.RowKit Go.Deep Go.Maps
set_option linter.unusedVariables false
theorem RAt.least {w : World} {t o s : Nat} {L : List Value} {T : TypeId} {D : Nat → Prop} {bs : List Nat} (h : RAt w t o L T D bs s) : ∃ DB : Nat → Prop, RAt w t o L T DB bs s ∧ ∀ g, DB g → D g ∧ ∃ cs, w.heap[g]? = some (.cells cs 5 (0, 0)) := by
  obtain ⟨a, c, h1, h2, h3, h4, h5⟩ := h
  exact ⟨fun g => (Value.slice a bs.length c).ownBlock = some g, ⟨a, c, h1, h2, h3, h4, fun g hg => hg⟩, fun g hg => ⟨h5 g hg, owns_at h4 hg⟩⟩
/-- A store of the reference lies at block t, in blocks of D; DB: the block of its log's bytes; v1, v2: its symbols' and its tombstones' slices; ps, qs: these and their data. -/
structure RSX (w : World) (t : Nat) (D DB : Nat → Prop) (st : Sto) (v1 v2 : Value) (ps qs : List Pr) : Prop where
  log : RAt w t 3 [.int .i64 ((st.m : Nat) : Int), v1, v2] 64 DB (LM.spell st.lg) st.s
  here : D t
  own1 : OwnR w v1 ps
  own2 : OwnR w v2 qs
  recs1 : recs ps = st.l
  recs2 : recs qs = st.t
  in1 : ∀ g, v1.ownBlock = some g → D g
  in2 : ∀ g, v2.ownBlock = some g → D g
  inB : ∀ g, DB g → D g ∧ ∃ cs, w.heap[g]? = some (.cells cs 5 (0, 0))
  apart : ∀ g, v1.ownBlock = some g → v2.ownBlock ≠ some g
  data : Reads w D ps
  dataB : ∀ p ∈ ps, p.1.d = [] ∨ ∀ g, p.2.ownBlock = some g → ¬ DB g
def RSt (w : World) (t : Nat) (D : Nat → Prop) (st : Sto) : Prop := ∃ DB v1 v2 ps qs, RSX w t D DB st v1 v2 ps qs
theorem OwnR.at_ {w : World} {v : Value} {ps : List Pr} (h : OwnR w v ps) : ∀ k, k < ps.length → ∃ g, (∃ cap, v = .slice (some ⟨g, 0, none⟩) ps.length cap) ∧ w.rangeAt g (k * 10) ((ps.getD k zp).1.cells (ps.getD k zp).2) := fun k hk => by
  rcases h.kinds with ⟨rfl, rfl⟩ | ⟨g, cap, rfl⟩
  · simp at hk
  · exact ⟨g, ⟨cap, rfl⟩, h.arr.1.range hk⟩
theorem OwnR.block {w : World} {v : Value} {ps : List Pr} (h : OwnR w v ps) : ∀ g, v.ownBlock = some g → ∃ cs, w.heap[g]? = some (.cells cs 28 (0, 0)) := fun g hg => by
  rcases h.1.2 with ⟨rfl, _⟩ | ⟨g', cap, cur, rfl, _, hh, _⟩
  · cases hg
  · simp only [Value.ownBlock, Option.some.injEq] at hg
    subst hg
    exact ⟨cur, hh⟩
theorem OwnR.same {w w' : World} {v : Value} {ps : List Pr} (h : OwnR w v ps) (hb : ∀ g cs, v.ownBlock = some g → w.heap[g]? = some (.cells cs 28 (0, 0)) → w'.heap[g]? = w.heap[g]?) : OwnR w' v ps := by
  refine ⟨⟨h.1.1, ?_⟩, h.2⟩
  rcases h.1.2 with h4 | ⟨g, cap, cur, rfl, h1, hh, hrest⟩
  · exact .inl h4
  · exact .inr ⟨g, cap, cur, rfl, h1, (hb g cur rfl hh).trans hh, hrest⟩
section
variable {w w' : World} {t : Nat} {D D' DB : Nat → Prop} {st : Sto} {v1 v2 : Value} {ps qs : List Pr}
theorem RSX.lt (h : RSX w t D DB st v1 v2 ps qs) : t < w.heap.size := h.log.lt
theorem RSX.len1 (h : RSX w t D DB st v1 v2 ps qs) : ps.length = st.l.length := by rw [← h.recs1, recs_length]
theorem RSX.len2 (h : RSX w t D DB st v1 v2 ps qs) : qs.length = st.t.length := by rw [← h.recs2, recs_length]
theorem RSX.mono (h : RSX w t D DB st v1 v2 ps qs) (hD : ∀ i, D i → D' i) : RSX w t D' DB st v1 v2 ps qs :=
  ⟨h.log, hD _ h.here, h.own1, h.own2, h.recs1, h.recs2, fun g hg => hD g (h.in1 g hg), fun g hg => hD g (h.in2 g hg), fun g hg => ⟨hD g (h.inB g hg).1, (h.inB g hg).2⟩, h.apart, h.data.mono hD, h.dataB⟩
theorem RSt.mono (h : RSt w t D st) (hD : ∀ i, D i → D' i) : RSt w t D' st := by
  obtain ⟨DB, v1, v2, ps, qs, h⟩ := h
  exact ⟨DB, v1, v2, ps, qs, h.mono hD⟩
/-- It stays where none of its blocks is written. -/
theorem RSX.away (h : RSX w t D DB st v1 v2 ps qs) (hs : w.heap.size ≤ w'.heap.size) (hb : ∀ g, D g → g < w.heap.size → w'.heap[g]? = w.heap[g]?) : RSX w' t D DB st v1 v2 ps qs := by
  have hlt : ∀ g cs (T : TypeId) f, w.heap[g]? = some (.cells cs T f) → g < w.heap.size := fun g cs T f hg => (Array.getElem?_eq_some_iff.1 hg).1
  refine ⟨h.log.keep (hb t h.here h.lt) (fun g cs hg hc => hb g (h.inB g hg).1 (hlt g _ _ _ hc)), h.here, h.own1.same (fun g cs hg hc => hb g (h.in1 g hg) (hlt g _ _ _ hc)), h.own2.same (fun g cs hg hc => hb g (h.in2 g hg) (hlt g _ _ _ hc)), h.recs1, h.recs2, h.in1, h.in2, fun g hg => ?_, h.apart, fun p hp' => (h.data p hp').same hs fun g cs f hg hc => hb g hg (hlt g _ _ _ hc), h.dataB⟩
  obtain ⟨h1, cs, h2⟩ := h.inB g hg
  exact ⟨h1, cs, (hb g h1 (hlt g _ _ _ h2)).trans h2⟩
theorem RSt.away (h : RSt w t D st) (hs : w.heap.size ≤ w'.heap.size) (hb : ∀ g, D g → g < w.heap.size → w'.heap[g]? = w.heap[g]?) : RSt w' t D st := by
  obtain ⟨DB, v1, v2, ps, qs, h⟩ := h
  exact ⟨DB, v1, v2, ps, qs, h.away hs hb⟩
theorem RSX.ext (h : RSX w t D DB st v1 v2 ps qs) (hx : w.Extends w') : RSX w' t D DB st v1 v2 ps qs := h.away hx.size fun g _ hg => hx.block g hg
theorem RSt.ext (h : RSt w t D st) (hx : w.Extends w') : RSt w' t D st := by
  obtain ⟨DB, v1, v2, ps, qs, h⟩ := h
  exact ⟨DB, v1, v2, ps, qs, h.ext hx⟩
theorem RSX.cells (h : RSX w t D DB st v1 v2 ps qs) : ∃ a c, w.heap[t]? = some (.cells #[.int .i64 ((st.m : Nat) : Int), v1, v2, .slice a (LM.spell st.lg).length c, .int .i64 ((st.s : Nat) : Int)] 64 (0, 0)) ∧ w.cell? ⟨t, 0, none⟩ = some (.int .i64 ((st.m : Nat) : Int)) ∧ w.cell? ⟨t, 1, none⟩ = some v1 ∧ w.cell? ⟨t, 2, none⟩ = some v2 ∧ w.cell? ⟨t, 3, none⟩ = some (.slice a (LM.spell st.lg).length c) ∧ w.frozen? ⟨t, 1, none⟩ = false ∧ w.frozen? ⟨t, 2, none⟩ = false := by
  obtain ⟨a, c, h1, _⟩ := h.log
  exact ⟨a, c, h1, by rw [cell_of_row _ _ _ _ _ _ h1]; rfl, by rw [cell_of_row _ _ _ _ _ _ h1]; rfl, by rw [cell_of_row _ _ _ _ _ _ h1]; rfl, by rw [cell_of_row _ _ _ _ _ _ h1]; rfl, frozen_of_row _ _ _ _ _ h1, frozen_of_row _ _ _ _ _ h1⟩
/-- Another slice of symbols, or of tombstones. -/
theorem RAt.front {w w' : World} {t s i : Nat} {a b c x : Value} {T : TypeId} {DB : Nat → Prop} {bs : List Nat} (h : RAt w t 3 [a, b, c] T DB bs s) (hi : i < 3) (hw : w' = w.setCell ⟨t, i, none⟩ x) : RAt w' t 3 ([a, b, c].set i x) T DB bs s ∧ w.grownBy w' (some t) := by
  obtain ⟨sa, sc, h1, h2, h3, h4, h5⟩ := h
  have hg : w.grownBy w' (some t) := by subst hw; exact grown_set _ _ _ _
  refine ⟨⟨sa, sc, ?_, by simp, h3, h4.kept hg ?_, h5⟩, hg⟩
  · subst hw
    rw [heap_setCell_same _ _ _ _ _ _ h1]
    obtain rfl | rfl | rfl : i = 0 ∨ i = 1 ∨ i = 2 := by omega
    all_goals rfl
  · cases hv : (Value.slice sa bs.length sc).ownBlock with
    | none => exact .inl rfl
    | some g =>
      refine .inr fun e => ?_
      obtain ⟨cs, hc⟩ := owns_at h4 hv
      have e' := Option.some.inj e
      subst e'
      rw [h1] at hc
      simp only [Option.some.injEq, Obj.cells.injEq] at hc
      exact absurd hc.2.1 h3
end
theorem cut1000_any (k : Int) (w : World) (hk : -9223372036854775808 ≤ k ∧ k ≤ 9223372036854775807) :
    Calls Try.prog 66 #[.int .i64 k, .int .i64 0, .int .i64 1000] w fun e w' => e = .returned (.int .i64 ((SM.cut k : Nat) : Int)) ∧ w = w' := by
  refine (cut15_any k 1000 w hk (by omega)).mono ?_
  rintro e w' ⟨rfl, rfl⟩
  refine ⟨?_, rfl⟩
  have : min k.toNat 1000 = SM.cut k := by unfold SM.cut; split <;> (try split) <;> omega
  rw [this]
theorem rnew16_any (x : Int) (w : World) (hx : -9223372036854775808 ≤ x ∧ x ≤ 9223372036854775807) :
    Calls Try.prog 24 #[.int .i64 x] w fun e w' => ∃ t, e = .returned (.pointer (some ⟨t, 0, none⟩)) ∧ w.Extends w' ∧ RSt w' t (fun i => w.heap.size ≤ i ∧ i < w'.heap.size) (SM.new x) := by
  have HC : Hid (∀ w', Calls Try.prog 66 #[.int .i64 x, .int .i64 0, .int .i64 1000] w' fun e w2 => e = .returned (.int .i64 ((SM.cut x : Nat) : Int)) ∧ w' = w2) := fun w' => cut1000_any x w' hx
  have HP : Hid (∀ w', w' = w.alloc (.cells #[.int .i64 ((SM.cut x : Nat) : Int), .slice none 0 0, .slice none 0 0, .slice none 0 0, .int .i64 0] 64) → w.Extends w' ∧ RSt w' w.heap.size (fun i => w.heap.size ≤ i ∧ i < w'.heap.size) (SM.new x)) := fun w' e => by
    subst e
    exact ⟨ext_alloc _ _, fun _ => False, .slice none 0 0, .slice none 0 0, [], [], ⟨⟨none, 0, heap_alloc_new _ _, rfl, by decide, World.ownsRow_nil _ _ _ _, fun g hg => (nomatch hg)⟩, by simp, OwnR.nil _, OwnR.nil _, rfl, rfl, fun g hg => (nomatch hg), fun g hg => (nomatch hg), fun g hg => hg.elim, fun g hg => (nomatch hg), fun p hp => (nomatch hp), fun p hp => (nomatch hp)⟩⟩
  generalize SM.cut x = q at *
  go_enter Try.func24, Try.ntmps24
  go_wp2_with fail
  refine (HC.out w).mono ?_
  rintro e w2 ⟨rfl, rfl⟩
  go_wp2
  go_ret
  exact ⟨_, rfl, HP.out _ rfl⟩
end Go.Proofs.Ytdbdnfjgmdkneaa
