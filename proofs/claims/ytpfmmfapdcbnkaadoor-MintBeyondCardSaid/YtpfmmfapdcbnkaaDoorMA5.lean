/- In one text: RwsL, SplCopy, Says, SplFit, SplJoin, FldTimesP, FldMany, RowTab, RowOf. -/
import Derived.Handy
import Derived.Laws.CopyOwn
import Derived.Lib.Hide
import Derived.Test.YtpfmmfapdcbnkaaDoorRows
import Derived.WalkSpells
import Derived.WalkLawsBesides
import Derived.Outline
import Derived.Laws.Rows
import Derived.Test.YtpfmmfapdcbnkaaDoorMA1
import Derived.Test.YtpfmmfapdcbnkaaDoorMA2
import Derived.Test.YtpfmmfapdcbnkaaDoorMA3
import Derived.Test.YtpfmmfapdcbnkaaDoorMA4
namespace Go.Proofs.YtpfmmfapdcbnkaaDoor
set_option maxRecDepth 20000
open Go.RowKit Go.Deep
set_option linter.unusedVariables false
def RwsL (w : World) (v : Value) (L : List (List (List Nat))) : Prop :=
  (L = [] ∧ ∃ a cap, v = .slice a 0 cap) ∨
  ∃ b off cap, v = .slice (some ⟨b, off, none⟩) L.length cap ∧ L.length ≤ cap ∧ cap ≤ maxLen ∧ b < w.heap.size ∧ ∀ k, k < L.length → ∃ u, w.cell? ⟨b, off + k, none⟩ = some u ∧ Rws w u (L.getD k [])
theorem RwsL.nil (w : World) (a : Option Addr) (cap : Nat) : RwsL w (.slice a 0 cap) [] := .inl ⟨rfl, a, cap, rfl⟩
theorem RwsL.ext {w w' : World} {v : Value} {L : List (List (List Nat))} (h : RwsL w v L) (hb : w.Extends w') : RwsL w' v L := by
  rcases h with h | ⟨b, off, cap, h1, h2, h2', h3, h4⟩
  · exact .inl h
  · refine .inr ⟨b, off, cap, h1, h2, h2', Nat.lt_of_lt_of_le h3 hb.size, fun k hk => ?_⟩
    obtain ⟨u, hu, hv⟩ := h4 k hk
    exact ⟨u, (hb.cell ⟨b, off + k, none⟩ h3).trans hu, hv.ext hb⟩
theorem RwsL.slice {w : World} {v : Value} {L : List (List (List Nat))} (h : RwsL w v L) : ∃ a cap, v = .slice a L.length cap ∧ L.length ≤ cap := by
  rcases h with ⟨rfl, a, cap, rfl⟩ | ⟨b, off, cap, rfl, h1, _⟩
  · exact ⟨a, cap, rfl, Nat.zero_le _⟩
  · exact ⟨_, cap, rfl, h1⟩
theorem RwsL.len {w : World} {v : Value} {L : List (List (List Nat))} (h : RwsL w v L) : L.length ≤ maxLen := by
  rcases h with ⟨rfl, _⟩ | ⟨b, off, cap, rfl, h1, h2, _⟩
  · simp [maxLen]
  · exact Nat.le_trans h1 h2
theorem RwsL.at {w : World} {a : Option Addr} {n cap : Nat} {L : List (List (List Nat))} (h : RwsL w (.slice a n cap) L) : n = L.length ∧ (0 < n → ∃ b off, a = some ⟨b, off, none⟩ ∧ b < w.heap.size ∧ ∀ k, k < n → ∃ a' c', w.cell? ⟨b, off + k, none⟩ = some (.slice a' (L.getD k []).length c') ∧ Rws w (.slice a' (L.getD k []).length c') (L.getD k [])) := by
  rcases h with ⟨rfl, a', cap', hv⟩ | ⟨b, off, cap', hv, h2, h2', h3, h4⟩
  · cases hv; exact ⟨rfl, fun h => absurd h (Nat.lt_irrefl _)⟩
  · cases hv
    refine ⟨rfl, fun _ => ⟨b, off, rfl, h3, fun k hk => ?_⟩⟩
    obtain ⟨u, hu, hs⟩ := h4 k hk
    obtain ⟨a', c', rfl, _⟩ := hs.slice
    exact ⟨a', c', hu, hs⟩
/-- A row of slices of rows. -/
theorem RwsL.row {w : World} {g n : Nat} {T : TypeId} {f : Nat → Value} {L : List (List (List Nat))} (h : w.rowIs g T n f) (hn : n ≤ maxLen) (hL : L.length = n) (hr : ∀ k, k < n → Rws w (f k) (L.getD k [])) : RwsL w (.slice (some ⟨g, 0, none⟩) n n) L := by
  subst hL
  exact .inr ⟨g, 0, L.length, rfl, Nat.le_refl _, hn, h.lt, fun k hk => ⟨f k, by rw [Nat.zero_add]; exact h.cell hk, hr k hk⟩⟩
/-- v is the call's own slice of slices of rows, all in memory of the call's own. -/
def Mts (w : World) (B : Nat) (T2 T1 : TypeId) (v : Value) (k : Nat) (L : List (List (List Nat))) : Prop :=
  ∃ vs, w.ownsRow B T2 1 v k vs ∧ ∀ j, j < k → ∃ u, vs[j]? = some u ∧ Mats w B B T1 u (L.getD j []).length (L.getD j [])
theorem Mts.nil (w : World) (B : Nat) (T2 T1 : TypeId) : Mts w B T2 T1 (.slice none 0 0) 0 [] := ⟨[], World.ownsRow_nil _ _ _ _, fun j hj => absurd hj (Nat.not_lt_zero _)⟩
theorem Mts.ext {w w' : World} {B : Nat} {T2 T1 : TypeId} {v : Value} {k : Nat} {L : List (List (List Nat))} (h : Mts w B T2 T1 v k L) (hx : w.Extends w') : Mts w' B T2 T1 v k L := by
  obtain ⟨vs, ho, hr⟩ := h
  have hg : w.grownBy w' none := ⟨hx.os, hx.tape, hx.output, hx.size, fun i hi _ => hx.block i hi⟩
  refine ⟨vs, ho.kept hg (by cases v.ownBlock <;> simp), fun j hj => ?_⟩
  obtain ⟨u, h1, h2⟩ := hr j hj
  exact ⟨u, h1, h2.ext hx⟩
theorem Mts.slice {w : World} {B : Nat} {T2 T1 : TypeId} {v : Value} {k : Nat} {L : List (List (List Nat))} (h : Mts w B T2 T1 v k L) : ∃ a cap, v = .slice a k cap := by
  obtain ⟨vs, ho, hr⟩ := h
  exact owns_slice ho
theorem Mts.rws {w : World} {B : Nat} {T2 T1 : TypeId} {v : Value} {k : Nat} {L : List (List (List Nat))} (h : Mts w B T2 T1 v k L) (hk : k = L.length) : RwsL w v L := by
  subst hk
  obtain ⟨vs, hown, hrow⟩ := h
  rcases hown.2 with ⟨rfl, h0⟩ | ⟨g, cap, cur, rfl, hbg, hg, hnc, hcm, hcs, htake⟩
  · exact .inl ⟨List.eq_nil_of_length_eq_zero h0, none, 0, rfl⟩
  · refine .inr ⟨g, 0, cap, rfl, hnc, hcm, (Array.getElem?_eq_some_iff.1 hg).1, fun j hj => ?_⟩
    obtain ⟨u, hu, ho⟩ := hrow j hj
    refine ⟨u, ?_, ho.rws rfl⟩
    have := hown.cells (g := g) rfl j u hu
    rw [Addr.add_mid] at this
    exact this
theorem Mts.snoc {w w' : World} {B : Nat} {T2 T1 : TypeId} {v v' u : Value} {k : Nat} {L : List (List (List Nat))} {vs : List Value} {r : List (List Nat)} (hT : T1 ≠ T2) (hT2 : T2 ≠ 5) (hk : k = L.length) (hown : w.ownsRow B T2 1 v k vs)
    (hr : ∀ j, j < k → ∃ u, vs[j]? = some u ∧ Mats w B B T1 u (L.getD j []).length (L.getD j [])) (hu : Mats w B B T1 u r.length r)
    (hg : w.grownBy w' v.ownBlock) (ho : w'.ownsRow B T2 1 v' (k + 1) (vs ++ [u])) : Mts w' B T2 T1 v' (k + 1) (L ++ [r]) := by
  have hl : vs.length = k := by have := hown.1; omega
  refine ⟨vs ++ [u], ho, fun j hj => ?_⟩
  by_cases hjk : j < k
  · obtain ⟨u', hu', ho'⟩ := hr j hjk
    refine ⟨u', by rw [List.getElem?_append_left (by omega)]; exact hu', ?_⟩
    rw [show (L ++ [r]).getD j [] = L.getD j [] by simp [List.getD_eq_getElem?_getD, List.getElem?_append_left (show j < L.length by omega)]]
    exact ho'.by_row hown hT hT2 (Nat.le_refl _) hg
  · obtain rfl : j = k := by omega
    refine ⟨u, by rw [List.getElem?_append_right (by omega), hl]; simp, ?_⟩
    rw [show (L ++ [r]).getD j [] = r by simp [hk]]
    exact hu.by_row hown hT hT2 (Nat.le_refl _) hg
end Go.Proofs.YtpfmmfapdcbnkaaDoor
namespace Go.Proofs.YtpfmmfapdcbnkaaDoor
set_option maxRecDepth 20000
open Go.RowKit Go.Deep
set_option linter.unusedVariables false
theorem PAt.own {w w' : World} {b : Nat} {k s h : Int} {r : Option Nat} (hp : PAt w b k s h) (hg : w.grownBy w' r) (hn : ∀ x, r = some x → b < x) : PAt w' b k s h :=
  have e : some b ≠ r := fun e => by have := hn b e.symm; omega
  ⟨hg.cell hp.1 e, hg.cell hp.2.1 e, hg.cell hp.2.2 e⟩
theorem RowOk.butRow {w w' : World} {u : Value} {xs : List Nat} {g n : Nat} {T : TypeId} {f : Nat → Value} (h : RowOk w 0 u xs) (hr : w.rowIs g T n f) (hT : T ≠ 5) (hg : w.grownBy w' (some g)) : RowOk w' 0 u xs := by
  refine h.grown hg ?_
  rcases h.2 with h0 | h0
  · exact .inl h0
  · refine .inr fun e => ?_
    obtain ⟨_, h1 | ⟨cs, h1⟩⟩ := h0 g e
    · omega
    · obtain ⟨cs', hc, _⟩ := hr
      rw [h1] at hc
      simp only [Option.some.injEq, Obj.cells.injEq] at hc
      exact hT hc.2.1.symm
theorem Mats.butRow {w w' : World} {B k g n : Nat} {T T1 : TypeId} {v : Value} {l : List (List Nat)} {f : Nat → Value} (h : Mats w B 0 T1 v k l) (hgB : g < B) (hr : w.rowIs g T n f) (hT : T ≠ 5) (hg : w.grownBy w' (some g)) : Mats w' B 0 T1 v k l := by
  obtain ⟨vs, ho, hv⟩ := h
  refine ⟨vs, ho.kept hg ?_, fun j hj => ?_⟩
  · cases hb : v.ownBlock with
    | none => exact .inl rfl
    | some x => exact .inr (by have := (ho.lt x hb).1; simp; omega)
  · obtain ⟨u, h1, h2⟩ := hv j hj
    exact ⟨u, h1, h2.butRow hr hT hg⟩
theorem Own.ok {w : World} {b n : Nat} {xs : List Nat} (h : Own w b 5 xs) (hn : xs.length = n) : RowOk w 0 (.slice (some ⟨b, 0, none⟩) n n) xs := RowOk.own h 0 hn.symm hn.symm
theorem rowlistinfo : (Tryd.prog.info? 54).map (fun i => (i.zero, i.size, i.bytes)) = some (some (.slice none 0 0), 1, 24) := by kernel_rfl
theorem mkRowLists (k : Nat) (hk : k ≤ 10000) (w : World) : (Instr.makeSlice 49 (.int .i64 (k : Int)) (.int .i64 (k : Int))).run Tryd.prog w = .ok (.slice (some ⟨w.heap.size, 0, none⟩) k k) (w.alloc (.cells (madeCells #[.slice none 0 0] k) 54)) :=
  run_make_row' (P := Tryd.prog) 49 54 (.slice none 0 0) 24 Tryd.underlying49 rowlistinfo rfl .i64 .i64 k (by omega) (by omega) w
/-- The first q blocks are laid: cells of block g. -/
def CutTo (w : World) (g n q : Nat) (vals : Nat → Value) (s y : Nat) (xs : List Nat) : Prop :=
  w.rowIs g 54 n vals ∧ (∀ c, c < q → Mats w (g + 1) 0 67 (vals c) (CM.deal y n c) (CM.blk s xs (CM.ahead y n c) (CM.deal y n c))) ∧ ∀ c, q ≤ c → vals c = .slice none 0 0
theorem CutTo.made (w : World) (n s y : Nat) (xs : List Nat) : CutTo (w.alloc (.cells (madeCells #[.slice none 0 0] n) 54)) w.heap.size n 0 (fun _ => .slice none 0 0) s y xs :=
  ⟨World.rowIs_made w (.slice none 0 0) n 54, fun c hc => absurd hc (Nat.not_lt_zero _), fun _ _ => rfl⟩
theorem CutTo.ext {w w' : World} {g n q : Nat} {vals : Nat → Value} {s y : Nat} {xs : List Nat} (h : CutTo w g n q vals s y xs) (hx : w.Extends w') : CutTo w' g n q vals s y xs :=
  ⟨h.1.of_block (hx.block g h.1.lt), fun c hc => (h.2.1 c hc).ext hx, h.2.2⟩
theorem copy_src {w : World} {a : Option Addr} {n cap : Nat} {ys : List Nat} (h : U8s w (.slice a n cap) ys) (s : Nat) (h0 : 0 < (u8vs (ys.take s)).length) : ∃ ad, a = some ad ∧ ∀ j v, (u8vs (ys.take s))[j]? = some v → w.cell? (ad.add j) = some v := by
  rw [u8vs_length, List.length_take] at h0
  obtain ⟨hn, hc⟩ := h.cell
  obtain ⟨b, off, rfl, _, hc⟩ := hc (by omega)
  refine ⟨_, rfl, fun j v hv => ?_⟩
  obtain ⟨hj, rfl⟩ := u8vs_at _ _ _ hv
  rw [List.length_take] at hj
  rw [Addr.add_mid, hc j (by omega)]
  simp [List.getD_eq_getElem?_getD, show j < s by omega]
theorem u8vs_one (ys : List Nat) : ∀ v ∈ u8vs ys, v.oneCell' = true := fun v hv => by
  obtain ⟨x, _, rfl⟩ := List.mem_map.1 hv; rfl
theorem bytesize : (Tryd.prog.info? 5).map (·.size) = some 1 := by kernel_rfl
theorem made_bytes (w : World) (s : Nat) : (w.alloc (.cells (madeCells #[.int .u8 0] s) 5)).heap[w.heap.size]? = some (.cells (List.replicate s (Value.int .u8 0)).toArray 5 (0, 0)) := by
  rw [heap_alloc_new]
  obtain ⟨c, hc, hs, hi⟩ := World.rowIs_made w (.int .u8 0) s 5
  rw [heap_alloc_new] at hc
  rw [hc]
  congr 2
  apply Array.ext
  · simp [hs]
  · intro i h1 h2
    have := hi i (by omega)
    rw [Array.getElem?_eq_getElem h1] at this
    simpa using this
/-- .. and block q, too. -/
theorem CutTo.next {wo w : World} {g n q : Nat} {vals : Nat → Value} {s y : Nat} {xs : List Nat} {u : Value} (h : CutTo wo g n q vals s y xs) (hg : wo.grownBy w (some g)) (hr : w.rowIs g 54 n (fun c => if c = q then u else vals c))
    (hu : Mats w wo.heap.size 0 67 u (CM.deal y n q) (CM.blk s xs (CM.ahead y n q) (CM.deal y n q))) : CutTo w g n (q + 1) (fun c => if c = q then u else vals c) s y xs := by
  have hlt := h.1.lt
  refine ⟨hr, fun c hc => ?_, fun c hc => ?_⟩
  · by_cases e : c = q
    · subst e; simp only [if_true]; exact hu.base (by omega)
    · simp only [if_neg e]
      exact (h.2.1 c (by omega)).butRow (by omega) h.1 (by decide) hg
  · simp only [if_neg (show ¬ c = q by omega)]
    exact h.2.2 c (by omega)
theorem CutTo.rws {w : World} {g n : Nat} {vals : Nat → Value} {s m : Nat} {xs : List Nat} (h : CutTo w g n n vals s (CM.sy xs.length s) xs) (hn : n = CM.bl xs.length s m) (hm : n ≤ maxLen) : RwsL w (.slice (some ⟨g, 0, none⟩) n n) (CM.cut xs.length s m xs) := by
  subst hn
  refine RwsL.row h.1 hm (CM.cut_length _ _ _ _) fun k hk => ?_
  rw [CM.cut_at _ _ _ _ _ hk, CM.kk_in _ _ _ _ hk]
  exact (h.2.1 k hk).rws (CM.blk_length _ _ _ _).symm
end Go.Proofs.YtpfmmfapdcbnkaaDoor
namespace Go.Proofs.YtpfmmfapdcbnkaaDoor
set_option maxRecDepth 20000
open Go.RowKit
set_option linter.unusedVariables false
/-- Does each row have size elements? -/
def AllB (size : Int) (l : List (List Nat)) : Prop := ∀ k, k < l.length → ((l.getD k []).length : Int) = size
/-- The answer tells whether P. -/
def Says (P : Prop) (w : World) (e : Ending) (w' : World) : Prop := (∃ b : Bool, e = .returned (.bool b) ∧ (b = true ↔ P)) ∧ w.Extends w'
theorem Says.yes {P : Prop} {w w' : World} (h : P) (hx : w.Extends w') : Says P w (.returned (.bool true)) w' := ⟨⟨true, rfl, fun _ => h, fun _ => rfl⟩, hx⟩
theorem Says.no {P : Prop} {w w' : World} (h : ¬ P) (hx : w.Extends w') : Says P w (.returned (.bool false)) w' := ⟨⟨false, rfl, fun h' => (by cases h'), fun h' => absurd h' h⟩, hx⟩
end Go.Proofs.YtpfmmfapdcbnkaaDoor
namespace Go.Proofs.YtpfmmfapdcbnkaaDoor
set_option maxRecDepth 20000
open Go.RowKit Go.Deep
set_option linter.unusedVariables false
theorem sallOf_any (size : Int) (v : Value) (l : List (List Nat)) (w : World) (hv : Rws w v l) :
    Calls Tryd.prog 43 #[.int .i64 size, v] w (Says (AllB size l) w) := by
  have hm := hv.len
  obtain ⟨a, cap, rfl, _⟩ := hv.slice
  have HV := Lib.hid hv.at.2
  have HALL : Hid ((∀ k, k < l.length → ((l.getD k []).length : Int) = size) ↔ AllB size l) := Iff.rfl
  clear hv
  generalize hn : l.length = n at *
  have HN := Lib.hid hn; clear hn
  unfold maxLen at hm
  go_enter Tryd.func43, Tryd.ntmps43
  go_wp2_with fail
  go_loopw [9] (fun i wr => ∃ k : Nat, k ≤ n ∧ i = .int .i64 k ∧ Hid (w.Extends wr) ∧ Hid (∀ i, i < k → ((l.getD i []).length : Int) = size)) (fun i _ => (n - intOf i).toNat)
  case atStart => exact ⟨0, by omega, rfl, Lib.hid (Gr.ext_refl _), Lib.hid (fun i hi => absurd hi (Nat.not_lt_zero _))⟩
  case round =>
    obtain ⟨k, hk, rfl, HX, HK⟩ := hrel
    by_cases h1 : k < n
    · obtain ⟨b1, o1, rfl, hb1, hc1⟩ := HV.out (by omega)
      obtain ⟨ra, rc, hc3, hr0⟩ := hc1 k h1
      have hc2 := HX.out.cell_of hc3
      clear hc1 hc3 hr0
      have HK2 : Hid (((l.getD k []).length : Int) = size → ∀ i, i < k + 1 → ((l.getD i []).length : Int) = size) := fun h2 i hi => by
        by_cases e : i = k
        · subst e; exact h2
        · exact HK.out i (by omega)
      have HK3 : Hid (AllB size l → ((l.getD k []).length : Int) = size) := fun h => h k (by rw [HN.out]; exact h1)
      generalize (l.getD k []).length = r at *
      by_cases h2 : (r : Int) = size
      · have hne : ((r : Int) != size) = false := by simpa using h2
        have HK4 := Lib.hid (HK2.out h2)
        clear h2 HK2 HK3
        go_wp2
        go_roundw
        case rel => exact ⟨k + 1, by omega, by go_num, HX, HK4⟩
        case measure => simp [intOf]; omega
      · have hne : ((r : Int) != size) = true := by simpa using h2
        have HP : Hid (Says (AllB size l) w (.returned (.bool false)) wr) := Says.no (fun h => h2 (HK3.out h)) HX.out
        clear h2 HK2 HK3
        go_wp2
        go_ret
        exact HP.out
    · obtain rfl : k = n := by omega
      have HP : Hid (Says (AllB size l) w (.returned (.bool true)) wr) := Says.yes (fun i hi => HK.out i (by rw [← HN.out]; exact hi)) HX.out
      go_wp2
      go_ret
      exact HP.out
set_option maxHeartbeats 1000000 in
theorem fit_any (b s m : Nat) (v : Value) (L : List (List (List Nat))) (w : World) (h : CM.Right b s m) (hv : RwsL w v L) :
    Calls Tryd.prog 33 #[PV b s m, v] w (Says (CM.Fit b s m L) w) := by
  have hm := hv.len
  obtain ⟨va, vc, rfl, _⟩ := hv.slice
  have HV := Lib.hid hv.at.2
  have HB := Lib.hid (fun w => blocks_yes b s m w h)
  have HK := Lib.hid (fun w i hi => k_in b s m i w h hi)
  have HFIT : Hid ((L.length = CM.bl b s m ∧ ∀ i, i < L.length → (L.getD i []).length = CM.kk b s m i ∧ ∀ j, j < (L.getD i []).length → ((L.getD i []).getD j []).length = s) ↔ CM.Fit b s m L) := Iff.rfl
  obtain ⟨h1, h2, h3, h4, h5, h6⟩ := CM.right_of h
  have hyl := CM.sy_le b s h1
  have hnl := CM.bl_le b s m
  have HKL : Hid (∀ i, CM.kk b s m i ≤ 40) := fun i => Nat.le_trans (CM.kk_le b s m i h5) h6
  unfold maxLen at hm
  clear hv
  generalize CM.Fit b s m L = Ft at *
  generalize CM.bl b s m = n at *
  generalize CM.sy b s = y at *
  generalize CM.kk b s m = kk at *
  obtain ⟨ln, hln⟩ : ∃ ln, ln = L.length := ⟨_, rfl⟩
  rw [← hln] at HV HFIT hm ⊢
  clear hln h
  go_enter Tryd.func33, Tryd.ntmps33
  go_wp2_with fail
  generalize hw1 : World.alloc w _ = w1
  have hx1 : w.Extends w1 := by subst hw1; exact prm_ext_alloc _ _
  have hp : PAt w1 w.heap.size b s m := by subst hw1; exact PAt.new w 28 b s m
  generalize w.heap.size = bx at hp ⊢
  clear hw1
  have HX1 := Lib.hid hx1
  have HP1 := Lib.hid hp
  have hb1 := hp.lt
  obtain ⟨p0, p1, p2⟩ := hp
  clear hx1
  refine (HB.out w1).mono ?_
  rintro e w2 ⟨rfl, hx⟩
  have HX2 := Lib.hid (Gr.ext_trans HX1.out hx)
  have HP2 := Lib.hid (HP1.out.ext hx)
  have hb2 := HP2.out.lt
  clear p0 p1 p2 hx
  by_cases h7 : ln = n
  · have hne : ((ln : Int) != n) = false := by simp; omega
    have HLN := Lib.hid h7
    clear h7
    go_wp2_with fail
    go_loopw [14] (fun i wr => ∃ q : Nat, q ≤ ln ∧ i = .int .i64 q ∧ Hid (w2.Extends wr) ∧ Hid (∀ i, i < q → (L.getD i []).length = kk i ∧ ∀ j, j < (L.getD i []).length → ((L.getD i []).getD j []).length = s)) (fun i _ => (ln - intOf i).toNat)
    case atStart => exact ⟨0, by omega, rfl, Lib.hid (Gr.ext_refl _), Lib.hid (fun i hi => absurd hi (Nat.not_lt_zero _))⟩
    case round =>
      obtain ⟨q, hq, rfl, HX, HQ⟩ := hrel
      by_cases h8 : q < ln
      · obtain ⟨bb, o1, rfl, hbb, hc1⟩ := HV.out (by omega)
        obtain ⟨ra, rc, hc3, hr0⟩ := hc1 q h8
        have HXW := Lib.hid (Gr.ext_trans HX2.out HX.out)
        have hc2 := HXW.out.cell_of hc3
        have HR := Lib.hid (hr0.ext HXW.out)
        have HPr := Lib.hid (HP2.out.ext HX.out)
        have hbr := HPr.out.lt
        obtain ⟨p0, p1, p2⟩ := HPr.out
        have hrl := hr0.len
        unfold maxLen at hrl
        have hkl := HKL.out q
        have HNX : Hid ((L.getD q []).length = kk q → (∀ j, j < (L.getD q []).length → ((L.getD q []).getD j []).length = s) → ∀ i, i < q + 1 → (L.getD i []).length = kk i ∧ ∀ j, j < (L.getD i []).length → ((L.getD i []).getD j []).length = s) := fun e1 e2 i hi => by
          by_cases e : i = q
          · subst e; exact ⟨e1, e2⟩
          · exact HQ.out i (by omega)
        have HNO : Hid (Ft → (L.getD q []).length = kk q ∧ ∀ j, j < (L.getD q []).length → ((L.getD q []).getD j []).length = s) := fun hf => (HFIT.out.2 hf).2 q h8
        clear hc1 hc3 hr0
        generalize L.getD q [] = l at *
        have HKq := Lib.hid (fun w => HK.out w q (by have := HLN.out; omega))
        generalize kk q = k at *
        obtain ⟨r, hr⟩ : ∃ r, r = l.length := ⟨_, rfl⟩
        have HRL := Lib.hid hr
        rw [← hr] at hc2 hrl
        have HR' : Hid (Rws wr (.slice ra r rc) l) := by have := HR.out; rw [← hr] at this; exact this
        clear hr
        go_wp2_with fail
        refine (HKq.out wr).mono ?_
        rintro e w3 ⟨rfl, hx⟩
        have HX3 := Lib.hid (Gr.ext_trans HX.out hx)
        have HP3 := Lib.hid (HPr.out.ext hx)
        have HR3 := Lib.hid (HR'.out.ext hx)
        have hb3 := HP3.out.lt
        clear p0 p1 p2 hx hc2
        obtain ⟨p0, p1, p2⟩ := HP3.out
        by_cases h9 : r = k
        · have hne2 : ((r : Int) != k) = false := by simp; omega
          have H9 := Lib.hid h9
          clear h9
          go_wp2_with fail
          refine (sallOf_any s _ l w3 HR3.out).mono ?_
          rintro e w4 ⟨⟨ok, rfl, hok⟩, hx⟩
          have HX4 := Lib.hid (Gr.ext_trans HX3.out hx)
          have HAL : Hid (AllB s l ↔ ∀ j, j < l.length → (l.getD j []).length = s) := ⟨fun h j hj => by have := h j hj; omega, fun h j hj => by have := h j hj; omega⟩
          have HOK := Lib.hid hok
          clear hok hx p0 p1 p2
          cases ok with
          | true =>
            have HN := Lib.hid (HNX.out (by rw [← HRL.out]; exact H9.out) (HAL.out.1 (HOK.out.1 rfl)))
            go_wp2
            go_roundw
            case rel => exact ⟨q + 1, by omega, by go_num, HX4, HN⟩
            case measure => simp [intOf]; omega
          | false =>
            have HP : Hid (Says Ft w (.returned (.bool false)) w4) := Says.no (fun hf => by have := HOK.out.2 (HAL.out.2 (HNO.out hf).2); cases this) (Gr.ext_trans HX2.out HX4.out)
            go_wp2
            go_ret
            exact HP.out
        · have hne2 : ((r : Int) != k) = true := by simp; omega
          have HP : Hid (Says Ft w (.returned (.bool false)) w3) := Says.no (fun hf => h9 (by rw [HRL.out]; exact (HNO.out hf).1)) (Gr.ext_trans HX2.out HX3.out)
          clear h9
          go_wp2
          go_ret
          exact HP.out
      · obtain rfl : q = ln := by omega
        have HP : Hid (Says Ft w (.returned (.bool true)) wr) := Says.yes (HFIT.out.1 ⟨HLN.out, HQ.out⟩) (Gr.ext_trans HX2.out HX.out)
        go_wp2
        go_ret
        exact HP.out
  · have hne : ((ln : Int) != n) = true := by simp; omega
    have HP : Hid (Says Ft w (.returned (.bool false)) w2) := Says.no (fun hf => h7 (HFIT.out.2 hf).1) HX2.out
    clear h7
    go_wp2
    go_ret
    exact HP.out
end Go.Proofs.YtpfmmfapdcbnkaaDoor
namespace Go.Proofs.YtpfmmfapdcbnkaaDoor
set_option maxRecDepth 20000
open Go.RowKit Go.Deep
set_option linter.unusedVariables false
/-- What Join answers. -/
def JoinOut (w : World) (er : Nat) (xs : List Nat) (e : Ending) (w' : World) : Prop := ∃ v, e = .returned (.tuple #[v, .int .i64 (er : Nat)]) ∧ w.Extends w' ∧ U8s w' v xs
/-- The row of b bytes in which F is laid from its beginning on. -/
def jrow (b : Nat) (F : List Nat) : List Value := u8vs (F.take b) ++ List.replicate (b - F.length) (.int .u8 0)
theorem jrow_length (b : Nat) (F : List Nat) : (jrow b F).length = b := by unfold jrow; rw [List.length_append, u8vs_length, List.length_take, List.length_replicate]; omega
theorem u8vs_app (xs ys : List Nat) : u8vs (xs ++ ys) = u8vs xs ++ u8vs ys := by simp [u8vs]
theorem jrow_nil (b : Nat) : jrow b [] = List.replicate b (.int .u8 0) := by simp [jrow, u8vs]
theorem jrow_next (b : Nat) (F row : List Nat) : splice (jrow b F) (min F.length b) (u8vs (row.take (b - min F.length b))) = jrow b (F ++ row) := by
  by_cases h : b ≤ F.length
  · rw [Nat.min_eq_right h, Nat.sub_self, List.take_zero]
    have e : jrow b (F ++ row) = jrow b F := by
      unfold jrow
      rw [List.take_append_of_le_length h, List.length_append, show b - (F.length + row.length) = b - F.length by omega]
    rw [e]
    simp [splice, u8vs]
  · rw [Nat.min_eq_left (by omega)]
    unfold splice jrow
    rw [List.take_of_length_le (l := F) (by omega), u8vs_length, List.length_take]
    have e1 : (u8vs F ++ List.replicate (b - F.length) (Value.int .u8 0)).take F.length = u8vs F := by
      rw [List.take_append_of_le_length (by rw [u8vs_length]; exact Nat.le_refl _), List.take_of_length_le (by rw [u8vs_length]; exact Nat.le_refl _)]
    have e2 : (u8vs F ++ List.replicate (b - F.length) (Value.int .u8 0)).drop (F.length + min (b - F.length) row.length) = List.replicate (b - (F ++ row).length) (.int .u8 0) := by
      rw [List.drop_append, List.drop_eq_nil_of_le (by rw [u8vs_length]; omega), List.nil_append, u8vs_length, List.drop_replicate, List.length_append]
      congr 1; omega
    have e3 : (F ++ row).take b = F ++ row.take (b - F.length) := by rw [List.take_append, List.take_of_length_le (l := F) (by omega)]
    rw [e1, e2, e3, u8vs_app, List.append_assoc]
theorem at_next (b f r : Nat) : min f b + (min r (b - min f b)) = min (f + r) b := by omega
theorem jrow_own {w : World} {g b : Nat} {F : List Nat} (h : w.heap[g]? = some (.cells (jrow b F).toArray 5 (0, 0))) (hb : b ≤ maxLen) (hf : b ≤ F.length) (hl : ∀ x ∈ F, x < 256) : U8s w (.slice (some ⟨g, 0, none⟩) b b) (F.take b) := by
  have hlen : (F.take b).length = b := by rw [List.length_take]; omega
  have ho : Own w g 5 (F.take b) := by
    refine ⟨⟨_, h, ?_, fun i hi => ?_⟩, by omega, fun x hx => hl x (List.mem_of_mem_take hx)⟩
    · rw [List.size_toArray, jrow_length, hlen]
    · rw [List.getElem?_toArray]
      unfold jrow
      rw [List.getElem?_append_left (by rw [u8vs_length]; exact hi)]
      have hi' : i < F.length := by omega
      have hi2 : i < b := by omega
      simp [u8vs, hi', hi2]
  have := ho.u8s
  rwa [hlen] at this
theorem made_row (w : World) (b : Nat) : (w.alloc (.cells (madeCells #[.int .u8 0] b) 5)).heap[w.heap.size]? = some (.cells (jrow b []).toArray 5 (0, 0)) := by rw [jrow_nil]; exact made_bytes w b
theorem RwsL.all_lt {w : World} {v : Value} {L : List (List (List Nat))} (h : RwsL w v L) : ∀ x ∈ CM.flat L, x < 256 := by
  intro x hx
  obtain ⟨r, hr, hxr⟩ := List.mem_flatten.1 hx
  obtain ⟨l, hl, hrl⟩ := List.mem_flatten.1 hr
  rcases h with ⟨rfl, _⟩ | ⟨b, off, cap, rfl, _, _, _, h4⟩
  · cases hl
  · obtain ⟨k, hk, rfl⟩ := List.mem_iff_getElem.1 hl
    obtain ⟨u, _, hs⟩ := h4 k hk
    rw [show L.getD k [] = L[k] by simp [hk]] at hs
    exact hs.all_lt r hrl x hxr
theorem flat_take (l : List (List Nat)) (z : Nat) (hz : z < l.length) : (l.take (z + 1)).flatten = (l.take z).flatten ++ l.getD z [] := by
  rw [List.take_succ_eq_append_getElem hz, CM.flatten_snoc]; simp [hz]
set_option maxHeartbeats 1000000 in
set_option maxRecDepth 100000 in
theorem join_any (b s m : Nat) (v : Value) (L : List (List (List Nat))) (w : World) (h : CM.Right b s m) (hv : RwsL w v L) :
    Calls Tryd.prog 19 #[PV b s m, v] w fun e w' => (CM.Fit b s m L → JoinOut w 0 ((CM.flat L).take b) e w') ∧ (¬ CM.Fit b s m L → JoinOut w 10 [] e w') := by
  have hm := hv.len
  have HLT := Lib.hid hv.all_lt
  have HF := Lib.hid (fun v w hv => fit_any b s m v L w h hv)
  have HU := Lib.hid hv
  obtain ⟨va, vc, rfl, _⟩ := hv.slice
  have HV := Lib.hid hv.at.2
  obtain ⟨h1, h2, h3, h4, h5, h6⟩ := CM.right_of h
  have HFL : Hid (CM.Fit b s m L → b ≤ (CM.flat L).length) := fun hf => by rw [CM.flat_all b s m L hf]; exact CM.sy_hi b s h3
  have HFR : Hid (CM.Fit b s m L → ∀ q, q < L.length → (L.getD q []).length ≤ 40 ∧ ∀ j, j < (L.getD q []).length → ((L.getD q []).getD j []).length = s) := fun hf q hq => ⟨by rw [(hf.2 q hq).1]; exact Nat.le_trans (CM.kk_le b s m q h5) h6, (hf.2 q hq).2⟩
  have HFN : Hid (CM.Fit b s m L → L.length ≤ 4000) := fun hf => by rw [hf.1]; have := CM.bl_le b s m; have := CM.sy_le b s h1; omega
  have HT0 : Hid (CM.flat (L.take 0) = []) := by show _ = _; rw [List.take_zero]; rfl
  have HTS : Hid (∀ q, q < L.length → CM.flat (L.take (q + 1)) = CM.flat (L.take q) ++ (L.getD q []).flatten) := fun q hq => by
    rw [List.take_succ_eq_append_getElem hq, CM.flat_snoc]; simp [hq]
  have HTE : Hid (CM.flat (L.take L.length) = CM.flat L) := by show _ = _; rw [List.take_length]
  have hmk := fun w => mkBytes b (by omega) w
  have HMK := Lib.hid hmk
  clear hmk
  unfold maxLen at hm
  clear hv
  generalize CM.Fit b s m L = Ft at *
  generalize CM.flat L = FL at *
  obtain ⟨ln, hln⟩ : ∃ ln, ln = L.length := ⟨_, rfl⟩
  rw [← hln] at HV HFN HFR HTS HTE HU hm ⊢
  have HR := Lib.hid h
  clear hln h
  go_enter Tryd.func19, Tryd.ntmps19
  go_wp2_with fail
  generalize hw1 : World.alloc w _ = w1
  have hx1 : w.Extends w1 := by subst hw1; exact prm_ext_alloc _ _
  have hp : PAt w1 w.heap.size b s m := by subst hw1; exact PAt.new w 28 b s m
  generalize w.heap.size = bx at hp ⊢
  clear hw1
  have HX1 := Lib.hid hx1
  have HP1 := Lib.hid hp
  have hb1 := hp.lt
  obtain ⟨p0, p1, p2⟩ := hp
  clear hx1
  refine (right_yes b s m w1 HR.out).mono ?_
  rintro e w2 ⟨rfl, hx⟩
  have HX2 := Lib.hid (Gr.ext_trans HX1.out hx)
  have HP2 := Lib.hid (HP1.out.ext hx)
  have hb2 := HP2.out.lt
  clear p0 p1 p2 hx
  obtain ⟨p0, p1, p2⟩ := HP2.out
  go_wp2_with fail
  refine (HF.out _ w2 (HU.out.ext HX2.out)).mono ?_
  rintro e w3 ⟨⟨ok, rfl, hok⟩, hx⟩
  have HX3 := Lib.hid (Gr.ext_trans HX2.out hx)
  have HP3 := Lib.hid (HP2.out.ext hx)
  have hb3 := HP3.out.lt
  clear p0 p1 p2 hx
  obtain ⟨p0, p1, p2⟩ := HP3.out
  have HOK := Lib.hid hok
  clear hok
  cases ok with
  | false =>
    have HP : Hid (¬ Ft ∧ w.Extends w3) := ⟨fun hf => (by have := HOK.out.2 hf; cases this), HX3.out⟩
    go_wp2
    go_returns
    exact ⟨fun hf => absurd hf HP.out.1, fun _ => ⟨_, by rfl, HP.out.2, nil_u8s _ _ _⟩⟩
  | true =>
    have HFt : Hid Ft := HOK.out.1 rfl
    clear HOK
    have hlnl := HFN.out HFt.out
    have hmk := HMK.out
    go_upto_region 6 with fail
    clear hmk p0 p1 p2
    have HB4 : Hid (Below w3.heap.size w3 (w3.alloc (.cells (madeCells #[.int .u8 0] b) 5))) := (Below.refl _ _).alloc (Nat.le_refl _) _
    have HG4 := Lib.hid (made_row w3 b)
    generalize hw4 : World.alloc w3 _ = w4 at *
    obtain ⟨g, hg⟩ : ∃ g, g = w3.heap.size := ⟨_, rfl⟩
    rw [← hg] at HB4 HG4 ⊢
    have HGE := Lib.hid hg
    clear hg hw4
    go_wp2_with fail
    go_loopw [7, 24] (fun at' i wr => ∃ q : Nat, q ≤ ln ∧ i = .int .i64 q ∧ at' = .int .i64 (min (CM.flat (L.take q)).length b : Nat) ∧ Hid (Below g w3 wr) ∧ Hid (wr.heap[g]? = some (.cells (jrow b (CM.flat (L.take q))).toArray 5 (0, 0)))) (fun _ i _ => (ln - intOf i).toNat)
    case atStart => exact ⟨0, by omega, rfl, by rw [HT0.out]; simp, HB4, by rw [HT0.out]; exact HG4⟩
    case round =>
      obtain ⟨q, hq, rfl, rfl, HB, HG⟩ := hrel
      by_cases h8 : q < ln
      · obtain ⟨bb, o1, rfl, hbb, hc1⟩ := HV.out (by omega)
        obtain ⟨ra, rc, hc3, hr0⟩ := hc1 q h8
        have HXW : Hid (w.Extends wr) := Gr.ext_trans HX3.out (Gr.ext_of (by rw [← HGE.out]; exact HB.out))
        have hc2 := HXW.out.cell_of hc3
        have HR0 := Lib.hid hr0
        have HVR := Lib.hid hr0.at.2
        obtain ⟨hll, hls⟩ := HFR.out HFt.out q h8
        have HLS := Lib.hid hls
        have HTQ := Lib.hid (HTS.out q h8)
        have HFZ0 : Hid ((L.getD q []).take 0 = []) := by show _ = _; rw [List.take_zero]
        have HFZS : Hid (∀ z, z < (L.getD q []).length → ((L.getD q []).take (z + 1)).flatten = ((L.getD q []).take z).flatten ++ (L.getD q []).getD z []) := flat_take (L.getD q [])
        have HFZE : Hid ((L.getD q []).take (L.getD q []).length = L.getD q []) := by show _ = _; rw [List.take_length]
        clear hc1 hc3 hr0 hls
        generalize L.getD q [] = l at *
        generalize CM.flat (L.take q) = F at *
        obtain ⟨k, hk⟩ : ∃ k, k = l.length := ⟨_, rfl⟩
        rw [← hk] at hc2 hll HR0 HVR HLS HFZS HFZE
        clear hk
        obtain ⟨wo, hwo⟩ : ∃ wo, wo = wr := ⟨_, rfl⟩
        have HBo := HB
        rw [← hwo] at HBo hc2 ⊢
        have HGo := HG
        rw [← hwo] at HGo
        clear HB HG HXW hwo
        go_wp2_with fail
        go_loopw [7, 30] (fun at' i wr => ∃ z : Nat, z ≤ k ∧ i = .int .i64 z ∧ at' = .int .i64 (min (F ++ (l.take z).flatten).length b : Nat) ∧ Hid (Below g w3 wr) ∧ Hid (wr.heap[g]? = some (.cells (jrow b (F ++ (l.take z).flatten)).toArray 5 (0, 0)))) (fun _ i _ => (k - intOf i).toNat)
        case atStart => exact ⟨0, by omega, rfl, by rw [HFZ0.out]; simp, HBo, by rw [HFZ0.out]; simpa using HGo⟩
        case round =>
          obtain ⟨z, hz, rfl, rfl, HB, HG⟩ := hrel
          by_cases h9 : z < k
          · obtain ⟨bc, o2, rfl, hbc, hd1⟩ := HVR.out (by omega)
            obtain ⟨rb, rd, hd3, hu0⟩ := hd1 z h9
            have HXW : Hid (w.Extends wr) := Gr.ext_trans HX3.out (Gr.ext_of (by rw [← HGE.out]; exact HB.out))
            have hd2 := HXW.out.cell_of hd3
            have HU0 := Lib.hid (hu0.ext HXW.out)
            have HRS := Lib.hid (HLS.out z h9)
            have HFS := Lib.hid (HFZS.out z h9)
            have hrl := hu0.len
            unfold maxLen at hrl
            clear hd1 hd3 hu0 HXW
            generalize l.getD z [] = row at *
            generalize (l.take z).flatten = Fz at *
            have HJN := Lib.hid (jrow_next b (F ++ Fz) row)
            have HAN := Lib.hid (at_next b (F ++ Fz).length row.length)
            have hab : min (F ++ Fz).length b ≤ b := Nat.min_le_right _ _
            have HJL := Lib.hid (jrow_length b (F ++ Fz))
            have HAP := Lib.hid (List.append_assoc F Fz row)
            have HLA : Hid (((F ++ Fz) ++ row).length = (F ++ Fz).length + row.length) := List.length_append
            have HCS := Lib.hid (copy_src HU0.out (b - min (F ++ Fz).length b))
            have HONE := Lib.hid (u8vs_one (row.take (b - min (F ++ Fz).length b)))
            have HCL : Hid ((u8vs (row.take (b - min (F ++ Fz).length b))).length = min row.length (b - min (F ++ Fz).length b)) := by show _ = _; rw [u8vs_length, List.length_take, Nat.min_comm]
            generalize u8vs (row.take (b - min (F ++ Fz).length b)) = cs at *
            generalize F ++ Fz = FF at *
            generalize FF.length = fl at *
            generalize row.length = rl at *
            obtain ⟨p, hp0⟩ : ∃ p, p = min fl b := ⟨_, rfl⟩
            have HPE := Lib.hid hp0
            rw [← hp0] at hab HCL HJN HAN ⊢
            clear hp0
            obtain ⟨cn, hcn⟩ : ∃ cn, cn = cs.length := ⟨_, rfl⟩
            have HCN := Lib.hid hcn
            have HCL2 : Hid (cn = min rl (b - p)) := by show _ = _; rw [hcn]; exact HCL.out
            clear hcn HCL
            go_wp2_with (with_reducible refine wpList_copy_splice rfl (.tmp 37) (.tmp 38) 29 67 rfl 5 Tryd.underlying29 bytesize _ _ _ _ _ _ rfl rfl g p (jrow b FF) 5 HG.out cs ?_ ?_ ?_ HONE.out g w3 HB.out (Nat.le_refl _) ?_)
            case refine_1 => rw [← HCN.out, HCL2.out]; try rfl
            case refine_2.inl => exact List.eq_nil_of_length_eq_zero (by rw [← HCN.out, HCL2.out]; try omega)
            case refine_2.inr => exact HCS.out
            case refine_3 => rw [HJL.out, ← HCN.out, HCL2.out]; omega
            case refine_4.inl =>
              obtain rfl : b = p := by assumption
              intro w2 HG2 hB2
              rw [← HCN.out]
              have hpc : b + cn ≤ b := by have := HCL2.out; omega
              have HP : Hid (Below g w3 w2 ∧ w2.heap[g]? = some (.cells (jrow b (F ++ (l.take (z + 1)).flatten)).toArray 5 (0, 0)) ∧ b + cn = min (F ++ (l.take (z + 1)).flatten).length b) := by
                rw [HFS.out, ← HAP.out, ← HJN.out, HLA.out, ← HAN.out, HCL2.out]
                exact ⟨hB2, HG2.out, rfl⟩
              clear HG2 hB2
              go_wp2
              go_roundw
              case rel => exact ⟨z + 1, by omega, by go_num, by rw [← HP.out.2.2]; go_num, Lib.hid HP.out.1, Lib.hid HP.out.2.1⟩
              case measure => simp [intOf]; omega
            case refine_4.inr =>
              intro w2 HG2 hB2
              rw [← HCN.out]
              have hpc : p + cn ≤ b := by have := HCL2.out; omega
              have HP : Hid (Below g w3 w2 ∧ w2.heap[g]? = some (.cells (jrow b (F ++ (l.take (z + 1)).flatten)).toArray 5 (0, 0)) ∧ p + cn = min (F ++ (l.take (z + 1)).flatten).length b) := by
                rw [HFS.out, ← HAP.out, ← HJN.out, HLA.out, ← HAN.out, HCL2.out]
                exact ⟨hB2, HG2.out, rfl⟩
              clear HG2 hB2
              go_wp2
              go_roundw
              case rel => exact ⟨z + 1, by omega, by go_num, by rw [← HP.out.2.2]; go_num, Lib.hid HP.out.1, Lib.hid HP.out.2.1⟩
              case measure => simp [intOf]; omega
          · obtain rfl : z = k := by omega
            have HP : Hid (wr.heap[g]? = some (.cells (jrow b (CM.flat (L.take (q + 1)))).toArray 5 (0, 0)) ∧ CM.flat (L.take (q + 1)) = F ++ (l.take z).flatten) := by
              have e : CM.flat (L.take (q + 1)) = F ++ (l.take z).flatten := by rw [HTQ.out, HFZE.out]
              exact ⟨by rw [e]; exact HG.out, e⟩
            clear HG
            go_wp2
            go_roundw
            case rel => exact ⟨q + 1, by omega, by go_num, by rw [HP.out.2], HB, Lib.hid HP.out.1⟩
            case measure => simp [intOf]; omega
      · obtain rfl : q = ln := by omega
        have HXW : Hid (w.Extends wr) := Gr.ext_trans HX3.out (Gr.ext_of (by rw [← HGE.out]; exact HB.out))
        have HRW : Hid (U8s wr (.slice (some ⟨g, 0, none⟩) b b) (FL.take b)) := by
          have hg := HG.out
          rw [HTE.out] at hg
          exact jrow_own hg (by unfold maxLen; omega) (HFL.out HFt.out) HLT.out
        clear HB HG
        go_wp2
        go_returns
        exact ⟨fun _ => ⟨_, by rfl, HXW.out, HRW.out⟩, fun hf => absurd HFt.out hf⟩
end Go.Proofs.YtpfmmfapdcbnkaaDoor
namespace Go.Proofs.YtpfmmfapdcbnkaaDoor
set_option maxRecDepth 20000
open Go.RowKit
set_option maxHeartbeats 400000 in
theorem double_any (a : Nat) (h : a < 256) (w : World) :
    Calls Tryd.prog 80 #[.int .u8 a] w fun e w' => e = .returned (.int .u8 (FM.dbl a : Nat)) ∧ w = w' := by
  by_cases h1 : a < 128
  · have e := and128_lt a h1
    go_enter Tryd.func80, Tryd.ntmps80
    go_wp2
    go_ret
    exact ⟨retu8 (by unfold FM.dbl; rw [if_pos h1]; omega), rfl⟩
  · have e := and128_ge a h1 h
    go_enter Tryd.func80, Tryd.ntmps80
    go_wp2
    go_ret
    refine ⟨retu8 ?_, rfl⟩
    have := u8_xor_nat (a * 2 % 256) 29 (by omega) (by omega)
    unfold FM.dbl; rw [if_neg h1]
    rw [← this]; rfl
set_option maxHeartbeats 400000 in
theorem times_any (a b : Nat) (ha : a < 256) (hb : b < 256) (w : World) :
    Calls Tryd.prog 76 #[.int .u8 a, .int .u8 b] w fun e w' => e = .returned (.int .u8 (FM.tm a b : Nat)) ∧ w = w' := by
  go_enter Tryd.func76, Tryd.ntmps76
  go_wp2
  go_loop [0, 1, 5] (fun x y z => ∃ k p a' b' : Nat, k ≤ 8 ∧ p < 256 ∧ a' < 256 ∧ b' < 2 ^ k ∧ x = .int .u8 a' ∧ y = .int .u8 b' ∧ z = .int .u8 p ∧ Hid (FM.tloop k p a' b' = FM.tm a b)) (fun _ y _ => (intOf y).toNat)
  case atStart => exact ⟨8, 0, a, b, by omega, by omega, ha, hb, rfl, rfl, rfl, rfl⟩
  case round =>
    obtain ⟨k, p, a', b', hk, hp, ha', hb', rfl, rfl, rfl, H⟩ := hrel
    by_cases h0 : b' = 0
    · subst h0
      go_wp2
      go_ret
      exact ⟨retu8 (by rw [← H.out, FM.tloop_zero]), rfl⟩
    · have e0 : ((b' : Int) != 0) = true := by simp; omega
      obtain ⟨k, rfl⟩ : ∃ j, k = j + 1 := ⟨k - 1, by
        have : k ≠ 0 := by intro h; subst h; simp at hb'; omega
        omega⟩
      have hb256 : b' < 256 := Nat.lt_of_lt_of_le hb' (Nat.pow_le_pow_right (by omega) hk)
      have hb2 : Hid (b' / 2 < 2 ^ k) := by rw [Nat.pow_succ] at hb'; show _ < _; omega
      have e1 := u8_and1 b' hb256
      have hd := FM.dbl_lt a' ha'
      have hx := Lib.hid (u8_xor_nat p a' hp ha')
      have hpx : p ^^^ a' < 256 := Nat.xor_lt_two_pow (n := 8) (by omega) (by omega)
      clear hb'
      by_cases h1 : b' % 2 = 1
      · rw [h1] at e1
        go_wp2_with fail
        refine (double_any _ ha' _).mono ?_
        rintro e w' ⟨rfl, rfl⟩
        go_wp2
        go_round
        case rel => exact ⟨k, p ^^^ a', FM.dbl a', b' / 2, by omega, hpx, hd, hb2.out, rfl, by go_num, by rw [hx.out], by rw [← H.out]; simp [FM.tloop, h1, Hid]⟩
        case measure => simp [intOf]; omega
      · have h2 : b' % 2 = 0 := by omega
        rw [h2] at e1
        go_wp2_with fail
        refine (double_any _ ha' _).mono ?_
        rintro e w' ⟨rfl, rfl⟩
        go_wp2
        go_round
        case rel => exact ⟨k, p, FM.dbl a', b' / 2, by omega, hp, hd, hb2.out, rfl, by go_num, rfl, by rw [← H.out]; simp [FM.tloop, h1, Hid]⟩
        case measure => simp [intOf]; omega
end Go.Proofs.YtpfmmfapdcbnkaaDoor
namespace Go.Proofs.YtpfmmfapdcbnkaaDoor
set_option maxRecDepth 20000
open Go.RowKit
set_option maxHeartbeats 400000 in
theorem mul_any (v : Value) (xs : List Nat) (w : World) (hv : U8s w v xs) :
    Calls Tryd.prog 77 #[v] w fun e w' => e = .returned (.int .u8 (FM.prod xs : Nat)) ∧ w = w' := by
  rcases hv with ⟨rfl, a, cap, rfl, _⟩ | ⟨b, off, cap, rfl, hm1, hm2, hb, hx, hl⟩
  · go_enter Tryd.func77, Tryd.ntmps77
    go_wp2
    refine wp_loop_rounds 1 ?_; rw [rounds_succ]
    go_wp2
    go_ret
    exact ⟨rfl, rfl⟩
  · have hm := Nat.le_trans hm1 hm2; unfold maxLen at hm; clear hm1 hm2
    go_enter Tryd.func77, Tryd.ntmps77
    go_wp2
    generalize hn : xs.length = n at *
    have HN := Lib.hid hn; clear hn
    have HX := Lib.hid hx; clear hx
    have HL := Lib.hid hl; clear hl
    go_loop [3, 8] (fun s i => ∃ k : Nat, k ≤ n ∧ i = .int .i64 k ∧ s = .int .u8 (FM.prod (xs.take k) : Nat)) (fun _ i => (n - intOf i).toNat)
    case atStart => exact ⟨0, by omega, rfl, rfl⟩
    case round =>
      obtain ⟨k, hk, rfl, rfl⟩ := hrel
      by_cases h0 : k < n
      · have hc := HX.out k h0
        have hs := Lib.hid (FM.prod_snoc xs k (by rw [HN.out]; exact h0))
        have hp := FM.prod_lt (xs.take k)
        have hy := getD_lt xs HL.out k
        go_wp2_with fail
        refine (times_any _ _ hp (by simpa using hy) _).mono ?_
        rintro e w' ⟨rfl, rfl⟩
        go_wp2
        go_round
        case rel => exact ⟨k + 1, by omega, by go_num, by rw [hs.out]; simp⟩
        case measure => simp [intOf]; omega
      · obtain rfl : k = n := by omega
        go_wp2
        go_ret
        exact ⟨retu8 (by rw [← HN.out, List.take_length]), rfl⟩
end Go.Proofs.YtpfmmfapdcbnkaaDoor
namespace Go.Proofs.YtpfmmfapdcbnkaaDoor
set_option maxRecDepth 20000
open Go.RowKit
set_option linter.unusedVariables false
/-- The table's byte i: low ones below 16, high ones behind; the first a and b of them are there. -/
def tabTo (c a b i : Nat) : Nat := if i < 16 then (if i < a then FM.tm c i else 0) else (if i - 16 < b then FM.tm c ((i - 16) * 16) else 0)
theorem tab_bits : ∀ k, k < 4 → ∀ i, i < 16 → i < 2 ^ k → 2 ^ k + i = 2 ^ k ^^^ i ∧ (2 ^ k + i) * 16 = (2 ^ k * 16) ^^^ (i * 16) := by decide
theorem tab_start (c i : Nat) : tabTo c 1 1 i = 0 := by
  unfold tabTo
  split
  · split
    · rw [show i = 0 by omega, FM.tm_zero_right]
    · rfl
  · split
    · rw [show (i - 16) * 16 = 0 by omega, FM.tm_zero_right]
    · rfl
theorem tab_set_low (c m j k i : Nat) (hm : m = 2 ^ k) (hk : k < 4) (hj : j < m) : tabTo c (m + j + 1) (m + j) i = if i = m + j then FM.tm c m ^^^ FM.tm c j else tabTo c (m + j) (m + j) i := by
  subst hm
  have h16 : (2 : Nat) ^ k ≤ 2 ^ 3 := Nat.pow_le_pow_right (by omega) (by omega)
  by_cases h : i = 2 ^ k + j
  · subst h
    rw [if_pos rfl, tabTo, if_pos (by omega), if_pos (by omega), (tab_bits k hk j (by omega) hj).1, FM.tm_xor_right]
  · rw [if_neg h]
    unfold tabTo
    by_cases h1 : i < 16
    · rw [if_pos h1, if_pos h1]
      by_cases h2 : i < 2 ^ k + j
      · rw [if_pos (by omega), if_pos h2]
      · rw [if_neg (by omega), if_neg h2]
    · rw [if_neg h1, if_neg h1]
theorem tab_set_high (c m j k i : Nat) (hm : m = 2 ^ k) (hk : k < 4) (hj : j < m) : tabTo c (m + j + 1) (m + j + 1) i = if i = 16 + (m + j) then FM.tm c (m * 16) ^^^ FM.tm c (j * 16) else tabTo c (m + j + 1) (m + j) i := by
  subst hm
  have h16 : (2 : Nat) ^ k ≤ 2 ^ 3 := Nat.pow_le_pow_right (by omega) (by omega)
  by_cases h : i = 16 + (2 ^ k + j)
  · subst h
    rw [if_pos rfl, tabTo, if_neg (by omega), if_pos (by omega), show 16 + (2 ^ k + j) - 16 = 2 ^ k + j by omega, (tab_bits k hk j (by omega) hj).2, FM.tm_xor_right]
  · rw [if_neg h]
    unfold tabTo
    by_cases h1 : i < 16
    · rw [if_pos h1, if_pos h1]
    · rw [if_neg h1, if_neg h1]
      by_cases h2 : i - 16 < 2 ^ k + j
      · rw [if_pos (by omega), if_pos h2]
      · rw [if_neg (by omega), if_neg h2]
theorem tab_split (c a : Nat) (ha : a < 256) : FM.tm c a = FM.tm c (a % 16) ^^^ FM.tm c (a / 16 * 16) := by
  have key : ∀ a, a < 256 → a = (a % 16) ^^^ (a / 16 * 16) := by decide +kernel
  rw [← FM.tm_xor_right, ← key a ha]
def MadeTab (w : World) (c : Nat) (e : Ending) (w' : World) : Prop := ∃ cs : Array Value, e = .returned (.agg cs) ∧ cs.size = 32 ∧ (∀ i, i < 32 → cs[i]? = some (.int .u8 (tabTo c 16 16 i : Nat))) ∧ Below w.heap.size w w'
theorem rowIs_zeros (w : World) (T : TypeId) (cs : Array Value) (h : cs = Array.replicate 32 (.int .u8 0)) : (w.alloc (.cells cs T)).rowIs w.heap.size T 32 (fun _ => .int .u8 0) := by
  subst h
  exact World.rowIs_alloc w (Array.replicate 32 (.int .u8 0)) T _ (fun i hi => by simp at hi; simp [hi])
theorem rowIs_two (w : World) (T : TypeId) (cs ds : Array Value) (h : cs = Array.replicate 32 (.int .u8 0)) (h' : ds = Array.replicate 32 (.int .u8 0)) :
    ((w.alloc (.cells cs T)).alloc (.cells ds T)).rowIs w.heap.size T 32 (fun _ => .int .u8 0) ∧ ((w.alloc (.cells cs T)).alloc (.cells ds T)).rowIs (w.heap.size + 1) T 32 (fun _ => .int .u8 0) := by
  refine ⟨(rowIs_zeros w T cs h).alloc _, ?_⟩
  have := rowIs_zeros (w.alloc (.cells cs T)) T ds h'
  simpa using this
set_option maxHeartbeats 1000000 in
theorem timesOf_any (c : Nat) (hc : c < 256) (w : World) : Calls Tryd.prog 78 #[.int .u8 c] w (MadeTab w c) := by
  go_enter Tryd.func78, Tryd.ntmps78
  go_wp2_with fail
  generalize hw2 : World.alloc (World.alloc w _) _ = w2
  have hr1 : w2.rowIs w.heap.size 137 32 (fun _ => .int .u8 0) := by subst hw2; exact (rowIs_two _ _ _ _ rfl rfl).1
  have hr2 : w2.rowIs (w.heap.size + 1) 137 32 (fun _ => .int .u8 0) := by subst hw2; exact (rowIs_two _ _ _ _ rfl rfl).2
  have hb2 : Below w.heap.size w w2 := by subst hw2; exact ((Below.refl _ _).alloc (Nat.le_refl _) _).alloc (by simp) _
  have hs2 : w.heap.size + 1 < w2.heap.size := hr2.lt
  have HR1 := Lib.hid hr1
  have HR2 := Lib.hid hr2
  have HB2 := Lib.hid hb2
  clear hw2 hr1 hr2 hb2
  obtain ⟨b, hb⟩ : ∃ b, b = w.heap.size := ⟨_, rfl⟩
  rw [← hb] at hs2 HR1 HR2 HB2 ⊢
  have HB := Lib.hid hb; clear hb
  go_loopw [4] (fun i wr => ∃ k m : Nat, k ≤ 4 ∧ Hid (m = 2 ^ k) ∧ i = .int .i64 m ∧ w2.grownBy wr (some (b + 1)) ∧ wr.rowIs (b + 1) 137 32 (fun i => .int .u8 (tabTo c m m i : Nat))) (fun i _ => (16 - intOf i).toNat)
  case atStart => exact ⟨0, 1, by omega, rfl, rfl, grown_refl _ _, HR2.out.congr fun i _ => by rw [tab_start]; rfl⟩
  case round =>
    obtain ⟨k, m, hk, hm, rfl, hg, hr⟩ := hrel
    by_cases h1 : m < 16
    · have hk4 : k < 4 := by
        refine Decidable.byContradiction fun h => ?_
        have : k = 4 := by omega
        rw [hm.out, this] at h1; omega
      have hm1 : 1 ≤ m := by rw [hm.out]; exact Nat.one_le_two_pow
      have hm8 : m ≤ 8 := by
        rw [hm.out]; exact Nat.pow_le_pow_right (j := 3) (by omega) (by omega)
      have hp : Hid (∀ x, x < 256 → FM.prod [c, x] = FM.tm c x) := fun x _ => by show FM.tm (FM.tm 1 c) _ = _; rw [FM.tm_one_left c hc]
      have HG := Lib.hid hg
      have HR := Lib.hid hr
      have hwr := hg.size
      clear hg hr
      obtain ⟨wo, rfl⟩ : ∃ wo : World, wo = wr := ⟨_, rfl⟩
      have h16 : m * 16 < 256 := by omega
      have HP1 := Lib.hid (hp.out m (by omega))
      have HP2 := Lib.hid (hp.out (m * 16) (by omega))
      have ht1 := FM.tm_lt c m hc
      have ht2 := FM.tm_lt c (m * 16) hc
      go_wp2_with fail
      refine (mul_any _ [c, m] _ (u8s_new _ _ _ _ _ _ _ rfl rfl rfl (by simp [maxLen]) (by simp [hc]; omega))).mono ?_
      rintro e w' ⟨rfl, rfl⟩
      rw [HP1.out]
      go_wp2_with fail
      refine (mul_any _ [c, m * 16] _ (u8s_new _ _ _ _ _ _ _ (by simp) rfl (by simp) (by simp [maxLen]) (by simp [hc]; omega))).mono ?_
      rintro e w' ⟨rfl, rfl⟩
      rw [HP2.out]
      generalize hlo : FM.tm c m = lo at *
      generalize hhi : FM.tm c (m * 16) = hi at *
      have HLO := Lib.hid hlo; clear hlo
      have HHI := Lib.hid hhi; clear hhi
      go_wp2
      go_loopw [24] (fun i wi => ∃ j : Nat, j ≤ m ∧ i = .int .i64 j ∧ w2.grownBy wi (some (b + 1)) ∧ wi.rowIs (b + 1) 137 32 (fun i => .int .u8 (tabTo c (m + j) (m + j) i : Nat))) (fun i _ => (m - intOf i).toNat)
      case atStart => exact ⟨0, by omega, rfl, grown_alloc (grown_alloc HG.out _) _, (HR.out.alloc _).alloc _⟩
      case round =>
        obtain ⟨j, hj, rfl, hg, hr⟩ := hrel
        by_cases h2 : j < m
        · have hc1 : wr.cell? ⟨b + 1, j, none⟩ = some (.int .u8 (FM.tm c j : Nat)) := by
            have := hr.cell (i := j) (by omega)
            rw [this, tabTo, if_pos (by omega), if_pos (by omega)]
          have hc2 : wr.cell? ⟨b + 1, 16 + j, none⟩ = some (.int .u8 (FM.tm c (j * 16) : Nat)) := by
            have := hr.cell (i := 16 + j) (by omega)
            rw [this, tabTo, if_neg (by omega), if_pos (by omega), show (16 + j - 16) * 16 = j * 16 by omega]
          have hc3 := hr.cell (i := m + j) (by omega)
          have hf1 := hr.frozen (m + j)
          have hbl := hr.lt
          have hx1 := FM.tm_lt c j hc
          have hx2 := FM.tm_lt c (j * 16) hc
          have HS1 : Hid (∀ x y, FM.sum [x, y] = x ^^^ y) := fun x y => by simp [FM.sum]
          have HRX : Hid (∀ A B, (((wr.setCell ⟨b + 1, m + j, none⟩ (.int .u8 (FM.tm c m ^^^ FM.tm c j : Nat))).alloc A).alloc B).rowIs (b + 1) 137 32 (fun i => .int .u8 (tabTo c (m + j + 1) (m + j) i : Nat)) ∧
              w2.grownBy (((wr.setCell ⟨b + 1, m + j, none⟩ (.int .u8 (FM.tm c m ^^^ FM.tm c j : Nat))).alloc A).alloc B) (some (b + 1))) := fun A B =>
            ⟨(((hr.set (m + j) _).alloc A).alloc B).congr fun i hi => by rw [tab_set_low c m j k i hm.out hk4 h2]; split <;> rfl, grown_alloc (grown_alloc (grown_setCell hg _ _) A) B⟩
          have HRY : Hid (∀ w' : World, w'.rowIs (b + 1) 137 32 (fun i => .int .u8 (tabTo c (m + j + 1) (m + j) i : Nat)) → w2.grownBy w' (some (b + 1)) →
              (w'.setCell ⟨b + 1, 16 + (m + j), none⟩ (.int .u8 (FM.tm c (m * 16) ^^^ FM.tm c (j * 16) : Nat))).rowIs (b + 1) 137 32 (fun i => .int .u8 (tabTo c (m + j + 1) (m + j + 1) i : Nat)) ∧
              w2.grownBy (w'.setCell ⟨b + 1, 16 + (m + j), none⟩ (.int .u8 (FM.tm c (m * 16) ^^^ FM.tm c (j * 16) : Nat))) (some (b + 1))) := fun w' hr' hg' =>
            ⟨(hr'.set (16 + (m + j)) _).congr fun i hi => by rw [tab_set_high c m j k i hm.out hk4 h2]; split <;> rfl, grown_setCell hg' _ _⟩
          clear hg hr
          rw [HLO.out] at HRX
          rw [HHI.out] at HRY
          generalize hlj : FM.tm c j = lj at *
          generalize hhj : FM.tm c (j * 16) = hj' at *
          have HLJ := Lib.hid hlj; clear hlj
          have HHJ := Lib.hid hhj; clear hhj
          go_wp2_with fail
          refine (add_any _ [lo, lj] _ (u8s_new _ _ _ _ _ _ _ rfl rfl rfl (by simp [maxLen]) (by simp [ht1, hx1]))).mono ?_
          rintro e w' ⟨rfl, rfl⟩
          rw [HS1.out]
          go_wp2_with fail
          refine (add_any _ [hi, hj'] _ (u8s_new _ _ _ _ _ _ _ (by simp) rfl rfl (by simp [maxLen]) (by simp [ht2, hx2]))).mono ?_
          rintro e w' ⟨rfl, hw'⟩
          rw [HS1.out]
          obtain ⟨hr', hg'⟩ := HRX.out _ _
          rw [hw'] at hr' hg'
          clear hw' hc1 hc2 hc3 hf1 HRX
          have hc3 := hr'.cell (i := 16 + (m + j)) (by omega)
          have hf1 := hr'.frozen (16 + (m + j))
          have HP := Lib.hid (HRY.out w' hr' hg')
          clear hr' hg' HRY
          go_wp2
          go_roundw
          case rel => exact ⟨j + 1, by omega, by go_num, HP.out.2, HP.out.1⟩
          case measure => simp [intOf]; omega
        · obtain rfl : j = m := by omega
          have HP := Lib.hid (And.intro hg hr)
          clear hg hr
          go_wp2
          go_roundw
          case rel => exact ⟨k + 1, j * 2, by omega, by rw [Nat.pow_succ, ← hm.out]; rfl, by go_num, HP.out.1, by rw [Nat.mul_two]; exact HP.out.2⟩
          case measure => simp [intOf]; omega
    · have hm16 : m = 16 := by
        have : 2 ^ k ≤ 2 ^ 4 := Nat.pow_le_pow_right (by omega) hk
        have := hm.out
        omega
      subst hm16
      have hro := HR1.out.of_block (hg.block b (by omega) (by simp))
      obtain ⟨cs, hk1, hk2, hk3⟩ := hr
      obtain ⟨old, hk4, hk5, _⟩ := hro
      have hi : (Tryd.prog.info? 137).map (·.size) = some cs.size := by rw [hk2]; kernel_rfl
      have hone : cs.all (·.oneCell') = true := by
        rw [Array.all_eq_true]
        intro i hi
        have h := hk3 i (by omega)
        rw [Array.getElem?_eq_getElem hi] at h
        rw [Option.some.inj h]; rfl
      have hsame : old.size = cs.size := by rw [hk5, hk2]
      have HK3 := Lib.hid hk3
      have HK2 := Lib.hid hk2
      have hbw : b < wr.heap.size := by have := hg.size; omega
      have HFIN : Hid (Below b w (wr.setRow b cs) ∧ (wr.setRow b cs).heap[b]? = some (.cells cs 137 (0, 0))) :=
        ⟨(HB2.out.trans (below_grown hg (by omega) (by omega))).trans ⟨rfl, rfl, rfl, by simp, fun i hi => setRow_other wr b i cs (by omega)⟩, setRow_heap wr b old cs _ _ hk4⟩
      clear hk3 hk2 hk5 hg
      go_wp2_with (first | (refine wpList_load_row rfl 137 (.tmp 3) rfl (b + 1) rfl 137 cs (0, 0) _ hk1 Tryd.underlying137 rfl hi ?_) | (refine wpList_store_row rfl 137 (.tmp 2) (.tmp 52) rfl b cs rfl rfl 137 old hk4 hi hsame hone ?_))
      refine bodyPost_ret (v := .agg cs) (results_cell_row rfl _ _ b 137 cs (0, 0) _ rfl HFIN.out.2 Tryd.underlying137 rfl hi) rfl ⟨cs, rfl, HK2.out, HK3.out, ?_⟩
      rw [← HB.out]; exact HFIN.out.1
end Go.Proofs.YtpfmmfapdcbnkaaDoor
namespace Go.Proofs.YtpfmmfapdcbnkaaDoor
set_option maxRecDepth 20000
open Go.RowKit
set_option linter.unusedVariables false
theorem u8_and15 : ∀ a : Nat, a < 256 → bits .and .u8 (a : Int) 15 = ((a % 16 : Nat) : Int) := by decide +kernel
set_option maxHeartbeats 1000000 in
theorem of_any (g c a : Nat) (hc : c < 256) (ha : a < 256) (w : World) (hr : w.rowIs g 137 32 (fun i => .int .u8 (tabTo c 16 16 i : Nat))) :
    Calls Tryd.prog 79 #[.pointer (some ⟨g, 0, none⟩), .int .u8 a] w fun e w' => e = .returned (.int .u8 (FM.tm c a : Nat)) ∧ Below w.heap.size w w' := by
  have e1 := u8_and15 a ha
  have hlo : a % 16 < 16 := Nat.mod_lt _ (by omega)
  have hhi : a / 16 < 16 := by omega
  have hc1 : w.cell? ⟨g, a % 16, none⟩ = some (.int .u8 (FM.tm c (a % 16) : Nat)) := by
    rw [hr.cell (i := a % 16) (by omega), tabTo, if_pos hlo, if_pos hlo]
  have hc2 : w.cell? ⟨g, 16 + a / 16, none⟩ = some (.int .u8 (FM.tm c (a / 16 * 16) : Nat)) := by
    rw [hr.cell (i := 16 + a / 16) (by omega), tabTo, if_neg (by omega), if_pos (by omega), show 16 + a / 16 - 16 = a / 16 by omega]
  have hx1 := FM.tm_lt c (a % 16) hc
  have hx2 := FM.tm_lt c (a / 16 * 16) hc
  have HT : Hid (FM.sum [FM.tm c (a % 16), FM.tm c (a / 16 * 16)] = FM.tm c a) := by rw [tab_split c a ha]; simp [FM.sum, Hid]
  have hbl := hr.lt
  have HL1 : Hid (∀ w', w.Extends w' → w'.cell? ⟨g, a % 16, none⟩ = some (.int .u8 (FM.tm c (a % 16) : Nat))) := fun w' hw' => hw'.cell_of hc1
  have HL2 : Hid (∀ w', w.Extends w' → w'.cell? ⟨g, 16 + a / 16, none⟩ = some (.int .u8 (FM.tm c (a / 16 * 16) : Nat))) := fun w' hw' => hw'.cell_of hc2
  clear hc1 hc2 hr
  have hq : ((a : Int) / 16) = ((a / 16 : Nat) : Int) := by omega
  generalize a % 16 = r at *
  generalize a / 16 = q at *
  have hloI : (r : Int) < 16 := by omega
  have hhiI : (q : Int) < 16 := by omega
  generalize hlv : FM.tm c r = lo at *
  generalize hhv : FM.tm c (q * 16) = hi at *
  have HLV := Lib.hid hlv; clear hlv
  have HHV := Lib.hid hhv; clear hhv
  go_enter Tryd.func79, Tryd.ntmps79
  go_wp2_with fail
  refine Gr.region 16 [(false,0),(false,1),(false,2),(false,3),(false,4),(false,5),(false,6),(false,7),(false,8),(false,9),(false,10),(false,11),(false,12),(false,13),(true,14),(true,15)] (by kernel_rfl) (by kernel_rfl) (fun d _ _ _ _ h => by cases d <;> exact h) ?_
  simp only [Gr.pick, List.getElem?_cons_zero, List.getElem?_cons_succ, List.drop_succ_cons, List.drop_zero]
  iterate 14
    refine Gr.walk_t ?_ (Or.inl ⟨by rfl, ?_⟩) ?_
    rotate_left
    · intro w' hw'
      have hc1 := HL1.out w' (Gr.of_drew hw')
      have hc2 := HL2.out w' (Gr.of_drew hw')
      clear hw'
      go_simp
      try with_reducible rfl
    simp only [Act.put, List.setIfInBounds_toArray, List.set_cons_zero, List.set_cons_succ]
  refine Gr.walk_c (fun K hK => ?_)
  go_simp
  refine hK.out _ _ (ext_below ((Below.refl _ _).alloc (Nat.le_refl _) _) rfl) ?_
  clear hK K
  refine Gr.walk_c (fun K hK => ?_)
  go_simp
  refine (add_any _ [lo, hi] _ (u8s_new _ _ _ _ _ _ _ rfl rfl rfl (by simp [maxLen]) (by simp [hx1, hx2])).drew).mono ?_
  rintro e w' ⟨rfl, rfl⟩
  rw [HT.out]
  try go_simp
  refine hK.out _ _ (Gr.ext_refl _) ?_
  clear hK K
  refine Gr.walk_nil ?_
  go_wp2
  go_ret
  exact ⟨rfl, ((Below.refl _ _).alloc (Nat.le_refl _) _).drew⟩
end Go.Proofs.YtpfmmfapdcbnkaaDoor
